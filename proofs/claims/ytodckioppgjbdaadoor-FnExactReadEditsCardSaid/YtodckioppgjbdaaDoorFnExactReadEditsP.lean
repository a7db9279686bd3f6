/- The given statement of the law FnExactReadEdits: for every input that can be read the law answers true, and every argument reads afterwards as it read before. The tables that the row lists hold what the program's own text lays. -/
import Derived.Test.YtodckioppgjbdaaDoorCards
import Derived.Test.YtodckioppgjbdaaDoorTie
import Derived.Test.YtodckioppgjbdaaDoorKb7
import Derived.SevenTiedAt
import Derived.Stop.Joined
import Derived.Test.YtodckioppgjbdaaDoorKb10
import Derived.WalkKit
import Derived.ProofKit
import Derived.OpenShut
import Derived.ShutString
import Derived.ChangeOld
import Derived.Below
set_option linter.unusedVariables false
set_option linter.unusedSimpArgs false
namespace Go.Proofs.YtodckioppgjbdaaDoor.fnExactReadEdits
open Go.ChangeShapes Go.WideShapes Go.ChangeAt Go.RowKit
open Go.ChangeMaps (open_string shut_string)
theorem aFG {W : World} (h : laidMetH Tryd.prog Rows.fnExactReadEditsRow.laid W) : ∀ g y, AM.GT g = some y → AM.RG (AM.InW W) W g y := by
 intro g y e
 unfold AM.GT AM.GTl at e
 by_cases h0 : Nat.beq 3 g = true
 · have hy : y = .agg (AM.p10L.map fun x => .v (.int .u64 x)) := by simp [List.find?, h0] at e; exact e.symm
   obtain rfl := Nat.eq_of_beq_eq_true h0
   rw [hy]
   exact AM.rg_int (AM.met_lv (by kernel_rfl) h (show ("internal/strconv.uint64pow10", Rows.laid_internal_strconv_uint64pow10) ∈ _ by simp [Rows.fnExactReadEditsRow])) (by kernel_rfl) (by kernel_rfl) (by kernel_rfl) Tryd.underlying227 Tryd.underlying208 (by kernel_rfl) (by kernel_rfl) rfl
 by_cases h1 : Nat.beq 6 g = true
 · have hy : y = .tup [] := by simp [List.find?, h1, h0] at e; exact e.symm
   obtain rfl := Nat.eq_of_beq_eq_true h1
   rw [hy]
   exact AM.rg_err (AM.met_lv (by kernel_rfl) h (show ("strconv.ErrSyntax", Rows.laid_strconv_ErrSyntax) ∈ _ by simp [Rows.fnExactReadEditsRow])) (by kernel_rfl) (by kernel_rfl) Tryd.underlying184
 simp [List.find?, h0, h1] at e
set_option maxRecDepth 100000 in
theorem lifted (os : Os) (started : os.Started) (H : Type) (enc : TypeId × Value → H) :
 ReturnsInHanded {} Tryd.checked os 6 .any (fun w args => (Rows.fnExactReadEditsSpec.pre enc Tryd.prog Tryd.f6 [] false w args ∧ laidMetH Tryd.prog Rows.fnExactReadEditsRow.laid w) ∧ sizedMet enc Tryd.prog Tryd.f6 (OpenSpec.ofChange Rows.fnExactReadEditsSpec) false w args)
  (Rows.fnExactReadEditsSpec.post enc Tryd.prog Tryd.f6 false true false false) := by
 refine returnsInHanded_of_change_and (C := Tryd.checked) (X := fun w _ => laidMetH Tryd.prog Rows.fnExactReadEditsRow.laid w) (fun _ _ _ hh h => h.of_heap hh) aIZ started (by kernel_rfl) Tryd.func6
  (ChangeSpec.witness_shaped (enc := enc) (C := Tryd.checked) (os := os) (X := fun w _ => laidMetH Tryd.prog Rows.fnExactReadEditsRow.laid w) false (World.laidAll Tryd.prog os Rows.fnExactReadEditsRow.laid) #[.string ByteArray.empty] 8 (World.laidAll_os _ _ _)
   (World.shaped_of_ZipB (by kernel_rfl) (by kernel_rfl)) (by kernel_rfl) (by kernel_rfl) (by kernel_rfl)
   (by rw [MakeChecks.laidMetH_plain _ _ _ (by kernel_rfl)]; exact laidMet_laidAll _ (by kernel_rfl) (by kernel_rfl))) ?_
 intro W base args ds gs before hval0 hW hc _ hL _
 have hval : ∀ (j : Nat) t v, Tryd.f6.params[j]? = some t → args[j]? = some v → Value.okWide Tryd.prog W .any base t v := hval0
 have hW' := hW
 obtain ⟨p, q, hA0, hV, rfl, hfz, hnd⟩ := hW
 have hA : DataW.TrodAll enc Tryd.prog W 0 (fun _ => true) true Tryd.f6.params.toList args.toList ds p := hA0
 rw [Tryd.params6] at hA hval
 obtain ⟨v0, vs0, d0, ds0, p0, q0, hargs, rfl, rfl, h0, r0⟩ := trodAll_cons hA
 obtain ⟨rfl, rfl, rfl⟩ := trodAll_nil r0
 obtain rfl : args = #[v0] := by cases args; simp_all
 obtain ⟨rfl, rfl⟩ := trodVars_none hV
 have k0 := h0
 have lt0 : ∀ x ∈ p0, x.block < W.heap.size := by obtain ⟨m, hm⟩ := k0; exact DataW.trod_lt m _ _ _ hm
 obtain ⟨a0, rfl, _, _, w0⟩ := open_string Tryd.underlying9 (hval 0 9 v0 rfl rfl) h0
 clear hA0 hval0
 refine (AM.law_calls (AM.law_ReadEditsP w0) (AM.rvs_cons (AM.rv_one rfl) AM.rvs_nil) (aFG hL)).mono fun e W' ⟨he, bel⟩ => ?_
 subst he
 exact ⟨_, rfl, _, _, _, [], _, [], hW', trodAll_mk1 (shut_bool Tryd.underlying4 _), (trodAll_cons_mk (Below.trod aD3 (by kernel_rfl) (of_decide_eq_true (by kernel_rfl)) k0 bel lt0) trodAll_mk0), rfl, bel.frame _, fun h => by cases h⟩
set_option maxRecDepth 100000 in
set_option maxHeartbeats 4000000 in
theorem closed : joinedFacts Tryd.prog 6 Tryd.f6 Rows.fnExactReadEditsSpec Rows.fnExactReadEditsRow = true := by
 unfold joinedFacts
 simp only [Bool.and_eq_true]
 repeat' apply And.intro
 all_goals as_aux_lemma => kernel_rfl
theorem bare : Rows.FnExactReadEditsSaid :=
 OpenClaim.holds_of_wide 6 Tryd.f6 rfl rfl rfl rfl rfl rfl rfl ⟨rfl, rfl, rfl, rfl, rfl⟩ rfl rfl rfl rfl rfl (by kernel_rfl) Tryd.func6 closed
  (of_decide_eq_true (by kernel_rfl)) (by unfold Func.isWrapper; first | (rw [if_pos (by decide +kernel)]; kernel_rfl) | (rw [if_neg (by decide +kernel)]; exact ⟨rfl, rfl⟩))
  (fun os started H enc _ => lifted os started H enc)
theorem proved : Rows.FnExactReadEditsCardSaid :=
 Claim7.holds_tied_plain_at .later [] [.data, .data, .data, .data, .sentinel, .sentinel, .pinned] true (true, "d5a27441acc4731a009262b16b132f2a731ec7539060f7e902309978251c4259") true
  bare (fun _ h => by cases h) (by kernel_rfl) (fun _ h => by cases h) fnExactReadEdits_row_tie rfl ⟨rfl, rfl⟩ (by kernel_rfl) rfl
  (fun f fn hf hfn => by
   obtain rfl : f = 6 := Option.some.inj ((show Tryd.prog.funcNamed "loop.example/g00737/laws.FnExactReadEdits" = some 6 by kernel_rfl).symm.trans hf) |>.symm
   obtain rfl : fn = Tryd.f6 := (Option.some.inj (Tryd.func6.symm.trans hfn)).symm
   exact ⟨by kernel_rfl, fun j t ht => by
    rw [Tryd.params6] at ht
    have hm : t ∈ [9] := by simpa using Array.mem_of_getElem? ht
    have hall : ([9].all fun u => !Tryd.prog.wantsStandIn u) = true := by kernel_rfl
    exact (show Tryd.prog.wantsStandIn t = false by simpa using List.all_eq_true.1 hall t hm)⟩)
  (by kernel_rfl)
#print axioms proved
end Go.Proofs.YtodckioppgjbdaaDoor.fnExactReadEdits
