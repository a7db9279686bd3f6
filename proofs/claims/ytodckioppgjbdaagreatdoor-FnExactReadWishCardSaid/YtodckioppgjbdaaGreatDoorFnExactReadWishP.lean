/- The given statement of the law FnExactReadWish: for every input that can be read the law answers true, and every argument reads afterwards as it read before. The tables that the row lists hold what the program's own text lays. -/
import Derived.Test.YtodckioppgjbdaaGreatDoorCards
import Derived.Test.YtodckioppgjbdaaGreatDoorTie
import Derived.Test.YtodckioppgjbdaaGreatDoorKd7
import Derived.SevenTiedAt
import Derived.Stop.Joined
import Derived.Test.YtodckioppgjbdaaGreatDoorKd18
import Derived.Test.YtodckioppgjbdaaGreatDoorKd6
import Derived.WalkKit
import Derived.ProofKit
import Derived.OpenShut
import Derived.ShutString
import Derived.ChangeOld
import Derived.Below
set_option linter.unusedVariables false
set_option linter.unusedSimpArgs false
namespace Go.Proofs.YtodckioppgjbdaaGreatDoor.fnExactReadWish
open Go.ChangeShapes Go.WideShapes Go.ChangeAt Go.RowKit
open Go.ChangeMaps (open_string shut_string)
theorem aKz {W : World} (h : laidMetH Tryz.prog Rows.fnExactReadWishRow.laid W) : ∀ g y, AM.GT g = some y → AM.RG (AM.InW W) W g y := by
 intro g y e
 unfold AM.GT AM.GTl at e
 by_cases h0 : Nat.beq 3 g = true
 · have hy : y = .agg (AM.p10L.map fun x => .v (.int .u64 x)) := by simp [List.find?, h0] at e; exact e.symm
   obtain rfl := Nat.eq_of_beq_eq_true h0
   rw [hy]
   exact AM.rg_int (AM.met_lv (by kernel_rfl) h (show ("internal/strconv.uint64pow10", Rows.laid_internal_strconv_uint64pow10) ∈ _ by simp [Rows.fnExactReadWishRow])) (by kernel_rfl) (by kernel_rfl) (by kernel_rfl) Tryz.underlying281 Tryz.underlying252 (by kernel_rfl) (by kernel_rfl) rfl
 by_cases h1 : Nat.beq 6 g = true
 · have hy : y = .tup [] := by simp [List.find?, h1, h0] at e; exact e.symm
   obtain rfl := Nat.eq_of_beq_eq_true h1
   rw [hy]
   exact AM.rg_err (AM.met_lv (by kernel_rfl) h (show ("strconv.ErrSyntax", Rows.laid_strconv_ErrSyntax) ∈ _ by simp [Rows.fnExactReadWishRow])) (by kernel_rfl) (by kernel_rfl) Tryz.underlying197
 by_cases h2 : Nat.beq 0 g = true
 · have hy : y = .agg (AM.owL.map fun x => .v (Value.string x)) := by simp [List.find?, h2, h0, h1] at e; exact e.symm
   obtain rfl := Nat.eq_of_beq_eq_true h2
   rw [hy]
   exact AM.rg_str (AM.met_lv (by kernel_rfl) h (show ("loop.example/g00737/impl.opWords", Rows.laid_loop_example_g00737_impl_opWords) ∈ _ by simp [Rows.fnExactReadWishRow])) (by kernel_rfl) (by kernel_rfl) (by kernel_rfl) Tryz.underlying82 Tryz.underlying9 (by kernel_rfl) (by kernel_rfl) rfl
 simp [List.find?, h0, h1, h2] at e
set_option maxRecDepth 100000 in
theorem lifted (os : Os) (started : os.Started) (H : Type) (enc : TypeId × Value → H) :
 ReturnsInHanded {} Tryz.checked os 4 .any (fun w args => (Rows.fnExactReadWishSpec.pre enc Tryz.prog Tryz.f4 [] false w args ∧ laidMetH Tryz.prog Rows.fnExactReadWishRow.laid w) ∧ sizedMet enc Tryz.prog Tryz.f4 (OpenSpec.ofChange Rows.fnExactReadWishSpec) false w args)
  (Rows.fnExactReadWishSpec.post enc Tryz.prog Tryz.f4 false true false false) := by
 refine returnsInHanded_of_change_and (C := Tryz.checked) (X := fun w _ => laidMetH Tryz.prog Rows.fnExactReadWishRow.laid w) (fun _ _ _ hh h => h.of_heap hh) aLR started (by kernel_rfl) Tryz.func4
  (ChangeSpec.witness_shaped (enc := enc) (C := Tryz.checked) (os := os) (X := fun w _ => laidMetH Tryz.prog Rows.fnExactReadWishRow.laid w) false (World.laidAll Tryz.prog os Rows.fnExactReadWishRow.laid) #[.string ByteArray.empty] 8 (World.laidAll_os _ _ _)
   (World.shaped_of_ZipB (by kernel_rfl) (by kernel_rfl)) (by kernel_rfl) (by kernel_rfl) (by kernel_rfl)
   (by rw [MakeChecks.laidMetH_plain _ _ _ (by kernel_rfl)]; exact laidMet_laidAll _ (by kernel_rfl) (by kernel_rfl))) ?_
 intro W base args ds gs before hval0 hW hc _ hL _
 have hval : ∀ (j : Nat) t v, Tryz.f4.params[j]? = some t → args[j]? = some v → Value.okWide Tryz.prog W .any base t v := hval0
 have hW' := hW
 obtain ⟨p, q, hA0, hV, rfl, hfz, hnd⟩ := hW
 have hA : DataW.TrodAll enc Tryz.prog W 0 (fun _ => true) true Tryz.f4.params.toList args.toList ds p := hA0
 rw [Tryz.params4] at hA hval
 obtain ⟨v0, vs0, d0, ds0, p0, q0, hargs, rfl, rfl, h0, r0⟩ := trodAll_cons hA
 obtain ⟨rfl, rfl, rfl⟩ := trodAll_nil r0
 obtain rfl : args = #[v0] := by cases args; simp_all
 have hV' : DataW.TrodVars enc Tryz.prog W (fun _ => true) ["loop.example/g00737/impl.opWords"] gs q := hV
 obtain ⟨g0, gs0, qs0, rfl, hv0⟩ := AM.trodVars_cons hV'
 obtain ⟨rfl, _⟩ := trodVars_none hv0
 have k0 := h0
 have lt0 : ∀ x ∈ p0, x.block < W.heap.size := by obtain ⟨m, hm⟩ := k0; exact DataW.trod_lt m _ _ _ hm
 obtain ⟨a0, rfl, _, _, w0⟩ := open_string Tryz.underlying9 (hval 0 9 v0 rfl rfl) h0
 clear hA0 hval0
 refine (AM.law_calls (AM.law_ReadWishP w0) (AM.rvs_cons (AM.rv_one rfl) AM.rvs_nil) (aKz hL)).mono fun e W' ⟨he, bel⟩ => ?_
 subst he
 exact ⟨_, rfl, _, _, _, [], _, _, hW', trodAll_mk1 (shut_bool Tryz.underlying4 _), (trodAll_cons_mk (Below.trod aE1 (by kernel_rfl) (of_decide_eq_true (by kernel_rfl)) k0 bel lt0) trodAll_mk0), Below.trodVars aE1 bel (by kernel_rfl) hV', bel.frame _, fun h => by cases h⟩
set_option maxRecDepth 100000 in
set_option maxHeartbeats 4000000 in
theorem closed : joinedFacts Tryz.prog 4 Tryz.f4 Rows.fnExactReadWishSpec Rows.fnExactReadWishRow = true := by
 unfold joinedFacts
 simp only [Bool.and_eq_true]
 repeat' apply And.intro
 all_goals as_aux_lemma => kernel_rfl
theorem bare : Rows.FnExactReadWishSaid :=
 OpenClaim.holds_of_wide 4 Tryz.f4 rfl rfl rfl rfl rfl rfl rfl ⟨rfl, rfl, rfl, rfl, rfl⟩ rfl rfl rfl rfl rfl (by kernel_rfl) Tryz.func4 closed
  (of_decide_eq_true (by kernel_rfl)) (by unfold Func.isWrapper; first | (rw [if_pos (by decide +kernel)]; kernel_rfl) | (rw [if_neg (by decide +kernel)]; exact ⟨rfl, rfl⟩))
  (fun os started H enc _ => lifted os started H enc)
theorem proved : Rows.FnExactReadWishCardSaid :=
 Claim7.holds_tied_plain_at .later [] [.data, .data, .data, .data, .sentinel, .sentinel, .data, .pinned] true (true, "486dc8f1c2743077f1b60f3aae7daaccd56a154ddc07cf55bc807d255d6b0bec") true
  bare (fun _ h => by cases h) (by kernel_rfl) (fun _ h => by cases h) fnExactReadWish_row_tie rfl ⟨rfl, rfl⟩ (by kernel_rfl) rfl
  (fun f fn hf hfn => by
   obtain rfl : f = 4 := Option.some.inj ((show Tryz.prog.funcNamed "loop.example/g00737/laws.FnExactReadWish" = some 4 by kernel_rfl).symm.trans hf) |>.symm
   obtain rfl : fn = Tryz.f4 := (Option.some.inj (Tryz.func4.symm.trans hfn)).symm
   exact ⟨by kernel_rfl, fun j t ht => by
    rw [Tryz.params4] at ht
    have hm : t ∈ [9] := by simpa using Array.mem_of_getElem? ht
    have hall : ([9].all fun u => !Tryz.prog.wantsStandIn u) = true := by kernel_rfl
    exact (show Tryz.prog.wantsStandIn t = false by simpa using List.all_eq_true.1 hall t hm)⟩)
  (by kernel_rfl)
#print axioms proved
end Go.Proofs.YtodckioppgjbdaaGreatDoor.fnExactReadWish
