/- The given statement of the law FnExactWishText: for every input that can be read the law answers true, and every argument reads afterwards as it read before. The tables that the row lists hold what the program's own text lays. -/
import Derived.Test.YtodckioppgjbdaaGreatDoorCards
import Derived.Test.YtodckioppgjbdaaGreatDoorTie
import Derived.Test.YtodckioppgjbdaaGreatDoorKc7
import Derived.SevenTiedAt
import Derived.Stop.Joined
import Derived.Test.YtodckioppgjbdaaGreatDoorKc10
import Derived.Test.YtodckioppgjbdaaGreatDoorKc8
import Derived.Test.YtodckioppgjbdaaGreatDoorKc6
import Derived.WalkKit
import Derived.ProofKit
import Derived.OpenShut
import Derived.ShutString
import Derived.ChangeOld
import Derived.Below
set_option linter.unusedVariables false
set_option linter.unusedSimpArgs false
namespace Go.Proofs.YtodckioppgjbdaaGreatDoor.fnExactWishText
open Go.ChangeShapes Go.WideShapes Go.ChangeAt Go.RowKit
open Go.ChangeMaps (open_string shut_string)
theorem aIh {W : World} (h : laidMetH Tryz.prog Rows.fnExactWishTextRow.laid W) : ∀ g y, AM.GT g = some y → AM.RG (AM.InW W) W g y := by
 intro g y e
 unfold AM.GT AM.GTl at e
 by_cases h0 : Nat.beq 3 g = true
 · have hy : y = .agg (AM.p10L.map fun x => .v (.int .u64 x)) := by simp [List.find?, h0] at e; exact e.symm
   obtain rfl := Nat.eq_of_beq_eq_true h0
   rw [hy]
   exact AM.rg_int (AM.met_lv (by kernel_rfl) h (show ("internal/strconv.uint64pow10", Rows.laid_internal_strconv_uint64pow10) ∈ _ by simp [Rows.fnExactWishTextRow])) (by kernel_rfl) (by kernel_rfl) (by kernel_rfl) Tryz.underlying281 Tryz.underlying252 (by kernel_rfl) (by kernel_rfl) rfl
 by_cases h2 : Nat.beq 6 g = true
 · have hy : y = .tup [] := by simp [List.find?, h2, h0] at e; exact e.symm
   obtain rfl := Nat.eq_of_beq_eq_true h2
   rw [hy]
   exact AM.rg_err (AM.met_lv (by kernel_rfl) h (show ("strconv.ErrSyntax", Rows.laid_strconv_ErrSyntax) ∈ _ by simp [Rows.fnExactWishTextRow])) (by kernel_rfl) (by kernel_rfl) Tryz.underlying197
 by_cases h1 : Nat.beq 0 g = true
 · have hy : y = .agg (AM.owL.map fun x => .v (Value.string x)) := by simp [List.find?, h1, h0, h2] at e; exact e.symm
   obtain rfl := Nat.eq_of_beq_eq_true h1
   rw [hy]
   exact AM.rg_str (AM.met_lv (by kernel_rfl) h (show ("loop.example/g00737/impl.opWords", Rows.laid_loop_example_g00737_impl_opWords) ∈ _ by simp [Rows.fnExactWishTextRow])) (by kernel_rfl) (by kernel_rfl) (by kernel_rfl) Tryz.underlying82 Tryz.underlying9 (by kernel_rfl) (by kernel_rfl) rfl
 simp [List.find?, h0, h1, h2] at e
set_option maxRecDepth 100000 in
theorem lifted (os : Os) (started : os.Started) (H : Type) (enc : TypeId × Value → H) :
 ReturnsInHanded {} Tryz.checked os 3 .any (fun w args => (Rows.fnExactWishTextSpec.pre enc Tryz.prog Tryz.f3 [] false w args ∧ laidMetH Tryz.prog Rows.fnExactWishTextRow.laid w) ∧ sizedMet enc Tryz.prog Tryz.f3 (OpenSpec.ofChange Rows.fnExactWishTextSpec) false w args)
  (Rows.fnExactWishTextSpec.post enc Tryz.prog Tryz.f3 false true false false) := by
 refine returnsInHanded_of_change_and (C := Tryz.checked) (X := fun w _ => laidMetH Tryz.prog Rows.fnExactWishTextRow.laid w) (fun _ _ _ hh h => h.of_heap hh) aJH started (by kernel_rfl) Tryz.func3
  (ChangeSpec.witness_shaped (enc := enc) (C := Tryz.checked) (os := os) (X := fun w _ => laidMetH Tryz.prog Rows.fnExactWishTextRow.laid w) false (World.laidAll Tryz.prog os Rows.fnExactWishTextRow.laid) #[.agg #[.int .i64 0, .string ByteArray.empty, .string ByteArray.empty, .string ByteArray.empty, .slice none 0 0]] 8 (World.laidAll_os _ _ _)
   (World.shaped_of_ZipB (by kernel_rfl) (by kernel_rfl)) (by kernel_rfl) (by kernel_rfl) (by kernel_rfl)
   (by rw [MakeChecks.laidMetH_plain _ _ _ (by kernel_rfl)]; exact laidMet_laidAll _ (by kernel_rfl) (by kernel_rfl))) ?_
 intro W base args ds gs before hval0 hW hc _ hL _
 have hval : ∀ (j : Nat) t v, Tryz.f3.params[j]? = some t → args[j]? = some v → Value.okWide Tryz.prog W .any base t v := hval0
 have hW' := hW
 obtain ⟨p, q, hA0, hV, rfl, hfz, hnd⟩ := hW
 have hA : DataW.TrodAll enc Tryz.prog W 0 (fun _ => true) true Tryz.f3.params.toList args.toList ds p := hA0
 rw [Tryz.params3] at hA hval
 obtain ⟨v0, vs0, d0, ds0, p0, q0, hargs, rfl, rfl, h0, r0⟩ := trodAll_cons hA
 obtain ⟨rfl, rfl, rfl⟩ := trodAll_nil r0
 obtain rfl : args = #[v0] := by cases args; simp_all
 have hV' : DataW.TrodVars enc Tryz.prog W (fun _ => true) ["loop.example/g00737/impl.opWords"] gs q := hV
 obtain ⟨g0, gs0, qs0, rfl, hv0⟩ := AM.trodVars_cons hV'
 obtain ⟨rfl, _⟩ := trodVars_none hv0
 have k0 := h0
 have lt0 : ∀ x ∈ p0, x.block < W.heap.size := by obtain ⟨m, hm⟩ := k0; exact DataW.trod_lt m _ _ _ hm
 obtain ⟨cs0, rfl, _⟩ := okWide_struct Tryz.underlying24 (hval 0 24 v0 rfl rfl)
 obtain ⟨o0, hr0, hk0⟩ := AM.open_wsh Tryz.underlying24 (by kernel_rfl) (by kernel_rfl) Tryz.underlying3 Tryz.underlying9 Tryz.underlying9 Tryz.underlying9 Tryz.underlying22 Tryz.underlying139 (by kernel_rfl) (by kernel_rfl) Tryz.underlying9 Tryz.underlying3 Tryz.underlying4 h0
 clear hA0 hval0
 refine (AM.law_calls (AM.law_WishTextP hk0) (AM.rvs_cons (hr0 _ _ _) AM.rvs_nil) (aIh hL)).mono fun e W' ⟨he, bel⟩ => ?_
 subst he
 exact ⟨_, rfl, _, _, _, [], _, _, hW', trodAll_mk1 (shut_bool Tryz.underlying4 _), (trodAll_cons_mk (Below.trod aDK (by kernel_rfl) (of_decide_eq_true (by kernel_rfl)) k0 bel lt0) trodAll_mk0), Below.trodVars aDK bel (by kernel_rfl) hV', bel.frame _, fun h => by cases h⟩
set_option maxRecDepth 100000 in
set_option maxHeartbeats 4000000 in
theorem closed : joinedFacts Tryz.prog 3 Tryz.f3 Rows.fnExactWishTextSpec Rows.fnExactWishTextRow = true := by
 unfold joinedFacts
 simp only [Bool.and_eq_true]
 repeat' apply And.intro
 all_goals as_aux_lemma => kernel_rfl
theorem bare : Rows.FnExactWishTextSaid :=
 OpenClaim.holds_of_wide 3 Tryz.f3 rfl rfl rfl rfl rfl rfl rfl ⟨rfl, rfl, rfl, rfl, rfl⟩ rfl rfl rfl rfl rfl (by kernel_rfl) Tryz.func3 closed
  (of_decide_eq_true (by kernel_rfl)) (by unfold Func.isWrapper; first | (rw [if_pos (by decide +kernel)]; kernel_rfl) | (rw [if_neg (by decide +kernel)]; exact ⟨rfl, rfl⟩))
  (fun os started H enc _ => lifted os started H enc)
theorem proved : Rows.FnExactWishTextCardSaid :=
 Claim7.holds_tied_plain_at .later [] [.data, .data, .data, .data, .sentinel, .sentinel, .data, .pinned] true (true, "486dc8f1c2743077f1b60f3aae7daaccd56a154ddc07cf55bc807d255d6b0bec") true
  bare (fun _ h => by cases h) (by kernel_rfl) (fun _ h => by cases h) fnExactWishText_row_tie rfl ⟨rfl, rfl⟩ (by kernel_rfl) rfl
  (fun f fn hf hfn => by
   obtain rfl : f = 3 := Option.some.inj ((show Tryz.prog.funcNamed "loop.example/g00737/laws.FnExactWishText" = some 3 by kernel_rfl).symm.trans hf) |>.symm
   obtain rfl : fn = Tryz.f3 := (Option.some.inj (Tryz.func3.symm.trans hfn)).symm
   exact ⟨by kernel_rfl, fun j t ht => by
    rw [Tryz.params3] at ht
    have hm : t ∈ [24] := by simpa using Array.mem_of_getElem? ht
    have hall : ([24].all fun u => !Tryz.prog.wantsStandIn u) = true := by kernel_rfl
    exact (show Tryz.prog.wantsStandIn t = false by simpa using List.all_eq_true.1 hall t hm)⟩)
  (by kernel_rfl)
#print axioms proved
end Go.Proofs.YtodckioppgjbdaaGreatDoor.fnExactWishText
