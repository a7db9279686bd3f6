/- The given statement of the law FnExactAllDone, a tied card: for every input that can be read the law answers true, and every argument reads afterwards as it read before; the table of code words holds what the program's own text lays. -/
import Derived.Test.YtkfllfhcjegfoaaGreatDoorCards
import Derived.Test.YtkfllfhcjegfoaaGreatDoorTie
import Derived.Test.YtkfllfhcjegfoaaGreatDoorKq34
import Derived.Test.YtkfllfhcjegfoaaGreatDoorKq35
import Derived.ProofKit
import Derived.OpenShut
import Derived.ShutString
import Derived.LaidMore
import Derived.Lay
import Derived.OpenVars
import Derived.SevenTiedAt
import Derived.Stop.Joined
import Derived.ChangeOld
import Derived.Below
set_option linter.unusedVariables false
namespace Go.Proofs.YtkfllfhcjegfoaaGreatDoor.fnExactAllDone
open Go.ChangeShapes Go.WideShapes Go.ChangeAt Go.RowKit
open Go.ChangeMaps (open_string shut_string)
open AM (cwL GT GTl)
theorem own : ownKnob Tryz.prog.godebug = none := by kernel_rfl
theorem laidOut : laidOutB Tryz.prog = true := by kernel_rfl
def Tab (w : World) : Prop := 0 < w.heap.size ∧ ∀ k, k < 19 → w.cell? ⟨0, k, none⟩ = some (.string (cwL.getD k ByteArray.empty))
theorem aQs {W : World} (h : laidMetH Tryz.prog Rows.fnExactAllDoneRow.laid W) : Tab W := by
 have hd0 : (Rows.laid_loop_example_g00737_impl_codeWords : DataW Unit) = .agg (cwL.map fun s => .lit (.string s.data.toList)) := by kernel_rfl
 rw [MakeChecks.laidMetH_plain _ _ _ (by kernel_rfl)] at h
 obtain ⟨ps, ⟨g, t, cs, fuel, p, q, hg, ht, hv, hd, _, _⟩, _, _⟩ := h
 obtain rfl := Option.some.inj ((show Tryz.prog.globalNamed "loop.example/g00737/impl.codeWords" = some 0 by kernel_rfl).symm.trans hg)
 obtain rfl := Option.some.inj ((show (Tryz.prog.globals[0]?).map (·.type) = some 219 by kernel_rfl).symm.trans ht)
 obtain ⟨xs, m, _, ex, _, hl, hel⟩ := DataW.trod_array Tryz.underlying219 hd
 have c9 : Tryz.prog.cellsOf 9 = 1 := by kernel_rfl
 have hlen : cwL.length = 19 := rfl
 have hblk : 0 < W.heap.size := by
  have hv' := hv
  unfold World.var? at hv'
  rw [hg] at hv'
  simp only [Option.bind_some] at hv'
  cases hh : W.heap[0]? with
  | none => rw [hh] at hv'; cases hv'
  | some o => exact (Array.getElem?_eq_some_iff.1 hh).1
 refine ⟨hblk, fun r hr => ?_⟩
 have hE := hel r hr
 rw [c9, Nat.mul_one, List.getElem?_eq_getElem (by omega)] at hE
 obtain ⟨z, e1, e2, _⟩ := DataW.trod_string Tryz.underlying9 hE
 have e3 : (xs.map (·.1)) = cwL.map fun s => .lit (.string s.data.toList) := by
  have := (Prod.mk.inj ex).1
  rw [hd0] at this
  exact (DataW.agg.inj this).symm
 have e4 : (xs.map (·.1))[r]? = (cwL.map fun s => (DataW.lit (.string s.data.toList) : DataW Unit))[r]? := by rw [e3]
 rw [List.getElem?_map, List.getElem?_map, List.getElem?_eq_getElem (by omega : r < xs.length), List.getElem?_eq_getElem (by omega : r < cwL.length), e2] at e4
 have hz : z = cwL.getD r ByteArray.empty := by
  simp only [Option.map_some, Option.some.injEq, DataW.lit.injEq, Lit.string.injEq] at e4
  have h1 : cwL.getD r ByteArray.empty = cwL[r]'(by omega) := by rw [List.getD_eq_getElem?_getD, List.getElem?_eq_getElem (by omega)]; rfl
  rw [h1]
  exact toList_inj (by simpa [ByteArray.toList_eq] using e4)
 rw [World.var?_cell hg hv r, ← hz]
 have : cs.toList[r]? = some (.string z) := by
  have h0 : ((cs.toList.drop r).take 1)[0]? = some (.string z) := by rw [e1]; rfl
  simpa using h0
 simpa using this
theorem aRV {W : World} (h : Tab W) : ∀ g y, GT g = some y → AM.RA (AM.InW W) W (.ptr y) [.pointer (some ⟨g, 0, none⟩)] := by
 intro g y e
 have hg : g = 0 ∧ y = .agg (cwL.map AM.strA) := by
  unfold GT GTl at e
  cases hb : Nat.beq 0 g with
  | false => simp [List.find?, hb] at e
  | true => simp [List.find?, hb] at e; exact ⟨(Nat.eq_of_beq_eq_true hb).symm, e.symm⟩
 obtain ⟨rfl, rfl⟩ := hg
 unfold AM.RA
 refine ⟨0, 0, cwL.map Value.string, rfl, h.1, AM.ra_agg (AM.rl_strA cwL), fun j u hu => ?_⟩
 rw [List.getElem?_map] at hu
 obtain ⟨x, hx, rfl⟩ := Option.map_eq_some_iff.1 hu
 obtain ⟨hj, hx⟩ := List.getElem?_eq_some_iff.1 hx
 have h1 : cwL.getD j ByteArray.empty = x := by rw [List.getD_eq_getElem?_getD, List.getElem?_eq_getElem hj, hx]; rfl
 rw [Nat.zero_add, ← h1]
 exact h.2 j hj
set_option maxRecDepth 100000 in
theorem lifted (os : Os) (started : os.Started) (H : Type) (enc : TypeId × Value → H) :
 ReturnsInHanded {} Tryz.checked os 3 .any (fun w args => (Rows.fnExactAllDoneSpec.pre enc Tryz.prog Tryz.f3 [] false w args ∧ laidMetH Tryz.prog Rows.fnExactAllDoneRow.laid w) ∧ sizedMet enc Tryz.prog Tryz.f3 (OpenSpec.ofChange Rows.fnExactAllDoneSpec) false w args)
  (Rows.fnExactAllDoneSpec.post enc Tryz.prog Tryz.f3 false true false false) := by
 refine returnsInHanded_of_change_and (C := Tryz.checked) (X := fun w _ => laidMetH Tryz.prog Rows.fnExactAllDoneRow.laid w) (fun _ _ _ hh h => h.of_heap hh) own started (by kernel_rfl) Tryz.func3
  (ChangeSpec.witness_shaped (enc := enc) (C := Tryz.checked) (os := os) (X := fun w _ => laidMetH Tryz.prog Rows.fnExactAllDoneRow.laid w) false (World.laidAll Tryz.prog os Rows.fnExactAllDoneRow.laid) #[.agg #[.slice none 0 0, .slice none 0 0, .slice none 0 0, .slice none 0 0, .slice none 0 0, .int .i64 0]] 8 (World.laidAll_os _ _ _)
   (World.shaped_of_ZipB (by kernel_rfl) (by kernel_rfl)) (by kernel_rfl) (by kernel_rfl) (by kernel_rfl)
   (by rw [MakeChecks.laidMetH_plain _ _ _ (by kernel_rfl)]; exact laidMet_laidAll _ (by kernel_rfl) (by kernel_rfl))) ?_
 intro W base args ds gs before hval0 hW hc _ hL _
 have hval : ∀ (j : Nat) t v, Tryz.f3.params[j]? = some t → args[j]? = some v → Value.okWide Tryz.prog W .any base t v := hval0
 have hW' := hW
 obtain ⟨p, q, hA0, hV, rfl, _, _⟩ := hW
 have hV' : DataW.TrodVars enc Tryz.prog W (fun _ => true) ["loop.example/g00737/impl.codeWords"] gs q := hV
 obtain ⟨_, _, _, _, g1, _, rfl, _⟩ := trodVars_one hV'
 have hA : DataW.TrodAll enc Tryz.prog W 0 (fun _ => true) true Tryz.f3.params.toList args.toList ds p := hA0
 rw [Tryz.params3] at hA hval
 obtain ⟨v0, vs0, d0, ds0, p0, q0, hargs, rfl, rfl, h0, r0⟩ := trodAll_cons hA
 obtain ⟨rfl, rfl, rfl⟩ := trodAll_nil r0
 obtain rfl : args = #[v0] := by cases args; simp_all
 have k0 := h0
 have lt0 : ∀ x ∈ p0, x.block < W.heap.size := by obtain ⟨m, hm⟩ := k0; exact DataW.trod_lt m _ _ _ hm
 obtain ⟨cs0, rfl, _⟩ := okWide_struct Tryz.underlying30 (hval 0 30 v0 rfl rfl)
 obtain ⟨B, cl, wt, ms, sp, hr, hB, hcl, hwt, hms, _⟩ := AM.open_wld Tryz.underlying30 (by kernel_rfl) ⟨rfl, rfl, rfl, rfl, rfl⟩ (by refine ⟨?_, ?_, ?_, ?_, ?_⟩ <;> kernel_rfl)
  (fun cs d p h => AM.open_bas Tryz.underlying25 (by kernel_rfl) (by kernel_rfl) Tryz.underlying22 Tryz.underlying113 (by kernel_rfl) (by kernel_rfl) Tryz.underlying111 Tryz.underlying3 (by kernel_rfl) Tryz.underlying67 Tryz.underlying156 (by kernel_rfl) (by kernel_rfl) Tryz.underlying9 Tryz.underlying3 Tryz.underlying23 Tryz.underlying116 (by kernel_rfl) (by kernel_rfl) Tryz.underlying9 Tryz.underlying3 Tryz.underlying3 Tryz.underlying4 h)
  (fun v k y h => AM.open_strc AM.cliA AM.Cli.ok Tryz.underlying26 (by kernel_rfl) (by omega) (fun _ => rfl) (fun c => ⟨_, rfl⟩)
   (fun cs d p h => AM.open_cli Tryz.underlying69 (by kernel_rfl) (by kernel_rfl)
    (fun v k y h => AM.open_strc AM.wshA (fun x => x.ok maxLen) Tryz.underlying66 (by kernel_rfl) (by omega) (fun _ => rfl) (fun c => ⟨_, rfl⟩)
     (fun cs d p h => AM.open_wsh Tryz.underlying153 (by kernel_rfl) (by kernel_rfl) Tryz.underlying3 Tryz.underlying9 Tryz.underlying9 Tryz.underlying9 Tryz.underlying75 Tryz.underlying187 (by kernel_rfl) (by kernel_rfl) Tryz.underlying9 Tryz.underlying3 Tryz.underlying4 h) h)
    Tryz.underlying3 Tryz.underlying3 Tryz.underlying3 Tryz.underlying3 Tryz.underlying3 Tryz.underlying3 Tryz.underlying3
    Tryz.underlying67 Tryz.underlying156 (by kernel_rfl) (by kernel_rfl) Tryz.underlying9 Tryz.underlying3 h) h)
  (fun v k y h => AM.open_strc AM.watA (fun x => x.ok maxLen) Tryz.underlying27 (by kernel_rfl) (by omega) (fun _ => rfl) (fun c => ⟨_, rfl⟩)
   (fun cs d p h => AM.open_wat Tryz.underlying73 (by kernel_rfl) (by kernel_rfl) Tryz.underlying9 Tryz.underlying3 Tryz.underlying71 Tryz.underlying172 (by kernel_rfl) (by kernel_rfl) Tryz.underlying3 Tryz.underlying3 Tryz.underlying4 h) h)
  (fun v k y h => AM.open_strc AM.momA AM.Mom.ok Tryz.underlying28 (by kernel_rfl) (by omega) (fun _ => rfl) (fun c => ⟨_, rfl⟩)
   (fun cs d p h => AM.open_mom Tryz.underlying82 (by kernel_rfl) ⟨rfl, rfl, rfl, rfl, rfl⟩ (by refine ⟨?_, ?_, ?_, ?_, ?_⟩ <;> kernel_rfl) Tryz.underlying3 Tryz.underlying3 Tryz.underlying3
    (fun cs d p h => AM.open_opr Tryz.underlying77 (by kernel_rfl) (by kernel_rfl) Tryz.underlying3 Tryz.underlying3 Tryz.underlying9 Tryz.underlying9 Tryz.underlying75 Tryz.underlying187 (by kernel_rfl) (by kernel_rfl) Tryz.underlying9 Tryz.underlying3 Tryz.underlying4 h)
    (fun cs d p h => AM.open_rst Tryz.underlying80 (by kernel_rfl) (by kernel_rfl) Tryz.underlying3 Tryz.underlying3 Tryz.underlying3 Tryz.underlying78 Tryz.underlying9 (by kernel_rfl) Tryz.underlying67 Tryz.underlying156 (by kernel_rfl) (by kernel_rfl) Tryz.underlying9 Tryz.underlying3 h) h) h)
  Tryz.underlying3 h0
 clear hA0 hval0
 refine (AM.law_calls (AM.law_AllDone ⟨hB.1.1, hB.1.2, hB.2.1, hB.2.2⟩ hcl.1 hcl.2 hwt.1 hwt.2 hms.1 hms.2) (AM.rvs_cons (hr _ _ _) AM.rvs_nil) (aRV (aQs hL))).mono fun e W' ⟨he, bel⟩ => ?_
 subst he
 exact ⟨_, rfl, _, _, _, [], _, _, hW', trodAll_mk1 (shut_bool Tryz.underlying4 _), (trodAll_cons_mk (Below.trod laidOut (by kernel_rfl) (of_decide_eq_true (by kernel_rfl)) k0 bel lt0) trodAll_mk0), Below.trodVars laidOut bel (by kernel_rfl) hV', bel.frame _, fun h => by cases h⟩
set_option maxRecDepth 100000 in
set_option maxHeartbeats 4000000 in
theorem closed : joinedFacts Tryz.prog 3 Tryz.f3 Rows.fnExactAllDoneSpec Rows.fnExactAllDoneRow = true := by
 unfold joinedFacts
 simp only [Bool.and_eq_true]
 repeat' apply And.intro
 all_goals as_aux_lemma => kernel_rfl
theorem bare : Rows.FnExactAllDoneSaid :=
 OpenClaim.holds_of_wide 3 Tryz.f3 rfl rfl rfl rfl rfl rfl rfl ⟨rfl, rfl, rfl, rfl, rfl⟩ rfl rfl rfl rfl rfl (by kernel_rfl) Tryz.func3 closed
  (of_decide_eq_true (by kernel_rfl)) (by unfold Func.isWrapper; first | (rw [if_pos (by decide +kernel)]; kernel_rfl) | (rw [if_neg (by decide +kernel)]; exact ⟨rfl, rfl⟩))
  (fun os started H enc _ => lifted os started H enc)
theorem proved : Rows.FnExactAllDoneCardSaid :=
 Claim7.holds_tied_plain_at .later [] [.data] true (true, "740c8ec921fdfd7f32852cee8121848cfcda66d5b70699f762a0d664b993acd7") true
  bare (fun _ h => by cases h) (by kernel_rfl) (fun _ h => by cases h) fnExactAllDone_row_tie rfl ⟨rfl, rfl⟩ (by kernel_rfl) rfl
  (fun f fn hf hfn => by
   obtain rfl : f = 3 := Option.some.inj ((show Tryz.prog.funcNamed "loop.example/g00737/laws.FnExactAllDone" = some 3 by kernel_rfl).symm.trans hf) |>.symm
   obtain rfl : fn = Tryz.f3 := (Option.some.inj (Tryz.func3.symm.trans hfn)).symm
   exact ⟨by kernel_rfl, fun j t ht => by
    rw [Tryz.params3] at ht
    have hm : t ∈ [30] := by simpa using Array.mem_of_getElem? ht
    have hall : ([30].all fun u => !Tryz.prog.wantsStandIn u) = true := by kernel_rfl
    exact (show Tryz.prog.wantsStandIn t = false by simpa using List.all_eq_true.1 hall t hm)⟩)
  (by kernel_rfl)
#print axioms proved
end Go.Proofs.YtkfllfhcjegfoaaGreatDoor.fnExactAllDone
