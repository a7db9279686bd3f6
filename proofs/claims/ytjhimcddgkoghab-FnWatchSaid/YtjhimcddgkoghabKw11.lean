/- Texts of the machine over data, folded. -/
import Derived.Test.YtjhimcddgkoghabKw5
import Derived.Test.YtjhimcddgkoghabKw10
import Derived.Test.YtjhimcddgkoghabKw8
import Derived.Test.YtjhimcddgkoghabKw7
/- The other side of NextEvent and DrainWatch. -/
namespace Go.Proofs.Ytjhimcddgkoghab.AM
open Go Go.RowKit
set_option linter.unusedVariables false
set_option linter.unusedSimpArgs false
set_option maxRecDepth 100000
theorem soft_call1 {Θ : Tab} {ops : Array Oper} {k d : Nat} {s : St} {ob : OB} {v : AV} (hs : soft Θ ops true k = true) (hc : condB ops k s [d] = true) : SoftE Θ ops (fun j => Nat.blt j k) k s ⟨v, setU d [ob]⟩ := soft_set (l := d) (o := some ob) hs hc
attribute [local irreducible] ACode AOps AOps2 RetG RetM Pre ACG
theorem ac_sNext {w : Wat} (hw : w.ok maxLen) (hb : watB w = true) : AC Try.prog 7 [watA w] ⟨.tup [watO (nextR w).1 0, evtA (nextR w).2.1, .v (.int .i64 (nextR w).2.2)], [evtO (nextR w).1.queue]⟩ := by
  have h1 := ac_l06OK hw
  rw [hb] at h1
  have h4 := (watB_of hb).2
  obtain ⟨nm, sn, qu⟩ := w
  cases qu with
  | nil =>
    have h3 := ac_l06Own (w := ⟨nm, sn, []⟩) (by simp)
    refine r_of Th_ok (by kernel_rfl) Try.func7 rfl Try.ntmps7 Try.results7 (by kernel_rfl) rfl ?_; conv => whnf
    repeat (first | ((first | refine qb rfl rfl ?_ | refine qi (by assumption) rfl rfl ?_ | refine ql rfl ?_ | refine qo rfl rfl ?_ | refine qs rfl rfl ?_ | refine qn rfl rfl ?_); conv => whnf) | (refine qc (h1) rfl ?_; conv => whnf) | (refine qc (h3) rfl ?_; conv => whnf) | (refine r_step (p_ostore rfl rfl rfl rfl rfl (by conv => lhs; whnf) rfl) rfl rfl (fun e => by first | exact .inl rfl | contradiction | exact .inr (.inl (by kernel_rfl))) ?_; conv => whnf) | (refine r_step (p_ostoreo rfl rfl rfl rfl rfl rfl) rfl rfl (fun e => by first | exact .inl rfl | contradiction | exact .inr (.inl (by kernel_rfl))) ?_; conv => whnf) | (refine r_put (p_bin (b_eq_t (by simp)) rfl rfl rfl) rfl rfl ?_; conv => whnf))
    exact r_watEV rfl rfl rfl rfl rfl rfl rfl rfl rfl rfl rfl
  | cons e r =>
    have h3 := ac_l06Own (w := ⟨nm, sn, r⟩) (by simp at h4 ⊢; omega)
    refine r_of Th_ok (by kernel_rfl) Try.func7 rfl Try.ntmps7 Try.results7 (by kernel_rfl) rfl ?_; conv => whnf
    repeat (first | ((first | refine qb rfl rfl ?_ | refine qi (by assumption) rfl rfl ?_ | refine ql rfl ?_ | refine qo rfl rfl ?_ | refine qs rfl rfl ?_ | refine qn rfl rfl ?_); conv => whnf) | (refine qc (h1) rfl ?_; conv => whnf) | (refine r_put (p_bin (b_eq_f (by simp; omega)) rfl rfl rfl) rfl rfl ?_; conv => whnf) | (refine r_put (p_idx (y := evtA e) (j := 0) (xs := (e :: r).map evtA) rfl rfl rfl rfl) rfl rfl ?_; conv => whnf) | (refine r_step (p_ostore rfl rfl rfl rfl rfl (by conv => lhs; whnf) rfl) rfl rfl (fun e => by first | exact .inl rfl | contradiction | exact .inr (.inl (by kernel_rfl))) ?_; conv => whnf))
    refine r_put (p_ldrm (f := evtA) (xs := e :: r) (h := 1) (by simp) rfl rfl rfl) rfl rfl ?_
    conv => whnf
    repeat (first | ((first | refine qb rfl rfl ?_ | refine qi (by assumption) rfl rfl ?_ | refine ql rfl ?_ | refine qo rfl rfl ?_ | refine qs rfl rfl ?_ | refine qn rfl rfl ?_); conv => whnf) | (refine r_step (p_ostore rfl rfl rfl rfl rfl (by conv => lhs; whnf) rfl) rfl rfl (fun e => by first | exact .inl rfl | contradiction | exact .inr (.inl (by kernel_rfl))) ?_; conv => whnf))
    (refine .inl (And.intro (by kernel_rfl) ?_); conv => whnf)
    refine r_step (p_call h3 rfl (.inl rfl) (by first | exact trivial | exact ⟨⟨rfl, rfl, rfl⟩, trivial⟩ | exact ⟨⟨rfl, rfl, rfl⟩, ⟨rfl, rfl, rfl⟩, trivial⟩ | exact ⟨⟨rfl, rfl, rfl⟩, ⟨rfl, rfl, rfl⟩, ⟨rfl, rfl, rfl⟩, trivial⟩) rfl rfl) rfl rfl (fun _ => .inr (.inr (soft_call1 (by kernel_rfl) (by kernel_rfl)))) ?_
    conv => whnf
    refine r_step (p_ostoreo rfl rfl rfl rfl rfl rfl) rfl rfl (fun _ => .inr (.inr (soft_set (by kernel_rfl) (by kernel_rfl)))) ?_
    conv => whnf
    refine r_step (p_ostore rfl rfl rfl rfl rfl (by conv => lhs; whnf) rfl) rfl rfl (fun _ => .inr (.inr (soft_set (by kernel_rfl) (by kernel_rfl)))) ?_
    conv => whnf
    exact r_watEV rfl rfl rfl rfl rfl rfl rfl rfl rfl rfl rfl
theorem ac_sDrain {w : Wat} (hw : w.ok maxLen) (hb : watB w = true) : AC Try.prog 13 [watA w] ⟨.tup [watA ⟨w.name, w.seen, []⟩, .own 0, .v (.int .i64 0)], [evtO w.queue]⟩ := by
  have h1 := ac_l06OK hw
  rw [hb] at h1
  refine r_of Th_ok (by kernel_rfl) Try.func13 rfl Try.ntmps13 Try.results13 (by kernel_rfl) rfl ?_; conv => whnf
  repeat (first | ((first | refine qb rfl rfl ?_ | refine qi (by assumption) rfl rfl ?_ | refine ql rfl ?_ | refine qo rfl rfl ?_ | refine qs rfl rfl ?_ | refine qn rfl rfl ?_); conv => whnf) | (refine qc (h1) rfl ?_; conv => whnf) | (refine r_step (p_ostore rfl rfl rfl rfl rfl (by conv => lhs; whnf) rfl) rfl rfl (fun e => by first | exact .inl rfl | contradiction | exact .inr (.inl (by kernel_rfl))) ?_; conv => whnf))
  refine r_step (p_appl (xs := []) (ys := w.queue) (f := evtA) (by have := (watB_of hb).2; simp; omega) rfl rfl rfl rfl rfl rfl) rfl rfl (fun e => by first | exact .inl rfl | contradiction | exact .inr (.inl (by kernel_rfl))) ?_
  conv => whnf
  repeat (first | ((first | refine qb rfl rfl ?_ | refine qi (by assumption) rfl rfl ?_ | refine ql rfl ?_ | refine qo rfl rfl ?_ | refine qs rfl rfl ?_ | refine qn rfl rfl ?_); conv => whnf) | (refine r_step (p_ostore rfl rfl rfl rfl rfl (by conv => lhs; whnf) rfl) rfl rfl (fun e => by first | exact .inl rfl | contradiction | exact .inr (.inl (by kernel_rfl))) ?_; conv => whnf) | (refine r_step (p_ostoref rfl rfl rfl rfl rfl rfl rfl rfl) rfl rfl (fun e => by first | exact .inl rfl | contradiction | exact .inr (.inl (by kernel_rfl))) ?_; conv => whnf))
  exact r_cov rfl rfl rfl rfl rfl rfl rfl
end Go.Proofs.Ytjhimcddgkoghab.AM
/- Events and watches marked and held. -/
namespace Go.Proofs.Ytjhimcddgkoghab.AM
open Go Go.RowKit
set_option linter.unusedVariables false
set_option linter.unusedSimpArgs false
set_option maxRecDepth 100000
attribute [local irreducible] ACode AOps AOps2 RetG RetM Pre ACG
end Go.Proofs.Ytjhimcddgkoghab.AM
/- The laws of NextEvent, DrainWatch and NoteRef. -/
namespace Go.Proofs.Ytjhimcddgkoghab.AM
open Go Go.RowKit
set_option linter.unusedVariables false
set_option linter.unusedSimpArgs false
set_option maxRecDepth 100000
attribute [local irreducible] ACode AOps AOps2 RetG RetM Pre ACG
end Go.Proofs.Ytjhimcddgkoghab.AM
namespace Go.Proofs.Ytjhimcddgkoghab.AM
open Go Go.RowKit
set_option linter.unusedVariables false
set_option linter.unusedSimpArgs false
set_option maxRecDepth 100000
/-- one step of the draw of a watch -/
def watStep (c : List UInt8) (s : Src) (w : Wat) : Wat × Src :=
  if (nextS c (nextS c s 9).2 4).1 = 3 then (⟨(noteW w ⟨w.name, ((nextS c s 9).1 : Int), w.seen + 1, false⟩).name, (noteW w ⟨w.name, ((nextS c s 9).1 : Int), w.seen + 1, false⟩).seen, (noteW w ⟨w.name, ((nextS c s 9).1 : Int), w.seen + 1, false⟩).queue.drop 1⟩, (nextS c (nextS c s 9).2 4).2)
  else (noteW w ⟨w.name, ((nextS c s 9).1 : Int), w.seen + 1, false⟩, (nextS c (nextS c s 9).2 4).2)
theorem watStep_ok {c : List UInt8} {s : Src} {w : Wat} {K : Nat} (h : s.ok K) (hw : watB w = true) (hs : w.seen ≤ 1000) : (watStep c s w).2.ok (K + 2) ∧ watB (watStep c s w).1 = true ∧ (watStep c s w).1.name = w.name ∧ (watStep c s w).1.seen = w.seen + 1 := by
  obtain ⟨h1, h2⟩ := nextS_ok (c := c) (n := 9) h (by omega)
  obtain ⟨h3, h4⟩ := nextS_ok (c := c) (n := 4) h1 (by omega)
  have hn := watB_note (r := ⟨w.name, ((nextS c s 9).1 : Int), w.seen + 1, false⟩) hw rfl (by show w.seen + 1 ≤ 1000000; omega) (by show (0 : Int) ≤ ((nextS c s 9).1 : Int); omega) (by show ((nextS c s 9).1 : Int) ≤ 60; omega)
  unfold watStep
  split
  · exact ⟨h3, watB_drop hn, rfl, rfl⟩
  · exact ⟨h3, hn, rfl, rfl⟩
def watL (c : List UInt8) : Nat → Src → Wat → Wat × Src
  | 0, s, w => (w, s)
  | n + 1, s, w => watL c n (watStep c s w).2 (watStep c s w).1
theorem watL_ok {c : List UInt8} : ∀ (n : Nat) (s : Src) (w : Wat) (K : Nat), s.ok K → watB w = true → w.seen + n ≤ 1000 → (watL c n s w).2.ok (K + 2 * n) ∧ watB (watL c n s w).1 = true ∧ (watL c n s w).1.name = w.name ∧ (watL c n s w).1.seen = w.seen + n
  | 0, s, w, K, h, hw, hs => ⟨h, hw, rfl, by simp [watL]⟩
  | n + 1, s, w, K, h, hw, hs => by
    obtain ⟨a1, a2, a3, a4⟩ := watStep_ok (c := c) h hw (by omega)
    obtain ⟨b1, b2, b3, b4⟩ := watL_ok (c := c) n _ _ (K + 2) a1 a2 (by rw [a4]; omega)
    refine ⟨b1.le (by omega), b2, b3.trans a3, ?_⟩
    show (watL c n _ _).1.seen = _
    rw [b4, a4]; omega
noncomputable def watS (c : List UInt8) (s : Src) : Wat × Src := watL c (nextS c (nextS c (pickS c s names4).2 4).2 8).1 (nextS c (nextS c (pickS c s names4).2 4).2 8).2 ⟨(pickS c s names4).1, ((nextS c (pickS c s names4).2 4).1 : Int), []⟩
theorem watB_empty {x : ByteArray} {v : Int} (hx : okN x = true) (h0 : 0 ≤ v) (h1 : v ≤ 1000000) : watB ⟨x, v, []⟩ = true := (watB_iff _).2 ⟨hx, ⟨h0, h1⟩, .inl rfl⟩
theorem watS_ok {c : List UInt8} {s : Src} {K : Nat} (h : s.ok K) : (watS c s).2.ok (K + 20) ∧ watB (watS c s).1 = true ∧ (watS c s).1.seen ≤ 10 ∧ (watS c s).1.name.size ≤ 12 := by
  obtain ⟨h1, n1⟩ := pickS_ok (c := c) (l := names4) h (by decide)
  obtain ⟨h2, n2⟩ := nextS_ok (c := c) (n := 4) h1 (by omega)
  obtain ⟨h3, n3⟩ := nextS_ok (c := c) (n := 8) h2 (by omega)
  obtain ⟨k1, k2⟩ := names4_ok n1
  obtain ⟨a1, a2, a3, a4⟩ := watL_ok (c := c) (nextS c (nextS c (pickS c s names4).2 4).2 8).1 _ ⟨(pickS c s names4).1, ((nextS c (pickS c s names4).2 4).1 : Int), []⟩ _ h3 (watB_empty k1 (by omega) (by omega)) (by show ((nextS c (pickS c s names4).2 4).1 : Int) + _ ≤ 1000; omega)
  refine ⟨a1.le (by omega), a2, ?_, ?_⟩
  · show (watL c _ _ _).1.seen ≤ 10
    rw [a4]; show ((nextS c (pickS c s names4).2 4).1 : Int) + _ ≤ 10; omega
  · show (watL c _ _ _).1.name.size ≤ 12
    rw [a3]; exact k2
section
variable {P : Program} {Θ : Tab} {s : St} {ty : TypeId} {pos : String} {after : Array Edge} {g : Option (Nat × Bool)}
/-- a call that is handed one row by its pointer, and a plain value -/
theorem sft_callg0 {f : FuncId} {ts : Array TypeId} {t a l : Nat} {c v : Value} {ri ro : OB} (hac : ACG P f [.optr 0 0 [] 0, .v c] [ri] [ro] ⟨.v v, []⟩) (hx : s.sl a = .optr l 0 [] 0) (ho : s.hp l = some ri) (hsz : ro.sz = ri.sz) (hri : ri.e.shut = true) (hro : ro.e.shut = true) (hc : c.oneCell' = true) :
    Sft P Θ ⟨some t, .call ⟨.value (.func f), #[.tmp a, .const c], ts⟩, ty, pos, after, g⟩ s (.v v) [] [(l, some ro)] := by
  have hsub : ∀ o : OB, o.e.shut = true → subO [l] o = o := fun o h => by
    obtain ⟨e, sz, xs⟩ := o
    cases e <;> first | rfl | cases h
  have hwi : ∀ o : OB, o.e.shut = true → ∀ p, withinE p o.e = true := fun o h p => by
    obtain ⟨e, sz, xs⟩ := o
    cases e <;> first | rfl | cases h
  refine ⟨fun s' h1 h2 => ⟨⟨.v v, some fun s => setObs (t + 1) 0 [] (setHanded [l] [l] [ro] s)⟩, ?_, fun K hK => .done ?_⟩, fun m o h => ?_, fun l hl => (by cases hl), fun m hl => by simp [AV.names] at hl, fun m ⟨o, hl⟩ => ?_, fun m o ⟨o', hl⟩ hm => ?_⟩
  · have ea : s'.ev (.tmp a) = .optr l 0 [] 0 := (h1 (.tmp a) (by simp [Op.operands, Call.operands])).trans hx
    have ho' : s'.hp l = some ri := (h2 l (.inl (in1 _ _))).1.trans ho
    have e2 : (([] : List AV) ++ [Operand.tmp a, .const c].map s'.ev ++ []) = [.optr l 0 [] 0, .v c] := by show [s'.sl a, AV.v c] = _; rw [show s'.sl a = .optr l 0 [] 0 from ea]
    refine p_callg (x := .func f) (xs := []) (ys := []) (out := ⟨.v v, []⟩) [l] hac rfl ?_ ⟨ho'.trans (congrArg some (hsub ri hri).symm), trivial⟩ rfl (by simp [hsz]) trivial ?_ ?_ ?_ (.inl ?_) (by simp [csOK, cOK, hc])
    · show s'.datHL [l] ([] ++ [Operand.tmp a, .const c].map s'.ev ++ []) = _
      rw [e2]
      simp [St.datHL, St.datH, subAL, mapAL, mapA, subl]
    · show argsH s' [l] ([] ++ [Operand.tmp a, .const c].map s'.ev ++ []) = true
      rw [e2]; simp [argsH, argH, isDataA, hc]
    · simp [withinL, AV.within, rowsF]
    · simp [hwi ri hri, hwi ro hro]
    · show (readsL [l] (ownsAL ([] ++ [Operand.tmp a, .const c].map s'.ev ++ []))).isEmpty = true
      rw [e2]; simp [ownsAL, ownsA, readsL]
  · have e3 : setObs (t + 1) 0 [] (setHanded [l] [l] [ro] s') = shp [] [(l, some ro)] s' := by
      show s'.set l (some (subO [l] ro)) = _
      rw [hsub ro hro]
      exact shp_set _ _ _
    rw [app_some, e3]; exact hK
  · obtain ⟨_, e⟩ := nu1 h; cases e; exact hro
  · obtain ⟨rfl, _⟩ := nu1 hl
    exact .inr ⟨a, mem_tmps (by simp [Op.operands, Call.operands]), by rw [hx]; simp [AV.names]⟩
  · obtain ⟨rfl, _⟩ := nu1 hl
    rw [ho] at hm; cases hm; exact hri
/-- a watch is the result, a row stays handed -/
theorem r_watG {a l L : Nat} {ob o0 : OB} {t' : Option Nat} {w : Wat} {q : OB} {t : Nat} (h0 : s.hp 0 = some o0) (h1 : s.sl a = .optr l 0 [] 0) (ho : s.hp l = some ob) (hop : ob.e.open_ = false) (hoe : openE ob.e ob.xs 0 = some (.o t' 0 (watO w L))) (hq : s.hp L = some q) (hk : ((Θ.look t).known && (Θ.look t).isAgg && Nat.beq 3 (Θ.look t).size) = true) (hok : okL L = true := by rfl) (hsh : q.e.shut = true := by rfl) :
    RetG Θ [.cell a t] [o0] ⟨watO w 0, [q]⟩ .ret s := by
  obtain ⟨c1, c2⟩ := cellO (Θ := Θ) (t := t) h1 ho hop hoe rfl hk
  exact ⟨⟨h0, trivial⟩, [L], by simp, ⟨⟨hq, hok, hsh⟩, trivial⟩, ⟨c2, trivial⟩, trivial, ⟨by rw [c1]; exact retA_watO rfl rfl, trivial⟩⟩
end
attribute [local irreducible] ACode AOps AOps2 RetG RetM Pre ACG
set_option maxHeartbeats 8000000 in
theorem ac_watch {c : List UInt8} {s : Src} {K : Nat} (hc : c.length ≤ maxLen) (hs : s.ok K) (hK : K ≤ 900000000) : ACG Try.prog 20 [.optr 0 0 [] 0] [srcO c s] [srcO c (watS c s).2] ⟨watO (watS c s).1 0, [evtO (watS c s).1.queue]⟩ := by
  obtain ⟨h1, n1⟩ := pickS_ok (c := c) (l := names4) hs (by decide)
  obtain ⟨h2, n2⟩ := nextS_ok (c := c) (n := 4) h1 (by omega)
  obtain ⟨h3, n3⟩ := nextS_ok (c := c) (n := 8) h2 (by omega)
  obtain ⟨k1, k2⟩ := names4_ok n1
  have a1 := ac_branch (c := c) hc hs (by omega)
  have a2 := ac_next (n := 4) hc h1 (by omega) (by omega)
  have a3 := ac_next (n := 8) hc h2 (by omega) (by omega)
  have hS : watS c s = watL c (nextS c (nextS c (pickS c s names4).2 4).2 8).1 (nextS c (nextS c (pickS c s names4).2 4).2 8).2 ⟨(pickS c s names4).1, ((nextS c (pickS c s names4).2 4).1 : Int), []⟩ := rfl
  have hw0 : watB ⟨(pickS c s names4).1, ((nextS c (pickS c s names4).2 4).1 : Int), []⟩ = true := watB_empty k1 (by omega) (by omega)
  refine acg_of (rs := [.cell 2 25]) Th_ok (by kernel_rfl) Try.func20 rfl Try.ntmps20 (by rw [Try.results20]) (by kernel_rfl) (by simp) rfl rfl (runC_sound _ _ _ ?_)
  conv => whnf
  repeat (first | (refine r_step (p_callg [0] (a1) rfl rfl (by first | exact ⟨rfl, trivial⟩ | exact ⟨rfl, rfl, trivial⟩ | exact ⟨rfl, rfl, rfl, trivial⟩) rfl rfl (by first | exact trivial | exact ⟨⟨rfl, rfl, rfl⟩, trivial⟩ | exact ⟨⟨rfl, rfl, rfl⟩, ⟨rfl, rfl, rfl⟩, trivial⟩ | exact ⟨⟨rfl, rfl, rfl⟩, ⟨rfl, rfl, rfl⟩, ⟨rfl, rfl, rfl⟩, trivial⟩) rfl rfl rfl (.inl rfl) rfl) rfl rfl (fun e => by first | exact .inl rfl | contradiction | exact .inr (.inl (by kernel_rfl))) ?_; conv => whnf) | (refine r_step (p_callg [0] (a2) rfl rfl (by first | exact ⟨rfl, trivial⟩ | exact ⟨rfl, rfl, trivial⟩ | exact ⟨rfl, rfl, rfl, trivial⟩) rfl rfl (by first | exact trivial | exact ⟨⟨rfl, rfl, rfl⟩, trivial⟩ | exact ⟨⟨rfl, rfl, rfl⟩, ⟨rfl, rfl, rfl⟩, trivial⟩ | exact ⟨⟨rfl, rfl, rfl⟩, ⟨rfl, rfl, rfl⟩, ⟨rfl, rfl, rfl⟩, trivial⟩) rfl rfl rfl (.inl rfl) rfl) rfl rfl (fun e => by first | exact .inl rfl | contradiction | exact .inr (.inl (by kernel_rfl))) ?_; conv => whnf) | ((first | refine qb rfl rfl ?_ | refine qi (by assumption) rfl rfl ?_ | refine ql rfl ?_ | refine qo rfl rfl ?_ | refine qs rfl rfl ?_ | refine qn rfl rfl ?_); conv => whnf))
  refine r_step (p_buildm rfl ⟨⟨_, _, rfl, rfl, rfl⟩, ⟨_, _, rfl, rfl, rfl⟩, ⟨_, _, rfl, rfl, rfl⟩, trivial⟩ rfl) rfl rfl (fun e => by first | exact .inl rfl | contradiction | exact .inr (.inl (by kernel_rfl))) ?_
  conv => whnf
  refine r_gh (p_ostoreo rfl rfl rfl rfl rfl rfl) rfl rfl (fun e => by cases e) (Gh.foldr 4 10 [2] rfl rfl rfl rfl rfl rfl (Gh.shuts 4 rfl rfl (Gh.done ?_)))
  conv => whnf
  (refine r_step (p_callg [0] (a3) rfl rfl (by first | exact ⟨rfl, trivial⟩ | exact ⟨rfl, rfl, trivial⟩ | exact ⟨rfl, rfl, rfl, trivial⟩) rfl rfl (by first | exact trivial | exact ⟨⟨rfl, rfl, rfl⟩, trivial⟩ | exact ⟨⟨rfl, rfl, rfl⟩, ⟨rfl, rfl, rfl⟩, trivial⟩ | exact ⟨⟨rfl, rfl, rfl⟩, ⟨rfl, rfl, rfl⟩, ⟨rfl, rfl, rfl⟩, trivial⟩) rfl rfl rfl (.inl rfl) rfl) rfl rfl (fun e => by first | exact .inl rfl | contradiction | exact .inr (.inl (by kernel_rfl))) ?_; conv => whnf)
  generalize watS c s = Z at hS ⊢
  generalize (pickS c s names4).1 = nm at *
  generalize (nextS c (pickS c s names4).2 4).1 = sn at *
  generalize (nextS c (nextS c (pickS c s names4).2 4).2 8).2 = s1 at *
  generalize (nextS c (nextS c (pickS c s names4).2 4).2 8).1 = n0 at *
  refine r_loop (ι := { p : Nat × Src × Wat // p.2.1.ok (K + 3 + 2 * (7 - p.1)) ∧ p.1 ≤ 7 ∧ watB p.2.2 = true ∧ p.2.2.seen + p.1 ≤ 10 ∧ Z = watL c p.1 p.2.1 p.2.2 }) (fun p => ⟨[(0, .optr 0 0 [] 0), (2, .optr 3 0 [] 0), (3, .optr 4 0 [] 0), (4, .v (.int .i64 (p.1.1 : Int)))], [(0, srcO c p.1.2.1), (3, ⟨.z 25, 3, [watA watZ]⟩), (4, ⟨.s 25, 3, [watA p.1.2.2]⟩)]⟩) (fun p => p.1.1) ⟨(n0, s1, ⟨nm, (sn : Int), []⟩), h3.le (by omega), by omega, hw0, by show (sn : Int) + n0 ≤ 10; omega, hS⟩ (by refine ⟨?_, ?_⟩ <;> (repeat (first | trivial | exact ⟨rfl, trivial⟩ | refine ⟨rfl, ?_⟩ | refine ⟨.inl ⟨rfl, rfl⟩, ?_⟩ | refine ⟨.inr ⟨_, _, rfl, rfl, rfl, rfl, rfl⟩, ?_⟩))) ?_
  rintro ⟨⟨n, s2, w⟩, g1, g2, g3, g4, g5⟩
  dsimp only at g1 g2 g3 g4 g5 ⊢
  conv => whnf
  cases n with
  | zero =>
    have g6 : Z = (w, s2) := g5
    subst g6
    have hq4 := (watB_of g3).2
    have b1 := ac_l06Own (w := w) (by omega)
    repeat (first | ((first | refine qb rfl rfl ?_ | refine qi (by assumption) rfl rfl ?_ | refine ql rfl ?_ | refine qo rfl rfl ?_ | refine qs rfl rfl ?_ | refine qn rfl rfl ?_); conv => whnf) | (refine qc (b1) rfl ?_; conv => whnf))
    refine r_step (p_ostoreo rfl rfl rfl rfl rfl rfl) rfl rfl (fun e => by first | exact .inl rfl | contradiction | exact .inr (.inl (by kernel_rfl))) ?_
    conv => whnf
    exact r_watG rfl rfl rfl rfl rfl rfl rfl
  | succ n =>
    obtain ⟨p1, p2⟩ := nextS_ok (c := c) (n := 9) g1 (by omega)
    obtain ⟨q1, q2⟩ := nextS_ok (c := c) (n := 4) p1 (by omega)
    have hs0 := ((watB_iff w).1 g3).2.1
    obtain ⟨u1, u2, u3, u4⟩ := watStep_ok (c := c) g1 g3 (by omega)
    have hst : watL c (n + 1) s2 w = watL c n (watStep c s2 w).2 (watStep c s2 w).1 := rfl
    rw [hst] at g5
    have hone : watStep c s2 w = if (nextS c (nextS c s2 9).2 4).1 = 3 then (⟨(noteW w ⟨w.name, ((nextS c s2 9).1 : Int), w.seen + 1, false⟩).name, (noteW w ⟨w.name, ((nextS c s2 9).1 : Int), w.seen + 1, false⟩).seen, (noteW w ⟨w.name, ((nextS c s2 9).1 : Int), w.seen + 1, false⟩).queue.drop 1⟩, (nextS c (nextS c s2 9).2 4).2) else (noteW w ⟨w.name, ((nextS c s2 9).1 : Int), w.seen + 1, false⟩, (nextS c (nextS c s2 9).2 4).2) := rfl
    have b1 := ac_next (n := 9) hc g1 (by omega) (by omega)
    have b2 := ac_chance (n := 4) hc p1 (by omega) (by omega) (by omega)
    have hq4 := (watB_of g3).2
    have b3 := ac_l06Note (w := w) (r := ⟨w.name, ((nextS c s2 9).1 : Int), w.seen + 1, false⟩) hq4
    have hql : 1 ≤ (noteW w ⟨w.name, ((nextS c s2 9).1 : Int), w.seen + 1, false⟩).queue.length := by
      show 1 ≤ (addE _ _).length
      unfold addE; split <;> simp
    generalize watStep c s2 w = one at *
    generalize nextS c s2 9 = pp at *
    obtain ⟨hd, sp⟩ := pp
    dsimp only at *
    generalize nextS c sp 4 = qq at *
    obtain ⟨k, sq⟩ := qq
    dsimp only at *
    generalize hw1 : noteW w ⟨w.name, (hd : Int), w.seen + 1, false⟩ = w1 at *
    have hnm : w1.seen = w.seen + 1 := by rw [← hw1]; rfl
    repeat (((first | refine qb rfl rfl ?_ | refine qi (by assumption) rfl rfl ?_ | refine ql rfl ?_ | refine qo rfl rfl ?_ | refine qs rfl rfl ?_ | refine qn rfl rfl ?_); conv => whnf))
    refine .inr ⟨by kernel_rfl, prodB_ok (by kernel_rfl), ?_⟩
    refine o2_calm (p_old rfl rfl rfl rfl rfl rfl rfl) rfl rfl rfl (.inr rfl) (by kernel_rfl) ?_
    refine o2_calm (p_ofld rfl rfl rfl) rfl rfl rfl (.inl rfl) (by kernel_rfl) ?_
    refine o2_calm (p_old rfl rfl rfl rfl rfl rfl rfl) rfl rfl rfl (.inr rfl) (by kernel_rfl) ?_
    refine o2_calm (p_ofld rfl rfl rfl) rfl rfl rfl (.inl rfl) (by kernel_rfl) ?_
    refine o2_calm (p_old rfl rfl rfl rfl rfl rfl rfl) rfl rfl rfl (.inr rfl) (by kernel_rfl) ?_
    refine o2_calm (p_bin (b_add (c := w.seen + 1) (by omega) (by omega) (by omega)) rfl rfl rfl) rfl rfl rfl (.inl rfl) (by kernel_rfl) ?_
    refine o2_calm (p_mv rfl) rfl rfl rfl (.inl rfl) (by kernel_rfl) ?_
    refine o2_sft (sft_callg0 b1 rfl rfl rfl rfl rfl rfl) in_o1 rfl rfl (by kernel_rfl) ?_
    refine o2_sft (sft_bld rfl ⟨⟨_, rfl, rfl⟩, rfl, ⟨_, rfl, rfl⟩, rfl, ⟨_, rfl, rfl⟩, rfl, trivial⟩ rfl rfl rfl) in_o0 rfl rfl (by kernel_rfl) ?_
    refine o2_sft (sft_call b3 rfl rfl rfl trivial rfl rfl rfl) in_nuO rfl rfl (by kernel_rfl) ?_
    refine o2_tied (p_ostore rfl rfl rfl rfl rfl (by conv => lhs; whnf) rfl) rfl rfl (by kernel_rfl) ?_
    refine o2_nil ?_
    conv => whnf
    repeat (first | (refine r_step (p_callg [0] (b2) rfl rfl (by first | exact ⟨rfl, trivial⟩ | exact ⟨rfl, rfl, trivial⟩ | exact ⟨rfl, rfl, rfl, trivial⟩) rfl rfl (by first | exact trivial | exact ⟨⟨rfl, rfl, rfl⟩, trivial⟩ | exact ⟨⟨rfl, rfl, rfl⟩, ⟨rfl, rfl, rfl⟩, trivial⟩ | exact ⟨⟨rfl, rfl, rfl⟩, ⟨rfl, rfl, rfl⟩, ⟨rfl, rfl, rfl⟩, trivial⟩) rfl rfl rfl (.inl rfl) rfl) rfl rfl (fun e => by first | exact .inl rfl | contradiction | exact .inr (.inl (by kernel_rfl))) ?_; conv => whnf) | ((first | refine qb rfl rfl ?_ | refine qi (by assumption) rfl rfl ?_ | refine ql rfl ?_ | refine qo rfl rfl ?_ | refine qs rfl rfl ?_ | refine qn rfl rfl ?_); conv => whnf))
    by_cases hk3 : k = 3
    · rw [if_pos hk3] at hone
      rw [decide_eq_true (by omega)]
      subst hone
      dsimp only at *
      conv => whnf
      refine r_put (p_ldrm (f := evtA) (xs := w1.queue) (h := 1) hql rfl rfl rfl) rfl rfl ?_
      conv => whnf
      repeat (first | (refine r_step (p_ostore rfl rfl rfl rfl rfl (by conv => lhs; whnf) rfl) rfl rfl (fun e => by first | exact .inl rfl | contradiction | exact .inr (.inl (by kernel_rfl))) ?_; conv => whnf) | (refine r_put (p_bin (b_sub (c := (n : Int)) (by omega) (by omega) (by omega)) rfl rfl rfl) rfl rfl ?_; conv => whnf) | ((first | refine qb rfl rfl ?_ | refine qi (by assumption) rfl rfl ?_ | refine ql rfl ?_ | refine qo rfl rfl ?_ | refine qs rfl rfl ?_ | refine qn rfl rfl ?_); conv => whnf))
      exact ⟨⟨(n, sq, ⟨w1.name, w1.seen, w1.queue.drop 1⟩), u1.le (by omega), by omega, u2, by show w1.seen + n ≤ 10; omega, g5⟩, by refine ⟨?_, ?_⟩ <;> (repeat (first | trivial | exact ⟨rfl, trivial⟩ | refine ⟨rfl, ?_⟩ | refine ⟨.inl ⟨rfl, rfl⟩, ?_⟩ | refine ⟨.inr ⟨_, _, rfl, rfl, rfl, rfl, rfl⟩, ?_⟩)), by simp⟩
    · rw [if_neg hk3] at hone
      rw [decide_eq_false (by omega)]
      subst hone
      dsimp only at *
      conv => whnf
      repeat (first | (refine r_put (p_bin (b_sub (c := (n : Int)) (by omega) (by omega) (by omega)) rfl rfl rfl) rfl rfl ?_; conv => whnf) | ((first | refine qb rfl rfl ?_ | refine qi (by assumption) rfl rfl ?_ | refine ql rfl ?_ | refine qo rfl rfl ?_ | refine qs rfl rfl ?_ | refine qn rfl rfl ?_); conv => whnf))
      exact ⟨⟨(n, sq, w1), u1.le (by omega), by omega, u2, by show w1.seen + n ≤ 10; omega, g5⟩, by refine ⟨?_, ?_⟩ <;> (repeat (first | trivial | exact ⟨rfl, trivial⟩ | refine ⟨rfl, ?_⟩ | refine ⟨.inl ⟨rfl, rfl⟩, ?_⟩ | refine ⟨.inr ⟨_, _, rfl, rfl, rfl, rfl, rfl⟩, ?_⟩)), by simp⟩
noncomputable def watD (c : List UInt8) : Wat := (watS c (src0 c)).1
theorem watD_ok (c : List UInt8) : watB (watD c) = true ∧ (watD c).seen ≤ 10 ∧ (watD c).name.size ≤ 12 := (watS_ok (src0_ok c)).2
theorem ac_WatchDrawn {c : List UInt8} (hc : c.length ≤ maxLen) : AC Try.prog 4 [.lst 1 (c.map bytA)] ⟨watO (watD c) 0, [evtO (watD c).queue]⟩ := by
  have h1 := ac_source hc
  have h2 := ac_watch hc (src0_ok c) (by omega)
  unfold watD
  refine r_of Th_ok (by kernel_rfl) Try.func4 rfl Try.ntmps4 Try.results4 (by kernel_rfl) rfl ?_; conv => whnf
  repeat (first | ((first | refine qb rfl rfl ?_ | refine qi (by assumption) rfl rfl ?_ | refine ql rfl ?_ | refine qo rfl rfl ?_ | refine qs rfl rfl ?_ | refine qn rfl rfl ?_); conv => whnf) | (refine qf (h1) rfl ?_; conv => whnf))
  (refine r_step (p_callg [5] (h2) rfl rfl (by first | exact ⟨rfl, trivial⟩ | exact ⟨rfl, rfl, trivial⟩ | exact ⟨rfl, rfl, rfl, trivial⟩) rfl rfl (by first | exact trivial | exact ⟨⟨rfl, rfl, rfl⟩, trivial⟩ | exact ⟨⟨rfl, rfl, rfl⟩, ⟨rfl, rfl, rfl⟩, trivial⟩ | exact ⟨⟨rfl, rfl, rfl⟩, ⟨rfl, rfl, rfl⟩, ⟨rfl, rfl, rfl⟩, trivial⟩) rfl rfl rfl (.inl rfl) rfl) rfl rfl (fun e => by first | exact .inl rfl | contradiction | exact .inr (.inl (by kernel_rfl))) ?_; conv => whnf)
  refine r_step (p_ostoreo rfl rfl rfl rfl rfl rfl) rfl rfl (fun e => by first | exact .inl rfl | contradiction | exact .inr (.inl (by kernel_rfl))) ?_
  conv => whnf
  exact r_wat rfl rfl rfl rfl rfl rfl
end Go.Proofs.Ytjhimcddgkoghab.AM
namespace Go.Proofs.Ytjhimcddgkoghab.AM
open Go Go.RowKit
set_option linter.unusedVariables false
set_option linter.unusedSimpArgs false
set_option maxRecDepth 100000
/-- what NoteRef answers for a valid watch and ref -/
noncomputable def noteR (w : Wat) (r : Rf) : Wat × Int := if r.name = w.name then (if r.ver = w.seen + 1 then (noteW w r, 0) else (w, 16)) else (w, 10)
theorem addE_len {l : List Evt} {e : Evt} (h : l.length ≤ 4) : (addE l e).length ≤ 4 := by
  unfold addE
  split <;> simp <;> omega
theorem refsB_one {r : Rf} : refsB [r] = refB r := by
  cases h : refB r with
  | false => exact refsB_f fun ⟨_, h2⟩ => by obtain ⟨_, h3, _⟩ := h2 0 (by simp); simp [h] at h3
  | true => exact refsB_t ⟨by simp, fun i hi => by
      have : i = 0 := by simpa using hi
      subst this
      exact ⟨by simp, by simpa using h, by simp [rAt]⟩⟩
attribute [local irreducible] ACode AOps AOps2 RetG RetM Pre ACG
theorem ac_iNote {w : Wat} {r : Rf} (hw : w.ok maxLen) (hr : r.name.size ≤ maxLen) (hb : watB w = true) (hb2 : refB r = true) : AC Try.prog 9 [watA w, refA r] ⟨.tup [watO (noteR w r).1 0, .v (.int .i64 (noteR w r).2)], [evtO (noteR w r).1.queue]⟩ := by
  have h1 := ac_iWatchOK hw
  have h2 := ac_refOK hr
  rw [hb] at h1
  rw [hb2] at h2
  obtain ⟨hs, h4⟩ := watB_of hb
  have h3 := ac_newPending h4
  refine ac_watM2 ?_
  unfold noteR
  by_cases hn : r.name = w.name
  case neg =>
    rw [if_neg hn]
    have h5 := ac_takeAll h4
    refine r_of Th_ok (by kernel_rfl) Try.func9 rfl Try.ntmps9 Try.results9 (by kernel_rfl) rfl ?_; conv => whnf
    refine r_step (p_boxo rfl rfl rfl) rfl rfl (fun e => by first | exact .inl rfl | contradiction | exact .inr (.inl (by kernel_rfl))) ?_
    conv => whnf
    repeat (first | (refine r_put (p_bin (b_sne_t hn) rfl rfl rfl) rfl rfl ?_; conv => whnf) | ((first | refine qb rfl rfl ?_ | refine qi (by assumption) rfl rfl ?_ | refine ql rfl ?_ | refine qo rfl rfl ?_ | refine qs rfl rfl ?_ | refine qn rfl rfl ?_); conv => whnf) | (refine qc (h1) rfl ?_; conv => whnf) | (refine qc (h2) rfl ?_; conv => whnf) | (refine qc (h3) rfl ?_; conv => whnf))
    refine r_step (p_callg [20] h5 rfl rfl ⟨rfl, trivial⟩ rfl rfl ⟨⟨rfl, rfl, rfl⟩, trivial⟩ rfl rfl rfl (.inl rfl) rfl) rfl rfl (fun e => by first | exact .inl rfl | contradiction | exact .inr (.inl (by kernel_rfl))) ?_
    conv => whnf
    repeat (first | ((first | refine qb rfl rfl ?_ | refine qi (by assumption) rfl rfl ?_ | refine ql rfl ?_ | refine qo rfl rfl ?_ | refine qs rfl rfl ?_ | refine qn rfl rfl ?_); conv => whnf) | (refine r_step (p_ostoreo rfl rfl rfl rfl rfl rfl) rfl rfl (fun e => by first | exact .inl rfl | contradiction | exact .inr (.inl (by kernel_rfl))) ?_; conv => whnf))
    exact r_watV rfl rfl rfl rfl rfl rfl rfl
  rw [if_pos hn]
  by_cases hv : r.ver = w.seen + 1
  case neg =>
    rw [if_neg hv]
    have h5 := ac_takeAll h4
    refine r_of Th_ok (by kernel_rfl) Try.func9 rfl Try.ntmps9 Try.results9 (by kernel_rfl) rfl ?_; conv => whnf
    refine r_step (p_boxo rfl rfl rfl) rfl rfl (fun e => by first | exact .inl rfl | contradiction | exact .inr (.inl (by kernel_rfl))) ?_
    conv => whnf
    repeat (first | (refine r_put (p_bin (b_sne_f hn) rfl rfl rfl) rfl rfl ?_; conv => whnf) | ((first | refine qb rfl rfl ?_ | refine qi (by assumption) rfl rfl ?_ | refine ql rfl ?_ | refine qo rfl rfl ?_ | refine qs rfl rfl ?_ | refine qn rfl rfl ?_); conv => whnf) | (refine qc (h1) rfl ?_; conv => whnf) | (refine qc (h2) rfl ?_; conv => whnf) | (refine qc (h3) rfl ?_; conv => whnf) | (refine r_put (p_bin (b_add (c := w.seen + 1) (by omega) (by omega) (by omega)) rfl rfl rfl) rfl rfl ?_; conv => whnf))
    refine r_step (p_callg [20] h5 rfl rfl ⟨rfl, trivial⟩ rfl rfl ⟨⟨rfl, rfl, rfl⟩, trivial⟩ rfl rfl rfl (.inl rfl) rfl) rfl rfl (fun e => by first | exact .inl rfl | contradiction | exact .inr (.inl (by kernel_rfl))) ?_
    conv => whnf
    repeat (first | ((first | refine qb rfl rfl ?_ | refine qi (by assumption) rfl rfl ?_ | refine ql rfl ?_ | refine qo rfl rfl ?_ | refine qs rfl rfl ?_ | refine qn rfl rfl ?_); conv => whnf) | (refine r_step (p_ostoreo rfl rfl rfl rfl rfl rfl) rfl rfl (fun e => by first | exact .inl rfl | contradiction | exact .inr (.inl (by kernel_rfl))) ?_; conv => whnf))
    exact r_watV rfl rfl rfl rfl rfl rfl rfl
  rw [if_pos hv]
  have h6 := ac_add (e := ⟨r.ver, r.head, false⟩) h4
  have h5 := ac_takeAll (addE_len (e := ⟨r.ver, r.head, false⟩) h4)
  refine r_of Th_ok (by kernel_rfl) Try.func9 rfl Try.ntmps9 Try.results9 (by kernel_rfl) rfl ?_; conv => whnf
  refine r_step (p_boxo rfl rfl rfl) rfl rfl (fun e => by first | exact .inl rfl | contradiction | exact .inr (.inl (by kernel_rfl))) ?_
  conv => whnf
  repeat (first | (refine r_put (p_bin (b_sne_f hn) rfl rfl rfl) rfl rfl ?_; conv => whnf) | ((first | refine qb rfl rfl ?_ | refine qi (by assumption) rfl rfl ?_ | refine ql rfl ?_ | refine qo rfl rfl ?_ | refine qs rfl rfl ?_ | refine qn rfl rfl ?_); conv => whnf) | (refine qc (h1) rfl ?_; conv => whnf) | (refine qc (h2) rfl ?_; conv => whnf) | (refine qc (h3) rfl ?_; conv => whnf) | (refine r_put (p_bin (b_add (c := w.seen + 1) (by omega) (by omega) (by omega)) rfl rfl rfl) rfl rfl ?_; conv => whnf) | (refine r_step (p_ostore rfl rfl rfl rfl rfl (by conv => lhs; whnf) rfl) rfl rfl (fun e => by first | exact .inl rfl | contradiction | exact .inr (.inl (by kernel_rfl))) ?_; conv => whnf) | (refine r_step (p_ostoreo rfl rfl rfl rfl rfl rfl) rfl rfl (fun e => by first | exact .inl rfl | contradiction | exact .inr (.inl (by kernel_rfl))) ?_; conv => whnf))
  refine r_step (p_callg [20] h6 rfl rfl ⟨rfl, trivial⟩ rfl rfl trivial rfl rfl rfl (.inl rfl) rfl) rfl rfl (fun e => by first | exact .inl rfl | contradiction | exact .inr (.inl (by kernel_rfl))) ?_
  conv => whnf
  repeat (first | ((first | refine qb rfl rfl ?_ | refine qi (by assumption) rfl rfl ?_ | refine ql rfl ?_ | refine qo rfl rfl ?_ | refine qs rfl rfl ?_ | refine qn rfl rfl ?_); conv => whnf) | (refine r_step (p_ostore rfl rfl rfl rfl rfl (by conv => lhs; whnf) rfl) rfl rfl (fun e => by first | exact .inl rfl | contradiction | exact .inr (.inl (by kernel_rfl))) ?_; conv => whnf) | (refine r_step (p_ostoreo rfl rfl rfl rfl rfl rfl) rfl rfl (fun e => by first | exact .inl rfl | contradiction | exact .inr (.inl (by kernel_rfl))) ?_; conv => whnf))
  refine r_step (p_callg [20] h5 rfl rfl ⟨rfl, trivial⟩ rfl rfl ⟨⟨rfl, rfl, rfl⟩, trivial⟩ rfl rfl rfl (.inl rfl) rfl) rfl rfl (fun e => by first | exact .inl rfl | contradiction | exact .inr (.inl (by kernel_rfl))) ?_
  conv => whnf
  repeat (first | ((first | refine qb rfl rfl ?_ | refine qi (by assumption) rfl rfl ?_ | refine ql rfl ?_ | refine qo rfl rfl ?_ | refine qs rfl rfl ?_ | refine qn rfl rfl ?_); conv => whnf) | (refine r_step (p_ostoreo rfl rfl rfl rfl rfl rfl) rfl rfl (fun e => by first | exact .inl rfl | contradiction | exact .inr (.inl (by kernel_rfl))) ?_; conv => whnf))
  exact r_watV rfl rfl rfl rfl rfl rfl rfl
theorem ac_sNote {w : Wat} {r : Rf} (hw : w.ok maxLen) (hr : r.name.size ≤ maxLen) (hb : watB w = true) (hb2 : refB r = true) : AC Try.prog 10 [watA w, refA r] ⟨.tup [watO (noteR w r).1 0, .v (.int .i64 (noteR w r).2)], [evtO (noteR w r).1.queue]⟩ := by
  have h1 := ac_l06OK hw
  have h2 := ac_l04OK (l := [r]) (by simp [maxLen]) (by simpa using hr)
  rw [refsB_one] at h2
  rw [hb] at h1
  rw [hb2] at h2
  obtain ⟨hs, h4⟩ := watB_of hb
  have h3 := ac_l06Own (w := w) (by omega)
  unfold noteR
  by_cases hn : r.name = w.name
  case neg =>
    rw [if_neg hn]
    refine r_of Th_ok (by kernel_rfl) Try.func10 rfl Try.ntmps10 Try.results10 (by kernel_rfl) rfl ?_; conv => whnf
    repeat (first | (refine r_put (p_bin (b_sne_t hn) rfl rfl rfl) rfl rfl ?_; conv => whnf) | ((first | refine qb rfl rfl ?_ | refine qi (by assumption) rfl rfl ?_ | refine ql rfl ?_ | refine qo rfl rfl ?_ | refine qs rfl rfl ?_ | refine qn rfl rfl ?_); conv => whnf) | (refine qc (h1) rfl ?_; conv => whnf) | (refine qc (h2) rfl ?_; conv => whnf) | (refine qc (h3) rfl ?_; conv => whnf) | (refine r_step (p_ostoreo rfl rfl rfl rfl rfl rfl) rfl rfl (fun e => by first | exact .inl rfl | contradiction | exact .inr (.inl (by kernel_rfl))) ?_; conv => whnf))
    exact r_watV rfl rfl rfl rfl rfl rfl rfl
  rw [if_pos hn]
  by_cases hv : r.ver = w.seen + 1
  case neg =>
    rw [if_neg hv]
    refine r_of Th_ok (by kernel_rfl) Try.func10 rfl Try.ntmps10 Try.results10 (by kernel_rfl) rfl ?_; conv => whnf
    repeat (first | (refine r_put (p_bin (b_sne_f hn) rfl rfl rfl) rfl rfl ?_; conv => whnf) | (refine r_put (p_bin (b_add (c := w.seen + 1) (by omega) (by omega) (by omega)) rfl rfl rfl) rfl rfl ?_; conv => whnf) | ((first | refine qb rfl rfl ?_ | refine qi (by assumption) rfl rfl ?_ | refine ql rfl ?_ | refine qo rfl rfl ?_ | refine qs rfl rfl ?_ | refine qn rfl rfl ?_); conv => whnf) | (refine qc (h1) rfl ?_; conv => whnf) | (refine qc (h2) rfl ?_; conv => whnf) | (refine qc (h3) rfl ?_; conv => whnf) | (refine r_step (p_ostoreo rfl rfl rfl rfl rfl rfl) rfl rfl (fun e => by first | exact .inl rfl | contradiction | exact .inr (.inl (by kernel_rfl))) ?_; conv => whnf))
    exact r_watV rfl rfl rfl rfl rfl rfl rfl
  rw [if_pos hv]
  have h4' := ac_l06Note (r := r) h4
  have h5 := ac_l06Own (w := noteW w r) (by have := addE_len (e := ⟨r.ver, r.head, false⟩) h4; show (addE _ _).length ≤ _; omega)
  refine r_of Th_ok (by kernel_rfl) Try.func10 rfl Try.ntmps10 Try.results10 (by kernel_rfl) rfl ?_; conv => whnf
  repeat (first | (refine r_put (p_bin (b_sne_f hn) rfl rfl rfl) rfl rfl ?_; conv => whnf) | (refine r_put (p_bin (b_add (c := w.seen + 1) (by omega) (by omega) (by omega)) rfl rfl rfl) rfl rfl ?_; conv => whnf) | ((first | refine qb rfl rfl ?_ | refine qi (by assumption) rfl rfl ?_ | refine ql rfl ?_ | refine qo rfl rfl ?_ | refine qs rfl rfl ?_ | refine qn rfl rfl ?_); conv => whnf) | (refine qc (h1) rfl ?_; conv => whnf) | (refine qc (h2) rfl ?_; conv => whnf) | (refine qc (h4') rfl ?_; conv => whnf) | (refine qc (h5) rfl ?_; conv => whnf) | (refine r_step (p_ostoreo rfl rfl rfl rfl rfl rfl) rfl rfl (fun e => by first | exact .inl rfl | contradiction | exact .inr (.inl (by kernel_rfl))) ?_; conv => whnf))
  exact r_watV rfl rfl rfl rfl rfl rfl rfl
end Go.Proofs.Ytjhimcddgkoghab.AM
namespace Go.Proofs.Ytjhimcddgkoghab.AM
open Go Go.RowKit
set_option linter.unusedVariables false
set_option linter.unusedSimpArgs false
set_option maxRecDepth 100000
noncomputable def verAt (l : List Rf) (x : ByteArray) : Int := if 0 ≤ rAt l x 0 then (l.getD (rAt l x 0).toNat ⟨ByteArray.empty, 0, 0, false⟩).ver else 0
theorem verAt_no {l : List Rf} {x : ByteArray} (h : rAt l x 0 < 0) : verAt l x = 0 := by unfold verAt; rw [if_neg (by omega)]
theorem verAt_at {l : List Rf} {x : ByteArray} {j : Nat} (hj : j < l.length) (h : rAt l x 0 = (j : Int)) : verAt l x = l[j].ver := by
  unfold verAt
  rw [if_pos (by omega), h]
  simp [List.getD, hj]
attribute [local irreducible] ACode AOps AOps2 RetG RetM Pre ACG
theorem ac_iNew {l : List Rf} {x : ByteArray} (hm : l.length ≤ maxLen) (hk : nmOK maxLen l) (hx : x.size ≤ maxLen) (hc : askF l x = 0) (hn : okN x = true) : AC Try.prog 17 [.lst 4 (l.map refA), .v (.string x)] ⟨.tup [watA ⟨x, verAt l x, []⟩, .v (.int .i64 0)], []⟩ := by
  have h1 := ac_refsCode hm hk hx
  rw [hc] at h1
  have h2 := ac_placeOfRef (x := x) hm
  by_cases hp : rAt l x 0 < 0
  · rw [verAt_no hp]
    refine r_of Th_ok (by kernel_rfl) Try.func17 rfl Try.ntmps17 Try.results17 (by kernel_rfl) rfl ?_; conv => whnf
    repeat (first | ((first | refine qb rfl rfl ?_ | refine qi (by assumption) rfl rfl ?_ | refine ql rfl ?_ | refine qo rfl rfl ?_ | refine qs rfl rfl ?_ | refine qn rfl rfl ?_); conv => whnf) | (refine .inl (And.intro (by kernel_rfl) ?_); conv => whnf) | (refine qc (h1) rfl ?_; conv => whnf) | (refine qc (ac_nameOK hx hn) rfl ?_; conv => whnf) | (refine qc (h2) rfl ?_; conv => whnf) | (refine r_step (p_ostore rfl rfl rfl rfl rfl (by conv => lhs; whnf) rfl) rfl rfl (fun e => by first | exact .inl rfl | contradiction | exact .inr (.inl (by kernel_rfl))) ?_; conv => whnf))
    exact r_tupCV (x := watA ⟨x, 0, []⟩) rfl rfl rfl rfl trivial rfl
  · obtain ⟨j, hj, e, e2⟩ := rAt_lt (by omega : 0 ≤ rAt l x 0)
    rw [verAt_at hj e]
    rw [e] at h2
    refine r_of Th_ok (by kernel_rfl) Try.func17 rfl Try.ntmps17 Try.results17 (by kernel_rfl) rfl ?_; conv => whnf
    repeat (first | ((first | refine qb rfl rfl ?_ | refine qi (by assumption) rfl rfl ?_ | refine ql rfl ?_ | refine qo rfl rfl ?_ | refine qs rfl rfl ?_ | refine qn rfl rfl ?_); conv => whnf) | (refine .inl (And.intro (by kernel_rfl) ?_); conv => whnf) | (refine qc (h1) rfl ?_; conv => whnf) | (refine qc (ac_nameOK hx hn) rfl ?_; conv => whnf) | (refine qc (h2) rfl ?_; conv => whnf) | (refine r_step (p_ostore rfl rfl rfl rfl rfl (by conv => lhs; whnf) rfl) rfl rfl (fun e => by first | exact .inl rfl | contradiction | exact .inr (.inl (by kernel_rfl))) ?_; conv => whnf))
    exact r_tupCV (x := watA ⟨x, l[j].ver, []⟩) rfl rfl rfl rfl trivial rfl
theorem askF_0 {l : List Rf} {x : ByteArray} (h : askF l x = 0) : l.length ≤ 4096 ∧ x.size ≤ 65536 ∧ refsB l = true := by
  unfold askF at h
  split at h
  · omega
  · split at h
    · rename_i a b
      exact ⟨by omega, by omega, b⟩
    · omega
theorem ac_l06New {l : List Rf} {x : ByteArray} (hm : l.length ≤ maxLen) : AC Try.prog 39 [.lst 4 (l.map refA), .v (.string x)] ⟨watO ⟨x, verAt l x, []⟩ 0, [evtO []]⟩ := by
  have h2 := ac_l04At (x := x) hm
  by_cases hp : rAt l x 0 < 0
  · rw [verAt_no hp]
    refine r_of Th_ok (by kernel_rfl) Try.func39 rfl Try.ntmps39 Try.results39 (by kernel_rfl) rfl ?_; conv => whnf
    refine r_step (p_buildm rfl ⟨⟨_, _, rfl, rfl, rfl⟩, ⟨_, _, rfl, rfl, rfl⟩, trivial⟩ rfl) rfl rfl (fun e => by first | exact .inl rfl | contradiction | exact .inr (.inl (by kernel_rfl))) ?_
    conv => whnf
    repeat (first | ((first | refine qb rfl rfl ?_ | refine qi (by assumption) rfl rfl ?_ | refine ql rfl ?_ | refine qo rfl rfl ?_ | refine qs rfl rfl ?_ | refine qn rfl rfl ?_); conv => whnf) | (refine .inl (And.intro (by kernel_rfl) ?_); conv => whnf) | (refine qc (h2) rfl ?_; conv => whnf) | (refine r_step (p_ostore rfl rfl rfl rfl rfl (by conv => lhs; whnf) rfl) rfl rfl (fun e => by first | exact .inl rfl | contradiction | exact .inr (.inl (by kernel_rfl))) ?_; conv => whnf) | (refine r_step (p_ostoreo rfl rfl rfl rfl rfl rfl) rfl rfl (fun e => by first | exact .inl rfl | contradiction | exact .inr (.inl (by kernel_rfl))) ?_; conv => whnf))
    exact r_wat rfl rfl rfl rfl rfl rfl
  · obtain ⟨j, hj, e, e2⟩ := rAt_lt (by omega : 0 ≤ rAt l x 0)
    rw [verAt_at hj e]
    rw [e] at h2
    refine r_of Th_ok (by kernel_rfl) Try.func39 rfl Try.ntmps39 Try.results39 (by kernel_rfl) rfl ?_; conv => whnf
    refine r_step (p_buildm rfl ⟨⟨_, _, rfl, rfl, rfl⟩, ⟨_, _, rfl, rfl, rfl⟩, trivial⟩ rfl) rfl rfl (fun e => by first | exact .inl rfl | contradiction | exact .inr (.inl (by kernel_rfl))) ?_
    conv => whnf
    repeat (first | ((first | refine qb rfl rfl ?_ | refine qi (by assumption) rfl rfl ?_ | refine ql rfl ?_ | refine qo rfl rfl ?_ | refine qs rfl rfl ?_ | refine qn rfl rfl ?_); conv => whnf) | (refine .inl (And.intro (by kernel_rfl) ?_); conv => whnf) | (refine qc (h2) rfl ?_; conv => whnf) | (refine r_step (p_ostore rfl rfl rfl rfl rfl (by conv => lhs; whnf) rfl) rfl rfl (fun e => by first | exact .inl rfl | contradiction | exact .inr (.inl (by kernel_rfl))) ?_; conv => whnf) | (refine r_step (p_ostoreo rfl rfl rfl rfl rfl rfl) rfl rfl (fun e => by first | exact .inl rfl | contradiction | exact .inr (.inl (by kernel_rfl))) ?_; conv => whnf))
    exact r_wat rfl rfl rfl rfl rfl rfl
theorem ac_sNew {l : List Rf} {x : ByteArray} (hm : l.length ≤ maxLen) (hk : nmOK maxLen l) (hx : x.size ≤ maxLen) (hc : askF l x = 0) (hn : okN x = true) : AC Try.prog 18 [.lst 4 (l.map refA), .v (.string x)] ⟨.tup [watO ⟨x, verAt l x, []⟩ 0, .v (.int .i64 0)], [evtO []]⟩ := by
  have h1 := ac_l04OK hm hk
  have h2 := ac_l06New (x := x) hm
  obtain ⟨a1, a2, a3⟩ := askF_0 hc
  rw [a3] at h1
  refine r_of Th_ok (by kernel_rfl) Try.func18 rfl Try.ntmps18 Try.results18 (by kernel_rfl) rfl ?_; conv => whnf
  repeat (first | ((first | refine qb rfl rfl ?_ | refine qi (by assumption) rfl rfl ?_ | refine ql rfl ?_ | refine qo rfl rfl ?_ | refine qs rfl rfl ?_ | refine qn rfl rfl ?_); conv => whnf) | (refine .inl (And.intro (by kernel_rfl) ?_); conv => whnf) | (refine qc (h1) rfl ?_; conv => whnf) | (refine qc (ac_l00Word hx hn) rfl ?_; conv => whnf) | (refine qc (h2) rfl ?_; conv => whnf) | (refine r_step (p_ostore rfl rfl rfl rfl rfl (by conv => lhs; whnf) rfl) rfl rfl (fun e => by first | exact .inl rfl | contradiction | exact .inr (.inl (by kernel_rfl))) ?_; conv => whnf) | (refine r_step (p_ostoreo rfl rfl rfl rfl rfl rfl) rfl rfl (fun e => by first | exact .inl rfl | contradiction | exact .inr (.inl (by kernel_rfl))) ?_; conv => whnf))
  exact r_watV rfl rfl rfl rfl rfl rfl rfl
end Go.Proofs.Ytjhimcddgkoghab.AM
