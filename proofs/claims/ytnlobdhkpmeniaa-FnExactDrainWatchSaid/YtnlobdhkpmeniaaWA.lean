/- The machine over data (W9, WA). -/
import Derived.Test.YtnlobdhkpmeniaaW8
import Derived.Test.YtnlobdhkpmeniaaK9
import Derived.Test.YtnlobdhkpmeniaaW4
/- Watches noted, taken from and drained, on both sides. -/
namespace Go.Proofs.Ytnlobdhkpmeniaa.AM
open Go Go.RowKit
set_option linter.unusedVariables false
set_option linter.unusedSimpArgs false
set_option maxRecDepth 100000
/-! ### what reads so reads otherwise too -/
section
variable {P : Program} {f : FuncId} {args args' : List AV} {rin rout : List OB} {out : Out}
theorem acg_arg (h : ACG P f args rin rout out) (hs : ∀ S w hp B V us, RVs S w hp B V args' us → RVs S w hp B V args us) : ACG P f args' rin rout out :=
  ⟨h.1, fun w S0 B0 V0 T0 vs hS hr hv => h.2 w S0 B0 V0 T0 vs hS hr (hs _ _ _ _ _ _ hv)⟩
theorem acg_out {v : AV} (h : ACG P f args rin rout out) (hs : ∀ S w hp B V u, RV S w hp B V out.val u → RV S w hp B V v u) : ACG P f args rin rout ⟨v, out.obs⟩ :=
  ⟨h.1, fun w S0 B0 V0 T0 vs hS hr hv => (h.2 w S0 B0 V0 T0 vs hS hr hv).mono fun e w' ⟨v', S, B, V, T, T1, h1, h2, h3, h4, h5, h6⟩ => ⟨v', S, B, V, T, T1, h1, h2, h3, h4, hs _ _ _ _ _ _ h5, h6⟩⟩
end
/-- a watch whose fields may be set to what is owned -/
def watM (w : Wat) : AV := .mix [.v (.string w.name), .v (.int .i64 w.seen), .rd (.lst 3 (w.queue.map evtA))]
/-- a watch whose queue is a row of the call's own -/
def watO (w : Wat) (l : Nat) : AV := .mix [.v (.string w.name), .v (.int .i64 w.seen), .own l]
abbrev evtO (q : List Evt) : OB := ⟨81, 3, q.map evtA⟩
theorem watM_rv {w : Wat} {S : Nat → Prop} {wd : World} {hp : Nat → Option OB} {B : Nat → Nat} {V : Nat → Value} {u : Value} (h : RV S wd hp B V (watA w) u) : RV S wd hp B V (watM w) u := by
  unfold watA at h
  unfold RV at h
  obtain ⟨cs, rfl, h⟩ := h
  unfold RL at h
  obtain ⟨c1, d1, rfl, h1, h⟩ := h
  unfold RL at h
  obtain ⟨c2, d2, rfl, h2, h⟩ := h
  unfold RL at h
  obtain ⟨c3, d3, rfl, h3, h⟩ := h
  unfold RL at h
  subst h
  unfold watM RV
  refine ⟨_, rfl, ?_⟩
  unfold ROs
  refine ⟨c1, _, Fa, Fa, rfl, Split.l0 noF, ?_, ?_⟩
  · unfold RO1; unfold RD; unfold RA at h1; exact ⟨noF, h1⟩
  unfold ROs
  refine ⟨c2, _, Fa, Fa, rfl, Split.l0 noF, ?_, ?_⟩
  · unfold RO1; unfold RD; unfold RA at h2; exact ⟨noF, h2⟩
  unfold ROs
  refine ⟨c3, _, Fa, Fa, rfl, Split.l0 noF, ?_, ?_⟩
  · unfold RO1; exact ⟨noF, h3⟩
  unfold ROs; exact ⟨rfl, noF⟩
theorem ac_watM {P : Program} {f : FuncId} {w : Wat} {out : Out} (h : AC P f [watM w] out) : AC P f [watA w] out := acg_arg h fun S wd hp B V us hv => by
  unfold RVs at hv ⊢
  obtain ⟨u, us', rfl, h1, h2⟩ := hv
  exact ⟨u, us', rfl, watM_rv h1, h2⟩
/-! ### ends -/
section
variable {s : St} {Θ : Tab}
theorem cellO {a t l : Nat} {ob : OB} {t' : Option Nat} {xs : List AV} (h1 : s.sl a = .optr l 0 [] 0) (ho : s.hp l = some ob) (hop : ob.e.open_ = false) (hoe : openE ob.e ob.xs 0 = some (.o t' 0 (.mix xs))) (hp : plainM xs = true) (hk : ((Θ.look t).known && (Θ.look t).isAgg && Nat.beq (aszs xs) (Θ.look t).size) = true) : rvA s (.cell a t) = .mix xs ∧ rvOK Θ s (.cell a t) := by
  have hof : ofO (.mix xs) = some (.mix xs) := by simp [ofO, hp]
  have hr : rvA s (.cell a t) = .mix xs := by
    simp only [rvA, h1, ho, hop, hoe, cond_false, hof]; rfl
  simp only [Bool.and_eq_true] at hk
  exact ⟨hr, hk.1.1, by rw [hr]; exact hk.1.2.symm, by rw [hr]; exact Nat.eq_of_beq_eq_true hk.2, .inl ⟨l, ob, _, h1, ho, .inr ⟨hop, _, _, hoe, hof⟩⟩⟩
theorem cellC {a t l : Nat} {ob : OB} {x : AV} (h1 : s.sl a = .optr l 0 [] 0) (ho : s.hp l = some ob) (hx : ob.xs[0]? = some x) (hk : ((Θ.look t).known && (Bool.xor (isAggA x) (Θ.look t).isAgg).not && Nat.beq (asz x) (Θ.look t).size) = true) (hop : ob.e.open_ = true := by rfl) : rvA s (.cell a t) = x ∧ rvOK Θ s (.cell a t) := by
  have hr : rvA s (.cell a t) = x := by
    simp only [rvA, h1, ho, hop, hx, cond_true, Option.getD_some]
  simp only [Bool.and_eq_true] at hk
  exact ⟨hr, hk.1.1, by rw [hr]; exact xor_not hk.1.2, by rw [hr]; exact Nat.eq_of_beq_eq_true hk.2, .inl ⟨l, ob, x, h1, ho, .inl ⟨hop, hx⟩⟩⟩
theorem retA_watO {w : Wat} {L : Nat} {Ls : List Nat} {j : Nat} (hj : Ls.getD j 0 = L) (hlt : Nat.blt j Ls.length = true) : retA s Ls (watO w L) (watO w j) :=
  .inl ⟨by unfold watO; simp [mapA, mapAL, ← hj], by unfold watO; simp only [AV.within, withinL, hlt]; rfl⟩
theorem retA_own {L : Nat} {Ls : List Nat} {j : Nat} (hj : Ls.getD j 0 = L) (hlt : Nat.blt j Ls.length = true) : retA s Ls (.own L) (.own j) :=
  .inl ⟨by simp [mapA, ← hj], hlt⟩
theorem retA_v {v : Value} {Ls : List Nat} : retA s Ls (.v v) (.v v) := .inl ⟨rfl, rfl⟩
theorem retA_evt {e : Evt} {Ls : List Nat} : retA s Ls (evtA e) (evtA e) := .inl ⟨rfl, rfl⟩
theorem retA_wat {w : Wat} {Ls : List Nat} : retA s Ls (watA w) (watA w) := .inl ⟨rfl, rfl⟩
/-- a watch with a queue of its own -/
theorem r_wat {a l L : Nat} {ob : OB} {t' : Option Nat} {w : Wat} {q : OB} {t : Nat} (h1 : s.sl a = .optr l 0 [] 0) (ho : s.hp l = some ob) (hop : ob.e.open_ = false) (hoe : openE ob.e ob.xs 0 = some (.o t' 0 (watO w L))) (hq : s.hp L = some q) (hk : ((Θ.look t).known && (Θ.look t).isAgg && Nat.beq 3 (Θ.look t).size) = true) (hok : okL L = true := by rfl) (hsh : q.e.shut = true := by rfl) :
    RetQ Θ [.cell a t] ⟨watO w 0, [q]⟩ .ret s := by
  obtain ⟨c1, c2⟩ := cellO (Θ := Θ) (t := t) h1 ho hop hoe rfl hk
  exact ⟨trivial, [L], by simp, ⟨⟨hq, hok, hsh⟩, trivial⟩, ⟨c2, trivial⟩, trivial, ⟨by rw [c1]; exact retA_watO rfl rfl, trivial⟩⟩
theorem r_watV {a l L t2 : Nat} {ob : OB} {t' : Option Nat} {w : Wat} {q : OB} {t : Nat} {v : Value} (h1 : s.sl a = .optr l 0 [] 0) (ho : s.hp l = some ob) (hop : ob.e.open_ = false) (hoe : openE ob.e ob.xs 0 = some (.o t' 0 (watO w L))) (hq : s.hp L = some q) (hk : ((Θ.look t).known && (Θ.look t).isAgg && Nat.beq 3 (Θ.look t).size) = true) (hv : s.sl t2 = .v v) (hok : okL L = true := by rfl) (hsh : q.e.shut = true := by rfl) :
    RetQ Θ [.cell a t, .tmp t2] ⟨.tup [watO w 0, .v v], [q]⟩ .ret s := by
  obtain ⟨c1, c2⟩ := cellO (Θ := Θ) (t := t) h1 ho hop hoe rfl hk
  exact ⟨trivial, [L], by simp, ⟨⟨hq, hok, hsh⟩, trivial⟩, ⟨c2, trivial, trivial⟩, ⟨_, rfl⟩, ⟨by rw [c1]; exact retA_watO rfl rfl, by show retA _ _ (s.sl t2) _; rw [hv]; exact retA_v, trivial⟩⟩
end
section
variable {P : Program} {Θ : Tab} {s : St} {ty : TypeId} {pos : String} {after : Array Edge} {g : Option (Nat × Bool)}
end
attribute [local irreducible] ACode AOps AOps2 RetG RetM Pre ACG
theorem ac_l06Own' {w : Wat} (hm : w.queue.length ≤ 1048576) : AC Try.prog 110 [watM w] ⟨watO w 0, [evtO w.queue]⟩ := by
  refine r_of Th_ok (by kernel_rfl) Try.func110 rfl Try.ntmps110 Try.results110 (by kernel_rfl) rfl ?_; conv => whnf
  refine r_step (p_boxo rfl rfl rfl) rfl rfl (fun e => by first | exact .inl rfl | contradiction | exact .inr (.inl (by kernel_rfl))) ?_
  conv => whnf
  refine r_step (p_appl (xs := []) (ys := w.queue) (f := evtA) (by simp; omega) rfl rfl rfl rfl rfl rfl) rfl rfl (fun e => by first | exact .inl rfl | contradiction | exact .inr (.inl (by kernel_rfl))) ?_
  conv => whnf
  repeat (first | first | (refine r_put (p_bin (by first | exact b_lt_t (by omega) | exact b_lt_f (by omega) | exact b_le_t (by omega) | exact b_le_f (by omega) | exact b_gt_t (by omega) | exact b_gt_f (by omega) | exact b_ge_t (by omega) | exact b_ge_f (by omega) | exact b_eq_t (by omega) | exact b_eq_f (by omega) | exact b_ne_t (by omega) | exact b_ne_f (by omega) | exact b_sub rfl (by omega) (by omega) | exact b_add rfl (by omega) (by omega)) rfl rfl rfl) rfl rfl ?_; conv => whnf) | (refine r_put (p_idx (getA _ (by assumption)) rfl rfl rfl) rfl rfl ?_; conv => whnf) | (refine r_put (p_lenm rfl ⟨_, _, _, _, rfl⟩) rfl rfl ?_; conv => whnf) | (refine r_put (p_lenom rfl rfl ⟨_, _, _, _, rfl⟩) rfl rfl ?_; conv => whnf) | (refine r_put (p_len (y := .v (.string _)) rfl rfl rfl) rfl rfl ?_; conv => whnf) | (refine r_put (p_len rfl rfl ⟨_, _, _, _, rfl⟩) rfl rfl ?_; conv => whnf) | (refine r_step (p_ostoreo rfl rfl rfl rfl rfl rfl) rfl rfl (fun e => by first | exact .inl rfl | contradiction | exact .inr (.inl (by kernel_rfl))) ?_; conv => whnf))
  exact r_wat rfl rfl rfl rfl rfl rfl
theorem ac_l06Own {w : Wat} (hm : w.queue.length ≤ 1048576) : AC Try.prog 110 [watA w] ⟨watO w 0, [evtO w.queue]⟩ := ac_watM (ac_l06Own' hm)
end Go.Proofs.Ytnlobdhkpmeniaa.AM
/- NoteRef, NextEvent and DrainWatch on both sides. -/
namespace Go.Proofs.Ytnlobdhkpmeniaa.AM
open Go Go.RowKit
set_option linter.unusedVariables false
set_option linter.unusedSimpArgs false
set_option maxRecDepth 100000
abbrev watZ : Wat := ⟨ByteArray.empty, 0, []⟩
/-- a watch whose queue is nil -/
def watN (w : Wat) : AV := .mix [.v (.string w.name), .v (.int .i64 w.seen), .v (.slice none 0 0)]
theorem watN_rv {w : Wat} {S : Nat → Prop} {wd : World} {hp : Nat → Option OB} {B : Nat → Nat} {V : Nat → Value} {u : Value} (h : RV S wd hp B V (watN w) u) : RV S wd hp B V (watA ⟨w.name, w.seen, []⟩) u := by
  unfold watN at h
  unfold RV at h
  obtain ⟨cs, rfl, h⟩ := h
  unfold ROs at h
  obtain ⟨c1, d1, _, _, rfl, _, h1, h⟩ := h
  unfold ROs at h
  obtain ⟨c2, d2, _, _, rfl, _, h2, h⟩ := h
  unfold ROs at h
  obtain ⟨c3, d3, _, _, rfl, _, h3, h⟩ := h
  unfold ROs at h
  obtain ⟨rfl, _⟩ := h
  unfold RO1 RD at h1 h2 h3
  obtain ⟨_, rfl, _⟩ := h1
  obtain ⟨_, rfl, _⟩ := h2
  obtain ⟨_, rfl, _⟩ := h3
  unfold watA RV
  refine ⟨_, rfl, ?_⟩
  exact rl_cons (c1 := [_]) (ra_v rfl) (rl_cons (c1 := [_]) (ra_v rfl) (rl_cons (c1 := [_]) (ra_nil (by omega)) rl_nil))
section
variable {s : St} {Θ : Tab}
theorem retA_watN {w : Wat} {Ls : List Nat} : retA s Ls (watN w) (watN w) := .inl ⟨rfl, rfl⟩
/-- a watch with a queue of its own, an event, a code -/
theorem r_watEV {a a2 l l2 L t2 : Nat} {ob ob2 : OB} {t' : Option Nat} {w : Wat} {q : OB} {t u : Nat} {v : Value} {e : Evt} (h1 : s.sl a = .optr l 0 [] 0) (ho : s.hp l = some ob) (hop : ob.e.open_ = false) (hoe : openE ob.e ob.xs 0 = some (.o t' 0 (watO w L))) (hq : s.hp L = some q) (hk : ((Θ.look t).known && (Θ.look t).isAgg && Nat.beq 3 (Θ.look t).size) = true)
    (h2 : s.sl a2 = .optr l2 0 [] 0) (ho2 : s.hp l2 = some ob2) (hx2 : ob2.xs[0]? = some (evtA e)) (hk2 : ((Θ.look u).known && (Bool.xor true (Θ.look u).isAgg).not && Nat.beq 3 (Θ.look u).size) = true) (hv : s.sl t2 = .v v) (hop2 : ob2.e.open_ = true := by rfl) (hok : okL L = true := by rfl) (hsh : q.e.shut = true := by rfl) :
    RetQ Θ [.cell a t, .cell a2 u, .tmp t2] ⟨.tup [watO w 0, evtA e, .v v], [q]⟩ .ret s := by
  obtain ⟨c1, c2⟩ := cellO (Θ := Θ) (t := t) h1 ho hop hoe rfl hk
  obtain ⟨c3, c4⟩ := cellC (Θ := Θ) (t := u) h2 ho2 hx2 hk2 hop2
  exact ⟨trivial, [L], by simp, ⟨⟨hq, hok, hsh⟩, trivial⟩, ⟨c2, c4, trivial, trivial⟩, ⟨_, rfl⟩, ⟨by rw [c1]; exact retA_watO rfl rfl, by rw [c3]; exact retA_evt, by show retA _ _ (s.sl t2) _; rw [hv]; exact retA_v, trivial⟩⟩
theorem r_ccv {a a2 l l2 t2 : Nat} {ob ob2 : OB} {w : Wat} {t u : Nat} {v : Value} {e : Evt} (h1 : s.sl a = .optr l 0 [] 0) (ho : s.hp l = some ob) (hx : ob.xs[0]? = some (watA w)) (hk : ((Θ.look t).known && (Bool.xor true (Θ.look t).isAgg).not && Nat.beq 3 (Θ.look t).size) = true)
    (h2 : s.sl a2 = .optr l2 0 [] 0) (ho2 : s.hp l2 = some ob2) (hx2 : ob2.xs[0]? = some (evtA e)) (hk2 : ((Θ.look u).known && (Bool.xor true (Θ.look u).isAgg).not && Nat.beq 3 (Θ.look u).size) = true) (hv : s.sl t2 = .v v) (hop : ob.e.open_ = true := by rfl) (hop2 : ob2.e.open_ = true := by rfl) :
    RetQ Θ [.cell a t, .cell a2 u, .tmp t2] ⟨.tup [watA w, evtA e, .v v], []⟩ .ret s := by
  obtain ⟨c1, c2⟩ := cellC (Θ := Θ) (t := t) h1 ho hx hk hop
  obtain ⟨c3, c4⟩ := cellC (Θ := Θ) (t := u) h2 ho2 hx2 hk2 hop2
  exact ⟨trivial, [], by simp, trivial, ⟨c2, c4, trivial, trivial⟩, ⟨_, rfl⟩, ⟨by rw [c1]; exact retA_wat, by rw [c3]; exact retA_evt, by show retA _ _ (s.sl t2) _; rw [hv]; exact retA_v, trivial⟩⟩
/-- a watch, a list, a code -/
theorem r_cov {a l L t2 t3 : Nat} {ob q : OB} {w : Wat} {t : Nat} {v : Value} (h1 : s.sl a = .optr l 0 [] 0) (ho : s.hp l = some ob) (hx : ob.xs[0]? = some (watA w)) (hk : ((Θ.look t).known && (Bool.xor true (Θ.look t).isAgg).not && Nat.beq 3 (Θ.look t).size) = true) (hl : s.sl t2 = .own L) (hq : s.hp L = some q) (hv : s.sl t3 = .v v) (hop : ob.e.open_ = true := by rfl) (hok : okL L = true := by rfl) (hsh : q.e.shut = true := by rfl) :
    RetQ Θ [.cell a t, .tmp t2, .tmp t3] ⟨.tup [watA w, .own 0, .v v], [q]⟩ .ret s := by
  obtain ⟨c1, c2⟩ := cellC (Θ := Θ) (t := t) h1 ho hx hk hop
  exact ⟨trivial, [L], by simp, ⟨⟨hq, hok, hsh⟩, trivial⟩, ⟨c2, trivial, trivial, trivial⟩, ⟨_, rfl⟩, ⟨by rw [c1]; exact retA_wat, by show retA _ _ (s.sl t2) _; rw [hl]; exact retA_own rfl rfl, by show retA _ _ (s.sl t3) _; rw [hv]; exact retA_v, trivial⟩⟩
theorem r_nov {a l L t2 t3 : Nat} {ob q : OB} {t' : Option Nat} {w : Wat} {t : Nat} {v : Value} (h1 : s.sl a = .optr l 0 [] 0) (ho : s.hp l = some ob) (hop : ob.e.open_ = false) (hoe : openE ob.e ob.xs 0 = some (.o t' 0 (watN w))) (hk : ((Θ.look t).known && (Θ.look t).isAgg && Nat.beq 3 (Θ.look t).size) = true) (hl : s.sl t2 = .own L) (hq : s.hp L = some q) (hv : s.sl t3 = .v v) (hok : okL L = true := by rfl) (hsh : q.e.shut = true := by rfl) :
    RetQ Θ [.cell a t, .tmp t2, .tmp t3] ⟨.tup [watN w, .own 0, .v v], [q]⟩ .ret s := by
  obtain ⟨c1, c2⟩ := cellO (Θ := Θ) (t := t) h1 ho hop hoe rfl hk
  exact ⟨trivial, [L], by simp, ⟨⟨hq, hok, hsh⟩, trivial⟩, ⟨c2, trivial, trivial, trivial⟩, ⟨_, rfl⟩, ⟨by rw [c1]; exact retA_watN, by show retA _ _ (s.sl t2) _; rw [hl]; exact retA_own rfl rfl, by show retA _ _ (s.sl t3) _; rw [hv]; exact retA_v, trivial⟩⟩
end
theorem watB_of {w : Wat} (h : watB w = true) : (0 ≤ w.seen ∧ w.seen ≤ 1000000) ∧ w.queue.length ≤ 4 := by
  unfold watB at h
  simp only [Bool.and_eq_true, decide_eq_true_eq, Bool.or_eq_true] at h
  refine ⟨h.2.1, ?_⟩
  rcases h.2.2 with h | h
  · rw [h]; simp
  · unfold qB at h
    simp only [Bool.and_eq_true, decide_eq_true_eq] at h
    exact h.1
attribute [local irreducible] ACode AOps AOps2 RetG RetM Pre ACG
theorem ac_iDrain_bad {w : Wat} (hw : w.ok maxLen) (hb : watB w = false) : AC Try.prog 59 [watA w] ⟨.tup [watA watZ, .own 0, .v (.int .i64 1)], [evtO []]⟩ := by
  have h1 := ac_iWatchOK hw
  rw [hb] at h1
  refine r_of Th_ok (by kernel_rfl) Try.func59 rfl Try.ntmps59 Try.results59 (by kernel_rfl) rfl ?_; conv => whnf
  repeat (first | first | (refine r_put (p_bin (by first | exact b_lt_t (by omega) | exact b_lt_f (by omega) | exact b_le_t (by omega) | exact b_le_f (by omega) | exact b_gt_t (by omega) | exact b_gt_f (by omega) | exact b_ge_t (by omega) | exact b_ge_f (by omega) | exact b_eq_t (by omega) | exact b_eq_f (by omega) | exact b_ne_t (by omega) | exact b_ne_f (by omega) | exact b_sub rfl (by omega) (by omega) | exact b_add rfl (by omega) (by omega)) rfl rfl rfl) rfl rfl ?_; conv => whnf) | (refine r_put (p_idx (getA _ (by assumption)) rfl rfl rfl) rfl rfl ?_; conv => whnf) | (refine r_put (p_lenm rfl ⟨_, _, _, _, rfl⟩) rfl rfl ?_; conv => whnf) | (refine r_put (p_lenom rfl rfl ⟨_, _, _, _, rfl⟩) rfl rfl ?_; conv => whnf) | (refine r_put (p_len (y := .v (.string _)) rfl rfl rfl) rfl rfl ?_; conv => whnf) | (refine r_put (p_len rfl rfl ⟨_, _, _, _, rfl⟩) rfl rfl ?_; conv => whnf) | (refine r_step (p_call (h1) rfl (by first | exact .inl rfl | exact .inr ⟨by simp [flatA, flatL], by first | exact flat_o0 | exact flat_o1 (by first | exact flat_map flat_str _ | exact flat_map flat_ent _ | exact flat_map flat_edt _ | exact flat_map flat_ref _ | exact flat_map flat_int _ | exact flat_map flat_evt _) | exact flat_o2 (by first | exact flat_map flat_str _ | exact flat_map flat_ent _ | exact flat_map flat_edt _ | exact flat_map flat_ref _ | exact flat_map flat_int _ | exact flat_map flat_evt _) (by first | exact flat_map flat_str _ | exact flat_map flat_ent _ | exact flat_map flat_edt _ | exact flat_map flat_ref _ | exact flat_map flat_int _ | exact flat_map flat_evt _)⟩) (by first | exact trivial | exact ⟨⟨rfl, rfl, rfl⟩, trivial⟩ | exact ⟨⟨rfl, rfl, rfl⟩, ⟨rfl, rfl, rfl⟩, trivial⟩ | exact ⟨⟨rfl, rfl, rfl⟩, ⟨rfl, rfl, rfl⟩, ⟨rfl, rfl, rfl⟩, trivial⟩) rfl rfl) rfl rfl (fun e => by first | exact .inl rfl | contradiction | exact .inr (.inl (by kernel_rfl))) ?_; conv => whnf) | (refine r_step (p_ostore rfl rfl rfl rfl rfl (by conv => lhs; whnf) rfl) rfl rfl (fun e => by first | exact .inl rfl | contradiction | exact .inr (.inl (by kernel_rfl))) ?_; conv => whnf))
  exact r_cov rfl rfl rfl rfl rfl rfl rfl
theorem ac_iDrain {w : Wat} (hw : w.ok maxLen) (hb : watB w = true) : AC Try.prog 59 [watA w] ⟨.tup [watA ⟨w.name, w.seen, []⟩, .own 0, .v (.int .i64 0)], [evtO w.queue]⟩ := by
  have h1 := ac_iWatchOK hw
  rw [hb] at h1
  have h2 := ac_newPending (watB_of hb).2
  have h3 := ac_takeAll (watB_of hb).2
  have key : AC Try.prog 59 [watM w] ⟨.tup [watN w, .own 0, .v (.int .i64 0)], [evtO w.queue]⟩ := by
    refine r_of Th_ok (by kernel_rfl) Try.func59 rfl Try.ntmps59 Try.results59 (by kernel_rfl) rfl ?_; conv => whnf
    refine r_step (p_boxo rfl rfl rfl) rfl rfl (fun e => by first | exact .inl rfl | contradiction | exact .inr (.inl (by kernel_rfl))) ?_
    conv => whnf
    repeat (first | first | (refine r_put (p_bin (by first | exact b_lt_t (by omega) | exact b_lt_f (by omega) | exact b_le_t (by omega) | exact b_le_f (by omega) | exact b_gt_t (by omega) | exact b_gt_f (by omega) | exact b_ge_t (by omega) | exact b_ge_f (by omega) | exact b_eq_t (by omega) | exact b_eq_f (by omega) | exact b_ne_t (by omega) | exact b_ne_f (by omega) | exact b_sub rfl (by omega) (by omega) | exact b_add rfl (by omega) (by omega)) rfl rfl rfl) rfl rfl ?_; conv => whnf) | (refine r_put (p_idx (getA _ (by assumption)) rfl rfl rfl) rfl rfl ?_; conv => whnf) | (refine r_put (p_lenm rfl ⟨_, _, _, _, rfl⟩) rfl rfl ?_; conv => whnf) | (refine r_put (p_lenom rfl rfl ⟨_, _, _, _, rfl⟩) rfl rfl ?_; conv => whnf) | (refine r_put (p_len (y := .v (.string _)) rfl rfl rfl) rfl rfl ?_; conv => whnf) | (refine r_put (p_len rfl rfl ⟨_, _, _, _, rfl⟩) rfl rfl ?_; conv => whnf) | (refine r_step (p_call (h1) rfl (by first | exact .inl rfl | exact .inr ⟨by simp [flatA, flatL], by first | exact flat_o0 | exact flat_o1 (by first | exact flat_map flat_str _ | exact flat_map flat_ent _ | exact flat_map flat_edt _ | exact flat_map flat_ref _ | exact flat_map flat_int _ | exact flat_map flat_evt _) | exact flat_o2 (by first | exact flat_map flat_str _ | exact flat_map flat_ent _ | exact flat_map flat_edt _ | exact flat_map flat_ref _ | exact flat_map flat_int _ | exact flat_map flat_evt _) (by first | exact flat_map flat_str _ | exact flat_map flat_ent _ | exact flat_map flat_edt _ | exact flat_map flat_ref _ | exact flat_map flat_int _ | exact flat_map flat_evt _)⟩) (by first | exact trivial | exact ⟨⟨rfl, rfl, rfl⟩, trivial⟩ | exact ⟨⟨rfl, rfl, rfl⟩, ⟨rfl, rfl, rfl⟩, trivial⟩ | exact ⟨⟨rfl, rfl, rfl⟩, ⟨rfl, rfl, rfl⟩, ⟨rfl, rfl, rfl⟩, trivial⟩) rfl rfl) rfl rfl (fun e => by first | exact .inl rfl | contradiction | exact .inr (.inl (by kernel_rfl))) ?_; conv => whnf) | (refine r_step (p_ostore rfl rfl rfl rfl rfl (by conv => lhs; whnf) rfl) rfl rfl (fun e => by first | exact .inl rfl | contradiction | exact .inr (.inl (by kernel_rfl))) ?_; conv => whnf) | (refine r_step (p_call (h2) rfl (by first | exact .inl rfl | exact .inr ⟨by simp [flatA, flatL], by first | exact flat_o0 | exact flat_o1 (by first | exact flat_map flat_str _ | exact flat_map flat_ent _ | exact flat_map flat_edt _ | exact flat_map flat_ref _ | exact flat_map flat_int _ | exact flat_map flat_evt _) | exact flat_o2 (by first | exact flat_map flat_str _ | exact flat_map flat_ent _ | exact flat_map flat_edt _ | exact flat_map flat_ref _ | exact flat_map flat_int _ | exact flat_map flat_evt _) (by first | exact flat_map flat_str _ | exact flat_map flat_ent _ | exact flat_map flat_edt _ | exact flat_map flat_ref _ | exact flat_map flat_int _ | exact flat_map flat_evt _)⟩) (by first | exact trivial | exact ⟨⟨rfl, rfl, rfl⟩, trivial⟩ | exact ⟨⟨rfl, rfl, rfl⟩, ⟨rfl, rfl, rfl⟩, trivial⟩ | exact ⟨⟨rfl, rfl, rfl⟩, ⟨rfl, rfl, rfl⟩, ⟨rfl, rfl, rfl⟩, trivial⟩) rfl rfl) rfl rfl (fun e => by first | exact .inl rfl | contradiction | exact .inr (.inl (by kernel_rfl))) ?_; conv => whnf))
    refine r_step (p_callg [13] h3 rfl rfl ⟨rfl, trivial⟩ rfl rfl ⟨⟨rfl, rfl, rfl⟩, trivial⟩ rfl rfl rfl (.inl rfl) rfl) rfl rfl (fun e => by first | exact .inl rfl | contradiction | exact .inr (.inl (by kernel_rfl))) ?_
    conv => whnf
    repeat (first | first | (refine r_put (p_bin (by first | exact b_lt_t (by omega) | exact b_lt_f (by omega) | exact b_le_t (by omega) | exact b_le_f (by omega) | exact b_gt_t (by omega) | exact b_gt_f (by omega) | exact b_ge_t (by omega) | exact b_ge_f (by omega) | exact b_eq_t (by omega) | exact b_eq_f (by omega) | exact b_ne_t (by omega) | exact b_ne_f (by omega) | exact b_sub rfl (by omega) (by omega) | exact b_add rfl (by omega) (by omega)) rfl rfl rfl) rfl rfl ?_; conv => whnf) | (refine r_put (p_idx (getA _ (by assumption)) rfl rfl rfl) rfl rfl ?_; conv => whnf) | (refine r_put (p_lenm rfl ⟨_, _, _, _, rfl⟩) rfl rfl ?_; conv => whnf) | (refine r_put (p_lenom rfl rfl ⟨_, _, _, _, rfl⟩) rfl rfl ?_; conv => whnf) | (refine r_put (p_len (y := .v (.string _)) rfl rfl rfl) rfl rfl ?_; conv => whnf) | (refine r_put (p_len rfl rfl ⟨_, _, _, _, rfl⟩) rfl rfl ?_; conv => whnf) | (refine r_step (p_ostoreo rfl rfl rfl rfl rfl rfl) rfl rfl (fun e => by first | exact .inl rfl | contradiction | exact .inr (.inl (by kernel_rfl))) ?_; conv => whnf))
    exact r_nov rfl rfl rfl rfl rfl rfl rfl rfl
  exact ac_watM (acg_out key fun S wd hp B V u h => by
    unfold RV at h ⊢
    obtain ⟨us, rfl, h⟩ := h
    refine ⟨us, rfl, ?_⟩
    unfold RVs at h ⊢
    obtain ⟨u, us', rfl, h1, h2⟩ := h
    exact ⟨u, us', rfl, watN_rv h1, h2⟩)
theorem ac_iNext_bad {w : Wat} (hw : w.ok maxLen) (hb : watB w = false) : AC Try.prog 56 [watA w] ⟨.tup [watA watZ, evtA evtZ, .v (.int .i64 1)], []⟩ := by
  have h1 := ac_iWatchOK hw
  rw [hb] at h1
  refine r_of Th_ok (by kernel_rfl) Try.func56 rfl Try.ntmps56 Try.results56 (by kernel_rfl) rfl ?_; conv => whnf
  repeat (first | first | (refine r_put (p_bin (by first | exact b_lt_t (by omega) | exact b_lt_f (by omega) | exact b_le_t (by omega) | exact b_le_f (by omega) | exact b_gt_t (by omega) | exact b_gt_f (by omega) | exact b_ge_t (by omega) | exact b_ge_f (by omega) | exact b_eq_t (by omega) | exact b_eq_f (by omega) | exact b_ne_t (by omega) | exact b_ne_f (by omega) | exact b_sub rfl (by omega) (by omega) | exact b_add rfl (by omega) (by omega)) rfl rfl rfl) rfl rfl ?_; conv => whnf) | (refine r_put (p_idx (getA _ (by assumption)) rfl rfl rfl) rfl rfl ?_; conv => whnf) | (refine r_put (p_lenm rfl ⟨_, _, _, _, rfl⟩) rfl rfl ?_; conv => whnf) | (refine r_put (p_lenom rfl rfl ⟨_, _, _, _, rfl⟩) rfl rfl ?_; conv => whnf) | (refine r_put (p_len (y := .v (.string _)) rfl rfl rfl) rfl rfl ?_; conv => whnf) | (refine r_put (p_len rfl rfl ⟨_, _, _, _, rfl⟩) rfl rfl ?_; conv => whnf) | (refine r_step (p_call (h1) rfl (by first | exact .inl rfl | exact .inr ⟨by simp [flatA, flatL], by first | exact flat_o0 | exact flat_o1 (by first | exact flat_map flat_str _ | exact flat_map flat_ent _ | exact flat_map flat_edt _ | exact flat_map flat_ref _ | exact flat_map flat_int _ | exact flat_map flat_evt _) | exact flat_o2 (by first | exact flat_map flat_str _ | exact flat_map flat_ent _ | exact flat_map flat_edt _ | exact flat_map flat_ref _ | exact flat_map flat_int _ | exact flat_map flat_evt _) (by first | exact flat_map flat_str _ | exact flat_map flat_ent _ | exact flat_map flat_edt _ | exact flat_map flat_ref _ | exact flat_map flat_int _ | exact flat_map flat_evt _)⟩) (by first | exact trivial | exact ⟨⟨rfl, rfl, rfl⟩, trivial⟩ | exact ⟨⟨rfl, rfl, rfl⟩, ⟨rfl, rfl, rfl⟩, trivial⟩ | exact ⟨⟨rfl, rfl, rfl⟩, ⟨rfl, rfl, rfl⟩, ⟨rfl, rfl, rfl⟩, trivial⟩) rfl rfl) rfl rfl (fun e => by first | exact .inl rfl | contradiction | exact .inr (.inl (by kernel_rfl))) ?_; conv => whnf) | (refine r_step (p_ostore rfl rfl rfl rfl rfl (by conv => lhs; whnf) rfl) rfl rfl (fun e => by first | exact .inl rfl | contradiction | exact .inr (.inl (by kernel_rfl))) ?_; conv => whnf))
  exact r_ccv rfl rfl rfl rfl rfl rfl rfl rfl rfl
/-- what NextEvent answers for a valid watch -/
def nextR (w : Wat) : Wat × Evt × Int := (⟨w.name, w.seen, w.queue.drop 1⟩, w.queue.getD 0 evtZ, if 0 < w.queue.length then 0 else 5)
theorem ac_iNext {w : Wat} (hw : w.ok maxLen) (hb : watB w = true) : AC Try.prog 56 [watA w] ⟨.tup [watO (nextR w).1 0, evtA (nextR w).2.1, .v (.int .i64 (nextR w).2.2)], [evtO (nextR w).1.queue]⟩ := by
  have h1 := ac_iWatchOK hw
  rw [hb] at h1
  have h2 := ac_newPending (watB_of hb).2
  have h3 := ac_take (l := w.queue)
  have h4 := ac_takeAll (l := w.queue.drop 1) (by have := (watB_of hb).2; simp; omega)
  refine ac_watM ?_
  unfold nextR
  by_cases h0 : 0 < w.queue.length
  · rw [if_pos h0]
    rw [decide_eq_true h0] at h3
    refine r_of Th_ok (by kernel_rfl) Try.func56 rfl Try.ntmps56 Try.results56 (by kernel_rfl) rfl ?_; conv => whnf
    refine r_step (p_boxo rfl rfl rfl) rfl rfl (fun e => by first | exact .inl rfl | contradiction | exact .inr (.inl (by kernel_rfl))) ?_
    conv => whnf
    repeat (first | first | (refine r_put (p_bin (by first | exact b_lt_t (by omega) | exact b_lt_f (by omega) | exact b_le_t (by omega) | exact b_le_f (by omega) | exact b_gt_t (by omega) | exact b_gt_f (by omega) | exact b_ge_t (by omega) | exact b_ge_f (by omega) | exact b_eq_t (by omega) | exact b_eq_f (by omega) | exact b_ne_t (by omega) | exact b_ne_f (by omega) | exact b_sub rfl (by omega) (by omega) | exact b_add rfl (by omega) (by omega)) rfl rfl rfl) rfl rfl ?_; conv => whnf) | (refine r_put (p_idx (getA _ (by assumption)) rfl rfl rfl) rfl rfl ?_; conv => whnf) | (refine r_put (p_lenm rfl ⟨_, _, _, _, rfl⟩) rfl rfl ?_; conv => whnf) | (refine r_put (p_lenom rfl rfl ⟨_, _, _, _, rfl⟩) rfl rfl ?_; conv => whnf) | (refine r_put (p_len (y := .v (.string _)) rfl rfl rfl) rfl rfl ?_; conv => whnf) | (refine r_put (p_len rfl rfl ⟨_, _, _, _, rfl⟩) rfl rfl ?_; conv => whnf) | (refine r_step (p_call (h1) rfl (by first | exact .inl rfl | exact .inr ⟨by simp [flatA, flatL], by first | exact flat_o0 | exact flat_o1 (by first | exact flat_map flat_str _ | exact flat_map flat_ent _ | exact flat_map flat_edt _ | exact flat_map flat_ref _ | exact flat_map flat_int _ | exact flat_map flat_evt _) | exact flat_o2 (by first | exact flat_map flat_str _ | exact flat_map flat_ent _ | exact flat_map flat_edt _ | exact flat_map flat_ref _ | exact flat_map flat_int _ | exact flat_map flat_evt _) (by first | exact flat_map flat_str _ | exact flat_map flat_ent _ | exact flat_map flat_edt _ | exact flat_map flat_ref _ | exact flat_map flat_int _ | exact flat_map flat_evt _)⟩) (by first | exact trivial | exact ⟨⟨rfl, rfl, rfl⟩, trivial⟩ | exact ⟨⟨rfl, rfl, rfl⟩, ⟨rfl, rfl, rfl⟩, trivial⟩ | exact ⟨⟨rfl, rfl, rfl⟩, ⟨rfl, rfl, rfl⟩, ⟨rfl, rfl, rfl⟩, trivial⟩) rfl rfl) rfl rfl (fun e => by first | exact .inl rfl | contradiction | exact .inr (.inl (by kernel_rfl))) ?_; conv => whnf) | (refine r_step (p_call (h2) rfl (by first | exact .inl rfl | exact .inr ⟨by simp [flatA, flatL], by first | exact flat_o0 | exact flat_o1 (by first | exact flat_map flat_str _ | exact flat_map flat_ent _ | exact flat_map flat_edt _ | exact flat_map flat_ref _ | exact flat_map flat_int _ | exact flat_map flat_evt _) | exact flat_o2 (by first | exact flat_map flat_str _ | exact flat_map flat_ent _ | exact flat_map flat_edt _ | exact flat_map flat_ref _ | exact flat_map flat_int _ | exact flat_map flat_evt _) (by first | exact flat_map flat_str _ | exact flat_map flat_ent _ | exact flat_map flat_edt _ | exact flat_map flat_ref _ | exact flat_map flat_int _ | exact flat_map flat_evt _)⟩) (by first | exact trivial | exact ⟨⟨rfl, rfl, rfl⟩, trivial⟩ | exact ⟨⟨rfl, rfl, rfl⟩, ⟨rfl, rfl, rfl⟩, trivial⟩ | exact ⟨⟨rfl, rfl, rfl⟩, ⟨rfl, rfl, rfl⟩, ⟨rfl, rfl, rfl⟩, trivial⟩) rfl rfl) rfl rfl (fun e => by first | exact .inl rfl | contradiction | exact .inr (.inl (by kernel_rfl))) ?_; conv => whnf))
    refine r_step (p_callg [17] h3 rfl rfl ⟨rfl, trivial⟩ rfl rfl trivial rfl rfl rfl (.inl rfl) rfl) rfl rfl (fun e => by first | exact .inl rfl | contradiction | exact .inr (.inl (by kernel_rfl))) ?_
    conv => whnf
    repeat (first | first | (refine r_put (p_bin (by first | exact b_lt_t (by omega) | exact b_lt_f (by omega) | exact b_le_t (by omega) | exact b_le_f (by omega) | exact b_gt_t (by omega) | exact b_gt_f (by omega) | exact b_ge_t (by omega) | exact b_ge_f (by omega) | exact b_eq_t (by omega) | exact b_eq_f (by omega) | exact b_ne_t (by omega) | exact b_ne_f (by omega) | exact b_sub rfl (by omega) (by omega) | exact b_add rfl (by omega) (by omega)) rfl rfl rfl) rfl rfl ?_; conv => whnf) | (refine r_put (p_idx (getA _ (by assumption)) rfl rfl rfl) rfl rfl ?_; conv => whnf) | (refine r_put (p_lenm rfl ⟨_, _, _, _, rfl⟩) rfl rfl ?_; conv => whnf) | (refine r_put (p_lenom rfl rfl ⟨_, _, _, _, rfl⟩) rfl rfl ?_; conv => whnf) | (refine r_put (p_len (y := .v (.string _)) rfl rfl rfl) rfl rfl ?_; conv => whnf) | (refine r_put (p_len rfl rfl ⟨_, _, _, _, rfl⟩) rfl rfl ?_; conv => whnf) | (refine r_step (p_ostore rfl rfl rfl rfl rfl (by conv => lhs; whnf) rfl) rfl rfl (fun e => by first | exact .inl rfl | contradiction | exact .inr (.inl (by kernel_rfl))) ?_; conv => whnf))
    refine r_step (p_callg [17] h4 rfl rfl ⟨rfl, trivial⟩ rfl rfl ⟨⟨rfl, rfl, rfl⟩, trivial⟩ rfl rfl rfl (.inl rfl) rfl) rfl rfl (fun e => by first | exact .inl rfl | contradiction | exact .inr (.inl (by kernel_rfl))) ?_
    conv => whnf
    repeat (first | first | (refine r_put (p_bin (by first | exact b_lt_t (by omega) | exact b_lt_f (by omega) | exact b_le_t (by omega) | exact b_le_f (by omega) | exact b_gt_t (by omega) | exact b_gt_f (by omega) | exact b_ge_t (by omega) | exact b_ge_f (by omega) | exact b_eq_t (by omega) | exact b_eq_f (by omega) | exact b_ne_t (by omega) | exact b_ne_f (by omega) | exact b_sub rfl (by omega) (by omega) | exact b_add rfl (by omega) (by omega)) rfl rfl rfl) rfl rfl ?_; conv => whnf) | (refine r_put (p_idx (getA _ (by assumption)) rfl rfl rfl) rfl rfl ?_; conv => whnf) | (refine r_put (p_lenm rfl ⟨_, _, _, _, rfl⟩) rfl rfl ?_; conv => whnf) | (refine r_put (p_lenom rfl rfl ⟨_, _, _, _, rfl⟩) rfl rfl ?_; conv => whnf) | (refine r_put (p_len (y := .v (.string _)) rfl rfl rfl) rfl rfl ?_; conv => whnf) | (refine r_put (p_len rfl rfl ⟨_, _, _, _, rfl⟩) rfl rfl ?_; conv => whnf) | (refine r_step (p_ostoreo rfl rfl rfl rfl rfl rfl) rfl rfl (fun e => by first | exact .inl rfl | contradiction | exact .inr (.inl (by kernel_rfl))) ?_; conv => whnf))
    (refine .inl (And.intro (by kernel_rfl) ?_); conv => whnf)
    refine r_step (p_ostoreo rfl rfl rfl rfl rfl rfl) rfl rfl (fun _ => .inr (.inr (soft_set (by kernel_rfl) (by kernel_rfl)))) ?_
    conv => whnf
    refine r_step (p_ostore rfl rfl rfl rfl rfl (by conv => lhs; whnf) rfl) rfl rfl (fun _ => .inr (.inr (soft_set (by kernel_rfl) (by kernel_rfl)))) ?_
    conv => whnf
    exact r_watEV rfl rfl rfl rfl rfl rfl rfl rfl rfl rfl rfl
  · rw [if_neg h0]
    rw [decide_eq_false h0] at h3
    refine r_of Th_ok (by kernel_rfl) Try.func56 rfl Try.ntmps56 Try.results56 (by kernel_rfl) rfl ?_; conv => whnf
    refine r_step (p_boxo rfl rfl rfl) rfl rfl (fun e => by first | exact .inl rfl | contradiction | exact .inr (.inl (by kernel_rfl))) ?_
    conv => whnf
    repeat (first | first | (refine r_put (p_bin (by first | exact b_lt_t (by omega) | exact b_lt_f (by omega) | exact b_le_t (by omega) | exact b_le_f (by omega) | exact b_gt_t (by omega) | exact b_gt_f (by omega) | exact b_ge_t (by omega) | exact b_ge_f (by omega) | exact b_eq_t (by omega) | exact b_eq_f (by omega) | exact b_ne_t (by omega) | exact b_ne_f (by omega) | exact b_sub rfl (by omega) (by omega) | exact b_add rfl (by omega) (by omega)) rfl rfl rfl) rfl rfl ?_; conv => whnf) | (refine r_put (p_idx (getA _ (by assumption)) rfl rfl rfl) rfl rfl ?_; conv => whnf) | (refine r_put (p_lenm rfl ⟨_, _, _, _, rfl⟩) rfl rfl ?_; conv => whnf) | (refine r_put (p_lenom rfl rfl ⟨_, _, _, _, rfl⟩) rfl rfl ?_; conv => whnf) | (refine r_put (p_len (y := .v (.string _)) rfl rfl rfl) rfl rfl ?_; conv => whnf) | (refine r_put (p_len rfl rfl ⟨_, _, _, _, rfl⟩) rfl rfl ?_; conv => whnf) | (refine r_step (p_call (h1) rfl (by first | exact .inl rfl | exact .inr ⟨by simp [flatA, flatL], by first | exact flat_o0 | exact flat_o1 (by first | exact flat_map flat_str _ | exact flat_map flat_ent _ | exact flat_map flat_edt _ | exact flat_map flat_ref _ | exact flat_map flat_int _ | exact flat_map flat_evt _) | exact flat_o2 (by first | exact flat_map flat_str _ | exact flat_map flat_ent _ | exact flat_map flat_edt _ | exact flat_map flat_ref _ | exact flat_map flat_int _ | exact flat_map flat_evt _) (by first | exact flat_map flat_str _ | exact flat_map flat_ent _ | exact flat_map flat_edt _ | exact flat_map flat_ref _ | exact flat_map flat_int _ | exact flat_map flat_evt _)⟩) (by first | exact trivial | exact ⟨⟨rfl, rfl, rfl⟩, trivial⟩ | exact ⟨⟨rfl, rfl, rfl⟩, ⟨rfl, rfl, rfl⟩, trivial⟩ | exact ⟨⟨rfl, rfl, rfl⟩, ⟨rfl, rfl, rfl⟩, ⟨rfl, rfl, rfl⟩, trivial⟩) rfl rfl) rfl rfl (fun e => by first | exact .inl rfl | contradiction | exact .inr (.inl (by kernel_rfl))) ?_; conv => whnf) | (refine r_step (p_call (h2) rfl (by first | exact .inl rfl | exact .inr ⟨by simp [flatA, flatL], by first | exact flat_o0 | exact flat_o1 (by first | exact flat_map flat_str _ | exact flat_map flat_ent _ | exact flat_map flat_edt _ | exact flat_map flat_ref _ | exact flat_map flat_int _ | exact flat_map flat_evt _) | exact flat_o2 (by first | exact flat_map flat_str _ | exact flat_map flat_ent _ | exact flat_map flat_edt _ | exact flat_map flat_ref _ | exact flat_map flat_int _ | exact flat_map flat_evt _) (by first | exact flat_map flat_str _ | exact flat_map flat_ent _ | exact flat_map flat_edt _ | exact flat_map flat_ref _ | exact flat_map flat_int _ | exact flat_map flat_evt _)⟩) (by first | exact trivial | exact ⟨⟨rfl, rfl, rfl⟩, trivial⟩ | exact ⟨⟨rfl, rfl, rfl⟩, ⟨rfl, rfl, rfl⟩, trivial⟩ | exact ⟨⟨rfl, rfl, rfl⟩, ⟨rfl, rfl, rfl⟩, ⟨rfl, rfl, rfl⟩, trivial⟩) rfl rfl) rfl rfl (fun e => by first | exact .inl rfl | contradiction | exact .inr (.inl (by kernel_rfl))) ?_; conv => whnf))
    refine r_step (p_callg [17] h3 rfl rfl ⟨rfl, trivial⟩ rfl rfl trivial rfl rfl rfl (.inl rfl) rfl) rfl rfl (fun e => by first | exact .inl rfl | contradiction | exact .inr (.inl (by kernel_rfl))) ?_
    conv => whnf
    repeat (first | first | (refine r_put (p_bin (by first | exact b_lt_t (by omega) | exact b_lt_f (by omega) | exact b_le_t (by omega) | exact b_le_f (by omega) | exact b_gt_t (by omega) | exact b_gt_f (by omega) | exact b_ge_t (by omega) | exact b_ge_f (by omega) | exact b_eq_t (by omega) | exact b_eq_f (by omega) | exact b_ne_t (by omega) | exact b_ne_f (by omega) | exact b_sub rfl (by omega) (by omega) | exact b_add rfl (by omega) (by omega)) rfl rfl rfl) rfl rfl ?_; conv => whnf) | (refine r_put (p_idx (getA _ (by assumption)) rfl rfl rfl) rfl rfl ?_; conv => whnf) | (refine r_put (p_lenm rfl ⟨_, _, _, _, rfl⟩) rfl rfl ?_; conv => whnf) | (refine r_put (p_lenom rfl rfl ⟨_, _, _, _, rfl⟩) rfl rfl ?_; conv => whnf) | (refine r_put (p_len (y := .v (.string _)) rfl rfl rfl) rfl rfl ?_; conv => whnf) | (refine r_put (p_len rfl rfl ⟨_, _, _, _, rfl⟩) rfl rfl ?_; conv => whnf) | (refine r_step (p_ostore rfl rfl rfl rfl rfl (by conv => lhs; whnf) rfl) rfl rfl (fun e => by first | exact .inl rfl | contradiction | exact .inr (.inl (by kernel_rfl))) ?_; conv => whnf))
    refine r_step (p_callg [17] h4 rfl rfl ⟨rfl, trivial⟩ rfl rfl ⟨⟨rfl, rfl, rfl⟩, trivial⟩ rfl rfl rfl (.inl rfl) rfl) rfl rfl (fun e => by first | exact .inl rfl | contradiction | exact .inr (.inl (by kernel_rfl))) ?_
    conv => whnf
    repeat (first | first | (refine r_put (p_bin (by first | exact b_lt_t (by omega) | exact b_lt_f (by omega) | exact b_le_t (by omega) | exact b_le_f (by omega) | exact b_gt_t (by omega) | exact b_gt_f (by omega) | exact b_ge_t (by omega) | exact b_ge_f (by omega) | exact b_eq_t (by omega) | exact b_eq_f (by omega) | exact b_ne_t (by omega) | exact b_ne_f (by omega) | exact b_sub rfl (by omega) (by omega) | exact b_add rfl (by omega) (by omega)) rfl rfl rfl) rfl rfl ?_; conv => whnf) | (refine r_put (p_idx (getA _ (by assumption)) rfl rfl rfl) rfl rfl ?_; conv => whnf) | (refine r_put (p_lenm rfl ⟨_, _, _, _, rfl⟩) rfl rfl ?_; conv => whnf) | (refine r_put (p_lenom rfl rfl ⟨_, _, _, _, rfl⟩) rfl rfl ?_; conv => whnf) | (refine r_put (p_len (y := .v (.string _)) rfl rfl rfl) rfl rfl ?_; conv => whnf) | (refine r_put (p_len rfl rfl ⟨_, _, _, _, rfl⟩) rfl rfl ?_; conv => whnf) | (refine r_step (p_ostoreo rfl rfl rfl rfl rfl rfl) rfl rfl (fun e => by first | exact .inl rfl | contradiction | exact .inr (.inl (by kernel_rfl))) ?_; conv => whnf))
    (refine .inl (And.intro (by kernel_rfl) ?_); conv => whnf)
    refine r_step (p_ostoreo rfl rfl rfl rfl rfl rfl) rfl rfl (fun _ => .inr (.inr (soft_set (by kernel_rfl) (by kernel_rfl)))) ?_
    conv => whnf
    refine r_step (p_ostore rfl rfl rfl rfl rfl (by conv => lhs; whnf) rfl) rfl rfl (fun _ => .inr (.inr (soft_set (by kernel_rfl) (by kernel_rfl)))) ?_
    conv => whnf
    exact r_watEV rfl rfl rfl rfl rfl rfl rfl rfl rfl rfl rfl
end Go.Proofs.Ytnlobdhkpmeniaa.AM
