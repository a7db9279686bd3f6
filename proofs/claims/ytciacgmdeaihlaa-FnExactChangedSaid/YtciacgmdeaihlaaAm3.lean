/- The machine over data: its words carried over a step (a value put, a new row, a row given up). -/
import Derived.Test.YtciacgmdeaihlaaAm2
namespace Go.Proofs.Ytciacgmdeaihlaa.AM
open Go Go.RowKit

theorem nbne {j d : Nat} (h : j ≠ d) : Nat.beq j d = false := by
  cases e : Nat.beq j d with
  | false => rfl
  | true => exact absurd (Nat.eq_of_beq_eq_true e) h

section
variable {S S' : Nat → Prop} {w w' : World} {hp hp' : Nat → Option OB} {B B' : Nat → Nat} {V V' : Nat → Value}
mutual
theorem RV.carry (hS : ∀ b, S b → S' b) (hw : ∀ b, S b → w'.heap[b]? = w.heap[b]?) : ∀ (x : AV) (u : Value), (∀ l ob, x.names l = true → hp l = some ob → ∃ ob', hp' l = some ob' ∧ ob'.sz = ob.sz ∧ V' l = V l ∧ B' l = B l) →
    RV S w hp B V x u → RV S' w' hp' B' V' x u
  | .any, u, _, h => by unfold RV at h ⊢; trivial
  | .v x, u, _, h => by unfold RV at h ⊢; exact h
  | .agg xs, u, _, h => by
    unfold RV at h ⊢
    obtain ⟨cs, e, h⟩ := h
    exact ⟨cs, e, RL.mono hS hw xs cs h⟩
  | .lst sz xs, u, _, h => by unfold RV at h ⊢; exact RA.mono hS hw _ _ h
  | .ptr x, u, _, h => by
    unfold RV at h ⊢
    obtain ⟨b, off, us, e, hb, hr, hc⟩ := h
    exact ⟨b, off, us, e, hS b hb, RA.mono hS hw x us hr, fun j y hy => (cell_same (hw b hb) _).trans (hc j y hy)⟩
  | .own l, u, hn, h => by
    unfold RV at h ⊢
    obtain ⟨⟨ob, ho⟩, e⟩ := h
    obtain ⟨ob', h1, _, h2, _⟩ := hn l ob (by simp [AV.names]) ho
    exact ⟨⟨ob', h1⟩, e.trans h2.symm⟩
  | .optr l i p c, u, hn, h => by
    unfold RV at h ⊢
    obtain ⟨ob, ho, e⟩ := h
    obtain ⟨ob', h1, h2, _, h3⟩ := hn l ob (by simp [AV.names]) ho
    exact ⟨ob', h1, by rw [e, h2, h3]⟩
  | .tup xs, u, hn, h => by
    unfold RV at h ⊢
    obtain ⟨us, e, h⟩ := h
    exact ⟨us, e, RVs.carry hS hw xs us (fun l ob hl => hn l ob (by simpa [AV.names] using hl)) h⟩
theorem RVs.carry (hS : ∀ b, S b → S' b) (hw : ∀ b, S b → w'.heap[b]? = w.heap[b]?) : ∀ (xs : List AV) (us : List Value), (∀ l ob, namesL l xs = true → hp l = some ob → ∃ ob', hp' l = some ob' ∧ ob'.sz = ob.sz ∧ V' l = V l ∧ B' l = B l) →
    RVs S w hp B V xs us → RVs S' w' hp' B' V' xs us
  | [], us, _, h => by unfold RVs at h ⊢; exact h
  | x :: xs, us, hn, h => by
    unfold RVs at h ⊢
    obtain ⟨u, us', e, h1, h2⟩ := h
    exact ⟨u, us', e, RV.carry hS hw x u (fun l ob hl => hn l ob (by simp [namesL, hl])) h1, RVs.carry hS hw xs us' (fun l ob hl => hn l ob (by simp [namesL, hl])) h2⟩
end

theorem RO.carry {base : Nat} {ob : OB} {b : Nat} {v : Value} (hS : ∀ b, S b → S' b) (hw : ∀ b, S b → w'.heap[b]? = w.heap[b]?) (hg : ∀ g, v.ownBlock = some g → w'.heap[g]? = w.heap[g]? ∧ (¬ S g → ¬ S' g)) (h : RO S w base ob b v) : RO S' w' base ob b v := by
  obtain ⟨cs, h1, h2, h2', h3, h4⟩ := h
  refine ⟨cs, RL.mono hS hw _ _ h1, h2, h2', ⟨h3.1, ?_⟩, fun g e => ⟨(h4 g e).1, (hg g e).2 (h4 g e).2⟩⟩
  rcases h3.2 with h | ⟨g, cap, cur, e, hb, hh, r⟩
  · exact .inl h
  · subst e
    exact .inr ⟨g, cap, cur, rfl, hb, (hg g rfl).1.trans hh, r⟩
theorem RO.lt {base : Nat} {ob : OB} {b : Nat} {v : Value} (h : RO S w base ob b v) : ∀ g, v.ownBlock = some g → base ≤ g ∧ g < w.heap.size := by
  obtain ⟨cs, _, _, _, h3, _⟩ := h
  exact h3.lt

/-- what a slot holds as one value, and what its cells hold -/
theorem RV.ofRA {x : AV} {us : List Value} (h : RA S w x us) : (isAggA x = true → RV S w hp B V x (.agg us.toArray)) ∧ (isAggA x = false → ∃ u, us = [u] ∧ RV S w hp B V x u) := by
  cases x with
  | v x => unfold RA at h; exact ⟨fun e => by simp [isAggA] at e, fun _ => ⟨x, h.1, by unfold RV; exact ⟨rfl, h.2⟩⟩⟩
  | agg xs => unfold RA at h; exact ⟨fun _ => by unfold RV; exact ⟨us, rfl, h⟩, fun e => by simp [isAggA] at e⟩
  | lst sz xs =>
    have h0 := h
    unfold RA at h
    obtain ⟨A, c, e, _⟩ := h
    exact ⟨fun e => by simp [isAggA] at e, fun _ => ⟨_, e, by unfold RV; rw [← e]; exact h0⟩⟩
  | _ => unfold RA at h; exact h.elim
/-- what is stored: the cells of a slot's value read as its datum -/
theorem RA.ofRV {x : AV} {u : Value} (h : RV S w hp B V x u) (hd : (match x with | .v _ | .agg _ | .lst _ _ => True | _ => False)) : RA S w x u.cells.toList := by
  cases x with
  | v x => unfold RV at h; obtain ⟨rfl, h1⟩ := h; unfold RA; refine ⟨?_, h1⟩; cases u <;> first | rfl | simp [Value.oneCell'] at h1
  | agg xs => unfold RV at h; obtain ⟨cs, rfl, h1⟩ := h; unfold RA; simpa [Value.cells] using h1
  | lst sz xs =>
    unfold RV at h
    have h0 := h
    unfold RA at h
    obtain ⟨A, c, e, _⟩ := h
    simp only [List.cons.injEq, and_true] at e
    subst e
    simpa [Value.cells] using h0
  | _ => exact hd.elim

/-- an owned row read as a list -/
theorem RO.list {base : Nat} {ob : OB} {b : Nat} {v : Value} (h : RO S w base ob b v) : RA (fun g => S g ∨ v.ownBlock = some g) w (.lst ob.sz ob.xs) [v] := by
  obtain ⟨cs, h1, h2, h2', h3, _⟩ := h
  unfold RA
  have hl := RL.size _ _ h1
  rcases h3.2 with ⟨rfl, hn⟩ | ⟨g, cap, cur, rfl, hb, hg, hc, hm, hs, ht⟩
  · exact ⟨none, 0, by rw [hn], by omega, by unfold maxLen; omega, h2, h2', .inl (List.eq_nil_of_length_eq_zero hn)⟩
  · refine ⟨_, cap, rfl, hc, hm, h2, h2', .inr ⟨g, 0, cs, rfl, .inr rfl, RL.mono (fun _ h => .inl h) (fun _ _ => rfl) _ _ h1, fun j u hu => ?_⟩⟩
    rw [cell_of_row w g (0 + j) cur ob.e (0, 0) hg]
    rw [← ht, List.getElem?_take] at hu
    split at hu
    · simpa using hu
    · cases hu
end

section
variable {W : World} {M : Option Value} {S0 : Nat → Prop} {s : St} {a : Act} {w : World} {n : Nat}

theorem putTmps {tmps : Array Value} {d t : Nat} {u : Value} (hd : d < tmps.size) : (tmps.setIfInBounds d u).getD t undef = if t = d then u else tmps.getD t undef := by
  by_cases h : t = d
  · subst h; simp [hd]
  · simp [h, Array.getElem?_setIfInBounds_ne (Ne.symm h)]

/-- a datum put into a slot -/
theorem SimW.put {tmps : Array Value} {S B V} (h : SimW W M S0 s tmps w S B V) {x : AV} {u : Value} (hx : RV S w s.hp B V x u) (d : Tmp) (hd : d < tmps.size) : SimW W M S0 (s.put (some d) x) (tmps.setIfInBounds d u) w S B V := by
  refine ⟨h.below, h.s0, h.slt, fun t => ?_, h.hp, h.dist, h.mine, h.pin⟩
  rw [putTmps hd]
  show RV S w s.hp B V (bif Nat.beq t d then x else s.sl t) _
  by_cases ht : t = d
  · subst ht; simp [hx]
  · rw [if_neg ht, nbne ht]; exact h.sl t
theorem Sim.put {S B V} (hn : a.tmps.size = n) (hdf : a.defers = []) (h : SimW W M S0 s a.tmps w S B V) {x : AV} {u : Value} (d : Option Tmp) (hx : RV S w s.hp B V x u) (hd : inN n d = true) : Sim W M S0 n (s.put d x) (a.put d u) w := by
  cases d with
  | none => exact ⟨hn, hdf, S, B, V, h⟩
  | some d => exact ⟨by simpa [Act.put] using hn, hdf, S, B, V, h.put hx d (by rw [hn]; simpa [inN] using hd)⟩

/-- the world goes on below what is the call's own -/
theorem SimW.world {tmps : Array Value} {w1 : World} {S B V} (h : SimW W M S0 s tmps w S B V) (hb : Below w.heap.size w w1) : SimW W M S0 s tmps w1 S B V := by
  have hw : ∀ b, b < w.heap.size → w1.heap[b]? = w.heap[b]? := fun b hb' => hb.block b hb'
  refine ⟨grown_trans h.below (grown_of_below hb none) (fun g e => by cases e), h.s0, fun b hs => ⟨Nat.lt_of_lt_of_le (h.slt b hs).1 hb.size, (h.slt b hs).2⟩, fun t => ?_, fun l ob ho => ?_, h.dist, h.mine, h.pin⟩
  · exact RV.carry (fun _ h => h) (fun b hs => hw b (h.slt b hs).1) _ _ (fun l ob _ ho => ⟨ob, ho, rfl, rfl, rfl⟩) (h.sl t)
  · exact (h.hp l ob ho).carry (fun _ h => h) (fun b hs => hw b (h.slt b hs).1) (fun g hg => ⟨hw g ((h.hp l ob ho).lt g hg).2, id⟩)

def upd {α : Type} (f : Nat → α) (d : Nat) (x : α) : Nat → α := fun j => bif Nat.beq j d then x else f j
theorem upd_same {α : Type} {f : Nat → α} {d : Nat} {x : α} : upd f d x d = x := by simp [upd]
theorem upd_ne {α : Type} {f : Nat → α} {d j : Nat} {x : α} (h : j ≠ d) : upd f d x j = f j := by simp [upd, nbne h]

/-- a new row comes to a label that is free -/
theorem SimW.row {tmps : Array Value} {S B V} (h : SimW W M S0 s tmps w S B V) {d : Nat} (hd0 : d ≠ 0) (hf : s.hp d = none) {ob : OB} {g : Nat} {v : Value} (hr : RO S w 0 ob g v) (hmine : ∀ g, v.ownBlock = some g → W.heap.size ≤ g ∨ mb M = some g) (hfar : ∀ l ob' g', s.hp l = some ob' → (V l).ownBlock = some g' → v.ownBlock ≠ some g') :
    SimW W M S0 (s.set d (some ob)) tmps w S (upd B d g) (upd V d v) := by
  refine ⟨h.below, h.s0, h.slt, fun t => ?_, fun l ob' ho => ?_, fun l l' o1 o2 g' h1 h2 e1 e2 => ?_, fun l ob' g' ho e1 => ?_, fun u hu => (upd_ne (Ne.symm hd0)).trans (h.pin u hu)⟩
  · refine RV.carry (fun _ h => h) (fun _ _ => rfl) _ _ (fun l ob' _ ho => ?_) (h.sl t)
    have hne : l ≠ d := fun e => by rw [e, hf] at ho; cases ho
    exact ⟨ob', by simp [St.set, nbne hne, ho], rfl, upd_ne hne, upd_ne hne⟩
  · by_cases hne : l = d
    · subst hne
      have : ob = ob' := by simpa [St.set] using ho
      subst this
      rw [upd_same, upd_same]; exact hr
    · rw [upd_ne hne, upd_ne hne]
      exact h.hp l ob' (by simpa [St.set, nbne hne] using ho)
  · by_cases e : l = d
    · by_cases e' : l' = d
      · rw [e, e']
      · subst e
        rw [upd_same] at e1; rw [upd_ne e'] at e2
        exact absurd e1 (hfar l' o2 g' (by simpa [St.set, nbne e'] using h2) e2)
    · by_cases e' : l' = d
      · subst e'
        rw [upd_same] at e2; rw [upd_ne e] at e1
        exact absurd e2 (hfar l o1 g' (by simpa [St.set, nbne e] using h1) e1)
      · rw [upd_ne e] at e1; rw [upd_ne e'] at e2
        exact h.dist l l' o1 o2 g' (by simpa [St.set, nbne e] using h1) (by simpa [St.set, nbne e'] using h2) e1 e2
  · by_cases e : l = d
    · subst e; rw [upd_same] at e1; exact hmine g' e1
    · rw [upd_ne e] at e1; exact h.mine l ob' g' (by simpa [St.set, nbne e] using ho) e1

/-- a row is given up: it may be read from now on, by whoever names it -/
theorem SimW.frz {tmps : Array Value} {S B V} (h : SimW W M S0 s tmps w S B V) (l : Nat) : ∃ S', (∀ b, S b → S' b) ∧ SimW W M S0 (s.frz l) tmps w S' B V ∧ ∀ ob, s.hp l = some ob → RA S' w (.lst ob.sz ob.xs) [V l] := by
  unfold St.frz
  cases ho : s.hp l with
  | none => exact ⟨S, fun _ h => h, h, fun ob e => by cases e⟩
  | some ob =>
    have hro := h.hp l ob ho
    have hsub : ∀ b, S b → S b ∨ (V l).ownBlock = some b := fun b hb => .inl hb
    refine ⟨fun g => S g ∨ (V l).ownBlock = some g, hsub, ⟨h.below, fun b hb => .inl (h.s0 b hb), fun b hb => ?_, fun t => ?_, fun l' ob' ho' => ?_, fun l1 l2 o1 o2 g h1 h2 => ?_, fun l1 o1 g h1 => ?_, h.pin⟩, fun ob' e => by cases e; exact hro.list⟩
    · rcases hb with hb | hb
      · exact h.slt b hb
      · exact ⟨(hro.lt b hb).2, .inr (h.mine l ob b ho hb)⟩
    · have ht := h.sl t
      have hother : ∀ x u, x.names l = false → RV S w s.hp B V x u → RV (fun g => S g ∨ (V l).ownBlock = some g) w (fun j => bif Nat.beq j l then none else s.hp j) B V x u := fun x u hx hr => by
        refine RV.carry hsub (fun _ _ => rfl) x u (fun l' ob' hn ho' => ⟨ob', ?_, rfl, rfl, rfl⟩) hr
        have hne : l' ≠ l := fun e => by rw [e, hx] at hn; cases hn
        simp [nbne hne, ho']
      show RV _ w (fun j => bif Nat.beq j l then none else s.hp j) B V (match s.sl t with | .own l' => bif Nat.beq l' l then .lst ob.sz ob.xs else .own l' | x => bif x.names l then .any else x) _
      cases hx : s.sl t with
      | own l' =>
        rw [hx] at ht
        by_cases e : l' = l
        · subst e
          simp only [Nat.beq_refl, cond_true]
          unfold RV at ht ⊢
          rw [ht.2]; exact hro.list
        · have hb : Nat.beq l' l = false := nbne e
          simp only [hb, cond_false]
          exact hother _ _ (by simp [AV.names, hb]) ht
      | _ =>
        rw [hx] at ht
        simp only
        first
          | (cases hn : AV.names l _ with
             | true => simp only [cond_true]; unfold RV; trivial
             | false => simp only [cond_false]; exact hother _ _ hn ht)
    · have hne : l' ≠ l := fun e => by rw [e] at ho'; simp at ho'
      have ho2 : s.hp l' = some ob' := by simpa [nbne hne] using ho'
      refine (h.hp l' ob' ho2).carry hsub (fun _ _ => rfl) (fun g hg => ⟨rfl, fun hs hor => ?_⟩)
      rcases hor with hor | hor
      · exact hs hor
      · exact hne (h.dist l' l ob' ob g ho2 ho hg hor)
    · have n1 : l1 ≠ l := fun e => by rw [e] at h1; simp at h1
      have n2 : l2 ≠ l := fun e => by rw [e] at h2; simp at h2
      exact h.dist l1 l2 o1 o2 g (by simpa [nbne n1] using h1) (by simpa [nbne n2] using h2)
    · have n1 : l1 ≠ l := fun e => by rw [e] at h1; simp at h1
      exact h.mine l1 o1 g (by simpa [nbne n1] using h1)
/-- a new row comes to a label, whatever lay there is forgotten -/
theorem SimW.rowk {tmps : Array Value} {S B V} (h : SimW W M S0 s tmps w S B V) {d : Nat} (hd0 : d ≠ 0) {ob : OB} {g : Nat} {v : Value} (hr : RO S w 0 ob g v) (hmine : ∀ g, v.ownBlock = some g → W.heap.size ≤ g ∨ mb M = some g) (hfar : ∀ l ob' g', l ≠ d → s.hp l = some ob' → (V l).ownBlock = some g' → v.ownBlock ≠ some g') :
    SimW W M S0 ((s.kill d).set d (some ob)) tmps w S (upd B d g) (upd V d v) := by
  refine ⟨h.below, h.s0, h.slt, fun t => ?_, fun l ob' ho => ?_, fun l l' o1 o2 g' h1 h2 e1 e2 => ?_, fun l ob' g' ho e1 => ?_, fun u hu => (upd_ne (Ne.symm hd0)).trans (h.pin u hu)⟩
  · show RV S w (fun j => bif Nat.beq j d then some ob else s.hp j) _ _ (bif (s.sl t).names d then .any else s.sl t) _
    cases hn : (s.sl t).names d with
    | true => simp only [cond_true]; unfold RV; trivial
    | false =>
      simp only [cond_false]
      refine RV.carry (fun _ h => h) (fun _ _ => rfl) _ _ (fun l ob' hl ho => ?_) (h.sl t)
      have hne : l ≠ d := fun e => by rw [e, hn] at hl; cases hl
      exact ⟨ob', by simp [nbne hne, ho], rfl, upd_ne hne, upd_ne hne⟩
  · by_cases hne : l = d
    · subst hne
      have : ob = ob' := by simpa [St.set] using ho
      subst this
      rw [upd_same, upd_same]; exact hr
    · rw [upd_ne hne, upd_ne hne]
      exact h.hp l ob' (by simpa [St.set, St.kill, nbne hne] using ho)
  · by_cases e : l = d
    · by_cases e' : l' = d
      · rw [e, e']
      · subst e
        rw [upd_same] at e1; rw [upd_ne e'] at e2
        exact absurd e1 (hfar l' o2 g' e' (by simpa [St.set, St.kill, nbne e'] using h2) e2)
    · by_cases e' : l' = d
      · subst e'
        rw [upd_same] at e2; rw [upd_ne e] at e1
        exact absurd e2 (hfar l o1 g' e (by simpa [St.set, St.kill, nbne e] using h1) e1)
      · rw [upd_ne e] at e1; rw [upd_ne e'] at e2
        exact h.dist l l' o1 o2 g' (by simpa [St.set, St.kill, nbne e] using h1) (by simpa [St.set, St.kill, nbne e'] using h2) e1 e2
  · by_cases e : l = d
    · subst e; rw [upd_same] at e1; exact hmine g' e1
    · rw [upd_ne e] at e1; exact h.mine l ob' g' (by simpa [St.set, St.kill, nbne e] using ho) e1
/-- nil is an empty row of anything -/
theorem SimW.nilrow {tmps : Array Value} {S B V} (h : SimW W M S0 s tmps w S B V) {d el sz : Nat} (hd0 : d ≠ 0) (h0 : 0 < sz) :
    SimW W M S0 ((s.kill d).set d (some ⟨el, sz, []⟩)) tmps w S (upd B d 0) (upd V d (.slice none 0 0)) :=
  h.rowk hd0 ⟨[], by unfold RL; rfl, fun x hx => by simp at hx, h0, ⟨by simp, .inl ⟨rfl, rfl⟩⟩, fun g hg => by simp [Value.ownBlock] at hg⟩ (fun g hg => by simp [Value.ownBlock] at hg) (fun l ob' g' _ _ _ e => by simp [Value.ownBlock] at e)
end
end Go.Proofs.Ytciacgmdeaihlaa.AM
