/- The machine over data, second make (N2): its words carried over a step. -/
import Derived.Test.YtmafbodblpgcjaaN1
namespace Go.Proofs.Ytmafbodblpgcjaa.AM
open Go Go.RowKit
set_option linter.unusedVariables false
set_option linter.unusedSimpArgs false

theorem nbne {j d : Nat} (h : j ≠ d) : Nat.beq j d = false := by
  cases e : Nat.beq j d with
  | false => rfl
  | true => exact absurd (Nat.eq_of_beq_eq_true e) h
def upd {α : Type} (f : Nat → α) (d : Nat) (x : α) : Nat → α := fun j => bif Nat.beq j d then x else f j
theorem upd_same {α : Type} {f : Nat → α} {d : Nat} {x : α} : upd f d x d = x := by simp [upd]
theorem upd_ne {α : Type} {f : Nat → α} {d j : Nat} {x : α} (h : j ≠ d) : upd f d x j = f j := by simp [upd, nbne h]

def namesE (l : Nat) : ET → Bool
  | .o _ _ y => y.names l
  | _ => false

section
variable {S S' : Nat → Prop} {w w' : World} {hp hp' : Nat → Option OB} {B B' : Nat → Nat} {V V' : Nat → Value}
/-- a label stands for the same -/
def Same (hp hp' : Nat → Option OB) (B B' : Nat → Nat) (V V' : Nat → Value) (l : Nat) : Prop := ∀ ob, hp l = some ob → ∃ ob', hp' l = some ob' ∧ ob'.sz = ob.sz ∧ V' l = V l ∧ B' l = B l
mutual
theorem RV.carry (hS : ∀ b, S b → S' b) (hw : ∀ b, S b → w'.heap[b]? = w.heap[b]?) : ∀ (x : AV) (u : Value), (∀ l, x.names l = true → Same hp hp' B B' V V' l) → RV S w hp B V x u → RV S' w' hp' B' V' x u
  | .any, u, _, h => by unfold RV at h ⊢; trivial
  | .v x, u, _, h => by unfold RV at h ⊢; exact h
  | .agg xs, u, _, h => by
    unfold RV at h ⊢
    obtain ⟨cs, e, h⟩ := h
    exact ⟨cs, e, RL.mono hS hw xs cs h⟩
  | .lst sz xs, u, _, h => by unfold RV at h ⊢; exact RA.mono hS hw _ _ h
  | .ptr x, u, _, h => by unfold RV at h ⊢; exact RA.mono hS hw _ _ h
  | .own l, u, hn, h => by
    unfold RV at h ⊢
    obtain ⟨⟨ob, ho⟩, e⟩ := h
    obtain ⟨ob', h1, _, h2, _⟩ := hn l (by simp [AV.names]) ob ho
    exact ⟨⟨ob', h1⟩, e.trans h2.symm⟩
  | .optr l i p c, u, hn, h => by
    unfold RV at h ⊢
    obtain ⟨ob, ho, e⟩ := h
    obtain ⟨ob', h1, h2, _, h3⟩ := hn l (by simp [AV.names]) ob ho
    exact ⟨ob', h1, by rw [e, h2, h3]⟩
  | .tup xs, u, hn, h => by
    unfold RV at h ⊢
    obtain ⟨us, e, h⟩ := h
    exact ⟨us, e, RVs.carry hS hw xs us (fun l hl => hn l (by simpa [AV.names] using hl)) h⟩
  | .mapv l, u, hn, h => by
    unfold RV at h ⊢
    obtain ⟨⟨ob, ho⟩, e⟩ := h
    obtain ⟨ob', h1, _, _, h3⟩ := hn l (by simp [AV.names]) ob ho
    exact ⟨⟨ob', h1⟩, by rw [e, h3]⟩
  | .mix xs, u, hn, h => by
    unfold RV at h ⊢
    obtain ⟨cs, e, h⟩ := h
    exact ⟨cs, e, ROs.carry hS hw xs _ cs (fun l hl => hn l (by simpa [AV.names] using hl)) (fun g hg => hg.elim) h⟩
  | .rd _, u, _, h => by unfold RV at h; exact h.elim
  | .fn f xs ys, u, hn, h => by
    unfold RV at h ⊢
    obtain ⟨us, vs, e, h1, h2⟩ := h
    exact ⟨us, vs, e, RVs.carry hS hw xs us (fun l hl => hn l (by simp [AV.names, hl])) h1, RVs.carry hS hw ys vs (fun l hl => hn l (by simp [AV.names, hl])) h2⟩
  | .ifc t x, u, hn, h => by
    unfold RV at h ⊢
    obtain ⟨u', e, h⟩ := h
    exact ⟨u', e, RV.carry hS hw x u' (fun l hl => hn l (by simpa [AV.names] using hl)) h⟩
theorem RVs.carry (hS : ∀ b, S b → S' b) (hw : ∀ b, S b → w'.heap[b]? = w.heap[b]?) : ∀ (xs : List AV) (us : List Value), (∀ l, namesL l xs = true → Same hp hp' B B' V V' l) → RVs S w hp B V xs us → RVs S' w' hp' B' V' xs us
  | [], us, _, h => by unfold RVs at h ⊢; exact h
  | x :: xs, us, hn, h => by
    unfold RVs at h ⊢
    obtain ⟨u, us', e, h1, h2⟩ := h
    exact ⟨u, us', e, RV.carry hS hw x u (fun l hl => hn l (by simp [namesL, hl])) h1, RVs.carry hS hw xs us' (fun l hl => hn l (by simp [namesL, hl])) h2⟩
theorem RO1.carry (hS : ∀ b, S b → S' b) (hw : ∀ b, S b → w'.heap[b]? = w.heap[b]?) : ∀ (x : AV) (T : Nat → Prop) (cs : List Value), (∀ l, x.names l = true → Same hp hp' B B' V V' l) → (∀ g, T g → w'.heap[g]? = w.heap[g]?) → RO1 S w hp B V x T cs → RO1 S' w' hp' B' V' x T cs
  | .any, T, cs, _, _, h => by unfold RO1 at h ⊢; exact h
  | .v x, T, cs, _, ht, h => by unfold RO1 at h ⊢; exact RD.mono _ _ _ ht h
  | .agg xs, T, cs, _, ht, h => by unfold RO1 at h ⊢; exact RD.mono _ _ _ ht h
  | .lst sz xs, T, cs, _, ht, h => by unfold RO1 at h ⊢; exact RD.mono _ _ _ ht h
  | .ptr x, T, cs, _, _, h => by unfold RO1 at h; exact h.elim
  | .tup x, T, cs, _, _, h => by unfold RO1 at h; exact h.elim
  | .own l, T, cs, hn, _, h => by
    unfold RO1 at h ⊢
    obtain ⟨h0, ⟨ob, ho⟩, e, h1⟩ := h
    obtain ⟨ob', k1, _, k2, _⟩ := hn l (by simp [AV.names]) ob ho
    exact ⟨h0, ⟨ob', k1⟩, by rw [e, k2], by rw [k2]; exact h1⟩
  | .optr l i p c, T, cs, hn, _, h => by
    unfold RO1 at h ⊢
    obtain ⟨h0, ob, ho, e⟩ := h
    obtain ⟨ob', k1, k2, _, k3⟩ := hn l (by simp [AV.names]) ob ho
    exact ⟨h0, ob', k1, by rw [e, k2, k3]⟩
  | .mapv l, T, cs, hn, _, h => by
    unfold RO1 at h ⊢
    obtain ⟨h0, ⟨ob, ho⟩, e⟩ := h
    obtain ⟨ob', k1, _, _, k3⟩ := hn l (by simp [AV.names]) ob ho
    exact ⟨h0, ⟨ob', k1⟩, by rw [e, k3]⟩
  | .mix xs, T, cs, hn, ht, h => by
    unfold RO1 at h ⊢
    exact ROs.carry hS hw xs T cs (fun l hl => hn l (by simpa [AV.names] using hl)) ht h
  | .rd x, T, cs, _, _, h => by unfold RO1 at h ⊢; exact ⟨h.1, RA.mono hS hw x cs h.2⟩
  | .fn f xs ys, T, cs, hn, _, h => by
    unfold RO1 at h ⊢
    obtain ⟨h0, us, vs, e, h1, h2⟩ := h
    exact ⟨h0, us, vs, e, RVs.carry hS hw xs us (fun l hl => hn l (by simp [AV.names, hl])) h1, RVs.carry hS hw ys vs (fun l hl => hn l (by simp [AV.names, hl])) h2⟩
  | .ifc t x, T, cs, hn, _, h => by
    unfold RO1 at h ⊢
    obtain ⟨h0, u', e, h⟩ := h
    exact ⟨h0, u', e, RV.carry hS hw x u' (fun l hl => hn l (by simpa [AV.names] using hl)) h⟩
theorem ROs.carry (hS : ∀ b, S b → S' b) (hw : ∀ b, S b → w'.heap[b]? = w.heap[b]?) : ∀ (xs : List AV) (T : Nat → Prop) (cs : List Value), (∀ l, namesL l xs = true → Same hp hp' B B' V V' l) → (∀ g, T g → w'.heap[g]? = w.heap[g]?) → ROs S w hp B V xs T cs → ROs S' w' hp' B' V' xs T cs
  | [], T, cs, _, _, h => by unfold ROs at h ⊢; exact h
  | x :: xs, T, cs, hn, ht, h => by
    unfold ROs at h ⊢
    obtain ⟨c1, c2, T1, T2, e, hs, h1, h2⟩ := h
    exact ⟨c1, c2, T1, T2, e, hs, RO1.carry hS hw x T1 c1 (fun l hl => hn l (by simp [namesL, hl])) (fun g hg => ht g (hs.left hg)) h1, ROs.carry hS hw xs T2 c2 (fun l hl => hn l (by simp [namesL, hl])) (fun g hg => ht g (hs.right hg)) h2⟩
end
mutual
/-- who is named is there -/
theorem RV.there {l : Nat} : ∀ (x : AV) (u : Value), x.names l = true → RV S w hp B V x u → ∃ ob, hp l = some ob
  | .own l', u, n, h => by unfold RV at h; simp only [AV.names] at n; rw [Nat.eq_of_beq_eq_true n] at h; exact h.1
  | .optr l' _ _ _, u, n, h => by unfold RV at h; simp only [AV.names] at n; rw [Nat.eq_of_beq_eq_true n] at h; obtain ⟨ob, ho, _⟩ := h; exact ⟨ob, ho⟩
  | .mapv l', u, n, h => by unfold RV at h; simp only [AV.names] at n; rw [Nat.eq_of_beq_eq_true n] at h; exact h.1
  | .tup xs, u, n, h => by unfold RV at h; obtain ⟨us, _, h⟩ := h; exact RVs.there xs us (by simpa [AV.names] using n) h
  | .mix xs, u, n, h => by unfold RV at h; obtain ⟨cs, _, h⟩ := h; exact ROs.there xs _ cs (by simpa [AV.names] using n) h
  | .fn f xs ys, u, n, h => by
    unfold RV at h; obtain ⟨us, vs, _, h1, h2⟩ := h
    simp only [AV.names, Bool.or_eq_true] at n
    rcases n with n | n
    · exact RVs.there xs us n h1
    · exact RVs.there ys vs n h2
  | .ifc t x, u, n, h => by unfold RV at h; obtain ⟨u', _, h⟩ := h; exact RV.there x u' (by simpa [AV.names] using n) h
  | .any, u, n, _ => by simp [AV.names] at n
  | .v _, u, n, _ => by simp [AV.names] at n
  | .agg _, u, n, _ => by simp [AV.names] at n
  | .lst _ _, u, n, _ => by simp [AV.names] at n
  | .ptr _, u, n, _ => by simp [AV.names] at n
  | .rd _, u, n, _ => by simp [AV.names] at n
theorem RVs.there {l : Nat} : ∀ (xs : List AV) (us : List Value), namesL l xs = true → RVs S w hp B V xs us → ∃ ob, hp l = some ob
  | [], us, n, _ => by simp [namesL] at n
  | x :: xs, us, n, h => by
    unfold RVs at h
    obtain ⟨u, us', e, h1, h2⟩ := h
    simp only [namesL, Bool.or_eq_true] at n
    rcases n with n | n
    · exact RV.there x u n h1
    · exact RVs.there xs us' n h2
theorem RO1.there {l : Nat} : ∀ (x : AV) (T : Nat → Prop) (cs : List Value), x.names l = true → RO1 S w hp B V x T cs → ∃ ob, hp l = some ob
  | .own l', T, cs, n, h => by unfold RO1 at h; simp only [AV.names] at n; rw [Nat.eq_of_beq_eq_true n] at h; exact h.2.1
  | .optr l' _ _ _, T, cs, n, h => by unfold RO1 at h; simp only [AV.names] at n; rw [Nat.eq_of_beq_eq_true n] at h; obtain ⟨_, ob, ho, _⟩ := h; exact ⟨ob, ho⟩
  | .mapv l', T, cs, n, h => by unfold RO1 at h; simp only [AV.names] at n; rw [Nat.eq_of_beq_eq_true n] at h; exact h.2.1
  | .mix xs, T, cs, n, h => by unfold RO1 at h; exact ROs.there xs T cs (by simpa [AV.names] using n) h
  | .fn f xs ys, T, cs, n, h => by
    unfold RO1 at h; obtain ⟨_, us, vs, _, h1, h2⟩ := h
    simp only [AV.names, Bool.or_eq_true] at n
    rcases n with n | n
    · exact RVs.there xs us n h1
    · exact RVs.there ys vs n h2
  | .ifc t x, T, cs, n, h => by unfold RO1 at h; obtain ⟨_, u', _, h⟩ := h; exact RV.there x u' (by simpa [AV.names] using n) h
  | .any, T, cs, n, _ => by simp [AV.names] at n
  | .v _, T, cs, n, _ => by simp [AV.names] at n
  | .agg _, T, cs, n, _ => by simp [AV.names] at n
  | .lst _ _, T, cs, n, _ => by simp [AV.names] at n
  | .ptr _, T, cs, n, _ => by simp [AV.names] at n
  | .rd _, T, cs, n, _ => by simp [AV.names] at n
  | .tup _, T, cs, n, h => by unfold RO1 at h; exact h.elim
theorem ROs.there {l : Nat} : ∀ (xs : List AV) (T : Nat → Prop) (cs : List Value), namesL l xs = true → ROs S w hp B V xs T cs → ∃ ob, hp l = some ob
  | [], T, cs, n, _ => by simp [namesL] at n
  | x :: xs, T, cs, n, h => by
    unfold ROs at h
    obtain ⟨c1, c2, T1, T2, e, hs, h1, h2⟩ := h
    simp only [namesL, Bool.or_eq_true] at n
    rcases n with n | n
    · exact RO1.there x T1 c1 n h1
    · exact ROs.there xs T2 c2 n h2
end
theorem RD.toRO1 : ∀ (x : AV) (T : Nat → Prop) (cs : List Value), RD w x T cs → RO1 S w hp B V x T cs
  | .v x, T, cs, h => by unfold RO1; exact h
  | .agg xs, T, cs, h => by unfold RO1; exact h
  | .lst sz xs, T, cs, h => by unfold RO1; exact h
  | .any, T, cs, h | .ptr _, T, cs, h | .own _, T, cs, h | .optr _ _ _ _, T, cs, h | .tup _, T, cs, h | .mapv _, T, cs, h | .mix _, T, cs, h | .rd _, T, cs, h | .fn _ _ _, T, cs, h | .ifc _ _, T, cs, h => by unfold RD at h; exact h.elim
theorem RDL.toROs : ∀ (xs : List AV) (T : Nat → Prop) (cs : List Value), RDL w xs T cs → ROs S w hp B V xs T cs
  | [], T, cs, h => by unfold RDL at h; unfold ROs; exact h
  | x :: xs, T, cs, h => by
    unfold RDL at h; unfold ROs
    obtain ⟨c1, c2, T1, T2, e, hs, h1, h2⟩ := h
    exact ⟨c1, c2, T1, T2, e, hs, RD.toRO1 x T1 c1 h1, RDL.toROs xs T2 c2 h2⟩
mutual
theorem RO1.size : ∀ (x : AV) (T : Nat → Prop) (cs : List Value), RO1 S w hp B V x T cs → cs.length = asz x
  | .any, T, cs, h => by unfold RO1 at h; obtain ⟨_, u, e, _⟩ := h; rw [e]; rfl
  | .v x, T, cs, h => by unfold RO1 at h; exact RD.size _ _ _ h
  | .agg xs, T, cs, h => by unfold RO1 at h; exact RD.size _ _ _ h
  | .lst sz xs, T, cs, h => by unfold RO1 at h; exact RD.size _ _ _ h
  | .ptr x, T, cs, h => by unfold RO1 at h; exact h.elim
  | .tup x, T, cs, h => by unfold RO1 at h; exact h.elim
  | .own l, T, cs, h => by unfold RO1 at h; rw [h.2.2.1]; rfl
  | .optr l i p c, T, cs, h => by unfold RO1 at h; obtain ⟨_, _, _, e⟩ := h; rw [e]; rfl
  | .mapv l, T, cs, h => by unfold RO1 at h; rw [h.2.2]; rfl
  | .mix xs, T, cs, h => by unfold RO1 at h; unfold asz; exact ROs.size xs T cs h
  | .rd x, T, cs, h => by unfold RO1 at h; unfold asz; exact RA.size _ _ h.2
  | .fn f xs ys, T, cs, h => by unfold RO1 at h; obtain ⟨_, _, _, e, _⟩ := h; rw [e]; rfl
  | .ifc t x, T, cs, h => by unfold RO1 at h; obtain ⟨_, _, e, _⟩ := h; rw [e]; rfl
theorem ROs.size : ∀ (xs : List AV) (T : Nat → Prop) (cs : List Value), ROs S w hp B V xs T cs → cs.length = aszs xs
  | [], T, cs, h => by unfold ROs at h; rw [h.1]; rfl
  | x :: xs, T, cs, h => by
    unfold ROs at h
    obtain ⟨c1, c2, T1, T2, e, hs, h1, h2⟩ := h
    unfold aszs
    rw [e, List.length_append, RO1.size x T1 c1 h1, ROs.size xs T2 c2 h2]
end
mutual
theorem RO1.one : ∀ (x : AV) (T : Nat → Prop) (cs : List Value), RO1 S w hp B V x T cs → ∀ u ∈ cs, u.oneCell' = true
  | .any, T, cs, h => by unfold RO1 at h; obtain ⟨_, u, e, h1⟩ := h; rw [e]; simpa using h1
  | .v x, T, cs, h => by unfold RO1 at h; exact RD.one _ _ _ h
  | .agg xs, T, cs, h => by unfold RO1 at h; exact RD.one _ _ _ h
  | .lst sz xs, T, cs, h => by unfold RO1 at h; exact RD.one _ _ _ h
  | .ptr x, T, cs, h => by unfold RO1 at h; exact h.elim
  | .tup x, T, cs, h => by unfold RO1 at h; exact h.elim
  | .own l, T, cs, h => by unfold RO1 at h; rw [h.2.2.1]; simpa using h.2.2.2
  | .optr l i p c, T, cs, h => by unfold RO1 at h; obtain ⟨_, _, _, e⟩ := h; rw [e]; simp [Value.oneCell']
  | .mapv l, T, cs, h => by unfold RO1 at h; rw [h.2.2]; simp [Value.oneCell']
  | .mix xs, T, cs, h => by unfold RO1 at h; exact ROs.one xs T cs h
  | .rd x, T, cs, h => by unfold RO1 at h; exact RA.one _ _ h.2
  | .fn f xs ys, T, cs, h => by unfold RO1 at h; obtain ⟨_, _, _, e, _⟩ := h; rw [e]; simp [Value.oneCell']
  | .ifc t x, T, cs, h => by unfold RO1 at h; obtain ⟨_, _, e, _⟩ := h; rw [e]; simp [Value.oneCell']
theorem ROs.one : ∀ (xs : List AV) (T : Nat → Prop) (cs : List Value), ROs S w hp B V xs T cs → ∀ u ∈ cs, u.oneCell' = true
  | [], T, cs, h => by unfold ROs at h; rw [h.1]; simp
  | x :: xs, T, cs, h => by
    unfold ROs at h
    obtain ⟨c1, c2, T1, T2, e, hs, h1, h2⟩ := h
    intro u hu
    rw [e, List.mem_append] at hu
    rcases hu with hu | hu
    · exact RO1.one x T1 c1 h1 u hu
    · exact ROs.one xs T2 c2 h2 u hu
end
mutual
theorem RO1.lt : ∀ (x : AV) (T : Nat → Prop) (cs : List Value), RO1 S w hp B V x T cs → ∀ g, T g → g < w.heap.size
  | .v x, T, cs, h => by unfold RO1 at h; exact RD.lt _ _ _ h
  | .agg xs, T, cs, h => by unfold RO1 at h; exact RD.lt _ _ _ h
  | .lst sz xs, T, cs, h => by unfold RO1 at h; exact RD.lt _ _ _ h
  | .ptr x, T, cs, h => by unfold RO1 at h; exact h.elim
  | .tup x, T, cs, h => by unfold RO1 at h; exact h.elim
  | .mix xs, T, cs, h => by unfold RO1 at h; exact ROs.lt xs T cs h
  | .any, T, cs, h | .own _, T, cs, h | .optr _ _ _ _, T, cs, h | .mapv _, T, cs, h | .rd _, T, cs, h | .fn _ _ _, T, cs, h | .ifc _ _, T, cs, h => by unfold RO1 at h; exact fun g hg => (h.1 g hg).elim
theorem ROs.lt : ∀ (xs : List AV) (T : Nat → Prop) (cs : List Value), ROs S w hp B V xs T cs → ∀ g, T g → g < w.heap.size
  | [], T, cs, h => by unfold ROs at h; exact fun g hg => (h.2 g hg).elim
  | x :: xs, T, cs, h => by
    unfold ROs at h
    obtain ⟨c1, c2, T1, T2, e, hs, h1, h2⟩ := h
    intro g hg
    rcases (hs.1 g).1 hg with k | k
    · exact RO1.lt x T1 c1 h1 g k
    · exact ROs.lt xs T2 c2 h2 g k
end
mutual
theorem RO1.kill (l : Nat) : ∀ (x : AV) (T : Nat → Prop) (cs : List Value), RO1 S w hp B V x T cs → RO1 S w hp B V (killA l x) T cs
  | .own l', T, cs, h => by
    simp only [killA]
    cases Nat.beq l' l with
    | false => exact h
    | true => simp only [cond_true]; unfold RO1 at h ⊢; exact ⟨h.1, _, h.2.2.1, h.2.2.2⟩
  | .optr l' i p c, T, cs, h => by
    simp only [killA]
    cases Nat.beq l' l with
    | false => exact h
    | true => simp only [cond_true]; unfold RO1 at h ⊢; obtain ⟨h0, _, _, e⟩ := h; exact ⟨h0, _, e, rfl⟩
  | .mapv l', T, cs, h => by
    simp only [killA]
    cases Nat.beq l' l with
    | false => exact h
    | true => simp only [cond_true]; unfold RO1 at h ⊢; exact ⟨h.1, _, h.2.2, rfl⟩
  | .mix xs, T, cs, h => by simp only [killA]; unfold RO1 at h ⊢; exact ROs.kill l xs T cs h
  | .fn f xs ys, T, cs, h => by
    simp only [killA]
    cases namesL l xs || namesL l ys with
    | false => exact h
    | true => simp only [cond_true]; unfold RO1 at h ⊢; obtain ⟨h0, _, _, e, _⟩ := h; exact ⟨h0, _, e, rfl⟩
  | .ifc t x, T, cs, h => by
    simp only [killA]
    cases x.names l with
    | false => exact h
    | true => simp only [cond_true]; unfold RO1 at h ⊢; obtain ⟨h0, _, e, _⟩ := h; exact ⟨h0, _, e, rfl⟩
  | .any, T, cs, h => h
  | .v _, T, cs, h => h
  | .agg _, T, cs, h => h
  | .lst _ _, T, cs, h => h
  | .ptr _, T, cs, h => h
  | .tup _, T, cs, h => by unfold RO1 at h; exact h.elim
  | .rd _, T, cs, h => h
theorem ROs.kill (l : Nat) : ∀ (xs : List AV) (T : Nat → Prop) (cs : List Value), ROs S w hp B V xs T cs → ROs S w hp B V (killL l xs) T cs
  | [], T, cs, h => h
  | x :: xs, T, cs, h => by
    simp only [killL]
    unfold ROs at h ⊢
    obtain ⟨c1, c2, T1, T2, e, hs, h1, h2⟩ := h
    exact ⟨c1, c2, T1, T2, e, hs, RO1.kill l x T1 c1 h1, ROs.kill l xs T2 c2 h2⟩
end
end
mutual
theorem killA_names (l : Nat) : ∀ x : AV, (killA l x).names l = false
  | .own l' => by
    simp only [killA]
    cases e : Nat.beq l' l with
    | false => simpa [AV.names] using e
    | true => rfl
  | .optr l' i p c => by
    simp only [killA]
    cases e : Nat.beq l' l with
    | false => simpa [AV.names] using e
    | true => rfl
  | .mapv l' => by
    simp only [killA]
    cases e : Nat.beq l' l with
    | false => simpa [AV.names] using e
    | true => rfl
  | .mix xs => by simp only [killA, AV.names]; exact killL_names l xs
  | .fn f xs ys => by
    simp only [killA]
    cases e : namesL l xs || namesL l ys with
    | false => simpa [AV.names] using e
    | true => rfl
  | .ifc t x => by
    simp only [killA]
    cases e : x.names l with
    | false => simpa [AV.names] using e
    | true => rfl
  | .any => rfl
  | .v _ => rfl
  | .agg _ => rfl
  | .lst _ _ => rfl
  | .ptr _ => rfl
  | .rd _ => rfl
  | .tup xs => rfl
theorem killL_names (l : Nat) : ∀ xs : List AV, namesL l (killL l xs) = false
  | [] => rfl
  | x :: xs => by simp only [killL, namesL, killL_names l xs, killA_names l x, Bool.or_false]
end
mutual
theorem killA_sub (l l' : Nat) : ∀ x : AV, (killA l x).names l' = true → x.names l' = true
  | .own k => by
    simp only [killA]
    cases e : Nat.beq k l with
    | false => exact id
    | true => intro h; simp [AV.names] at h
  | .optr k i p c => by
    simp only [killA]
    cases e : Nat.beq k l with
    | false => exact id
    | true => intro h; simp [AV.names] at h
  | .mapv k => by
    simp only [killA]
    cases e : Nat.beq k l with
    | false => exact id
    | true => intro h; simp [AV.names] at h
  | .mix xs => by simp only [killA, AV.names]; exact killL_sub l l' xs
  | .fn f xs ys => by
    simp only [killA]
    cases e : namesL l xs || namesL l ys with
    | false => exact id
    | true => intro h; simp [AV.names] at h
  | .ifc t x => by
    simp only [killA]
    cases e : x.names l with
    | false => exact id
    | true => intro h; simp [AV.names] at h
  | .any => id
  | .v _ => id
  | .agg _ => id
  | .lst _ _ => id
  | .ptr _ => id
  | .rd _ => id
  | .tup xs => fun h => by simp [killA, AV.names] at h
theorem killL_sub (l l' : Nat) : ∀ xs : List AV, namesL l' (killL l xs) = true → namesL l' xs = true
  | [] => id
  | x :: xs => by
    simp only [killL, namesL, Bool.or_eq_true]
    exact fun h => h.imp (killA_sub l l' x) (killL_sub l l' xs)
end
mutual
theorem killA_asz (l : Nat) : ∀ x : AV, asz (killA l x) = asz x
  | .own k => by simp only [killA]; cases Nat.beq k l <;> rfl
  | .optr k i p c => by simp only [killA]; cases Nat.beq k l <;> rfl
  | .mapv k => by simp only [killA]; cases Nat.beq k l <;> rfl
  | .mix xs => by simp only [killA, asz]; exact killL_asz l xs
  | .fn f xs ys => by simp only [killA]; cases namesL l xs || namesL l ys <;> rfl
  | .ifc t x => by simp only [killA]; cases x.names l <;> rfl
  | .any => rfl
  | .v _ => rfl
  | .agg _ => rfl
  | .lst _ _ => rfl
  | .ptr _ => rfl
  | .rd _ => rfl
  | .tup xs => rfl
theorem killL_asz (l : Nat) : ∀ xs : List AV, aszs (killL l xs) = aszs xs
  | [] => rfl
  | x :: xs => by simp only [killL, aszs, killL_asz l xs, killA_asz l x]
end
mutual
theorem killA_id (l : Nat) : ∀ x : AV, x.names l = false → (∀ xs, x ≠ .tup xs) → killA l x = x ∨ ∃ xs, x = .mix xs
  | .own k, h, _ => by simp only [AV.names] at h; simp [killA, h]
  | .optr k i p c, h, _ => by simp only [AV.names] at h; simp [killA, h]
  | .mapv k, h, _ => by simp only [AV.names] at h; simp [killA, h]
  | .mix xs, h, _ => .inr ⟨xs, rfl⟩
  | .fn f xs ys, h, _ => by simp only [AV.names] at h; simp [killA, h]
  | .ifc t x, h, _ => by simp only [AV.names] at h; simp [killA, h]
  | .any, _, _ => .inl rfl
  | .v _, _, _ => .inl rfl
  | .agg _, _, _ => .inl rfl
  | .lst _ _, _, _ => .inl rfl
  | .ptr _, _, _ => .inl rfl
  | .rd _, _, _ => .inl rfl
  | .tup xs, _, h => absurd rfl (h xs)
end
end Go.Proofs.Ytmafbodblpgcjaa.AM
