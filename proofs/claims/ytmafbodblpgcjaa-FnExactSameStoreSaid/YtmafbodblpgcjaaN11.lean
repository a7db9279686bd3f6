/- The machine over data, second make (N11): other labels, flat data; calls of functions; every step in one theorem. -/
import Derived.Test.YtmafbodblpgcjaaN10
namespace Go.Proofs.Ytmafbodblpgcjaa.AM
open Go Go.RowKit
set_option linter.unusedVariables false
set_option linter.unusedSimpArgs false

/-! ### the same under other labels -/
section
variable {S S' : Nat → Prop} {w : World} {hp hp' : Nat → Option OB} {B B' : Nat → Nat} {V V' : Nat → Value}
def Alike (hp hp' : Nat → Option OB) (B B' : Nat → Nat) (V V' : Nat → Value) (ρ : Nat → Nat) (l : Nat) : Prop := ∃ ob ob', hp l = some ob ∧ hp' (ρ l) = some ob' ∧ ob'.sz = ob.sz ∧ V' (ρ l) = V l ∧ B' (ρ l) = B l
variable {ρ : Nat → Nat}
mutual
theorem RV.map : ∀ (x : AV) (u : Value), (∀ l, x.names l = true → Alike hp hp' B B' V V' ρ l) → (RV S w hp B V x u ↔ RV S w hp' B' V' (mapA ρ x) u)
  | .any, u, _ => by simp only [mapA]; unfold RV; exact Iff.rfl
  | .v x, u, _ => by simp only [mapA]; unfold RV; exact Iff.rfl
  | .agg xs, u, _ => by simp only [mapA]; unfold RV; exact Iff.rfl
  | .lst sz xs, u, _ => by simp only [mapA]; unfold RV; exact Iff.rfl
  | .ptr x, u, _ => by simp only [mapA]; unfold RV; exact Iff.rfl
  | .rd x, u, _ => by simp only [mapA]; unfold RV; exact Iff.rfl
  | .own l, u, hn => by
    obtain ⟨ob, ob', h1, h2, h3, h4, h5⟩ := hn l (by simp [AV.names])
    simp only [mapA]; unfold RV; rw [h4]
    exact ⟨fun h => ⟨⟨ob', h2⟩, h.2⟩, fun h => ⟨⟨ob, h1⟩, h.2⟩⟩
  | .optr l i p c, u, hn => by
    obtain ⟨ob, ob', h1, h2, h3, h4, h5⟩ := hn l (by simp [AV.names])
    simp only [mapA]; unfold RV; rw [h5]
    exact ⟨fun ⟨o, k1, k2⟩ => by rw [h1] at k1; cases k1; exact ⟨ob', h2, by rw [k2, h3]⟩, fun ⟨o, k1, k2⟩ => by rw [h2] at k1; cases k1; exact ⟨ob, h1, by rw [k2, h3]⟩⟩
  | .mapv l, u, hn => by
    obtain ⟨ob, ob', h1, h2, h3, h4, h5⟩ := hn l (by simp [AV.names])
    simp only [mapA]; unfold RV; rw [h5]
    exact ⟨fun h => ⟨⟨ob', h2⟩, h.2⟩, fun h => ⟨⟨ob, h1⟩, h.2⟩⟩
  | .tup xs, u, hn => by
    simp only [mapA]; unfold RV
    exact ⟨fun ⟨us, e, h⟩ => ⟨us, e, (RVs.map xs us (fun l hl => hn l (by simpa [AV.names] using hl))).1 h⟩, fun ⟨us, e, h⟩ => ⟨us, e, (RVs.map xs us (fun l hl => hn l (by simpa [AV.names] using hl))).2 h⟩⟩
  | .mix xs, u, hn => by
    simp only [mapA]; unfold RV
    exact ⟨fun ⟨us, e, h⟩ => ⟨us, e, (ROs.map xs _ us (fun l hl => hn l (by simpa [AV.names] using hl))).1 h⟩, fun ⟨us, e, h⟩ => ⟨us, e, (ROs.map xs _ us (fun l hl => hn l (by simpa [AV.names] using hl))).2 h⟩⟩
  | .fn f xs ys, u, hn => by
    have e1 := fun us => RVs.map xs us (fun l hl => hn l (by simp [AV.names, hl]))
    have e2 := fun us => RVs.map ys us (fun l hl => hn l (by simp [AV.names, hl]))
    simp only [mapA]; unfold RV
    exact ⟨fun ⟨us, vs, e, h1, h2⟩ => ⟨us, vs, e, (e1 us).1 h1, (e2 vs).1 h2⟩, fun ⟨us, vs, e, h1, h2⟩ => ⟨us, vs, e, (e1 us).2 h1, (e2 vs).2 h2⟩⟩
  | .ifc t x, u, hn => by
    have e1 := fun u => RV.map x u (fun l hl => hn l (by simpa [AV.names] using hl))
    simp only [mapA]; unfold RV
    exact ⟨fun ⟨u', e, h⟩ => ⟨u', e, (e1 u').1 h⟩, fun ⟨u', e, h⟩ => ⟨u', e, (e1 u').2 h⟩⟩
theorem RVs.map : ∀ (xs : List AV) (us : List Value), (∀ l, namesL l xs = true → Alike hp hp' B B' V V' ρ l) → (RVs S w hp B V xs us ↔ RVs S w hp' B' V' (mapAL ρ xs) us)
  | [], us, _ => by simp only [mapAL]; unfold RVs; exact Iff.rfl
  | x :: xs, us, hn => by
    have e1 := fun u => RV.map x u (fun l hl => hn l (by simp [namesL, hl]))
    have e2 := fun us => RVs.map xs us (fun l hl => hn l (by simp [namesL, hl]))
    simp only [mapAL]; unfold RVs
    exact ⟨fun ⟨u, us', e, h1, h2⟩ => ⟨u, us', e, (e1 u).1 h1, (e2 us').1 h2⟩, fun ⟨u, us', e, h1, h2⟩ => ⟨u, us', e, (e1 u).2 h1, (e2 us').2 h2⟩⟩
theorem RO1.map : ∀ (x : AV) (T : Nat → Prop) (cs : List Value), (∀ l, x.names l = true → Alike hp hp' B B' V V' ρ l) → (RO1 S w hp B V x T cs ↔ RO1 S w hp' B' V' (mapA ρ x) T cs)
  | .any, T, cs, _ => by simp only [mapA]; unfold RO1; exact Iff.rfl
  | .v x, T, cs, _ => by simp only [mapA]; unfold RO1; exact Iff.rfl
  | .agg xs, T, cs, _ => by simp only [mapA]; unfold RO1; exact Iff.rfl
  | .lst sz xs, T, cs, _ => by simp only [mapA]; unfold RO1; exact Iff.rfl
  | .ptr x, T, cs, _ => by simp only [mapA]; unfold RO1; exact Iff.rfl
  | .rd x, T, cs, _ => by simp only [mapA]; unfold RO1; exact Iff.rfl
  | .tup x, T, cs, _ => by simp only [mapA]; unfold RO1; exact Iff.rfl
  | .own l, T, cs, hn => by
    obtain ⟨ob, ob', h1, h2, h3, h4, h5⟩ := hn l (by simp [AV.names])
    simp only [mapA]; unfold RO1; rw [h4]
    exact ⟨fun h => ⟨h.1, ⟨ob', h2⟩, h.2.2⟩, fun h => ⟨h.1, ⟨ob, h1⟩, h.2.2⟩⟩
  | .optr l i p c, T, cs, hn => by
    obtain ⟨ob, ob', h1, h2, h3, h4, h5⟩ := hn l (by simp [AV.names])
    simp only [mapA]; unfold RO1; rw [h5]
    exact ⟨fun ⟨k0, o, k1, k2⟩ => by rw [h1] at k1; cases k1; exact ⟨k0, ob', h2, by rw [k2, h3]⟩, fun ⟨k0, o, k1, k2⟩ => by rw [h2] at k1; cases k1; exact ⟨k0, ob, h1, by rw [k2, h3]⟩⟩
  | .mapv l, T, cs, hn => by
    obtain ⟨ob, ob', h1, h2, h3, h4, h5⟩ := hn l (by simp [AV.names])
    simp only [mapA]; unfold RO1; rw [h5]
    exact ⟨fun h => ⟨h.1, ⟨ob', h2⟩, h.2.2⟩, fun h => ⟨h.1, ⟨ob, h1⟩, h.2.2⟩⟩
  | .mix xs, T, cs, hn => by
    simp only [mapA]; unfold RO1
    exact ROs.map xs T cs (fun l hl => hn l (by simpa [AV.names] using hl))
  | .fn f xs ys, T, cs, hn => by
    have e1 := fun us => RVs.map xs us (fun l hl => hn l (by simp [AV.names, hl]))
    have e2 := fun us => RVs.map ys us (fun l hl => hn l (by simp [AV.names, hl]))
    simp only [mapA]; unfold RO1
    exact ⟨fun ⟨k0, us, vs, e, h1, h2⟩ => ⟨k0, us, vs, e, (e1 us).1 h1, (e2 vs).1 h2⟩, fun ⟨k0, us, vs, e, h1, h2⟩ => ⟨k0, us, vs, e, (e1 us).2 h1, (e2 vs).2 h2⟩⟩
  | .ifc t x, T, cs, hn => by
    have e1 := fun u => RV.map x u (fun l hl => hn l (by simpa [AV.names] using hl))
    simp only [mapA]; unfold RO1
    exact ⟨fun ⟨k0, u', e, h⟩ => ⟨k0, u', e, (e1 u').1 h⟩, fun ⟨k0, u', e, h⟩ => ⟨k0, u', e, (e1 u').2 h⟩⟩
theorem ROs.map : ∀ (xs : List AV) (T : Nat → Prop) (cs : List Value), (∀ l, namesL l xs = true → Alike hp hp' B B' V V' ρ l) → (ROs S w hp B V xs T cs ↔ ROs S w hp' B' V' (mapAL ρ xs) T cs)
  | [], T, cs, _ => by simp only [mapAL]; unfold ROs; exact Iff.rfl
  | x :: xs, T, cs, hn => by
    have e1 := fun T c => RO1.map x T c (fun l hl => hn l (by simp [namesL, hl]))
    have e2 := fun T c => ROs.map xs T c (fun l hl => hn l (by simp [namesL, hl]))
    simp only [mapAL]; unfold ROs
    exact ⟨fun ⟨c1, c2, T1, T2, e, s, h1, h2⟩ => ⟨c1, c2, T1, T2, e, s, (e1 T1 c1).1 h1, (e2 T2 c2).1 h2⟩, fun ⟨c1, c2, T1, T2, e, s, h1, h2⟩ => ⟨c1, c2, T1, T2, e, s, (e1 T1 c1).2 h1, (e2 T2 c2).2 h2⟩⟩
end
mutual
theorem mapA_asz : ∀ x : AV, asz (mapA ρ x) = asz x
  | .mix xs => by simp only [mapA, asz]; exact mapAL_asz xs
  | .any => rfl
  | .v _ => rfl
  | .agg _ => rfl
  | .lst _ _ => rfl
  | .ptr _ => rfl
  | .rd _ => rfl
  | .tup _ => rfl
  | .own _ => rfl
  | .optr _ _ _ _ => rfl
  | .mapv _ => rfl
  | .fn _ _ _ => rfl
  | .ifc _ _ => rfl
theorem mapAL_asz : ∀ xs : List AV, aszs (mapAL ρ xs) = aszs xs
  | [] => rfl
  | x :: xs => by simp only [mapAL, aszs, mapA_asz x, mapAL_asz xs]
end
def mapE (ρ : Nat → Nat) : ET → ET
  | .o t i y => .o t i (mapA ρ y)
  | e => e
theorem RK.map {sz : Nat} {xs : List AV} {T : Nat → Prop} {cs : List Value} {e : ET} (hn : ∀ l, namesE l e = true → Alike hp hp' B B' V V' ρ l) : RK S w hp B V sz xs T cs e ↔ RK S w hp' B' V' sz xs T cs (mapE ρ e) := by
  cases e with
  | o t i y =>
    simp only [mapE, RK, mapA_asz]
    have e1 := fun T c => RO1.map (S := S) (w := w) y T c (fun l hl => hn l hl)
    exact ⟨fun ⟨h1, h2, c0, c1, c2, T0, T', T1, T2, h3, h4, h5, h6, h7, h8⟩ => ⟨h1, h2, c0, c1, c2, T0, T', T1, T2, h3, h4, h5, h6, (e1 T1 c1).1 h7, h8⟩, fun ⟨h1, h2, c0, c1, c2, T0, T', T1, T2, h3, h4, h5, h6, h7, h8⟩ => ⟨h1, h2, c0, c1, c2, T0, T', T1, T2, h3, h4, h5, h6, (e1 T1 c1).2 h7, h8⟩⟩
  | _ => exact Iff.rfl
theorem mapE_typ (e : ET) : (mapE ρ e).typ = e.typ := by cases e <;> rfl
theorem RO.map {T : Nat → Prop} {ob : OB} {b : Nat} {v : Value} (hn : ∀ l, namesE l ob.e = true → Alike hp hp' B B' V V' ρ l) : RO S w hp B V T ob b v ↔ RO S w hp' B' V' T ⟨mapE ρ ob.e, ob.sz, ob.xs⟩ b v := by
  unfold RO
  simp only [mapE_typ]
  exact ⟨fun ⟨t, cs, h1, h2, h3⟩ => ⟨t, cs, h1, (RK.map hn).1 h2, h3⟩, fun ⟨t, cs, h1, h2, h3⟩ => ⟨t, cs, h1, (RK.map hn).2 h2, h3⟩⟩

/-! ### flat data lean on nothing that is read -/
mutual
theorem RA.flat : ∀ (x : AV) (cs : List Value), flatA x → RA S w x cs → RA S' w x cs
  | .v x, cs, _, h => by unfold RA at h ⊢; exact h
  | .agg xs, cs, hf, h => by unfold flatA at hf; unfold RA at h ⊢; exact RL.flat xs cs hf h
  | .lst sz xs, cs, hf, h => by
    unfold flatA at hf
    unfold RA at h ⊢
    obtain ⟨A, c, h1, h2, h3, h4, h4', _⟩ := h
    exact ⟨A, c, h1, h2, h3, h4, h4', .inl hf⟩
  | .ptr _, cs, hf, h => by unfold flatA at hf; exact hf.elim
  | .any, cs, _, h | .own _, cs, _, h | .optr _ _ _ _, cs, _, h | .tup _, cs, _, h | .mapv _, cs, _, h | .mix _, cs, _, h | .rd _, cs, _, h | .fn _ _ _, cs, _, h | .ifc _ _, cs, _, h => by unfold RA at h; exact h.elim
theorem RL.flat : ∀ (xs : List AV) (cs : List Value), flatL xs → RL S w xs cs → RL S' w xs cs
  | [], cs, _, h => by unfold RL at h ⊢; exact h
  | x :: xs, cs, hf, h => by
    unfold flatL at hf
    unfold RL at h ⊢
    obtain ⟨c1, c2, e, h1, h2⟩ := h
    exact ⟨c1, c2, e, RA.flat x c1 hf.1 h1, RL.flat xs c2 hf.2 h2⟩
end
mutual
theorem RV.flat : ∀ (x : AV) (u : Value), flatA x → RV S w hp B V x u → RV S' w hp B V x u
  | .any, u, _, h => by unfold RV at h ⊢; trivial
  | .v x, u, _, h => by unfold RV at h ⊢; exact h
  | .agg xs, u, hf, h => by
    unfold flatA at hf
    unfold RV at h ⊢
    obtain ⟨cs, e, h⟩ := h
    exact ⟨cs, e, RL.flat xs cs hf h⟩
  | .lst sz xs, u, hf, h => by unfold RV at h ⊢; exact RA.flat _ _ hf h
  | .ptr x, u, hf, h => by unfold flatA at hf; exact hf.elim
  | .rd x, u, hf, h => by unfold RV at h; exact h.elim
  | .own l, u, _, h => by unfold RV at h ⊢; exact h
  | .optr l i _ c, u, hf, h => by unfold RV at h ⊢; exact h
  | .mapv l, u, hf, h => by unfold flatA at hf; exact hf.elim
  | .tup xs, u, hf, h => by
    unfold flatA at hf
    unfold RV at h ⊢
    obtain ⟨us, e, h⟩ := h
    exact ⟨us, e, RVs.flat xs us hf h⟩
  | .mix xs, u, hf, h => by
    unfold flatA at hf
    unfold RV at h ⊢
    obtain ⟨us, e, h⟩ := h
    exact ⟨us, e, ROs.flat xs _ us hf h⟩
  | .fn f xs ys, u, hf, h => by
    unfold flatA at hf
    unfold RV at h ⊢
    obtain ⟨us, vs, e, h1, h2⟩ := h
    exact ⟨us, vs, e, RVs.flat xs us hf.1 h1, RVs.flat ys vs hf.2 h2⟩
  | .ifc t x, u, hf, h => by
    unfold flatA at hf
    unfold RV at h ⊢
    obtain ⟨u', e, h⟩ := h
    exact ⟨u', e, RV.flat x u' hf h⟩
theorem RVs.flat : ∀ (xs : List AV) (us : List Value), flatL xs → RVs S w hp B V xs us → RVs S' w hp B V xs us
  | [], us, _, h => by unfold RVs at h ⊢; exact h
  | x :: xs, us, hf, h => by
    unfold flatL at hf
    unfold RVs at h ⊢
    obtain ⟨u, us', e, h1, h2⟩ := h
    exact ⟨u, us', e, RV.flat x u hf.1 h1, RVs.flat xs us' hf.2 h2⟩
theorem RO1.flat : ∀ (x : AV) (T : Nat → Prop) (cs : List Value), flatA x → RO1 S w hp B V x T cs → RO1 S' w hp B V x T cs
  | .any, T, cs, _, h => by unfold RO1 at h ⊢; exact h
  | .v x, T, cs, _, h => by unfold RO1 at h ⊢; exact h
  | .agg xs, T, cs, _, h => by unfold RO1 at h ⊢; exact h
  | .lst sz xs, T, cs, _, h => by unfold RO1 at h ⊢; exact h
  | .ptr x, T, cs, _, h => by unfold RO1 at h; exact h.elim
  | .tup x, T, cs, _, h => by unfold RO1 at h; exact h.elim
  | .rd x, T, cs, hf, h => by unfold flatA at hf; unfold RO1 at h ⊢; exact ⟨h.1, RA.flat x cs hf h.2⟩
  | .own l, T, cs, _, h => by unfold RO1 at h ⊢; exact h
  | .optr l i _ c, T, cs, _, h => by unfold RO1 at h ⊢; exact h
  | .mapv l, T, cs, hf, h => by unfold flatA at hf; exact hf.elim
  | .mix xs, T, cs, hf, h => by unfold flatA at hf; unfold RO1 at h ⊢; exact ROs.flat xs T cs hf h
  | .fn f xs ys, T, cs, hf, h => by
    unfold flatA at hf
    unfold RO1 at h ⊢
    obtain ⟨k0, us, vs, e, h1, h2⟩ := h
    exact ⟨k0, us, vs, e, RVs.flat xs us hf.1 h1, RVs.flat ys vs hf.2 h2⟩
  | .ifc t x, T, cs, hf, h => by
    unfold flatA at hf
    unfold RO1 at h ⊢
    obtain ⟨k0, u', e, h⟩ := h
    exact ⟨k0, u', e, RV.flat x u' hf h⟩
theorem ROs.flat : ∀ (xs : List AV) (T : Nat → Prop) (cs : List Value), flatL xs → ROs S w hp B V xs T cs → ROs S' w hp B V xs T cs
  | [], T, cs, _, h => by unfold ROs at h ⊢; exact h
  | x :: xs, T, cs, hf, h => by
    unfold flatL at hf
    unfold ROs at h ⊢
    obtain ⟨c1, c2, T1, T2, e, s, h1, h2⟩ := h
    exact ⟨c1, c2, T1, T2, e, s, RO1.flat x T1 c1 hf.1 h1, ROs.flat xs T2 c2 hf.2 h2⟩
end
theorem RO.flat {T : Nat → Prop} {ob : OB} {b : Nat} {v : Value} (hf : flatO ob) (h : RO S w hp B V T ob b v) : RO S' w hp B V T ob b v := by
  obtain ⟨t, cs, h1, h2, h3⟩ := h
  refine ⟨t, cs, h1, ?_, h3⟩
  unfold flatO at hf
  cases he : ob.e with
  | s t' => rw [he] at hf h2; exact RL.flat _ _ hf h2
  | o t' i y =>
    rw [he] at hf h2
    obtain ⟨q1, q2, c0, c1, c2, T0, T', T1, T2, q3, q4, q5, q6, q7, q8⟩ := h2
    exact ⟨q1, q2, c0, c1, c2, T0, T', T1, T2, q3, q4, q5, q6, RO1.flat y T1 c1 hf q7, q8⟩
  | z _ => rw [he] at h2; exact h2
  | d _ => rw [he] at h2; exact h2
  | u => rw [he] at h2; exact h2
theorem Rows.flat {T : Nat → Nat → Prop} {lo : Nat → Prop} (hf : ∀ l ob, hp l = some ob → flatO ob) (hs : ∀ g, S' g → S g) (h : Rows S w hp (fun _ => none) B V T lo) : Rows S' w hp (fun _ => none) B V T lo :=
  ⟨fun l ob ho => (h.ro l ob ho).flat (hf l ob ho), fun l ob g ho hg => ⟨fun k => (h.me l ob g ho hg).1 (hs g k), (h.me l ob g ho hg).2⟩, h.nd, h.ds, fun l es e => by cases e⟩
end

section
variable {P : Program} {Θ : Tab} {W : World} {M : Hand} {S0 : Nat → Prop} {n : Nat} {s : St} {a : Act} {w : World} {S : Nat → Prop} {B : Nat → Nat} {V : Nat → Value} {T : Nat → Nat → Prop} {tmps : Array Value}
variable {K : Act → World → Prop} {Q : Exit → Act → World → Prop}

/-- the rows of a call's result come to their labels -/
theorem setObs_sim {d : Nat} {B2 : Nat → Nat} {V2 : Nat → Value} {T2 : Nat → Nat → Prop} : ∀ (obs : List OB) (k : Nat) {s : St} {B : Nat → Nat} {V : Nat → Value} {T : Nat → Nat → Prop}, SimW W M S0 s tmps w S B V T → freeObs s d k obs →
    (∀ i ob, obs[i]? = some ob → (∀ hp B V, RO S w hp B V (T2 (k + i)) ob (B2 (k + i)) (V2 (k + i))) ∧ (∀ g, (V2 (k + i)).ownBlock = some g → ¬ T2 (k + i) g) ∧ ∀ g, Blk V2 T2 (k + i) g → ¬ S g ∧ g < w.heap.size ∧ (W.heap.size ≤ g ∨ M.bl g) ∧ ∀ j o, s.hp j = some o → ¬ Blk V T j g) →
    (∀ i j o1 o2 g, obs[i]? = some o1 → obs[j]? = some o2 → Blk V2 T2 (k + i) g → Blk V2 T2 (k + j) g → i = j) →
    ∃ B' V' T', SimW W M S0 (setObs d k obs s) tmps w S B' V' T' ∧ (∀ i ob, obs[i]? = some ob → (setObs d k obs s).hp (d + 1000 * (k + i)) = some ob ∧ V' (d + 1000 * (k + i)) = V2 (k + i) ∧ B' (d + 1000 * (k + i)) = B2 (k + i)) ∧
      (∀ l, (∀ i, l = d + 1000 * (k + i) → obs.length ≤ i) → (setObs d k obs s).hp l = s.hp l ∧ V' l = V l ∧ B' l = B l)
  | [], k, s, B, V, T, h, _, _, _ => ⟨B, V, T, h, by simp, fun _ _ => ⟨rfl, rfl, rfl⟩⟩
  | ob :: obs, k, s, B, V, T, h, hf, hr, hd => by
    obtain ⟨⟨f1, f2, f3⟩, f4⟩ := hf
    obtain ⟨r1, r2, r3⟩ := hr 0 ob rfl
    simp only [Nat.add_zero] at r1 r2 r3
    obtain ⟨n1, n2⟩ := fresh_names h f1
    have h1 := h.repl (w' := w) (ob' := ob) (b' := B2 k) (v' := V2 k) (T' := T2 k) f2 n1 (fun j o _ ho => n2 j o ho) (Grown.refl _ _) (r1 _ _ _) (fun g hg => by
      obtain ⟨q1, q2, q3, q4⟩ := r3 g hg
      exact ⟨q2, .inr ⟨q1, q3, q4⟩⟩) r2
    have hfree : ∀ (o : List OB) (j : Nat), k < j → freeObs s d j o → freeObs (s.set (d + 1000 * k) (some ob)) d j o := by
      intro o
      induction o with
      | nil => intro j _ _; trivial
      | cons x o ih => intro j hj hq; exact ⟨⟨by rw [set_hpn (by omega)]; exact hq.1.1, hq.1.2⟩, ih (j + 1) (by omega) hq.2⟩
    obtain ⟨B', V', T', k1, k2, k3⟩ := setObs_sim obs (k + 1) h1 (hfree obs (k + 1) (by omega) f4)
      (fun i o ho => by
        obtain ⟨q1, q2, q3⟩ := hr (i + 1) o (by simpa using ho)
        rw [show k + (i + 1) = k + 1 + i from by omega] at q1 q2 q3
        refine ⟨q1, q2, fun g hg => ?_⟩
        obtain ⟨m1, m2, m3, m4⟩ := q3 g hg
        refine ⟨m1, m2, m3, fun j o' ho' hb => ?_⟩
        by_cases hj : j = d + 1000 * k
        · subst hj
          unfold Blk at hb
          rw [upd_same, upd_same] at hb
          have := hd 0 (i + 1) ob o g rfl (by simpa using ho) (by rw [Nat.add_zero]; exact hb) (by rwa [show k + (i + 1) = k + 1 + i from by omega])
          omega
        · rw [set_hpn hj] at ho'
          unfold Blk at hb
          rw [upd_ne hj, upd_ne hj] at hb
          exact m4 j o' ho' hb)
      (fun i j o1 o2 g e1 e2 e3 e4 => by
        have := hd (i + 1) (j + 1) o1 o2 g (by simpa using e1) (by simpa using e2) (by rwa [show k + (i + 1) = k + 1 + i from by omega]) (by rwa [show k + (j + 1) = k + 1 + j from by omega])
        omega)
    refine ⟨B', V', T', k1, fun i o ho => ?_, fun l hl => ?_⟩
    · cases i with
      | zero =>
        simp at ho; subst ho
        obtain ⟨q1, q2, q3⟩ := k3 (d + 1000 * k) (fun i hi => by omega)
        simp only [Nat.add_zero]
        exact ⟨q1.trans set_hp, q2.trans upd_same, q3.trans upd_same⟩
      | succ i =>
        have := k2 i o (by simpa using ho)
        rwa [show k + 1 + i = k + (i + 1) from by omega] at this
    · have hne : l ≠ d + 1000 * k := fun e => by have := hl 0 (by simpa using e); simp at this
      obtain ⟨q1, q2, q3⟩ := k3 l (fun i hi => by have := hl (i + 1) (by rw [hi]; congr 2; omega); simp at this; omega)
      exact ⟨q1.trans (set_hpn hne), q2.trans (upd_ne hne), q3.trans (upd_ne hne)⟩
theorem free_shut {s : St} {d : Nat} : ∀ (obs : List OB) (k : Nat), freeObs s d k obs → ∀ ob ∈ obs, ob.e.shut = true
  | [], _, _ => by simp
  | ob :: obs, k, h => fun o ho => by
    rcases List.mem_cons.1 ho with rfl | ho
    · exact h.1.2.2
    · exact free_shut obs (k + 1) h.2 o ho
theorem RO.any {hp hp' : Nat → Option OB} {B B' : Nat → Nat} {V V' : Nat → Value} {T : Nat → Prop} {ob : OB} {b : Nat} {v : Value} (hs : ob.e.shut = true) (h : RO S w hp B V T ob b v) : RO S w hp' B' V' T ob b v :=
  h.carry (fun _ h => h) (fun _ _ => rfl) (fun l hl => by cases he : ob.e <;> rw [he] at hl hs <;> first | cases hl | cases hs) (fun _ _ => rfl) (fun _ _ => rfl)
/-- a call has come back -/
theorem call_done (hn : a.tmps.size = n) (hdf : a.defers = []) (h : SimW W M S0 s a.tmps w S B V T) {d : Tmp} {out : Out} {v : Value} {B2 : Nat → Nat} {V2 : Nat → Value} {T2 : Nat → Nat → Prop} (hv : RV S w (obsF out.obs) B2 V2 out.val v) (hr : Rows S w (obsF out.obs) (fun _ => none) B2 V2 T2 (fun g => W.heap.size ≤ g ∨ M.bl g)) (hfar : ∀ l ob g, obsF out.obs l = some ob → Blk V2 T2 l g → ∀ j o, s.hp j = some o → ¬ Blk V T j g) (hf : freeObs s (d + 1) 0 out.obs) (hin : inN n (some d) = true) :
    Sim W M S0 n ((setObs (d + 1) 0 out.obs s).put (some d) (ren (d + 1) out.val)) (a.put (some d) v) w := by
  have hsh := free_shut _ _ hf
  obtain ⟨B', V', T', k1, k2, k3⟩ := setObs_sim (d := d + 1) (B2 := B2) (V2 := V2) (T2 := T2) out.obs 0 h hf (fun i ob ho => by
    rw [Nat.zero_add]
    refine ⟨fun hp B V => (hr.ro i ob ho).any (hsh ob (List.mem_of_getElem? ho)), fun g => hr.nd i ob g ho, fun g hg => ?_⟩
    obtain ⟨q1, q2, q3⟩ := hr.me i ob g ho hg
    exact ⟨q1, q2, q3, hfar i ob g ho hg⟩) (fun i j o1 o2 g e1 e2 e3 e4 => by rw [Nat.zero_add] at e3 e4; exact hr.ds i j o1 o2 g e1 e2 e3 e4)
  refine Sim.put hn hdf k1 (some d) ?_ hin
  refine (RV.map (hp := obsF out.obs) (B := B2) (V := V2) out.val v (fun l hl => ?_)).1 hv
  obtain ⟨ob, ho⟩ := RV.there _ _ hl hv
  obtain ⟨q1, q2, q3⟩ := k2 l ob ho
  rw [Nat.zero_add] at q1 q2 q3
  exact ⟨ob, ob, ho, q1, rfl, q2, q3⟩

/-! ### rows handed over -/
theorem nodup_at {Ls : List Nat} (hn : Ls.Nodup) {i j l : Nat} (hi : Ls[i]? = some l) (hj : Ls[j]? = some l) : i = j := by
  obtain ⟨h1, e1⟩ := List.getElem?_eq_some_iff.1 hi
  obtain ⟨h2, e2⟩ := List.getElem?_eq_some_iff.1 hj
  apply Classical.byContradiction
  intro hne
  have hp := List.pairwise_iff_getElem.1 hn
  rcases Nat.lt_or_gt_of_ne hne with hlt | hlt
  · exact hp i j h1 h2 hlt (e1.trans e2.symm)
  · exact hp j i h2 h1 hlt (e2.trans e1.symm)
theorem rowsF_at : ∀ (obs : List OB) (b l : Nat) (ob : OB), rowsF b obs l = some ob → ∃ k, l = b + 1000000 * k ∧ obs[k]? = some ob
  | [], b, l, ob, h => by simp [rowsF] at h
  | o :: obs, b, l, ob, h => by
    simp only [rowsF] at h
    by_cases e : l = b
    · subst e; simp at h; exact ⟨0, rfl, by simp [h]⟩
    · rw [nbne e] at h
      obtain ⟨k, h1, h2⟩ := rowsF_at obs _ l ob h
      exact ⟨k + 1, by omega, by simpa using h2⟩
theorem rowsF_k : ∀ (obs : List OB) (b k : Nat), rowsF b obs (b + 1000000 * k) = obs[k]?
  | [], b, k => by simp [rowsF]
  | o :: obs, b, 0 => by simp [rowsF]
  | o :: obs, b, k + 1 => by
    simp only [rowsF]
    rw [nbne (show b + 1000000 * (k + 1) ≠ b by omega)]
    have := rowsF_k obs (b + 1000000) k
    rw [show b + 1000000 + 1000000 * k = b + 1000000 * (k + 1) from by omega] at this
    simpa using this
theorem subl_k : ∀ (Ls : List Nat) (b k L : Nat), Ls[k]? = some L → subl b Ls (b + 1000000 * k) = L
  | [], b, k, L, h => by simp at h
  | l :: Ls, b, 0, L, h => by simp at h; simp [subl, h]
  | l :: Ls, b, k + 1, L, h => by
    simp only [subl]
    rw [nbne (show b + 1000000 * (k + 1) ≠ b by omega)]
    have := subl_k Ls (b + 1000000) k L (by simpa using h)
    rw [show b + 1000000 + 1000000 * k = b + 1000000 * (k + 1) from by omega] at this
    simpa using this
theorem handed_at {Ls : List Nat} : ∀ (L : List Nat) (obs : List OB), handed s Ls L obs → L.length = obs.length ∧ ∀ (k : Nat) (ob : OB), obs[k]? = some ob → ∃ l, L[k]? = some l ∧ s.hp l = some (subO Ls ob)
  | [], [], _ => ⟨rfl, by simp⟩
  | [], _ :: _, h => h.elim
  | _ :: _, [], h => h.elim
  | l :: L, o :: obs, h => by
    obtain ⟨k1, k2⟩ := handed_at L obs h.2
    refine ⟨by simp [k1], fun k ob e => ?_⟩
    cases k with
    | zero => simp at e; subst e; exact ⟨l, rfl, h.1⟩
    | succ k => simpa using k2 k ob (by simpa using e)
theorem setHanded_at {Ls : List Nat} : ∀ (L : List Nat) (obs : List OB) (s : St), L.Nodup → L.length = obs.length → (∀ (k l : Nat) (ob : OB), L[k]? = some l → obs[k]? = some ob → (setHanded Ls L obs s).hp l = some (subO Ls ob)) ∧ (∀ l, l ∉ L → (setHanded Ls L obs s).hp l = s.hp l ∧ (setHanded Ls L obs s).mp l = s.mp l) ∧ (setHanded Ls L obs s).sl = s.sl ∧ ∀ l, l ∈ L → (setHanded Ls L obs s).mp l = none
  | [], [], s, _, _ => ⟨by simp, fun l _ => ⟨rfl, rfl⟩, rfl, by simp⟩
  | [], _ :: _, s, _, h => by simp at h
  | _ :: _, [], s, _, h => by simp at h
  | l0 :: L, o0 :: obs, s, hnd, hl => by
    rw [List.nodup_cons] at hnd
    obtain ⟨k1, k2, k3, k4⟩ := setHanded_at (Ls := Ls) L obs (s.set l0 (some (subO Ls o0))) hnd.2 (by simpa using hl)
    refine ⟨fun k l ob e1 e2 => ?_, fun l hl => ?_, k3, fun l hl => ?_⟩
    · cases k with
      | zero => simp at e1 e2; subst e1 e2; exact ((k2 l0 hnd.1).1).trans set_hp
      | succ k => exact k1 k l ob (by simpa using e1) (by simpa using e2)
    · rw [List.mem_cons, not_or] at hl
      obtain ⟨q1, q2⟩ := k2 l hl.2
      exact ⟨q1.trans (set_hpn hl.1), q2.trans (by simp [St.set, nbne hl.1])⟩
    · by_cases hm : l ∈ L
      · exact k4 l hm
      · rcases List.mem_cons.1 hl with rfl | hl
        · exact ((k2 l hm).2).trans (by simp [St.set])
        · exact absurd hl hm
theorem subO_eq (Ls : List Nat) (ob : OB) : subO Ls ob = ⟨mapE (subl 0 Ls) ob.e, ob.sz, ob.xs⟩ := by
  unfold subO subE mapE subA
  cases ob.e <;> rfl
theorem withinE_names {p : Nat → Bool} {l : Nat} {e : ET} (h : withinE p e = true) (hn : namesE l e = true) : p l = true := by
  cases e with
  | o t i y => exact within_names y h hn
  | _ => cases hn
/-- what the caller hands over, as the callee sees it -/
theorem hand_in (h : SimW W M S0 s tmps w S B V T) {Ls : List Nat} {rin : List OB} (hh : handed s Ls Ls rin) (hnd : Ls.Nodup) (hw : ∀ ob ∈ rin, withinE (fun l => (rowsF 0 rin l).isSome) ob.e = true) {Sc : Nat → Prop} (hSc : ∀ b, S b → Sc b) (hfr : ∀ l ∈ Ls, ∀ ob g, s.hp l = some ob → Blk V T l g → ¬ Sc g) :
    Rows Sc w (rowsF 0 rin) (fun _ => none) (fun l => B (subl 0 Ls l)) (fun l => V (subl 0 Ls l)) (fun l => T (subl 0 Ls l)) (fun _ => True) ∧ ∀ l ob, rowsF 0 rin l = some ob → subl 0 Ls l ∈ Ls ∧ s.hp (subl 0 Ls l) = some (subO Ls ob) := by
  obtain ⟨hlen, hat⟩ := handed_at Ls rin hh
  have hlab : ∀ l ob, rowsF 0 rin l = some ob → ∃ k, l = 1000000 * k ∧ rin[k]? = some ob ∧ Ls[k]? = some (subl 0 Ls l) ∧ s.hp (subl 0 Ls l) = some (subO Ls ob) := fun l ob e => by
    obtain ⟨k, h1, h2⟩ := rowsF_at rin 0 l ob e
    obtain ⟨L, h3, h4⟩ := hat k ob h2
    have h5 := subl_k Ls 0 k L h3
    rw [← h1] at h5
    exact ⟨k, by omega, h2, by rw [h5]; exact h3, by rw [h5]; exact h4⟩
  have hmem : ∀ l ob, rowsF 0 rin l = some ob → subl 0 Ls l ∈ Ls ∧ s.hp (subl 0 Ls l) = some (subO Ls ob) := fun l ob e => by
    obtain ⟨k, _, _, h3, h4⟩ := hlab l ob e
    exact ⟨List.mem_of_getElem? h3, h4⟩
  refine ⟨⟨fun l ob e => ?_, fun l ob g e hb => ?_, fun l ob g e hb => ?_, fun l l' ob ob' g e1 e2 b1 b2 => ?_, fun l es e => by cases e⟩, hmem⟩
  · obtain ⟨h3, h4⟩ := hmem l ob e
    have hro := h.rows.ro _ _ h4
    rw [subO_eq] at hro
    obtain ⟨k, _, h2⟩ := rowsF_at rin 0 l ob e
    have hc := (RO.map (S := S) (w := w) (hp := rowsF 0 rin) (hp' := s.hp) (B := fun l => B (subl 0 Ls l)) (B' := B) (V := fun l => V (subl 0 Ls l)) (V' := V) (ρ := subl 0 Ls) (T := T (subl 0 Ls l)) (ob := ob) (b := B (subl 0 Ls l)) (v := V (subl 0 Ls l)) (fun j hj => by
      have := withinE_names (hw ob (List.mem_of_getElem? h2)) hj
      obtain ⟨o, ho⟩ := Option.isSome_iff_exists.1 this
      exact ⟨o, subO Ls o, ho, (hmem j o ho).2, rfl, rfl, rfl⟩)).2 hro
    exact hc.carry hSc (fun _ _ => rfl) (fun j _ => Same.refl j) (fun _ _ => rfl) (fun _ _ => rfl)
  · obtain ⟨h3, h4⟩ := hmem l ob e
    obtain ⟨_, q2, _⟩ := h.rows.me _ _ g h4 hb
    exact ⟨hfr _ h3 _ g h4 hb, q2, trivial⟩
  · obtain ⟨h3, h4⟩ := hmem l ob e
    exact h.rows.nd _ _ g h4 hb
  · obtain ⟨k, a1, a2, a3, a4⟩ := hlab l ob e1
    obtain ⟨k', c1, c2, c3, c4⟩ := hlab l' ob' e2
    have := h.rows.ds _ _ _ _ g a4 c4 b1 b2
    rw [this] at a3
    have hkk : k = k' := nodup_at hnd a3 c3
    rw [a1, c1, hkk]
/-- and as it comes back -/
theorem hand_out (h : SimW W M S0 s tmps w S B V T) {Ls : List Nat} {rin rout : List OB} (hh : handed s Ls Ls rin) (hnd : Ls.Nodup) (hsz : rout.map OB.sz = rin.map OB.sz) (hw : ∀ ob ∈ rout, withinE (fun l => (rowsF 0 rin l).isSome) ob.e = true) {w' : World} {S1 : Nat → Prop} {T1 : Nat → Nat → Prop}
    (hg : Grown w w' (HB (rowsF 0 rin) (fun l => V (subl 0 Ls l)) (fun l => T (subl 0 Ls l)))) (hS1 : ∀ b, S b → S1 b) (hs1 : ∀ b, S1 b → b < w'.heap.size ∧ (S b ∨ w.heap.size ≤ b ∨ HB (rowsF 0 rin) (fun l => V (subl 0 Ls l)) (fun l => T (subl 0 Ls l)) b)) (hmem : ∀ l ob, rowsF 0 rin l = some ob → subl 0 Ls l ∈ Ls ∧ s.hp (subl 0 Ls l) = some (subO Ls ob))
    (hr : Rows S1 w' (rowsF 0 rout) (fun _ => none) (fun l => B (subl 0 Ls l)) (fun l => V (subl 0 Ls l)) T1 (fun g => w.heap.size ≤ g ∨ HB (rowsF 0 rin) (fun l => V (subl 0 Ls l)) (fun l => T (subl 0 Ls l)) g)) :
    ∃ T2, SimW W M S0 (setHanded Ls Ls rout s) tmps w' S1 B V T2 ∧ ∀ j o g, (setHanded Ls Ls rout s).hp j = some o → Blk V T2 j g → (∃ l' ob', rowsF 0 rout l' = some ob' ∧ Blk (fun l => V (subl 0 Ls l)) T1 l' g) ∨ (g < w.heap.size ∧ ¬ HB (rowsF 0 rin) (fun l => V (subl 0 Ls l)) (fun l => T (subl 0 Ls l)) g) := by
  obtain ⟨hlen, hat⟩ := handed_at Ls rin hh
  have hlen' : Ls.length = rout.length := by rw [hlen]; have := congrArg List.length hsz; simpa using this.symm
  obtain ⟨p1, p2, p3, p4⟩ := setHanded_at (Ls := Ls) Ls rout s hnd hlen'
  -- a handed label's place
  have hpl : ∀ l, l ∈ Ls → ∃ k ob ob', Ls[k]? = some l ∧ rin[k]? = some ob ∧ rout[k]? = some ob' ∧ ob'.sz = ob.sz ∧ subl 0 Ls (1000000 * k) = l ∧ rowsF 0 rin (1000000 * k) = some ob ∧ rowsF 0 rout (1000000 * k) = some ob' ∧ s.hp l = some (subO Ls ob) ∧ (setHanded Ls Ls rout s).hp l = some (subO Ls ob') := fun l hl => by
    obtain ⟨k, hk, e⟩ := List.getElem_of_mem hl
    have e1 : Ls[k]? = some l := by rw [List.getElem?_eq_getElem hk, e]
    obtain ⟨ob, e2⟩ : ∃ ob, rin[k]? = some ob := ⟨_, List.getElem?_eq_getElem (by omega)⟩
    obtain ⟨ob', e3⟩ : ∃ ob, rout[k]? = some ob := ⟨_, List.getElem?_eq_getElem (by omega)⟩
    have e4 : ob'.sz = ob.sz := by
      have := congrArg (fun l => l[k]?) hsz
      simp only [List.getElem?_map, e2, e3, Option.map_some, Option.some.injEq] at this
      exact this
    obtain ⟨l2, e5, e6⟩ := hat k ob e2
    rw [e1] at e5; cases e5
    have e7 := subl_k Ls 0 k l e1
    rw [Nat.zero_add] at e7
    have e8 := rowsF_k rin 0 k
    have e9 := rowsF_k rout 0 k
    rw [Nat.zero_add] at e8 e9
    exact ⟨k, ob, ob', e1, e2, e3, e4, e7, by rw [e8, e2], by rw [e9, e3], e6, p1 k l ob' e1 e3⟩
  have hsame : ∀ j, Same s.hp (setHanded Ls Ls rout s).hp B B V V j := fun j o e => by
    by_cases hj : j ∈ Ls
    · obtain ⟨k, ob, ob', q1, q2, q3, q4, q5, q6, q7, q8, q9⟩ := hpl j hj
      rw [q8] at e; cases e
      exact ⟨_, q9, q4, rfl, rfl⟩
    · exact ⟨o, by rw [(p2 j hj).1]; exact e, rfl, rfl, rfl⟩
  have hHB : ∀ g, HB (rowsF 0 rin) (fun l => V (subl 0 Ls l)) (fun l => T (subl 0 Ls l)) g → ∃ l, l ∈ Ls ∧ ∃ ob, s.hp l = some ob ∧ Blk V T l g := fun g ⟨l, ob, e, hb⟩ => ⟨subl 0 Ls l, (hmem l ob e).1, _, (hmem l ob e).2, hb⟩
  have hSw : ∀ b, S b → w'.heap[b]? = w.heap[b]? := fun b hs => hg.block b (h.slt b hs).1 (fun hb => by
    obtain ⟨l, _, ob, ho, hb⟩ := hHB b hb
    exact (h.far ho).1 b hs hb)
  have hoth : ∀ j o g, j ∉ Ls → s.hp j = some o → Blk V T j g → w'.heap[g]? = w.heap[g]? := fun j o g hj hjo hb => hg.block g (h.rows.me j o g hjo hb).2.1 (fun hb' => by
    obtain ⟨l, hl, ob, ho, hb'⟩ := hHB g hb'
    exact (h.far ho).2 j o g (fun e => hj (e ▸ hl)) hjo hb hb')
  -- the new blocks within
  let T2 : Nat → Nat → Prop := fun l g => (l ∈ Ls ∧ ∃ k, subl 0 Ls (1000000 * k) = l ∧ Ls[k]? = some l ∧ T1 (1000000 * k) g) ∨ (l ∉ Ls ∧ T l g)
  have hT2n : ∀ j, j ∉ Ls → T2 j = T j := fun j hj => funext fun g => propext ⟨fun h => h.elim (fun h => absurd h.1 hj) (fun h => h.2), fun h => .inr ⟨hj, h⟩⟩
  have hT2h : ∀ k l, Ls[k]? = some l → subl 0 Ls (1000000 * k) = l → T2 l = T1 (1000000 * k) := fun k l e1 e2 => funext fun g => propext ⟨fun h => by
    rcases h with ⟨_, k', _, q2, q3⟩ | ⟨q1, _⟩
    · have : k = k' := nodup_at hnd e1 q2
      subst this; exact q3
    · exact absurd (List.mem_of_getElem? e1) q1, fun h => .inl ⟨List.mem_of_getElem? e1, k, e2, e1, h⟩⟩
  have hblk : ∀ j o g, (setHanded Ls Ls rout s).hp j = some o → Blk V T2 j g → (j ∉ Ls ∧ s.hp j = some o ∧ Blk V T j g) ∨ ∃ k ob', Ls[k]? = some j ∧ rowsF 0 rout (1000000 * k) = some ob' ∧ Blk (fun l => V (subl 0 Ls l)) T1 (1000000 * k) g := fun j o g e hb => by
    by_cases hj : j ∈ Ls
    · obtain ⟨k, ob, ob', q1, q2, q3, q4, q5, q6, q7, q8, q9⟩ := hpl j hj
      refine .inr ⟨k, ob', q1, q7, ?_⟩
      unfold Blk at hb ⊢
      rw [hT2h k j q1 q5] at hb
      simp only [q5]; exact hb
    · refine .inl ⟨hj, by rw [← (p2 j hj).1]; exact e, ?_⟩
      unfold Blk at hb ⊢
      rw [hT2n j hj] at hb; exact hb
  refine ⟨T2, ⟨h.below.trans hg (fun g hb hlt => by
      obtain ⟨l, _, ob, ho, hb⟩ := hHB g hb
      exact (h.rows.me l ob g ho hb).2.2.resolve_left (by omega)), fun b hb => hS1 b (h.s0 b hb), fun b hb => ⟨(hs1 b hb).1, by
      rcases (hs1 b hb).2 with hb' | hb' | hb'
      · exact (h.slt b hb').2
      · exact .inr (.inl (Nat.le_trans h.below.size hb'))
      · obtain ⟨l, _, ob, ho, hb2⟩ := hHB b hb'
        exact .inr (h.rows.me l ob b ho hb2).2.2⟩, fun t => ?_, ⟨fun j o e => ?_, fun j o g e hb => ?_, fun j o g e hb => ?_, fun j j' o o' g e1 e2 b1 b2 => ?_, fun j es e => ?_⟩, h.pin⟩, fun j o g e hb => ?_⟩
  · rw [p3]; exact RV.carry hS1 hSw _ _ (fun j _ => hsame j) (h.sl t)
  · by_cases hj : j ∈ Ls
    · obtain ⟨k, ob, ob', q1, q2, q3, q4, q5, q6, q7, q8, q9⟩ := hpl j hj
      rw [q9] at e; cases e
      rw [hT2h k j q1 q5]
      have hro := hr.ro _ _ q7
      simp only [q5] at hro
      rw [subO_eq]
      refine (RO.map (ρ := subl 0 Ls) (fun i hi => ?_)).1 hro
      have := withinE_names (hw ob' (List.mem_of_getElem? q3)) hi
      obtain ⟨o, ho⟩ := Option.isSome_iff_exists.1 this
      obtain ⟨h3, h4⟩ := hmem i o ho
      obtain ⟨k2, ob2, ob2', r1, r2, r3, r4, r5, r6, r7, r8, r9⟩ := hpl _ h3
      obtain ⟨k3, h5, h6⟩ := rowsF_at rin 0 i o ho
      rw [Nat.zero_add] at h5
      have hkk : k2 = k3 := by
        obtain ⟨l3, h7, h8⟩ := hat k3 o h6
        have h9 := subl_k Ls 0 k3 l3 h7
        rw [Nat.zero_add, ← h5] at h9
        rw [h9] at r1
        exact nodup_at hnd r1 h7
      subst hkk
      rw [← h5] at r7
      exact ⟨ob2', subO Ls ob2', r7, r9, rfl, rfl, rfl⟩
    · rw [(p2 j hj).1] at e
      rw [hT2n j hj]
      exact (h.rows.ro j o e).carry hS1 hSw (fun i _ => hsame i) (fun g hg => hoth j o g hj e (.inr hg)) (fun g hg => hoth j o g hj e (.inl hg))
  · rcases hblk j o g e hb with ⟨hj, e', hb'⟩ | ⟨k, ob', q1, q7, hb'⟩
    · obtain ⟨k1, k2, k3⟩ := h.rows.me j o g e' hb'
      refine ⟨fun hs => ?_, Nat.lt_of_lt_of_le k2 hg.size, k3⟩
      rcases (hs1 g hs).2 with hs' | hs' | hs'
      · exact k1 hs'
      · omega
      · obtain ⟨l, hl, ob, ho, hb2⟩ := hHB g hs'
        exact absurd (h.rows.ds j l o ob g e' ho hb' hb2) (fun e => hj (e ▸ hl))
    · obtain ⟨k1, k2, k3⟩ := hr.me _ _ g q7 hb'
      refine ⟨k1, k2, ?_⟩
      rcases k3 with k3 | k3
      · exact .inl (Nat.le_trans h.below.size k3)
      · obtain ⟨l, _, ob, ho, hb2⟩ := hHB g k3
        exact (h.rows.me l ob g ho hb2).2.2
  · by_cases hj : j ∈ Ls
    · obtain ⟨k, ob, ob', q1, q2, q3, q4, q5, q6, q7, q8, q9⟩ := hpl j hj
      rw [hT2h k j q1 q5]
      exact hr.nd _ ob' g q7 (by simp only [q5]; exact hb)
    · rw [(p2 j hj).1] at e
      rw [hT2n j hj]
      exact h.rows.nd j o g e hb
  · rcases hblk j o g e1 b1 with ⟨hj, e3, c1⟩ | ⟨k, ob1, q1, q2, c1⟩
    · rcases hblk j' o' g e2 b2 with ⟨hj', e4, c2⟩ | ⟨k', ob2, r1, r2, c2⟩
      · exact h.rows.ds j j' o o' g e3 e4 c1 c2
      · obtain ⟨_, k2, k3⟩ := hr.me _ _ g r2 c2
        have hlt := (h.rows.me j o g e3 c1).2.1
        rcases k3 with k3 | k3
        · omega
        · obtain ⟨l, hl, ob, ho, hb2⟩ := hHB g k3
          exact absurd (h.rows.ds j l o ob g e3 ho c1 hb2) (fun e => hj (e ▸ hl))
    · rcases hblk j' o' g e2 b2 with ⟨hj', e4, c2⟩ | ⟨k', ob2, r1, r2, c2⟩
      · obtain ⟨_, k2, k3⟩ := hr.me _ _ g q2 c1
        have hlt := (h.rows.me j' o' g e4 c2).2.1
        rcases k3 with k3 | k3
        · omega
        · obtain ⟨l, hl, ob, ho, hb2⟩ := hHB g k3
          exact absurd (h.rows.ds j' l o' ob g e4 ho c2 hb2) (fun e => hj' (e ▸ hl))
      · have := hr.ds _ _ _ _ g q2 r2 c1 c2
        have hkk : k = k' := by omega
        subst hkk
        rw [q1] at r1; cases r1; rfl
  · by_cases hj : j ∈ Ls
    · rw [p4 j hj] at e; cases e
    · rw [(p2 j hj).2] at e
      obtain ⟨⟨t, sz, ho⟩, k1, arr, clock, k2, k3⟩ := h.rows.mp j es e
      rw [hT2n j hj]
      exact ⟨⟨t, sz, by rw [(p2 j hj).1]; exact ho⟩, k1, arr, clock, (hoth j _ _ hj ho (.inr k1)).trans k2, k3⟩
  · rcases hblk j o g e hb with ⟨hj, e', hb'⟩ | ⟨k, ob', q1, q7, hb'⟩
    · refine .inr ⟨(h.rows.me j o g e' hb').2.1, fun hh2 => ?_⟩
      obtain ⟨l, hl, ob, ho, hb2⟩ := hHB g hh2
      exact absurd (h.rows.ds j l o ob g e' ho hb' hb2) (fun e => hj (e ▸ hl))
    · exact .inl ⟨_, ob', q7, hb'⟩
end
end Go.Proofs.Ytmafbodblpgcjaa.AM
