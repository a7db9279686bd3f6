/- The machine over data, second make (N3): open rows: a part read, set, taken out, put in. -/
import Derived.Test.YtmafbodblpgcjaaN2
namespace Go.Proofs.Ytmafbodblpgcjaa.AM
open Go Go.RowKit
set_option linter.unusedVariables false
set_option linter.unusedSimpArgs false

def getP : AV → List Nat → Nat → Option (AV × Nat)
  | x, [], c => some (x, c)
  | .agg xs, i :: p, c => match xs[i]? with | some y => getP y p (c + aszs (xs.take i)) | none => none
  | .mix xs, i :: p, c => match xs[i]? with | some y => getP y p (c + aszs (xs.take i)) | none => none
  | _, _, _ => none
/-- set in what may only be read, or is closed -/
def setP : AV → List Nat → AV → AV
  | _, [], y => y
  | .agg xs, i :: p, y => match xs[i]? with | some x => .agg (xs.set i (setP x p y)) | none => .agg xs
  | x, _, _ => x
/-- set in what is open -/
def setM : AV → List Nat → AV → AV
  | _, [], y => y
  | .agg xs, i :: p, y => match xs[i]? with | some x => .mix (xs.set i (setM x p y)) | none => .agg xs
  | .mix xs, i :: p, y => match xs[i]? with | some x => .mix (xs.set i (setM x p y)) | none => .mix xs
  | x, _, _ => x
theorem aszs_set : ∀ {xs : List AV} (i : Nat) {x y : AV}, xs[i]? = some y → asz x = asz y → aszs (xs.set i x) = aszs xs
  | [], i, x, y, h, _ => by simp at h
  | z :: xs, 0, x, y, h, e => by simp at h; subst h; simp [aszs, e]
  | z :: xs, i + 1, x, y, h, e => by simp at h; simp [aszs, aszs_set i h e]

section
variable {S : Nat → Prop} {w : World} {hp : Nat → Option OB} {B : Nat → Nat} {V : Nat → Value}
theorem ROs.focus : ∀ {xs : List AV} {T : Nat → Prop} {us : List Value} (i : Nat) {q : AV}, ROs S w hp B V xs T us → xs[i]? = some q →
    ∃ c1 c2 c3 T1 Tr, us = c1 ++ (c2 ++ c3) ∧ c1.length = aszs (xs.take i) ∧ RO1 S w hp B V q T1 c2 ∧ Split T T1 Tr ∧
      ∀ q' c2' T1' T', RO1 S w hp B V q' T1' c2' → Split T' T1' Tr → ROs S w hp B V (xs.set i q') T' (c1 ++ (c2' ++ c3))
  | [], T, us, i, q, _, h => by simp at h
  | x :: xs, T, us, 0, q, h, hx => by
    unfold ROs at h
    obtain ⟨d1, d2, A, Bq, e, hs, h1, h2⟩ := h
    simp at hx; subst hx
    refine ⟨[], d1, d2, A, Bq, e, by simp [aszs], h1, hs, fun q' c2' T1' T' k1 k2 => ?_⟩
    rw [List.set_cons_zero, List.nil_append]
    unfold ROs
    exact ⟨c2', d2, T1', Bq, rfl, k2, k1, h2⟩
  | x :: xs, T, us, i + 1, q, h, hx => by
    unfold ROs at h
    obtain ⟨d1, d2, A, Bq, e, hs, h1, h2⟩ := h
    simp at hx
    obtain ⟨c1, c2, c3, T1, Tr, e2, hl, k1, k2, k3⟩ := ROs.focus i h2 hx
    refine ⟨d1 ++ c1, c2, c3, T1, fun g => A g ∨ Tr g, by rw [e, e2, List.append_assoc], ?_, k1, ⟨fun g => ?_, fun g a b => ?_⟩, fun q' c2' T1' T' m1 m2 => ?_⟩
    · rw [List.take_succ_cons, aszs, List.length_append, RO1.size _ _ _ h1, hl]
    · rw [hs.1 g, k2.1 g]
      constructor
      · rintro (x | x | x)
        · exact .inr (.inl x)
        · exact .inl x
        · exact .inr (.inr x)
      · rintro (x | x | x)
        · exact .inr (.inl x)
        · exact .inl x
        · exact .inr (.inr x)
    · rcases b with b | b
      · exact hs.2 g b (k2.left a)
      · exact k2.2 g a b
    · rw [List.set_cons_succ]
      unfold ROs
      refine ⟨d1, c1 ++ (c2' ++ c3), A, fun g => T1' g ∨ Tr g, by rw [List.append_assoc], ⟨fun g => ?_, fun g a b => ?_⟩, h1, k3 q' c2' T1' _ m1 ⟨fun g => Iff.rfl, fun g a b => m2.2 g a (.inr b)⟩⟩
      · rw [m2.1 g]
        constructor
        · rintro (x | x | x)
          · exact .inr (.inl x)
          · exact .inl x
          · exact .inr (.inr x)
        · rintro (x | x | x)
          · exact .inr (.inl x)
          · exact .inl x
          · exact .inr (.inr x)
      · rcases b with b | b
        · exact m2.2 g b (.inl a)
        · exact hs.2 g a (k2.right b)
/-- a part of an open element: read, and set -/
theorem RO1.focus : ∀ (p : List Nat) (y : AV) (T : Nat → Prop) (us : List Value) (c0 c : Nat) (z : AV), RO1 S w hp B V y T us → getP y p c0 = some (z, c) →
    ∃ vs T1 Tr, Split T T1 Tr ∧ c0 ≤ c ∧ RO1 S w hp B V z T1 vs ∧ (c - c0) + vs.length ≤ us.length ∧ (∀ j u, vs[j]? = some u → us[c - c0 + j]? = some u) ∧
      ∀ y' vs' T1' T', asz y' = asz z → RO1 S w hp B V y' T1' vs' → Split T' T1' Tr → RO1 S w hp B V (setM y p y') T' (us.take (c - c0) ++ vs' ++ us.drop (c - c0 + vs'.length)) ∧ asz (setM y p y') = asz y
  | [], y, T, us, c0, c, z, h, hg => by
    unfold getP at hg; cases hg
    refine ⟨us, T, fun _ => False, Split.r0 noF, Nat.le_refl _, h, by omega, fun j u hu => by rw [Nat.sub_self, Nat.zero_add]; exact hu, fun y' vs' T1' T' hz k1 k2 => ?_⟩
    have e1 := RO1.size _ _ _ h
    have e2 := RO1.size _ _ _ k1
    simp only [setM, Nat.sub_self, List.take_zero, List.nil_append, Nat.zero_add]
    rw [List.drop_eq_nil_of_le (by omega), List.append_nil, k2.eql noF]
    exact ⟨k1, hz⟩
  | i :: p, y, T, us, c0, c, z, h, hg => by
    have key : ∀ (xs : List AV), ROs S w hp B V xs T us → (match xs[i]? with | some y => getP y p (c0 + aszs (xs.take i)) | none => none) = some (z, c) → 
      ∃ vs T1 Tr, Split T T1 Tr ∧ c0 ≤ c ∧ RO1 S w hp B V z T1 vs ∧ (c - c0) + vs.length ≤ us.length ∧ (∀ j u, vs[j]? = some u → us[c - c0 + j]? = some u) ∧
      ∀ y' vs' T1' T', asz y' = asz z → RO1 S w hp B V y' T1' vs' → Split T' T1' Tr → ∃ x, xs[i]? = some x ∧ ROs S w hp B V (xs.set i (setM x p y')) T' (us.take (c - c0) ++ vs' ++ us.drop (c - c0 + vs'.length)) ∧ aszs (xs.set i (setM x p y')) = aszs xs := by
      intro xs hx hg
      cases hq : xs[i]? with
      | none => rw [hq] at hg; cases hg
      | some q =>
        rw [hq] at hg
        simp only at hg
        obtain ⟨c1, c2, c3, A, Ar, e, hl, k1, k2, k3⟩ := ROs.focus i hx hq
        obtain ⟨vs, T1, Tr, s1, s2, s3, s4, s5, s6⟩ := RO1.focus p q A c2 _ c z k1 hg
        refine ⟨vs, T1, fun g => Tr g ∨ Ar g, ⟨fun g => ?_, fun g a b => ?_⟩, by omega, s3, ?_, fun j u hu => ?_, fun y' vs' T1' T' hz m1 m2 => ⟨q, rfl, ?_, ?_⟩⟩
        · rw [k2.1 g, s1.1 g, or_assoc]
        · rcases b with b | b
          · exact s1.2 g a b
          · exact k2.2 g (s1.left a) b
        · rw [e]; simp only [List.length_append]; omega
        · rw [e]
          have := s5 j u hu
          rw [List.getElem?_append_right (by omega), List.getElem?_append_left (by have := (List.getElem?_eq_some_iff.1 this).1; omega)]
          rw [show c - c0 + j - c1.length = c - (c0 + aszs (xs.take i)) + j from by omega]
          exact this
        · obtain ⟨n1, n2⟩ := s6 y' vs' T1' (fun g => T1' g ∨ Tr g) hz m1 ⟨fun g => Iff.rfl, fun g a b => m2.2 g a (.inl b)⟩
          have := k3 _ _ _ T' n1 ⟨fun g => by rw [m2.1 g, or_assoc], fun g a b => by
            rcases a with a | a
            · exact m2.2 g a (.inr b)
            · exact k2.2 g (s1.right a) b⟩
          have e1 := RO1.size _ _ _ s3
          have e2 := RO1.size _ _ _ m1
          have e3 : us.take (c - c0) = c1 ++ c2.take (c - (c0 + aszs (xs.take i))) := by
            rw [e, List.take_append, List.take_of_length_le (by omega), List.take_append_of_le_length (by omega)]
            congr 2; omega
          have e4 : us.drop (c - c0 + vs'.length) = c2.drop (c - (c0 + aszs (xs.take i)) + vs'.length) ++ c3 := by
            rw [e, List.drop_append, List.drop_eq_nil_of_le (by omega), List.nil_append, List.drop_append_of_le_length (by omega)]
            congr 2; omega
          rw [e3, e4]
          simp only [List.append_assoc] at this ⊢
          exact this
        · exact aszs_set i hq (s6 y' vs' T1' (fun g => T1' g ∨ Tr g) hz m1 ⟨fun g => Iff.rfl, fun g a b => m2.2 g a (.inl b)⟩).2
    have fin : ∀ (xs : List AV), asz y = aszs xs → (∀ y', setM y (i :: p) y' = match xs[i]? with | some x => .mix (xs.set i (setM x p y')) | none => y) → ROs S w hp B V xs T us → (match xs[i]? with | some y => getP y p (c0 + aszs (xs.take i)) | none => none) = some (z, c) →
      ∃ vs T1 Tr, Split T T1 Tr ∧ c0 ≤ c ∧ RO1 S w hp B V z T1 vs ∧ (c - c0) + vs.length ≤ us.length ∧ (∀ j u, vs[j]? = some u → us[c - c0 + j]? = some u) ∧
      ∀ y' vs' T1' T', asz y' = asz z → RO1 S w hp B V y' T1' vs' → Split T' T1' Tr → RO1 S w hp B V (setM y (i :: p) y') T' (us.take (c - c0) ++ vs' ++ us.drop (c - c0 + vs'.length)) ∧ asz (setM y (i :: p) y') = asz y := fun xs ha hm hx hg => by
      obtain ⟨vs, T1, Tr, s1, s2, s3, s4, s5, s6⟩ := key xs hx hg
      exact ⟨vs, T1, Tr, s1, s2, s3, s4, s5, fun y' vs' T1' T' hz m1 m2 => by
        obtain ⟨x, hq, n1, n2⟩ := s6 y' vs' T1' T' hz m1 m2
        rw [hm y', hq]
        simp only
        refine ⟨by unfold RO1; exact n1, ?_⟩
        rw [ha]; unfold asz; exact n2⟩
    cases y with
    | agg xs =>
      unfold RO1 at h; unfold RD at h
      exact fin xs (by unfold asz; rfl) (fun y' => rfl) (RDL.toROs xs T us h) hg
    | mix xs =>
      unfold RO1 at h
      exact fin xs (by unfold asz; rfl) (fun y' => rfl) h hg
    | _ => simp [getP] at hg

/-! ### between slots and open rows -/
/-- a slot's datum as an open row's -/
def toO : AV → Option AV
  | .v x => some (.v x)
  | .own l => some (.own l)
  | .optr l i p c => some (.optr l i p c)
  | .mapv l => some (.mapv l)
  | .mix xs => some (.mix xs)
  | .fn f xs ys => some (.fn f xs ys)
  | .ifc t x => some (.ifc t x)
  | .lst sz xs => some (.rd (.lst sz xs))
  | .ptr x => some (.rd (.ptr x))
  | .agg xs => some (.rd (.agg xs))
  | _ => none
theorem one_cells {u : Value} (h : u.oneCell' = true) : u.cells.toList = [u] := by
  cases u <;> first | rfl | simp [Value.oneCell'] at h
theorem RV.toO (hV : ∀ l ob, hp l = some ob → (V l).oneCell' = true) {x y : AV} {u : Value} (h : RV S w hp B V x u) (hy : toO x = some y) : RO1 S w hp B V y (fun _ => False) u.cells.toList := by
  cases x <;> simp only [AM.toO, Option.some.injEq, reduceCtorEq] at hy <;> subst hy <;> unfold RV at h <;> unfold RO1
  case v x => obtain ⟨rfl, h1⟩ := h; unfold RD; exact ⟨noF, one_cells h1, h1⟩
  case own l => obtain ⟨⟨ob, ho⟩, rfl⟩ := h; exact ⟨noF, ⟨ob, ho⟩, one_cells (hV l ob ho), hV l ob ho⟩
  case optr l i p c => obtain ⟨ob, ho, rfl⟩ := h; exact ⟨noF, ob, ho, rfl⟩
  case mapv l => obtain ⟨h1, rfl⟩ := h; exact ⟨noF, h1, rfl⟩
  case mix xs => obtain ⟨cs, rfl, h1⟩ := h; simpa [Value.cells] using h1
  case fn f xs ys => obtain ⟨us, vs, rfl, h1, h2⟩ := h; exact ⟨noF, us, vs, rfl, h1, h2⟩
  case ifc t x => obtain ⟨u', rfl, h1⟩ := h; exact ⟨noF, u', rfl, h1⟩
  case lst sz xs =>
    have h0 := h
    unfold RA at h
    obtain ⟨A, c, e, _⟩ := h
    simp only [List.cons.injEq, and_true] at e
    subst e
    exact ⟨noF, by simpa [Value.cells] using h0⟩
  case ptr x =>
    have h0 := h
    unfold RA at h
    obtain ⟨b, off, us, e, _⟩ := h
    simp only [List.cons.injEq, and_true] at e
    subst e
    exact ⟨noF, by simpa [Value.cells] using h0⟩
  case agg xs => obtain ⟨cs, rfl, h1⟩ := h; exact ⟨noF, by unfold RA; simpa [Value.cells] using h1⟩
theorem toO_asz {x y : AV} (h : toO x = some y) : asz y = asz x := by
  cases x <;> simp only [AM.toO, Option.some.injEq, reduceCtorEq] at h <;> subst h <;> simp [asz]
theorem toO_names {x y : AV} (h : toO x = some y) (l : Nat) : y.names l = x.names l := by
  cases x <;> simp only [AM.toO, Option.some.injEq, reduceCtorEq] at h <;> subst h <;> simp [AV.names]
mutual
/-- nothing is owned within -/
def plainO : AV → Bool
  | .lst _ _ => false
  | .agg xs => noLstL xs
  | .mix xs => plainM xs
  | _ => true
def plainM : List AV → Bool
  | [] => true
  | x :: xs => plainO x && plainM xs
end
mutual
theorem RO1.plain : ∀ (x : AV) (T : Nat → Prop) (cs : List Value), plainO x = true → RO1 S w hp B V x T cs → NoT T
  | .agg xs, T, cs, hn, h => by unfold RO1 at h; unfold plainO at hn; exact (RD.plain (.agg xs) T cs (by unfold noLst; exact hn) h).1
  | .mix xs, T, cs, hn, h => by unfold RO1 at h; unfold plainO at hn; exact ROs.plain xs T cs hn h
  | .lst _ _, T, cs, hn, h => by simp [plainO] at hn
  | .v x, T, cs, _, h => by unfold RO1 at h; unfold RD at h; exact h.1
  | .tup x, T, cs, _, h => by unfold RO1 at h; exact h.elim
  | .ptr x, T, cs, _, h => by unfold RO1 at h; exact h.elim
  | .any, T, cs, _, h | .own _, T, cs, _, h | .optr _ _ _ _, T, cs, _, h | .mapv _, T, cs, _, h | .rd _, T, cs, _, h | .fn _ _ _, T, cs, _, h | .ifc _ _, T, cs, _, h => by unfold RO1 at h; exact h.1
theorem ROs.plain : ∀ (xs : List AV) (T : Nat → Prop) (cs : List Value), plainM xs = true → ROs S w hp B V xs T cs → NoT T
  | [], T, cs, _, h => by unfold ROs at h; exact h.2
  | x :: xs, T, cs, hn, h => by
    unfold ROs at h
    simp only [plainM, Bool.and_eq_true] at hn
    obtain ⟨c1, c2, T1, T2, e, hs, h1, h2⟩ := h
    exact fun g hg => ((hs.1 g).1 hg).elim (RO1.plain x T1 c1 hn.1 h1 g) (ROs.plain xs T2 c2 hn.2 h2 g)
end
/-- an open row's datum as a slot's -/
def ofO : AV → Option AV
  | .rd x => some x
  | .agg xs => bif noLstL xs then some (.agg xs) else none
  | .mix xs => bif plainM xs then some (.mix xs) else none
  | .lst _ _ => none
  | .ptr _ => none
  | .tup _ => none
  | x => some x
def isAggA : AV → Bool
  | .agg _ => true
  | .mix _ => true
  | _ => false
theorem RV.ofRA {x : AV} {us : List Value} (h : RA S w x us) : ∃ u, RV S w hp B V x u ∧ (if isAggA x then Value.agg us.toArray else us.headD undef) = u ∧ (isAggA x = false → us.length = 1) := by
  cases x with
  | v x => unfold RA at h; obtain ⟨rfl, h1⟩ := h; exact ⟨x, by unfold RV; exact ⟨rfl, h1⟩, rfl, fun _ => rfl⟩
  | agg xs => unfold RA at h; exact ⟨_, by unfold RV; exact ⟨us, rfl, h⟩, rfl, fun e => by cases e⟩
  | lst sz xs =>
    have h0 := h
    unfold RA at h
    obtain ⟨A, c, rfl, _⟩ := h
    exact ⟨_, by unfold RV; exact h0, rfl, fun _ => rfl⟩
  | ptr x =>
    have h0 := h
    unfold RA at h
    obtain ⟨b, off, us', rfl, _⟩ := h
    exact ⟨_, by unfold RV; exact h0, rfl, fun _ => rfl⟩
  | _ => unfold RA at h; exact h.elim
theorem RV.ofO {z x : AV} {T : Nat → Prop} {us : List Value} (h : RO1 S w hp B V z T us) (hx : ofO z = some x) : ∃ u, RV S w hp B V x u ∧ (if isAggA x then Value.agg us.toArray else us.headD undef) = u ∧ (isAggA x = false → us.length = 1) := by
  cases z with
  | rd y => simp only [AM.ofO, Option.some.injEq] at hx; subst hx; unfold RO1 at h; exact RV.ofRA h.2
  | agg xs =>
    simp only [AM.ofO] at hx
    cases hn : noLstL xs with
    | false => rw [hn] at hx; cases hx
    | true =>
      rw [hn] at hx; cases hx
      unfold RO1 at h
      exact RV.ofRA ((RD.plain (.agg xs) T us (by unfold noLst; exact hn) h).2 S w)
  | mix xs =>
    simp only [AM.ofO] at hx
    cases hn : plainM xs with
    | false => rw [hn] at hx; cases hx
    | true =>
      rw [hn] at hx; cases hx
      unfold RO1 at h
      have hT := ROs.plain xs T us hn h
      rw [hT.eq noF] at h
      exact ⟨_, by unfold RV; exact ⟨us, rfl, h⟩, rfl, fun e => by cases e⟩
  | v x => simp only [AM.ofO, Option.some.injEq] at hx; subst hx; unfold RO1 at h; unfold RD at h; obtain ⟨_, rfl, h1⟩ := h; exact ⟨x, by unfold RV; exact ⟨rfl, h1⟩, rfl, fun _ => rfl⟩
  | any => simp only [AM.ofO, Option.some.injEq] at hx; subst hx; unfold RO1 at h; obtain ⟨_, u, rfl, _⟩ := h; exact ⟨u, by unfold RV; trivial, rfl, fun _ => rfl⟩
  | own l => simp only [AM.ofO, Option.some.injEq] at hx; subst hx; unfold RO1 at h; obtain ⟨_, h1, rfl, _⟩ := h; exact ⟨_, by unfold RV; exact ⟨h1, rfl⟩, rfl, fun _ => rfl⟩
  | optr l i p c => simp only [AM.ofO, Option.some.injEq] at hx; subst hx; unfold RO1 at h; obtain ⟨_, ob, h1, rfl⟩ := h; exact ⟨_, by unfold RV; exact ⟨ob, h1, rfl⟩, rfl, fun _ => rfl⟩
  | mapv l => simp only [AM.ofO, Option.some.injEq] at hx; subst hx; unfold RO1 at h; obtain ⟨_, h1, rfl⟩ := h; exact ⟨_, by unfold RV; exact ⟨h1, rfl⟩, rfl, fun _ => rfl⟩
  | fn f xs ys => simp only [AM.ofO, Option.some.injEq] at hx; subst hx; unfold RO1 at h; obtain ⟨_, vs, ws, rfl, h1, h2⟩ := h; exact ⟨_, by unfold RV; exact ⟨vs, ws, rfl, h1, h2⟩, rfl, fun _ => rfl⟩
  | ifc t y => simp only [AM.ofO, Option.some.injEq] at hx; subst hx; unfold RO1 at h; obtain ⟨_, u, rfl, h1⟩ := h; exact ⟨_, by unfold RV; exact ⟨u, rfl, h1⟩, rfl, fun _ => rfl⟩
  | lst _ _ => cases hx
  | ptr _ => cases hx
  | tup _ => cases hx
theorem ofO_asz {x y : AV} (h : ofO x = some y) : asz y = asz x := by
  cases x with
  | agg xs =>
    simp only [AM.ofO] at h
    cases hn : noLstL xs with
    | false => rw [hn] at h; cases h
    | true => rw [hn] at h; cases h; rfl
  | mix xs =>
    simp only [AM.ofO] at h
    cases hn : plainM xs with
    | false => rw [hn] at h; cases h
    | true => rw [hn] at h; cases h; rfl
  | _ => simp only [AM.ofO, Option.some.injEq, reduceCtorEq] at h <;> subst h <;> simp [asz]

/-! ### an open element shut: no label is left in it (z: what a nil list stands for) -/
mutual
def shutA : AV → AV → Option AV
  | z, .v x => match z, x with
    | .lst sz _, .slice none 0 0 => bif Nat.blt 0 sz then some (.lst sz []) else none
    | .lst _ _, _ => none
    | _, x => some (.v x)
  | _, .agg xs => some (.agg xs)
  | _, .lst sz xs => some (.lst sz xs)
  | .agg zs, .mix xs => (shutL zs xs).map .agg
  | _, _ => none
def shutL : List AV → List AV → Option (List AV)
  | [], [] => some []
  | z :: zs, x :: xs => match shutA z x, shutL zs xs with
    | some y, some ys => some (y :: ys)
    | _, _ => none
  | _, _ => none
end
theorem RD.v {x : Value} (h : x.oneCell' = true) : RD w (.v x) (fun _ => False) [x] := by unfold RD; exact ⟨noF, rfl, h⟩
mutual
theorem RO1.shut : ∀ (z x y : AV) (T : Nat → Prop) (cs : List Value), shutA z x = some y → RO1 S w hp B V x T cs → RD w y T cs ∧ asz y = asz x
  | z, .v x, y, T, cs, e, h => by
    unfold RO1 at h
    unfold shutA at e
    split at e
    · rename_i sz xs
      cases hb : Nat.blt 0 sz with
      | false => rw [hb] at e; cases e
      | true =>
        rw [hb] at e; cases e
        have h0 : 0 < sz := by simpa using hb
        unfold RD at h ⊢
        exact ⟨⟨.slice none 0 0, 0, [], T, h.2.1, World.ownsRow_nil _ _ _ _, by simp, h0, by unfold RDL; exact ⟨rfl, h.1⟩, fun g => by simp [Value.ownBlock], fun g hg => by simp [Value.ownBlock] at hg⟩, rfl⟩
    · cases e
    · cases e; exact ⟨h, rfl⟩
  | z, .agg xs, y, T, cs, e, h => by unfold RO1 at h; unfold shutA at e; cases e; exact ⟨h, rfl⟩
  | z, .lst sz xs, y, T, cs, e, h => by unfold RO1 at h; unfold shutA at e; cases e; exact ⟨h, rfl⟩
  | .agg zs, .mix xs, y, T, cs, e, h => by
    unfold RO1 at h
    unfold shutA at e
    cases hq : shutL zs xs with
    | none => rw [hq] at e; cases e
    | some ys =>
      rw [hq] at e; cases e
      obtain ⟨a, b⟩ := ROs.shut zs xs ys T cs hq h
      unfold RD
      exact ⟨a, by simp only [asz]; exact b⟩
  | z, .any, y, T, cs, e, h => by unfold shutA at e; cases e
  | z, .ptr _, y, T, cs, e, h => by unfold shutA at e; cases e
  | z, .own _, y, T, cs, e, h => by unfold shutA at e; cases e
  | z, .optr _ _ _ _, y, T, cs, e, h => by unfold shutA at e; cases e
  | z, .tup _, y, T, cs, e, h => by unfold shutA at e; cases e
  | z, .mapv _, y, T, cs, e, h => by unfold shutA at e; cases e
  | z, .rd _, y, T, cs, e, h => by unfold shutA at e; cases e
  | z, .fn _ _ _, y, T, cs, e, h => by unfold shutA at e; cases e
  | z, .ifc _ _, y, T, cs, e, h => by unfold shutA at e; cases e
  | .any, .mix xs, y, T, cs, e, h => by unfold shutA at e; cases e
  | .v _, .mix xs, y, T, cs, e, h => by unfold shutA at e; cases e
  | .lst _ _, .mix xs, y, T, cs, e, h => by unfold shutA at e; cases e
  | .ptr _, .mix xs, y, T, cs, e, h => by unfold shutA at e; cases e
  | .own _, .mix xs, y, T, cs, e, h => by unfold shutA at e; cases e
  | .optr _ _ _ _, .mix xs, y, T, cs, e, h => by unfold shutA at e; cases e
  | .tup _, .mix xs, y, T, cs, e, h => by unfold shutA at e; cases e
  | .mapv _, .mix xs, y, T, cs, e, h => by unfold shutA at e; cases e
  | .mix _, .mix xs, y, T, cs, e, h => by unfold shutA at e; cases e
  | .rd _, .mix xs, y, T, cs, e, h => by unfold shutA at e; cases e
  | .fn _ _ _, .mix xs, y, T, cs, e, h => by unfold shutA at e; cases e
  | .ifc _ _, .mix xs, y, T, cs, e, h => by unfold shutA at e; cases e
theorem ROs.shut : ∀ (zs xs ys : List AV) (T : Nat → Prop) (cs : List Value), shutL zs xs = some ys → ROs S w hp B V xs T cs → RDL w ys T cs ∧ aszs ys = aszs xs
  | [], [], ys, T, cs, e, h => by unfold shutL at e; cases e; unfold ROs at h; unfold RDL; exact ⟨h, rfl⟩
  | z :: zs, x :: xs, ys, T, cs, e, h => by
    unfold shutL at e
    cases h1 : shutA z x with
    | none => rw [h1] at e; cases e
    | some y =>
      cases h2 : shutL zs xs with
      | none => rw [h1, h2] at e; cases e
      | some ys' =>
        rw [h1, h2] at e; cases e
        unfold ROs at h
        obtain ⟨c1, c2, T1, T2, e', hs, k1, k2⟩ := h
        obtain ⟨a1, b1⟩ := RO1.shut z x y T1 c1 h1 k1
        obtain ⟨a2, b2⟩ := ROs.shut zs xs ys' T2 c2 h2 k2
        unfold RDL
        exact ⟨⟨c1, c2, T1, T2, e', hs, a1, a2⟩, by simp [aszs, b1, b2]⟩
  | [], x :: xs, ys, T, cs, e, h => by unfold shutL at e; cases e
  | z :: zs, [], ys, T, cs, e, h => by unfold shutL at e; cases e
end
end
end Go.Proofs.Ytmafbodblpgcjaa.AM
