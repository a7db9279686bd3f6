/- The machine over data, second make (N4): rows, and the state: what a change of one row leaves. -/
import Derived.Test.YtmafbodblpgcjaaN3
namespace Go.Proofs.Ytmafbodblpgcjaa.AM
open Go Go.RowKit
set_option linter.unusedVariables false
set_option linter.unusedSimpArgs false

section
variable {S S' : Nat → Prop} {w w' : World} {hp hp' : Nat → Option OB} {B B' : Nat → Nat} {V V' : Nat → Value} {T : Nat → Prop} {sz : Nat} {xs : List AV} {cs : List Value} {e : ET}
theorem RK.carry (hS : ∀ b, S b → S' b) (hw : ∀ b, S b → w'.heap[b]? = w.heap[b]?) (hn : ∀ l, namesE l e = true → Same hp hp' B B' V V' l) (hT : ∀ g, T g → w'.heap[g]? = w.heap[g]?) (h : RK S w hp B V sz xs T cs e) : RK S' w' hp' B' V' sz xs T cs e := by
  cases e with
  | s t => exact RL.mono hS hw xs cs h
  | z t => exact ⟨h.1, RDL.mono xs T cs hT h.2⟩
  | d t => exact RDL.mono xs T cs hT h
  | u => exact RDL.mono xs T cs hT h
  | o t i y =>
    obtain ⟨h1, h2, c0, c1, c2, T0, T', T1, T2, h3, h4, h5, h6, h7, h8⟩ := h
    exact ⟨h1, h2, c0, c1, c2, T0, T', T1, T2, h3, h4, h5, RDL.mono _ _ _ (fun g hg => hT g (h4.left hg)) h6, RO1.carry hS hw y T1 c1 hn (fun g hg => hT g (h4.right (h5.left hg))) h7, RDL.mono _ _ _ (fun g hg => hT g (h4.right (h5.right hg))) h8⟩
theorem RK.kill (l : Nat) (h : RK S w hp B V sz xs T cs e) : RK S w hp B V sz xs T cs (killE l e) := by
  cases e with
  | o t i y =>
    obtain ⟨h1, h2, c0, c1, c2, T0, T', T1, T2, h3, h4, h5, h6, h7, h8⟩ := h
    exact ⟨h1, (killA_asz l y).trans h2, c0, c1, c2, T0, T', T1, T2, h3, h4, h5, h6, RO1.kill l y T1 c1 h7, h8⟩
  | _ => exact h
theorem killE_typ (l : Nat) (e : ET) : (killE l e).typ = e.typ := by cases e <;> rfl
theorem killE_shut (l : Nat) (e : ET) (h : e.shut = true) : killE l e = e := by cases e <;> first | rfl | simp [ET.shut] at h
theorem namesE_kill (l : Nat) (e : ET) : namesE l (killE l e) = false := by
  cases e with
  | o t i y => exact killA_names l y
  | _ => rfl
theorem namesE_kill_sub (l l' : Nat) (e : ET) (h : namesE l' (killE l e) = true) : namesE l' e = true := by
  cases e with
  | o t i y => exact killA_sub l l' y h
  | _ => simp [namesE, killE] at h
theorem RK.size (ha : ∀ x ∈ xs, asz x = sz) (h : RK S w hp B V sz xs T cs e) : cs.length = xs.length * sz := by
  cases e with
  | s t => rw [RL.size _ _ h, aszs_const ha]
  | z t => rw [RDL.size _ _ _ h.2, aszs_const ha]
  | d t => rw [RDL.size _ _ _ h, aszs_const ha]
  | u => rw [RDL.size _ _ _ h, aszs_const ha]
  | o t i y =>
    obtain ⟨h1, h2, c0, c1, c2, T0, T', T1, T2, h3, h4, h5, h6, h7, h8⟩ := h
    rw [h3, List.length_append, List.length_append, RDL.size _ _ _ h6, RDL.size _ _ _ h8, RO1.size _ _ _ h7, h2, aszs_const (fun x hx => ha x (List.mem_of_mem_take hx)), aszs_const (fun x hx => ha x (List.mem_of_mem_drop hx)), List.length_take, List.length_drop, Nat.min_eq_left (by omega)]
    have : xs.length = i + (1 + (xs.length - (i + 1))) := by omega
    conv => rhs; rw [this]
    rw [Nat.add_mul, Nat.add_mul, Nat.one_mul]
theorem RK.one (h : RK S w hp B V sz xs T cs e) : ∀ u ∈ cs, u.oneCell' = true := by
  cases e with
  | s t => exact RL.one _ _ h
  | z t => exact RDL.one _ _ _ h.2
  | d t => exact RDL.one _ _ _ h
  | u => exact RDL.one _ _ _ h
  | o t i y =>
    obtain ⟨h1, h2, c0, c1, c2, T0, T', T1, T2, h3, h4, h5, h6, h7, h8⟩ := h
    intro u hu
    rw [h3, List.mem_append, List.mem_append] at hu
    rcases hu with hu | hu | hu
    · exact RDL.one _ _ _ h6 u hu
    · exact RO1.one _ _ _ h7 u hu
    · exact RDL.one _ _ _ h8 u hu
theorem RK.lt (hs : ∀ t, e ≠ .s t) (h : RK S w hp B V sz xs T cs e) : ∀ g, T g → g < w.heap.size := by
  cases e with
  | s t => exact absurd rfl (hs t)
  | z t => exact RDL.lt _ _ _ h.2
  | d t => exact RDL.lt _ _ _ h
  | u => exact RDL.lt _ _ _ h
  | o t i y =>
    obtain ⟨h1, h2, c0, c1, c2, T0, T', T1, T2, h3, h4, h5, h6, h7, h8⟩ := h
    intro g hg
    rcases (h4.1 g).1 hg with k | k
    · exact RDL.lt _ _ _ h6 g k
    · rcases (h5.1 g).1 k with k | k
      · exact RO1.lt _ _ _ h7 g k
      · exact RDL.lt _ _ _ h8 g k
theorem RK.list (hs : e.shut = true) (h : RK S w hp B V sz xs T cs e) : RL (fun g => S g ∨ T g) w xs cs := by
  cases e with
  | s t => exact RL.mono (fun _ h => .inl h) (fun _ _ => rfl) _ _ h
  | z t => exact RDL.toRL _ _ _ (fun g hg => .inr hg) h.2
  | d t => exact RDL.toRL _ _ _ (fun g hg => .inr hg) h
  | u => exact RDL.toRL _ _ _ (fun g hg => .inr hg) h
  | o t i y => cases hs
/-- a row opened at an element -/
def openE (e : ET) (xs : List AV) (i : Nat) : Option ET :=
  match e with
  | .s _ => none
  | .z t => match xs[i]? with | some y => some (.o (some t) i y) | none => none
  | .d t => match xs[i]? with | some y => some (.o (some t) i y) | none => none
  | .u => match xs[i]? with | some y => some (.o none i y) | none => none
  | .o t j y => bif Nat.beq j i then some (.o t i y) else none
theorem RDL.opn {t : Option Nat} {i : Nat} {y : AV} (ha : ∀ x ∈ xs, asz x = sz) (hx : xs[i]? = some y) (h : RDL w xs T cs) : RK S w hp B V sz xs T cs (.o t i y) := by
  obtain ⟨hlt, e⟩ := List.getElem?_eq_some_iff.1 hx
  have hsp : xs = xs.take i ++ (y :: xs.drop (i + 1)) := by
    rw [← e, ← List.drop_eq_getElem_cons hlt, List.take_append_drop]
  refine ⟨hlt, ha y (List.mem_of_getElem? hx), ?_⟩
  rw [hsp] at h
  obtain ⟨c0, d, T0, T', e1, s1, k1, k2⟩ := RDL.parts h
  unfold RDL at k2
  obtain ⟨c1, c2, T1, T2, e2, s2, k3, k4⟩ := k2
  exact ⟨c0, c1, c2, T0, T', T1, T2, by rw [e1, e2], s1, s2, k1, RD.toRO1 _ _ _ k3, k4⟩
theorem RK.opn {e' : ET} {i : Nat} (ha : ∀ x ∈ xs, asz x = sz) (ho : openE e xs i = some e') (h : RK S w hp B V sz xs T cs e) : (∃ t y, e' = .o t i y) ∧ e'.typ = e.typ ∧ RK S w hp B V sz xs T cs e' := by
  cases e with
  | s t => cases ho
  | z t =>
    simp only [openE] at ho
    cases hx : xs[i]? with
    | none => rw [hx] at ho; cases ho
    | some y => rw [hx] at ho; cases ho; exact ⟨⟨_, _, rfl⟩, rfl, RDL.opn ha hx h.2⟩
  | d t =>
    simp only [openE] at ho
    cases hx : xs[i]? with
    | none => rw [hx] at ho; cases ho
    | some y => rw [hx] at ho; cases ho; exact ⟨⟨_, _, rfl⟩, rfl, RDL.opn ha hx h⟩
  | u =>
    simp only [openE] at ho
    cases hx : xs[i]? with
    | none => rw [hx] at ho; cases ho
    | some y => rw [hx] at ho; cases ho; exact ⟨⟨_, _, rfl⟩, rfl, RDL.opn ha hx h⟩
  | o t j y =>
    simp only [openE] at ho
    cases hb : Nat.beq j i with
    | false => rw [hb] at ho; cases ho
    | true => rw [hb] at ho; cases ho; rw [Nat.eq_of_beq_eq_true hb] at h; exact ⟨⟨_, _, rfl⟩, rfl, h⟩
theorem RK.shut {t : Option Nat} {i : Nat} {y y' z : AV} (hy : shutA z y = some y') (h : RK S w hp B V sz xs T cs (.o t i y)) : RDL w (xs.set i y') T cs ∧ asz y' = sz := by
  obtain ⟨h1, h2, c0, c1, c2, T0, T', T1, T2, h3, h4, h5, h6, h7, h8⟩ := h
  obtain ⟨k1, k2⟩ := RO1.shut z y y' T1 c1 hy h7
  refine ⟨?_, k2.trans h2⟩
  have hsp : xs.set i y' = xs.take i ++ (y' :: xs.drop (i + 1)) := by rw [List.set_eq_take_append_cons_drop, if_pos h1]
  rw [hsp, h3]
  refine RDL.app h6 ?_ h4
  unfold RDL
  exact ⟨c1, c2, T1, T2, rfl, h5, k1, h8⟩
/-- a part of an open row's element -/
theorem RK.focus {t : Option Nat} {i c : Nat} {y z : AV} {p : List Nat} (ha : ∀ x ∈ xs, asz x = sz) (hg : getP y p 0 = some (z, c)) (h : RK S w hp B V sz xs T cs (.o t i y)) :
    ∃ vs T1 Tr, RO1 S w hp B V z T1 vs ∧ Split T T1 Tr ∧ i * sz + c + vs.length ≤ cs.length ∧ (∀ j u, vs[j]? = some u → cs[i * sz + c + j]? = some u) ∧
      ∀ y' vs' T1' T', asz y' = asz z → RO1 S w hp B V y' T1' vs' → Split T' T1' Tr → RK S w hp B V sz xs T' (cs.take (i * sz + c) ++ vs' ++ cs.drop (i * sz + c + vs'.length)) (.o t i (setM y p y')) := by
  obtain ⟨h1, h2, c0, c1, c2, T0, T', T1, T2, h3, h4, h5, h6, h7, h8⟩ := h
  obtain ⟨vs, A, Ar, s1, s2, s3, s4, s5, s6⟩ := RO1.focus p y T1 c1 0 c z h7 hg
  have l0 : c0.length = i * sz := by rw [RDL.size _ _ _ h6, aszs_const (fun x hx => ha x (List.mem_of_mem_take hx)), List.length_take, Nat.min_eq_left (by omega)]
  simp only [Nat.sub_zero] at s4 s5 s6
  refine ⟨vs, A, fun g => T0 g ∨ (Ar g ∨ T2 g), s3, ⟨fun g => ?_, fun g a b => ?_⟩, by rw [h3]; simp only [List.length_append]; omega, fun j u hu => ?_, fun y' vs' A' T'' hz k1 k2 => ?_⟩
  · rw [h4.1 g, h5.1 g, s1.1 g]
    constructor
    · rintro (x | (x | x) | x)
      · exact .inr (.inl x)
      · exact .inl x
      · exact .inr (.inr (.inl x))
      · exact .inr (.inr (.inr x))
    · rintro (x | x | x | x)
      · exact .inr (.inl (.inl x))
      · exact .inl x
      · exact .inr (.inl (.inr x))
      · exact .inr (.inr x)
  · rcases b with b | b | b
    · exact h4.2 g b (h5.left (s1.left a))
    · exact s1.2 g a b
    · exact h5.2 g (s1.left a) b
  · rw [h3]
    have := s5 j u hu
    rw [List.getElem?_append_right (by omega), List.getElem?_append_left (by have := (List.getElem?_eq_some_iff.1 this).1; omega)]
    rw [show i * sz + c + j - c0.length = c + j from by omega]
    exact this
  · obtain ⟨n1, n2⟩ := s6 y' vs' A' (fun g => A' g ∨ Ar g) hz k1 ⟨fun g => Iff.rfl, fun g a b => k2.2 g a (.inr (.inl b))⟩
    have e1 := RO1.size _ _ _ s3
    have e2 := RO1.size _ _ _ k1
    have e3 : cs.take (i * sz + c) = c0 ++ c1.take c := by
      rw [h3, List.take_append, List.take_of_length_le (by omega), List.take_append_of_le_length (by omega)]
      congr 2; omega
    have e4 : cs.drop (i * sz + c + vs'.length) = c1.drop (c + vs'.length) ++ c2 := by
      rw [h3, List.drop_append, List.drop_eq_nil_of_le (by omega), List.nil_append, List.drop_append_of_le_length (by omega)]
      congr 2; omega
    refine ⟨h1, n2.trans h2, c0, c1.take c ++ vs' ++ c1.drop (c + vs'.length), c2, T0, fun g => (A' g ∨ Ar g) ∨ T2 g, fun g => A' g ∨ Ar g, T2, ?_, ⟨fun g => ?_, fun g a b => ?_⟩, ⟨fun g => Iff.rfl, fun g a b => ?_⟩, h6, n1, h8⟩
    · rw [e3, e4]; simp only [List.append_assoc]
    · rw [k2.1 g]
      constructor
      · rintro (x | x | x | x)
        · exact .inr (.inl (.inl x))
        · exact .inl x
        · exact .inr (.inl (.inr x))
        · exact .inr (.inr x)
      · rintro (x | (x | x) | x)
        · exact .inr (.inl x)
        · exact .inl x
        · exact .inr (.inr (.inl x))
        · exact .inr (.inr (.inr x))
    · rcases b with (b | b) | b
      · exact k2.2 g b (.inl a)
      · exact h4.2 g a (h5.left (s1.right b))
      · exact h4.2 g a (h5.right b)
    · rcases a with a | a
      · exact k2.2 g a (.inr (.inr b))
      · exact h5.2 g (s1.right a) b

theorem RO.carry {ob : OB} {b : Nat} {v : Value} (hS : ∀ b, S b → S' b) (hw : ∀ b, S b → w'.heap[b]? = w.heap[b]?) (hn : ∀ l, namesE l ob.e = true → Same hp hp' B B' V V' l) (hT : ∀ g, T g → w'.heap[g]? = w.heap[g]?) (hv : ∀ g, v.ownBlock = some g → w'.heap[g]? = w.heap[g]?) (h : RO S w hp B V T ob b v) : RO S' w' hp' B' V' T ob b v := by
  obtain ⟨t, cs, h1, h2, h3, h4, h5, h6⟩ := h
  exact ⟨t, cs, h1, RK.carry hS hw hn hT h2, h3, h4, owns_carry h5 hv, h6⟩
theorem RO.kill {ob : OB} {b : Nat} {v : Value} (l : Nat) (h : RO S w hp B V T ob b v) : RO S w hp B V T ⟨killE l ob.e, ob.sz, ob.xs⟩ b v := by
  obtain ⟨t, cs, h1, h2, h3, h4, h5, h6⟩ := h
  exact ⟨t, cs, by rw [killE_typ]; exact h1, RK.kill l h2, h3, h4, h5, h6⟩
theorem RO.oneV {ob : OB} {b : Nat} {v : Value} (h : RO S w hp B V T ob b v) : v.oneCell' = true := by
  obtain ⟨t, cs, h1, h2, h3, h4, h5, h6⟩ := h
  rcases h5.2 with ⟨rfl, _⟩ | ⟨g, cap, cur, rfl, _⟩ <;> rfl
theorem RO.list {ob : OB} {b : Nat} {v : Value} (hs : ob.e.shut = true) (h : RO S w hp B V T ob b v) : RA (fun g => S g ∨ v.ownBlock = some g ∨ T g) w (.lst ob.sz ob.xs) [v] := by
  obtain ⟨t, cs, h1, h2, h3, h4, h5, h6⟩ := h
  exact owns_ra h5 h3 h4 (RL.mono (fun g hg => hg.elim .inl (fun k => .inr (.inr k))) (fun _ _ => rfl) _ _ (RK.list hs h2)) (fun g hg => .inr (.inl hg))
theorem RO.block {ob : OB} {b : Nat} {v : Value} (h : RO S w hp B V T ob b v) (hne : ob.xs ≠ []) : ∃ t cs cap cur, (∀ t', ob.e.typ = some t' → t = t') ∧ RK S w hp B V ob.sz ob.xs T cs ob.e ∧ (∀ x ∈ ob.xs, asz x = ob.sz) ∧ 0 < ob.sz ∧ v = .slice (some ⟨b, 0, none⟩) ob.xs.length cap ∧ w.heap[b]? = some (.cells cur t (0, 0)) ∧ ob.xs.length ≤ cap ∧ cap ≤ maxLen ∧ cur.size = cap * ob.sz ∧ cur.toList.take (ob.xs.length * ob.sz) = cs := by
  obtain ⟨t, cs, h1, h2, h3, h4, h5, h6⟩ := h
  rcases h5.2 with ⟨_, hn⟩ | ⟨g', cap, cur, rfl, hb, hg, hc, hm, hs, ht⟩
  · exact absurd (List.eq_nil_of_length_eq_zero hn) hne
  · obtain rfl := h6 g' rfl
    exact ⟨t, cs, cap, cur, h1, h2, h3, h4, rfl, hg, hc, hm, hs, ht⟩
end

section
variable {W : World} {M : Hand} {S0 : Nat → Prop} {s : St} {a : Act} {w w' : World} {n : Nat} {tmps : Array Value} {S : Nat → Prop} {B : Nat → Nat} {V : Nat → Value} {T : Nat → Nat → Prop}
theorem killO_some {l : Nat} {o : Option OB} {ob' : OB} (h : killO l o = some ob') : ∃ ob, o = some ob ∧ ob' = ⟨killE l ob.e, ob.sz, ob.xs⟩ := by
  cases o with
  | none => cases h
  | some ob => cases h; exact ⟨ob, rfl, rfl⟩
theorem killO_of {l : Nat} {o : Option OB} {ob : OB} (h : o = some ob) : killO l o = some ⟨killE l ob.e, ob.sz, ob.xs⟩ := by subst h; rfl
theorem Same.refl {hp : Nat → Option OB} {B : Nat → Nat} {V : Nat → Value} (l : Nat) : Same hp hp B B V V l := fun ob h => ⟨ob, h, rfl, rfl, rfl⟩
theorem same_kill {hp : Nat → Option OB} {B : Nat → Nat} {V : Nat → Value} (k l : Nat) : Same hp (fun j => killO k (hp j)) B B V V l := fun ob h => ⟨_, killO_of h, rfl, rfl, rfl⟩

theorem putTmps {tmps : Array Value} {d t : Nat} {u : Value} (hd : d < tmps.size) : (tmps.setIfInBounds d u).getD t undef = if t = d then u else tmps.getD t undef := by
  by_cases h : t = d
  · subst h; simp [hd]
  · simp [h, Array.getElem?_setIfInBounds_ne (Ne.symm h)]
theorem SimW.put (h : SimW W M S0 s tmps w S B V T) {x : AV} {u : Value} (hx : RV S w s.hp B V x u) (d : Tmp) (hd : d < tmps.size) : SimW W M S0 (s.put (some d) x) (tmps.setIfInBounds d u) w S B V T := by
  refine ⟨h.below, h.s0, h.slt, fun t => ?_, h.rows, h.pin⟩
  rw [putTmps hd]
  show RV S w s.hp B V (bif Nat.beq t d then x else s.sl t) _
  by_cases ht : t = d
  · subst ht; simp [hx]
  · rw [if_neg ht, nbne ht]; exact h.sl t
def inN (n : Nat) : Option Tmp → Bool
  | none => true
  | some t => Nat.blt t n
theorem Sim.put (hn : a.tmps.size = n) (hdf : a.defers = []) (h : SimW W M S0 s a.tmps w S B V T) {x : AV} {u : Value} (d : Option Tmp) (hx : RV S w s.hp B V x u) (hd : inN n d = true) : Sim W M S0 n (s.put d x) (a.put d u) w := by
  cases d with
  | none => exact ⟨hn, hdf, S, B, V, T, h⟩
  | some d => exact ⟨by simpa [Act.put] using hn, hdf, S, B, V, T, h.put hx d (by rw [hn]; simpa [inN] using hd)⟩
theorem SimW.oneV (h : SimW W M S0 s tmps w S B V T) (l : Nat) (ob : OB) (ho : s.hp l = some ob) : (V l).oneCell' = true := (h.rows.ro l ob ho).oneV
/-- what is read, and what other rows hold, lies in no block of a row's -/
theorem SimW.far (h : SimW W M S0 s tmps w S B V T) {l : Nat} {ob : OB} (ho : s.hp l = some ob) : (∀ g, S g → ¬ Blk V T l g) ∧ ∀ j o g, j ≠ l → s.hp j = some o → Blk V T j g → ¬ Blk V T l g :=
  ⟨fun g hs hb => (h.rows.me l ob g ho hb).1 hs, fun j o g hj hjo hb hb' => hj (h.rows.ds j l o ob g hjo ho hb hb')⟩

/-- the world goes on below what is the call's own -/
theorem SimW.world (h : SimW W M S0 s tmps w S B V T) (hb : Below w.heap.size w w') : SimW W M S0 s tmps w' S B V T := by
  have hw : ∀ b, b < w.heap.size → w'.heap[b]? = w.heap[b]? := fun b hb' => hb.block b hb'
  refine ⟨h.below.trans (Grown.of hb (fun _ => False)) (fun g e => e.elim), h.s0, fun b hs => ⟨Nat.lt_of_lt_of_le (h.slt b hs).1 hb.size, (h.slt b hs).2⟩, fun t => ?_, ⟨fun l ob ho => ?_, fun l ob g ho hg => ?_, h.rows.nd, h.rows.ds, fun l es e => ?_⟩, h.pin⟩
  · exact RV.carry (fun _ h => h) (fun b hs => hw b (h.slt b hs).1) _ _ (fun l _ => Same.refl l) (h.sl t)
  · exact (h.rows.ro l ob ho).carry (fun _ h => h) (fun b hs => hw b (h.slt b hs).1) (fun l _ => Same.refl l) (fun g hg => hw g (h.rows.me l ob g ho (.inr hg)).2.1) (fun g hg => hw g (h.rows.me l ob g ho (.inl hg)).2.1)
  · obtain ⟨a, b, c⟩ := h.rows.me l ob g ho hg
    exact ⟨a, Nat.lt_of_lt_of_le b hb.size, c⟩
  · obtain ⟨⟨t, sz, ho⟩, k1, arr, clock, k2, k3⟩ := h.rows.mp l es e
    exact ⟨⟨t, sz, ho⟩, k1, arr, clock, (hw _ (h.rows.me l _ _ ho (.inr k1)).2.1).trans k2, k3⟩
/-- more may be read -/
theorem SimW.more (h : SimW W M S0 s tmps w S B V T) {S' : Nat → Prop} (hm : ∀ b, S b → S' b) (hs : ∀ b, S' b → b < w.heap.size ∧ (S0 b ∨ W.heap.size ≤ b ∨ M.bl b)) (hd : ∀ l ob g, s.hp l = some ob → Blk V T l g → ¬ S' g) : SimW W M S0 s tmps w S' B V T :=
  ⟨h.below, fun b hb => hm b (h.s0 b hb), hs, fun t => RV.carry hm (fun _ _ => rfl) _ _ (fun l _ => Same.refl l) (h.sl t),
    ⟨fun l ob ho => (h.rows.ro l ob ho).carry hm (fun _ _ => rfl) (fun l _ => Same.refl l) (fun _ _ => rfl) (fun _ _ => rfl), fun l ob g ho hg => ⟨hd l ob g ho hg, (h.rows.me l ob g ho hg).2⟩, h.rows.nd, h.rows.ds, h.rows.mp⟩, h.pin⟩
theorem SimW.kill (h : SimW W M S0 s tmps w S B V T) (l : Nat) : SimW W M S0 (s.kill l) tmps w S B V T := by
  refine ⟨h.below, h.s0, h.slt, fun t => ?_, ⟨fun j ob ho => ?_, fun j ob g ho hg => ?_, fun j ob g ho => ?_, fun j j' o o' g h1 h2 => ?_, fun j es e => ?_⟩, h.pin⟩
  · show RV S w (fun j => killO l (s.hp j)) B V (bif (s.sl t).names l then .any else s.sl t) _
    cases (s.sl t).names l with
    | true => simp only [cond_true]; unfold RV; trivial
    | false => exact RV.carry (fun _ h => h) (fun _ _ => rfl) _ _ (fun j _ => same_kill l j) (h.sl t)
  · obtain ⟨o, k1, rfl⟩ := killO_some ho
    exact ((h.rows.ro j o k1).kill l).carry (fun _ h => h) (fun _ _ => rfl) (fun j _ => same_kill l j) (fun _ _ => rfl) (fun _ _ => rfl)
  · obtain ⟨o, k1, rfl⟩ := killO_some ho
    exact h.rows.me j o g k1 hg
  · obtain ⟨o, k1, rfl⟩ := killO_some ho
    exact h.rows.nd j o g k1
  · obtain ⟨p, k1, rfl⟩ := killO_some h1
    obtain ⟨q, k2, rfl⟩ := killO_some h2
    exact h.rows.ds j j' p q g k1 k2
  · obtain ⟨⟨t, sz, ho⟩, k⟩ := h.rows.mp j es e
    exact ⟨⟨t, sz, by show killO l (s.hp j) = _; rw [ho]; rfl⟩, k⟩
theorem kill_names {l : Nat} : (∀ t, ((s.kill l).sl t).names l = false) ∧ ∀ j ob, (s.kill l).hp j = some ob → namesE l ob.e = false := by
  refine ⟨fun t => ?_, fun j ob ho => ?_⟩
  · show AV.names l (bif (s.sl t).names l then .any else s.sl t) = false
    cases hn : (s.sl t).names l with
    | true => rfl
    | false => simpa using hn
  · obtain ⟨o, k1, rfl⟩ := killO_some ho
    exact namesE_kill l o.e
theorem fresh_names (h : SimW W M S0 s tmps w S B V T) {l : Nat} (hf : s.hp l = none) : (∀ t, (s.sl t).names l = false) ∧ ∀ j ob, s.hp j = some ob → namesE l ob.e = false := by
  refine ⟨fun t => ?_, fun j ob ho => ?_⟩
  · cases hn : (s.sl t).names l with
    | false => rfl
    | true => obtain ⟨ob, ho⟩ := RV.there _ _ hn (h.sl t); rw [hf] at ho; cases ho
  · cases hn : namesE l ob.e with
    | false => rfl
    | true =>
      obtain ⟨t, cs, _, h2, _⟩ := h.rows.ro j ob ho
      obtain ⟨e, sz, xs⟩ := ob
      cases e with
      | o t' i y =>
        obtain ⟨_, _, c0, c1, c2, T0, T', T1, T2, _, _, _, _, h7, _⟩ := h2
        obtain ⟨ob, ho⟩ := RO1.there y T1 c1 hn h7; rw [hf] at ho; cases ho
      | _ => cases hn
theorem set_mp {l j : Nat} {o : Option OB} {es : List (ByteArray × AV)} (e : (s.set l o).mp j = some es) : j ≠ l ∧ s.mp j = some es := by
  by_cases hl : j = l
  · subst hl; simp [St.set] at e
  · exact ⟨hl, by simpa [St.set, nbne hl] using e⟩
theorem set_hp {s : St} {l : Nat} {o : Option OB} : (s.set l o).hp l = o := by simp [St.set]
theorem set_hpn {s : St} {l j : Nat} {o : Option OB} (h : j ≠ l) : (s.set l o).hp j = s.hp j := by simp [St.set, nbne h]
theorem okL_ne {l j : Nat} (h : okL l = true) (k : okL j = false) : j ≠ l := fun e => by rw [e, h] at k; cases k
/-- a new row comes to a label that nobody names -/
theorem SimW.repl (h : SimW W M S0 s tmps w S B V T) {l : Nat} (hok : okL l = true) (hk1 : ∀ t, (s.sl t).names l = false) (hk2 : ∀ j ob, j ≠ l → s.hp j = some ob → namesE l ob.e = false)
    (hg : Grown w w' (fun g => (∃ ob, s.hp l = some ob) ∧ Blk V T l g)) {ob' : OB} {b' : Nat} {v' : Value} {T' : Nat → Prop}
    (hro : RO S w' (s.set l (some ob')).hp (upd B l b') (upd V l v') T' ob' b' v') (hme : ∀ g, (v'.ownBlock = some g ∨ T' g) → g < w'.heap.size ∧ ((w.heap.size ≤ g ∨ ((∃ ob, s.hp l = some ob) ∧ Blk V T l g)) ∨ (¬ S g ∧ (W.heap.size ≤ g ∨ M.bl g) ∧ ∀ j o, s.hp j = some o → ¬ Blk V T j g))) (hnd : ∀ g, v'.ownBlock = some g → ¬ T' g) :
    SimW W M S0 (s.set l (some ob')) tmps w' S (upd B l b') (upd V l v') (upd T l T') := by
  have hSw : ∀ b, S b → w'.heap[b]? = w.heap[b]? := fun b hs => hg.block b (h.slt b hs).1 (fun ⟨⟨ob, ho⟩, hb⟩ => (h.far ho).1 b hs hb)
  have hoth : ∀ j o g, j ≠ l → s.hp j = some o → Blk V T j g → w'.heap[g]? = w.heap[g]? := fun j o g hj hjo hb => hg.block g (h.rows.me j o g hjo hb).2.1 (fun ⟨⟨ob, ho⟩, hb'⟩ => (h.far ho).2 j o g hj hjo hb hb')
  have hsame : ∀ j, j ≠ l → Same s.hp (s.set l (some ob')).hp B (upd B l b') V (upd V l v') j := fun j hj ob ho => ⟨ob, by rw [set_hpn hj]; exact ho, rfl, upd_ne hj, upd_ne hj⟩
  have hblk : ∀ j g, j ≠ l → (Blk (upd V l v') (upd T l T') j g ↔ Blk V T j g) := fun j g hj => by unfold Blk; rw [upd_ne hj, upd_ne hj]
  have hblkl : ∀ g, Blk (upd V l v') (upd T l T') l g ↔ (v'.ownBlock = some g ∨ T' g) := fun g => by unfold Blk; rw [upd_same, upd_same]
  refine ⟨h.below.trans hg (fun g ⟨⟨ob, ho⟩, hb⟩ hlt => (h.rows.me l ob g ho hb).2.2.resolve_left (by omega)), h.s0, fun b hs => ⟨Nat.lt_of_lt_of_le (h.slt b hs).1 hg.size, (h.slt b hs).2⟩, fun t => ?_, ⟨fun j ob ho => ?_, fun j ob g ho hb => ?_, fun j ob g ho hb => ?_, fun j j' o1 o2 g h1 h2 e1 e2 => ?_, fun j es e => ?_⟩, fun j b u hp => ?_⟩
  · exact RV.carry (fun _ h => h) hSw _ _ (fun j hj => hsame j (fun e => by rw [e] at hj; exact absurd ((hk1 t).symm.trans hj) (by simp))) (h.sl t)
  · by_cases e : j = l
    · subst e
      rw [set_hp] at ho; cases ho
      rw [upd_same, upd_same, upd_same]; exact hro
    · rw [set_hpn e] at ho
      rw [upd_ne e, upd_ne e, upd_ne e]
      exact (h.rows.ro j ob ho).carry (fun _ h => h) hSw (fun i hi => hsame i (fun e' => by rw [e', hk2 j ob e ho] at hi; cases hi)) (fun g hg => hoth j ob g e ho (.inr hg)) (fun g hg => hoth j ob g e ho (.inl hg))
  · by_cases e : j = l
    · subst e
      obtain ⟨k1, k2⟩ := hme g ((hblkl g).1 hb)
      rcases k2 with (k2 | ⟨⟨o, ho'⟩, k2⟩) | k2
      · exact ⟨fun hs => absurd (h.slt g hs).1 (by omega), k1, .inl (Nat.le_trans h.below.size k2)⟩
      · exact ⟨(h.rows.me j o g ho' k2).1, k1, (h.rows.me j o g ho' k2).2.2⟩
      · exact ⟨k2.1, k1, k2.2.1⟩
    · rw [set_hpn e] at ho
      obtain ⟨k1, k2, k3⟩ := h.rows.me j ob g ho ((hblk j g e).1 hb)
      exact ⟨k1, Nat.lt_of_lt_of_le k2 hg.size, k3⟩
  · by_cases e : j = l
    · subst e; rw [upd_same] at hb ⊢; exact hnd g hb
    · rw [set_hpn e] at ho; rw [upd_ne e] at hb ⊢; exact h.rows.nd j ob g ho hb
  · by_cases e : j = l
    · by_cases e' : j' = l
      · rw [e, e']
      · subst e
        rw [set_hpn e'] at h2
        have b2 := (hblk j' g e').1 e2
        rcases (hme g ((hblkl g).1 e1)).2 with (k | ⟨⟨o, ho'⟩, k⟩) | k
        · have := (h.rows.me j' o2 g h2 b2).2.1; omega
        · exact absurd k ((h.far ho').2 j' o2 g e' h2 b2)
        · exact absurd b2 (k.2.2 j' o2 h2)
    · rw [set_hpn e] at h1
      have b1 := (hblk j g e).1 e1
      by_cases e' : j' = l
      · subst e'
        rcases (hme g ((hblkl g).1 e2)).2 with (k | ⟨⟨o, ho'⟩, k⟩) | k
        · have := (h.rows.me j o1 g h1 b1).2.1; omega
        · exact absurd k ((h.far ho').2 j o1 g e h1 b1)
        · exact absurd b1 (k.2.2 j o1 h1)
      · rw [set_hpn e'] at h2
        exact h.rows.ds j j' o1 o2 g h1 h2 b1 ((hblk j' g e').1 e2)
  · obtain ⟨hj, hm⟩ := set_mp e
    obtain ⟨⟨t, sz, ho⟩, k1, arr, clock, k2, k3⟩ := h.rows.mp j es hm
    rw [upd_ne hj, upd_ne hj]
    exact ⟨⟨t, sz, by rw [set_hpn hj]; exact ho⟩, k1, arr, clock, (hoth j _ _ hj ho (.inr k1)).trans k2, k3⟩
  · obtain ⟨p1, p2, p3⟩ := h.pin j b u hp
    have hj := okL_ne hok p1
    exact ⟨p1, by rw [upd_ne hj]; exact p2, by rw [upd_ne hj]; exact p3⟩
/-- a row is changed where it lies -/
theorem SimW.inpl (h : SimW W M S0 s tmps w S B V T) {l : Nat} {ob ob' : OB} (ho : s.hp l = some ob) (hsz : ob'.sz = ob.sz) (hg : Grown w w' (Blk V T l)) {T' : Nat → Prop} (hro : RO S w' (s.set l (some ob')).hp B V T' ob' (B l) (V l)) (hT : ∀ g, T' g → T l g) :
    SimW W M S0 (s.set l (some ob')) tmps w' S B V (upd T l T') := by
  have hSw : ∀ b, S b → w'.heap[b]? = w.heap[b]? := fun b hs => hg.block b (h.slt b hs).1 (fun hb => (h.far ho).1 b hs hb)
  have hoth : ∀ j o g, j ≠ l → s.hp j = some o → Blk V T j g → w'.heap[g]? = w.heap[g]? := fun j o g hj hjo hb => hg.block g (h.rows.me j o g hjo hb).2.1 (fun hb' => (h.far ho).2 j o g hj hjo hb hb')
  have hsame : ∀ j, Same s.hp (s.set l (some ob')).hp B B V V j := fun j o hjo => by
    by_cases hj : j = l
    · subst hj; rw [ho] at hjo; cases hjo; exact ⟨ob', set_hp, hsz, rfl, rfl⟩
    · exact ⟨o, by rw [set_hpn hj]; exact hjo, rfl, rfl, rfl⟩
  have hblk : ∀ j g, Blk V (upd T l T') j g → Blk V T j g := fun j g hb => by
    by_cases hj : j = l
    · subst hj; unfold Blk at hb ⊢; rw [upd_same] at hb; exact hb.imp id (hT g)
    · unfold Blk at hb ⊢; rw [upd_ne hj] at hb; exact hb
  have hex : ∀ j o, (s.set l (some ob')).hp j = some o → ∃ o', s.hp j = some o' := fun j o e => by
    by_cases hj : j = l
    · subst hj; exact ⟨ob, ho⟩
    · exact ⟨o, by rw [set_hpn hj] at e; exact e⟩
  refine ⟨h.below.trans hg (fun g hb hlt => (h.rows.me l ob g ho hb).2.2.resolve_left (by omega)), h.s0, fun b hs => ⟨Nat.lt_of_lt_of_le (h.slt b hs).1 hg.size, (h.slt b hs).2⟩, fun t => ?_, ⟨fun j o e => ?_, fun j o g e hb => ?_, fun j o g e hb ht => ?_, fun j j' o1 o2 g h1 h2 e1 e2 => ?_, fun j es e => ?_⟩, h.pin⟩
  · exact RV.carry (fun _ h => h) hSw _ _ (fun j _ => hsame j) (h.sl t)
  · by_cases hj : j = l
    · subst hj; rw [set_hp] at e; cases e; rw [upd_same]; exact hro
    · rw [set_hpn hj] at e
      rw [upd_ne hj]
      exact (h.rows.ro j o e).carry (fun _ h => h) hSw (fun i _ => hsame i) (fun g hg => hoth j o g hj e (.inr hg)) (fun g hg => hoth j o g hj e (.inl hg))
  · obtain ⟨o', e'⟩ := hex j o e
    obtain ⟨k1, k2, k3⟩ := h.rows.me j o' g e' (hblk j g hb)
    exact ⟨k1, Nat.lt_of_lt_of_le k2 hg.size, k3⟩
  · obtain ⟨o', e'⟩ := hex j o e
    refine h.rows.nd j o' g e' hb ?_
    by_cases hj : j = l
    · subst hj; rw [upd_same] at ht; exact hT g ht
    · rw [upd_ne hj] at ht; exact ht
  · obtain ⟨p, e3⟩ := hex j o1 h1
    obtain ⟨q, e4⟩ := hex j' o2 h2
    exact h.rows.ds j j' p q g e3 e4 (hblk j g e1) (hblk j' g e2)
  · obtain ⟨hj, hm⟩ := set_mp e
    obtain ⟨⟨t, sz, ho'⟩, k1, arr, clock, k2, k3⟩ := h.rows.mp j es hm
    rw [upd_ne hj]
    exact ⟨⟨t, sz, by rw [set_hpn hj]; exact ho'⟩, k1, arr, clock, (hoth j _ _ hj ho' (.inr k1)).trans k2, k3⟩
end
end Go.Proofs.Ytmafbodblpgcjaa.AM
