/- The machine over data, second make (N9): loads, addresses, parts of lists; rows taken out of rows, and put in (ghost steps). -/
import Derived.Test.YtmafbodblpgcjaaN8
namespace Go.Proofs.Ytmafbodblpgcjaa.AM
open Go Go.RowKit
set_option linter.unusedVariables false
set_option linter.unusedSimpArgs false

section
variable {P : Program} {Θ : Tab} {W : World} {M : Hand} {S0 : Nat → Prop} {n : Nat} {s : St} {a : Act} {w : World} {S : Nat → Prop} {B : Nat → Nat} {V : Nat → Value} {T : Nat → Nat → Prop} {tmps : Array Value}
variable {K : Act → World → Prop} {Q : Exit → Act → World → Prop}

theorem splice_self {α : Type} {cs vs : List α} {q : Nat} (h : ∀ j u, vs[j]? = some u → cs[q + j]? = some u) (hl : q + vs.length ≤ cs.length) : cs.take q ++ vs ++ cs.drop (q + vs.length) = cs := by
  have : vs = (cs.drop q).take vs.length := by
    apply List.ext_getElem?
    intro j
    rw [List.getElem?_take]
    split
    · rename_i hj
      rw [List.getElem?_drop, List.getElem?_eq_getElem hj]
      exact (h j _ (List.getElem?_eq_getElem hj)).symm
    · rename_i hj
      rw [List.getElem?_eq_none (by omega)]
  conv => lhs; lhs; rhs; rw [this]
  rw [List.append_assoc, ← List.drop_drop, List.take_append_drop, List.take_append_drop]
theorem RO.opn {hp : Nat → Option OB} {T : Nat → Prop} {ob : OB} {b : Nat} {v : Value} {i : Nat} {e' : ET} (ho : openE ob.e ob.xs i = some e') (h : RO S w hp B V T ob b v) : ob.xs ≠ [] := by
  obtain ⟨t, cs, h1, h2, h3, _⟩ := h
  obtain ⟨⟨t', y, rfl⟩, _, k⟩ := RK.opn h3 ho h2
  have hlt := k.len
  intro e; rw [e] at hlt
  cases hoe : ob.e with
  | s _ => rw [hoe] at ho; cases ho
  | z _ => rw [hoe, e] at ho; simp [openE] at ho
  | d _ => rw [hoe, e] at ho; simp [openE] at ho
  | u => rw [hoe, e] at ho; simp [openE] at ho
  | o t2 j yy =>
    rw [hoe] at h2
    have := h2.1
    rw [e] at this; simp at this

/-- a list that lies within a row is taken out of it -/
theorem SimW.unfold (h : SimW W M S0 s tmps w S B V T) {l i c L : Nat} {p : List Nat} {ob : OB} {t' : Option Nat} {y : AV} {sz' : Nat} {xs' : List AV} (ho : s.hp l = some ob) (hop : openE ob.e ob.xs i = some (.o t' i y)) (hg : getP y p 0 = some (.lst sz' xs', c)) (hok : okL L = true) (hf : s.hp L = none) :
    ∃ v B' V' T', w.cell? ⟨B l, i * ob.sz + c, none⟩ = some v ∧ v.oneCell' = true ∧ SimW W M S0 ((s.set l (some ⟨.o t' i (setM y p (.own L)), ob.sz, ob.xs⟩)).set L (some ⟨.u, sz', xs'⟩)) tmps w S B' V' T' ∧ V' L = v := by
  have hro := h.rows.ro l ob ho
  obtain ⟨tt, cs, cap, cur, h0, hr, ha, hpos, hV, hheap, hc, hm, hs, ht⟩ := hro.block (hro.opn hop)
  obtain ⟨_, hty, hr1⟩ := RK.opn ha hop hr
  have hlL : l ≠ L := fun e => by rw [e, hf] at ho; cases ho
  obtain ⟨vs, T1, Tr, k1, k2, k3, k4, k5⟩ := hr1.focus ha hg
  unfold RO1 at k1
  unfold RD at k1
  obtain ⟨v, tv, us, T1', rfl, m1, m2, m3, m4, m5, m6⟩ := k1
  have h1v : v.oneCell' = true := by rcases m1.2 with ⟨rfl, _⟩ | ⟨g, cap, cur, rfl, _⟩ <;> rfl
  have hcell := row_cell hheap ht (k4 0 v rfl)
  simp only [Nat.add_zero] at hcell
  let bL : Nat := v.ownBlock.getD 0
  let ob1 : OB := ⟨.o t' i (setM y p (.own L)), ob.sz, ob.xs⟩
  let s1 : St := (s.set l (some ob1)).set L (some ⟨.u, sz', xs'⟩)
  have hpL : s1.hp L = some ⟨.u, sz', xs'⟩ := set_hp
  have hpl : s1.hp l = some ob1 := by show ((s.set l (some ob1)).set L _).hp l = _; rw [set_hpn hlL]; exact set_hp
  have hpn : ∀ j, j ≠ l → j ≠ L → s1.hp j = s.hp j := fun j h1 h2 => by show ((s.set l (some ob1)).set L _).hp j = _; rw [set_hpn h2, set_hpn h1]
  have hsame : ∀ j, Same s.hp s1.hp B (upd B L bL) V (upd V L v) j := fun j o hjo => by
    have hjL : j ≠ L := fun e => by rw [e, hf] at hjo; cases hjo
    by_cases hj : j = l
    · subst hj; rw [ho] at hjo; cases hjo; exact ⟨ob1, hpl, rfl, upd_ne hjL, upd_ne hjL⟩
    · exact ⟨o, by rw [hpn j hj hjL]; exact hjo, rfl, upd_ne hjL, upd_ne hjL⟩
  have hr2 := hr1.carry (S' := S) (w' := w) (hp' := s1.hp) (B' := upd B L bL) (V' := upd V L v) (fun _ h => h) (fun _ _ => rfl) (fun j _ => hsame j) (fun _ _ => rfl)
  obtain ⟨vs2, T3, Tr2, n1, n2, n3, n4, n5⟩ := hr2.focus ha hg
  have hvs2 : vs2 = [v] := by
    have e1 := RO1.size _ _ _ n1
    match vs2, e1 with
    | [u], _ =>
      have a1 := n4 0 u rfl
      have a2 := k4 0 v rfl
      rw [a1] at a2; cases a2; rfl
  subst hvs2
  have hr3 := n5 (.own L) [v] (fun _ => False) Tr2 rfl (by unfold RO1; exact ⟨noF, ⟨_, hpL⟩, by rw [upd_same], by rw [upd_same]; exact h1v⟩) (Split.l0 noF)
  rw [splice_self n4 n3] at hr3
  unfold RO1 at n1
  unfold RD at n1
  obtain ⟨v2, tv2, us2, T2', e2, q1, q2, q3, q4, q5, q6⟩ := n1
  simp only [List.cons.injEq, and_true] at e2
  subst e2
  have hblkl : ∀ g, Blk (upd V L v) (upd (upd T l Tr2) L T2') l g → Blk V T l g := fun g hg => by
    unfold Blk at hg ⊢
    rw [upd_ne hlL, upd_ne hlL, upd_same] at hg
    exact hg.imp id (fun k => n2.right k)
  have hblkL : ∀ g, Blk (upd V L v) (upd (upd T l Tr2) L T2') L g → T l g ∧ ¬ Tr2 g := fun g hg => by
    unfold Blk at hg
    rw [upd_same, upd_same] at hg
    have := (q5 g).2 hg
    exact ⟨n2.left this, n2.2 g this⟩
  have hblkn : ∀ j g, j ≠ l → j ≠ L → (Blk (upd V L v) (upd (upd T l Tr2) L T2') j g ↔ Blk V T j g) := fun j g h1 h2 => by unfold Blk; rw [upd_ne h2, upd_ne h2, upd_ne h1]
  have hown : ∀ j o g, s1.hp j = some o → Blk (upd V L v) (upd (upd T l Tr2) L T2') j g → ∃ j' o', s.hp j' = some o' ∧ Blk V T j' g ∧ (j' = j ∨ (j = L ∧ j' = l)) := fun j o g e hg => by
    by_cases h1 : j = l
    · subst h1; exact ⟨j, ob, ho, hblkl g hg, .inl rfl⟩
    · by_cases h2 : j = L
      · subst h2; exact ⟨l, ob, ho, .inr (hblkL g hg).1, .inr ⟨rfl, rfl⟩⟩
      · exact ⟨j, o, by rw [← hpn j h1 h2]; exact e, (hblkn j g h1 h2).1 hg, .inl rfl⟩
  refine ⟨v, upd B L bL, upd V L v, upd (upd T l Tr2) L T2', hcell, h1v, ⟨h.below, h.s0, h.slt, fun t => ?_, ⟨fun j o e => ?_, fun j o g e hg => ?_, fun j o g e hg => ?_, fun j j' o o' g e1 e2 h1 h2 => ?_, fun j es e => ?_⟩, fun j b u hp => ?_⟩, upd_same⟩
  · exact RV.carry (fun _ h => h) (fun _ _ => rfl) _ _ (fun j _ => hsame j) (h.sl t)
  · by_cases h1 : j = l
    · subst h1
      rw [hpl] at e; cases e
      rw [upd_ne hlL, upd_ne hlL, upd_ne hlL, upd_same]
      exact ⟨tt, cs, fun t2 e => h0 t2 (by rw [← hty]; exact e), hr3, ha, hpos, hro.choose_spec.choose_spec.2.2.2.2.1 |> fun _ => ⟨by rw [hr.size ha], .inr ⟨B j, cap, cur, hV, Nat.zero_le _, hheap, hc, hm, hs, ht⟩⟩, fun g hg => by rw [hV] at hg; simp [Value.ownBlock] at hg; exact hg.symm⟩
    · by_cases h2 : j = L
      · subst h2
        rw [hpL] at e; cases e
        rw [upd_same, upd_same, upd_same]
        exact ⟨tv2, us2, (fun t' e => by cases e), q4, q2, q3, q1, fun g hg => by show g = v.ownBlock.getD 0; rw [hg]; rfl⟩
      · rw [hpn j h1 h2] at e
        rw [upd_ne h2, upd_ne h2, upd_ne h2, upd_ne h1]
        exact (h.rows.ro j o e).carry (fun _ h => h) (fun _ _ => rfl) (fun i _ => hsame i) (fun _ _ => rfl) (fun _ _ => rfl)
  · obtain ⟨j', o', e', hb, _⟩ := hown j o g e hg
    exact h.rows.me j' o' g e' hb
  · by_cases h1 : j = l
    · subst h1
      rw [upd_ne hlL] at hg
      rw [upd_ne hlL, upd_same]
      exact fun k => h.rows.nd j ob g ho hg (n2.right k)
    · by_cases h2 : j = L
      · subst h2
        rw [upd_same] at hg ⊢
        exact q6 g hg
      · rw [hpn j h1 h2] at e
        rw [upd_ne h2] at hg
        rw [upd_ne h2, upd_ne h1]
        exact h.rows.nd j o g e hg
  · have key : ∀ {j : Nat} {o : OB}, s1.hp j = some o → Blk (upd V L v) (upd (upd T l Tr2) L T2') j g → j = l → Blk (upd V L v) (upd (upd T l Tr2) L T2') L g → False := fun {j o} e hb hj hL => by
      subst hj
      obtain ⟨k1, k2⟩ := hblkL g hL
      unfold Blk at hb
      rw [upd_ne hlL, upd_ne hlL, upd_same] at hb
      rcases hb with hb | hb
      · exact h.rows.nd j ob g ho hb k1
      · exact k2 hb
    obtain ⟨p1, q1', e3, b1, c1⟩ := hown j o g e1 h1
    obtain ⟨p2, q2', e4, b2, c2⟩ := hown j' o' g e2 h2
    have hpq := h.rows.ds p1 p2 q1' q2' g e3 e4 b1 b2
    rcases c1 with c1 | ⟨c1, d1⟩
    · rcases c2 with c2 | ⟨c2, d2⟩
      · rw [← c1, ← c2, hpq]
      · exact (key e1 h1 (by rw [← c1, hpq, d2]) (c2 ▸ h2)).elim
    · rcases c2 with c2 | ⟨c2, d2⟩
      · exact (key e2 h2 (by rw [← c2, ← hpq, d1]) (c1 ▸ h1)).elim
      · rw [c1, c2]
  · obtain ⟨hjL, e⟩ := set_mp e
    obtain ⟨hjl, e⟩ := set_mp e
    obtain ⟨⟨t, sz, ho'⟩, k1, arr, clock, k2, k3⟩ := h.rows.mp j es e
    rw [upd_ne hjL, upd_ne hjL, upd_ne hjl]
    exact ⟨⟨t, sz, by rw [hpn j hjl hjL]; exact ho'⟩, k1, arr, clock, k2, k3⟩
  · obtain ⟨p1, p2, p3⟩ := h.pin j b u hp
    have hj := okL_ne hok p1
    exact ⟨p1, by rw [upd_ne hj]; exact p2, by rw [upd_ne hj]; exact p3⟩

/-- a row is forgotten -/
theorem SimW.drop (h : SimW W M S0 s tmps w S B V T) (l : Nat) (hok : okL l = true) : SimW W M S0 (s.drop l) tmps w S B V T := by
  have hk := h.kill l
  obtain ⟨kn1, kn2⟩ := kill_names (s := s) (l := l)
  have hat : ∀ j o, (s.drop l).hp j = some o → j ≠ l ∧ (s.kill l).hp j = some o := fun j o e => by
    have e0 : (bif Nat.beq j l then none else killO l (s.hp j)) = some o := e
    have hj : j ≠ l := fun e' => by rw [e'] at e0; simp at e0
    rw [nbne hj] at e0
    exact ⟨hj, e0⟩
  have hsame : ∀ j, j ≠ l → Same (s.kill l).hp (s.drop l).hp B B V V j := fun j hj o e => ⟨o, by show (bif Nat.beq j l then none else killO l (s.hp j)) = some o; rw [nbne hj]; exact e, rfl, rfl, rfl⟩
  refine ⟨hk.below, hk.s0, hk.slt, fun t => ?_, ⟨fun j o e => ?_, fun j o g e => ?_, fun j o g e => ?_, fun j j' o o' g e1 e2 => ?_, fun j es e => ?_⟩, hk.pin⟩
  · exact RV.carry (fun _ h => h) (fun _ _ => rfl) _ _ (fun j hj => hsame j (fun e => by rw [e] at hj; exact absurd ((kn1 t).symm.trans hj) (by simp))) (hk.sl t)
  · obtain ⟨hj, e'⟩ := hat j o e
    exact (hk.rows.ro j o e').carry (fun _ h => h) (fun _ _ => rfl) (fun i hi => hsame i (fun e2 => by rw [e2, kn2 j o e'] at hi; cases hi)) (fun _ _ => rfl) (fun _ _ => rfl)
  · exact hk.rows.me j o g (hat j o e).2
  · exact hk.rows.nd j o g (hat j o e).2
  · exact hk.rows.ds j j' o o' g (hat j o e1).2 (hat j' o' e2).2
  · have e0 : (bif Nat.beq j l then none else s.mp j) = some es := e
    have hj : j ≠ l := fun e' => by rw [e'] at e0; simp at e0
    rw [nbne hj] at e0
    obtain ⟨⟨t, sz, ho'⟩, k⟩ := hk.rows.mp j es e0
    exact ⟨⟨t, sz, by show (bif Nat.beq j l then none else killO l (s.hp j)) = _; rw [nbne hj]; exact ho'⟩, k⟩
theorem drop_none {l : Nat} : (s.drop l).hp l = none := by simp [St.drop]

/-- a row that is named within another is put into it -/
theorem SimW.fold (h : SimW W M S0 s tmps w S B V T) {l i c l' : Nat} {p : List Nat} {t : Option Nat} {y : AV} {sz : Nat} {xs : List AV} {ob' : OB} (ho : s.hp l = some ⟨.o t i y, sz, xs⟩) (hg : getP y p 0 = some (.own l', c)) (hne : l' ≠ l) (hok : okL l' = true) (ho' : s.hp l' = some ob') (hd : ob'.e.deep = true) :
    ∃ T', SimW W M S0 ((s.drop l').set l (some ⟨.o t i (killA l' (setM y p (.lst ob'.sz ob'.xs))), sz, xs⟩)) tmps w S B V T' := by
  have hlne : l ≠ l' := Ne.symm hne
  obtain ⟨tt, cs, h0, hr, ha, hpos, hown, hB⟩ := h.rows.ro l _ ho
  obtain ⟨t2, us, g0, gr, ga, gpos, gown, gB⟩ := h.rows.ro l' ob' ho'
  have hrd : RDL w ob'.xs (T l') us := by
    cases he : ob'.e with
    | s _ => rw [he] at hd; cases hd
    | o _ _ _ => rw [he] at hd; cases hd
    | z _ => rw [he] at gr; exact gr.2
    | d _ => rw [he] at gr; exact gr
    | u => rw [he] at gr; exact gr
  obtain ⟨vs, T1, Tr, k1, k2, k3, k4, k5⟩ := hr.focus ha hg
  unfold RO1 at k1
  obtain ⟨hT1, _, rfl, _⟩ := k1
  have hTr : T l = Tr := k2.eqr hT1
  have hin : RO1 S w s.hp B V (.lst ob'.sz ob'.xs) (Blk V T l') [V l'] := by
    unfold RO1; unfold RD
    exact ⟨V l', t2, us, T l', rfl, gown, ga, gpos, hrd, fun g => Iff.rfl, fun g hg => h.rows.nd l' ob' g ho' hg⟩
  have hr1 := k5 (.lst ob'.sz ob'.xs) [V l'] (Blk V T l') (fun g => Blk V T l' g ∨ T l g) rfl hin ⟨fun g => by rw [hTr], fun g a b => by rw [← hTr] at b; exact hne (h.rows.ds l' l _ _ g ho' ho a (.inr b))⟩
  rw [splice_self k4 k3] at hr1
  have hd' := h.drop l' hok
  have hr2 := RK.kill l' hr1
  let ob1 : OB := ⟨.o t i (killA l' (setM y p (.lst ob'.sz ob'.xs))), sz, xs⟩
  let s1 : St := (s.drop l').set l (some ob1)
  have hpl : s1.hp l = some ob1 := set_hp
  have hpn : ∀ j, j ≠ l → s1.hp j = (s.drop l').hp j := fun j h1 => set_hpn h1
  have hdl : (s.drop l').hp l = some ⟨.o t i (killA l' y), sz, xs⟩ := by
    show (bif Nat.beq l l' then none else killO l' (s.hp l)) = _
    rw [nbne hlne, ho]; rfl
  have hsame0 : ∀ j, j ≠ l' → Same s.hp s1.hp B B V V j := fun j hj o e => by
    by_cases h1 : j = l
    · subst h1; rw [ho] at e; cases e; exact ⟨ob1, hpl, rfl, rfl, rfl⟩
    · refine ⟨⟨killE l' o.e, o.sz, o.xs⟩, ?_, rfl, rfl, rfl⟩
      rw [hpn j h1]
      show (bif Nat.beq j l' then none else killO l' (s.hp j)) = _
      rw [nbne hj, e]; rfl
  have hsame : ∀ j, Same (s.drop l').hp s1.hp B B V V j := fun j o e => by
    by_cases h1 : j = l
    · subst h1; rw [hdl] at e; cases e; exact ⟨ob1, hpl, rfl, rfl, rfl⟩
    · exact ⟨o, by rw [hpn j h1]; exact e, rfl, rfl, rfl⟩
  have hblk : ∀ j g, j ≠ l → (Blk V (upd T l (fun g => Blk V T l' g ∨ T l g)) j g ↔ Blk V T j g) := fun j g hj => by unfold Blk; rw [upd_ne hj]
  have hblkl : ∀ g, Blk V (upd T l (fun g => Blk V T l' g ∨ T l g)) l g → Blk V T l g ∨ Blk V T l' g := fun g hg => by
    unfold Blk at hg; rw [upd_same] at hg
    rcases hg with hg | hg | hg
    · exact .inl (.inl hg)
    · exact .inr hg
    · exact .inl (.inr hg)
  have hex : ∀ j o, s1.hp j = some o → j ≠ l → j ≠ l' ∧ ∃ o', s.hp j = some o' := fun j o e h1 => by
    rw [hpn j h1] at e
    have e0 : (bif Nat.beq j l' then none else killO l' (s.hp j)) = some o := e
    have hj : j ≠ l' := fun e' => by rw [e'] at e0; simp at e0
    rw [nbne hj] at e0
    obtain ⟨o', e', _⟩ := killO_some e0
    exact ⟨hj, o', e'⟩
  refine ⟨upd T l (fun g => Blk V T l' g ∨ T l g), hd'.below, hd'.s0, hd'.slt, fun t => ?_, ⟨fun j o e => ?_, fun j o g e hg => ?_, fun j o g e hg => ?_, fun j j' o o' g e1 e2 h1 h2 => ?_, fun j es e => ?_⟩, hd'.pin⟩
  · exact RV.carry (fun _ h => h) (fun _ _ => rfl) _ _ (fun j _ => hsame j) (hd'.sl t)
  · by_cases h1 : j = l
    · subst h1
      rw [hpl] at e; cases e
      rw [upd_same]
      exact ⟨tt, cs, h0, hr2.carry (fun _ h => h) (fun _ _ => rfl) (fun i hi => hsame0 i (fun e => by rw [e] at hi; exact absurd ((namesE_kill l' (.o t i (setM y p (.lst ob'.sz ob'.xs)))).symm.trans hi) (by simp))) (fun _ _ => rfl), ha, hpos, hown, hB⟩
    · rw [hpn j h1] at e
      rw [upd_ne h1]
      exact (hd'.rows.ro j o e).carry (fun _ h => h) (fun _ _ => rfl) (fun i _ => hsame i) (fun _ _ => rfl) (fun _ _ => rfl)
  · by_cases h1 : j = l
    · subst h1
      rcases hblkl g hg with k | k
      · exact h.rows.me j _ g ho k
      · exact h.rows.me l' _ g ho' k
    · obtain ⟨_, o', e'⟩ := hex j o e h1
      exact h.rows.me j o' g e' ((hblk j g h1).1 hg)
  · by_cases h1 : j = l
    · subst h1
      rw [upd_same]
      rintro (k | k)
      · exact hne (h.rows.ds l' j _ _ g ho' ho k (.inl hg))
      · exact h.rows.nd j _ g ho hg k
    · obtain ⟨_, o', e'⟩ := hex j o e h1
      rw [upd_ne h1]
      exact h.rows.nd j o' g e' hg
  · by_cases hj : j = l
    · by_cases hj' : j' = l
      · rw [hj, hj']
      · subst hj
        obtain ⟨n1, o2, e3⟩ := hex j' o' e2 hj'
        have b2 := (hblk j' g hj').1 h2
        rcases hblkl g h1 with k | k
        · exact h.rows.ds j j' _ _ g ho e3 k b2
        · exact absurd (h.rows.ds l' j' _ _ g ho' e3 k b2).symm n1
    · obtain ⟨n1, o1, e3⟩ := hex j o e1 hj
      have b1 := (hblk j g hj).1 h1
      by_cases hj' : j' = l
      · subst hj'
        rcases hblkl g h2 with k | k
        · exact h.rows.ds j j' _ _ g e3 ho b1 k
        · exact absurd (h.rows.ds j l' _ _ g e3 ho' b1 k) n1
      · obtain ⟨n2, o2, e4⟩ := hex j' o' e2 hj'
        exact h.rows.ds j j' _ _ g e3 e4 b1 ((hblk j' g hj').1 h2)
  · obtain ⟨hj, e⟩ := set_mp e
    obtain ⟨⟨t, sz, hq⟩, k1, arr, clock, k2, k3⟩ := hd'.rows.mp j es e
    rw [upd_ne hj]
    exact ⟨⟨t, sz, by rw [hpn j hj]; exact hq⟩, k1, arr, clock, k2, k3⟩
/-- a row's kind is told otherwise -/
theorem SimW.kind (h : SimW W M S0 s tmps w S B V T) {l : Nat} {ob ob' : OB} (ho : s.hp l = some ob) (hsz : ob'.sz = ob.sz) (hty : ∀ t', ob'.e.typ = some t' → ob.e.typ = some t') (hlen : ob'.xs.length = ob.xs.length) (ha' : (∀ x ∈ ob.xs, asz x = ob.sz) → ∀ cs, RK S w s.hp B V ob.sz ob.xs (T l) cs ob.e → (∀ x ∈ ob'.xs, asz x = ob.sz) ∧ ∃ T', (∀ g, T' g → T l g) ∧ RK S w s.hp B V ob.sz ob'.xs T' cs ob'.e) :
    ∃ T', SimW W M S0 (s.set l (some ob')) tmps w S B V T' := by
  obtain ⟨tt, cs, h0, hr, ha, hpos, hown, hB⟩ := h.rows.ro l ob ho
  obtain ⟨hall, T', hT', hr'⟩ := ha' ha cs hr
  have hsame : ∀ j, Same s.hp (s.set l (some ob')).hp B B V V j := fun j o hjo => by
    by_cases hj : j = l
    · subst hj; rw [ho] at hjo; cases hjo; exact ⟨ob', set_hp, hsz, rfl, rfl⟩
    · exact ⟨o, by rw [set_hpn hj]; exact hjo, rfl, rfl, rfl⟩
  exact ⟨_, h.inpl ho hsz (Grown.refl _ _) ⟨tt, cs, fun t' e => h0 t' (hty t' e), by rw [hsz]; exact hr'.carry (fun _ h => h) (fun _ _ => rfl) (fun j _ => hsame j) (fun _ _ => rfl), by rw [hsz]; exact hall, by rw [hsz]; exact hpos, by rw [hsz, hlen]; exact hown, hB⟩ hT'⟩
/-- a row's lists are given up, the row is not -/
theorem SimW.give (h : SimW W M S0 s tmps w S B V T) {l t sz : Nat} {xs : List AV} {e : ET} (ho : s.hp l = some ⟨e, sz, xs⟩) (he : e = .d t ∨ e = .z t) (hok : okL l = true) : ∃ S' T', (∀ b, S b → S' b) ∧ SimW W M S0 (s.set l (some ⟨.s t, sz, xs⟩)) tmps w S' B V T' := by
  obtain ⟨tt, cs, h0, hr, ha, hpos, hown, hB⟩ := h.rows.ro l _ ho
  have hrd : RDL w xs (T l) cs := by rcases he with rfl | rfl <;> first | exact hr | exact hr.2
  have ht : tt = t := by rcases he with rfl | rfl <;> exact h0 t rfl
  -- first the row's blocks within are its own no more
  have hsub : ∀ b, S b → S b ∨ T l b := fun b hb => .inl hb
  have hsame : ∀ j, Same s.hp (s.set l (some ⟨.s t, sz, xs⟩)).hp B B V V j := fun j o hjo => by
    by_cases hj : j = l
    · subst hj; rw [ho] at hjo; cases hjo; exact ⟨⟨.s t, sz, xs⟩, set_hp, rfl, rfl, rfl⟩
    · exact ⟨o, by rw [set_hpn hj]; exact hjo, rfl, rfl, rfl⟩
  have hblk : ∀ j g, Blk V (upd T l Fa) j g → Blk V T j g ∧ (j = l → (V l).ownBlock = some g) := fun j g hg => by
    by_cases hj : j = l
    · subst hj; unfold Blk at hg; rw [upd_same] at hg
      rcases hg with hg | hg
      · exact ⟨.inl hg, fun _ => hg⟩
      · exact hg.elim
    · unfold Blk at hg ⊢; rw [upd_ne hj] at hg; exact ⟨hg, fun e => absurd e hj⟩
  have hex : ∀ j o, (s.set l (some ⟨.s t, sz, xs⟩)).hp j = some o → ∃ o', s.hp j = some o' := fun j o e => by
    by_cases hj : j = l
    · subst hj; exact ⟨_, ho⟩
    · exact ⟨o, by rw [set_hpn hj] at e; exact e⟩
  refine ⟨fun g => S g ∨ T l g, upd T l Fa, hsub, h.below, fun b hb => .inl (h.s0 b hb), fun b hb => ?_, fun t => ?_, ⟨fun j o e => ?_, fun j o g e hg => ?_, fun j o g e hg => ?_, fun j j' o o' g e1 e2 h1 h2 => ?_, fun j es e => ?_⟩, h.pin⟩
  · rcases hb with hb | hb
    · exact h.slt b hb
    · obtain ⟨_, k2, k3⟩ := h.rows.me l _ b ho (.inr hb)
      exact ⟨k2, .inr k3⟩
  · exact RV.carry hsub (fun _ _ => rfl) _ _ (fun j _ => hsame j) (h.sl t)
  · by_cases hj : j = l
    · subst hj
      rw [set_hp] at e; cases e
      rw [upd_same]
      exact ⟨tt, cs, fun t' e => by cases e; exact ht, RDL.toRL _ _ _ (fun g hg => .inr hg) hrd, ha, hpos, hown, hB⟩
    · rw [set_hpn hj] at e
      rw [upd_ne hj]
      exact (h.rows.ro j o e).carry hsub (fun _ _ => rfl) (fun i _ => hsame i) (fun _ _ => rfl) (fun _ _ => rfl)
  · obtain ⟨o', e'⟩ := hex j o e
    obtain ⟨b1, b2⟩ := hblk j g hg
    obtain ⟨k1, k2, k3⟩ := h.rows.me j o' g e' b1
    refine ⟨fun hs => hs.elim k1 (fun hs => ?_), k2, k3⟩
    by_cases hj : j = l
    · subst hj; exact h.rows.nd j _ g ho (b2 rfl) hs
    · exact (h.far ho).2 j o' g hj e' b1 (.inr hs)
  · obtain ⟨o', e'⟩ := hex j o e
    by_cases hj : j = l
    · subst hj; rw [upd_same]; exact fun k => k
    · rw [upd_ne hj]; exact h.rows.nd j o' g e' hg
  · obtain ⟨p, e3⟩ := hex j o e1
    obtain ⟨q, e4⟩ := hex j' o' e2
    exact h.rows.ds j j' p q g e3 e4 (hblk j g h1).1 (hblk j' g h2).1
  · obtain ⟨hj, e⟩ := set_mp e
    obtain ⟨⟨t, sz, hq⟩, k1, arr, clock, k2, k3⟩ := h.rows.mp j es e
    rw [upd_ne hj]
    exact ⟨⟨t, sz, by rw [set_hpn hj]; exact hq⟩, k1, arr, clock, k2, k3⟩

theorem RK.nil {hp : Nat → Option OB} {sz : Nat} {e : ET} (h : e.shut = true) : RK S w hp B V sz [] Fa [] e := by
  cases e with
  | s t => simp only [RK]; unfold RL; rfl
  | z t => simp only [RK]; exact ⟨noF, by unfold RDL; exact ⟨rfl, noF⟩⟩
  | d t => simp only [RK]; unfold RDL; exact ⟨rfl, noF⟩
  | u => simp only [RK]; unfold RDL; exact ⟨rfl, noF⟩
  | o _ _ _ => cases h
theorem typ_some (e : ET) : ∃ te, ∀ t', e.typ = some t' → te = t' := by
  cases hh : e.typ with
  | none => exact ⟨0, fun t' e => by cases e⟩
  | some q => exact ⟨q, fun t' e => by cases e; rfl⟩
/-- nil is an empty row of anything -/
theorem SimW.nilrow (h : SimW W M S0 s tmps w S B V T) {d sz : Nat} {e : ET} (hok : okL d = true) (he : e.shut = true) (h0 : 0 < sz) :
    SimW W M S0 ((s.kill d).set d (some ⟨e, sz, []⟩)) tmps w S (upd B d 0) (upd V d (.slice none 0 0)) (upd T d Fa) := by
  obtain ⟨kn1, kn2⟩ := kill_names (s := s) (l := d)
  obtain ⟨te, hte⟩ := typ_some e
  exact (h.kill d).repl (w' := w) hok kn1 (fun j o _ ho => kn2 j o ho) (Grown.refl _ _) ⟨te, [], hte, RK.nil he, by simp, h0, World.ownsRow_nil _ _ _ _, fun g hg => by simp [Value.ownBlock] at hg⟩ (fun g hg => by
    rcases hg with hg | hg
    · simp [Value.ownBlock] at hg
    · exact hg.elim) (fun g hg => by simp [Value.ownBlock] at hg)

theorem data_rv {x : AV} {us : List Value} (h : RA S w x us) {ti : TI} (hagg : isAggA x = ti.isAgg) : ∃ u, RV S w s.hp B V x u ∧ (if ti.isAgg then Value.agg us.toArray else us.headD undef) = u ∧ (ti.isAgg = false → us.length = 1) := by
  obtain ⟨u, h1, h2, h3⟩ := RV.ofRA (hp := s.hp) (B := B) (V := V) h
  rw [← hagg]; exact ⟨u, h1, h2, h3⟩
theorem pre_load (hΘ : TabOK P Θ) (hn : a.tmps.size = n) (hdf : a.defers = []) (h : SimW W M S0 s a.tmps w S B V T) {dst : Option Tmp} {t : TypeId} {x : Operand} {ty : TypeId} {pos : String} {after : Array Edge} {guard : Option (Nat × Bool)} {e : Eff}
    (hp : Pre P Θ ⟨dst, .load t x, ty, pos, after, guard⟩ s e) (hin : inN n dst = true) (hK : ∀ a' w', Sim W M S0 n (s.app dst e) a' w' → K a' w') : (⟨dst, .load t x, ty, pos, after, guard⟩ : Oper).wp P a w K Q := by
  simp only [Pre] at hp
  obtain ⟨hk, hp⟩ := hp
  obtain ⟨i0, hi0, hs0, hag, _⟩ := ti_info (hΘ t) hk
  rcases hp with ⟨y, hx, hagg, hsz, rfl⟩ | ⟨l, i, p, c, ob, hx, ho, hp⟩
  · have hv := ev_tmp h hx (fun c => by simp)
    unfold RV at hv
    unfold RA at hv
    obtain ⟨b, off, us, e, hb, hr, hc⟩ := hv
    simp only [List.cons.injEq, and_true] at e
    obtain ⟨u, hu, eu, h1⟩ := data_rv (s := s) (B := B) (V := V) hr hagg
    have hrun := run_load_at (P := P) (w := w) t hi0 (by rw [hs0, ← hsz]; exact (RA.size _ _ hr).symm) hc (hag w) h1
    rw [eu] at hrun
    exact pure_step hn hdf h (by simp only [execOp, e, Sem.run_bind, hrun, Result.andThen_ok, Sem.run_pure]) hu hin hK
  · have hv := ev_tmp h hx (fun c => by simp)
    unfold RV at hv
    obtain ⟨ob', ho', hpx⟩ := hv
    rw [ho] at ho'; cases ho'
    have hro := h.rows.ro l ob ho
    rcases hp with ⟨y, z, hop, hq, hg, hagg, hsz, rfl⟩ | ⟨t', y, z, hop, hg, hp⟩
    · have hne : ob.xs ≠ [] := fun e => by rw [e] at hq; simp at hq
      obtain ⟨tt, cs, cap, cur, h0, hr, ha, hpos, hV, hheap, hc, hm, hs, ht⟩ := hro.block hne
      have hr' : RL S w ob.xs cs := by
        cases hoe : ob.e with
        | s _ => rw [hoe] at hr; exact hr
        | z _ => rw [hoe] at hr; exact RDL.toRL _ _ _ (fun g hg => (hr.1 g hg).elim) hr.2
        | _ => rw [hoe] at hop; cases hop
      obtain ⟨qs, k1, k2, k3, k4⟩ := RL.at i hr' hq
      obtain ⟨ws, m1, m2, m3, m4⟩ := getP_at p y qs 0 c z k1 hg
      have hilt : i < ob.xs.length := (List.getElem?_eq_some_iff.1 hq).1
      have hpre : aszs (ob.xs.take i) = i * ob.sz := by rw [aszs_const (fun x hx' => ha x (List.mem_of_mem_take hx')), List.length_take, Nat.min_eq_left (by omega)]
      have hcell : ∀ j u, ws[j]? = some u → w.cell? ⟨B l, i * ob.sz + c + j, none⟩ = some u := fun j u hu => by
        have h1 := k4 _ _ (m4 j u hu)
        rw [hpre, Nat.sub_zero, ← Nat.add_assoc] at h1
        exact row_cell hheap ht h1
      obtain ⟨u, hu, eu, h1⟩ := data_rv (s := s) (B := B) (V := V) m2 hagg
      have hrun := run_load_at (P := P) (w := w) t hi0 (by rw [hs0, ← hsz]; exact (RA.size _ _ m2).symm) hcell (hag w) h1
      rw [eu] at hrun
      exact pure_step hn hdf h (by simp only [execOp, hpx, Sem.run_bind, hrun, Result.andThen_ok, Sem.run_pure]) hu hin hK
    · obtain ⟨tt, cs, cap, cur, h0, hr, ha, hpos, hV, hheap, hc, hm, hs, ht⟩ := hro.block (hro.opn hop)
      obtain ⟨_, hty, hr1⟩ := RK.opn ha hop hr
      obtain ⟨vs, T1, Tr, k1, k2, k3, k4, k5⟩ := hr1.focus ha hg
      have hcell : ∀ j u, vs[j]? = some u → w.cell? ⟨B l, i * ob.sz + c + j, none⟩ = some u := fun j u hu => row_cell hheap ht (k4 j u hu)
      rcases hp with ⟨x', hof, hagg, hsz, rfl⟩ | ⟨d, el, sz, b, z0, ek, rfl, rfl, htl, hek, hok, rfl⟩ | ⟨d, sz', xs', el, sz, b, z0, rfl, rfl, htl, hf, hok, rfl⟩
      · obtain ⟨u, hu, eu, h1⟩ := RV.ofO k1 hof
        have hrun := run_load_at (P := P) (w := w) t hi0 (by rw [hs0, ← hsz, ofO_asz hof]; exact (RO1.size _ _ _ k1).symm) hcell (hag w) (by rw [← hagg]; exact h1)
        rw [← hagg, eu] at hrun
        exact pure_step hn hdf h (by simp only [execOp, hpx, Sem.run_bind, hrun, Result.andThen_ok, Sem.run_pure]) hu hin hK
      · unfold RO1 at k1
        unfold RD at k1
        obtain ⟨_, rfl, _⟩ := k1
        have hti : (Θ.look t).size = 1 := by rw [htl]; rfl
        have hrun := run_load_at (P := P) (w := w) t hi0 (us := [Value.slice none 0 0]) (by rw [hs0, hti]; rfl) hcell (hag w) (fun _ => rfl)
        have hia : (Θ.look t).isAgg = false := by rw [htl]; rfl
        rw [hia] at hrun
        have hT := hΘ t
        rw [htl] at hT
        obtain ⟨_, _, _, _, _, _, _, _, hsz0, _⟩ := hT
        have hsim := h.nilrow (d := d + 1) (sz := sz) hok hek hsz0
        refine wp_value (v := .slice none 0 0) (w1 := w) (by simp only [execOp, hpx, Sem.run_bind, hrun, Result.andThen_ok, Sem.run_pure]; rfl) (hK _ _ (Sim.put hn hdf hsim (some d) ?_ hin))
        unfold RV; exact ⟨⟨_, set_hp⟩, upd_same.symm⟩
      · obtain ⟨v, B', V', T', hc1, h1v, hsim, hVL⟩ := h.unfold ho hop hg hok hf
        have hti : (Θ.look t).size = 1 := by rw [htl]; rfl
        have hrun := run_load_at (P := P) (w := w) t hi0 (us := [v]) (b := B l) (off := i * ob.sz + c) (by rw [hs0, hti]; rfl) (fun j u hu => by
          cases j with
          | zero => simp at hu; subst hu; simpa using hc1
          | succ j => simp at hu) (hag w) (fun _ => rfl)
        have hia : (Θ.look t).isAgg = false := by rw [htl]; rfl
        rw [hia] at hrun
        refine wp_value (v := v) (w1 := w) (by simp only [execOp, hpx, Sem.run_bind, hrun, Result.andThen_ok, Sem.run_pure]; rfl) (hK _ _ (Sim.put hn hdf hsim (some d) ?_ hin))
        unfold RV; exact ⟨⟨_, set_hp⟩, hVL.symm⟩

theorem pre_field (hΘ : TabOK P Θ) (hn : a.tmps.size = n) (hdf : a.defers = []) (h : SimW W M S0 s a.tmps w S B V T) {dst : Option Tmp} {t : TypeId} {x : Operand} {f : Nat} {ty : TypeId} {pos : String} {after : Array Edge} {guard : Option (Nat × Bool)} {e : Eff}
    (hp : Pre P Θ ⟨dst, .fieldAddr t x f, ty, pos, after, guard⟩ s e) (hin : inN n dst = true) (hK : ∀ a' w', Sim W M S0 n (s.app dst e) a' w' → K a' w') : (⟨dst, .fieldAddr t x f, ty, pos, after, guard⟩ : Oper).wp P a w K Q := by
  simp only [Pre] at hp
  obtain ⟨fs, z, o_, z_, ht, hf, hp⟩ := hp
  have hT := hΘ t
  rw [ht] at hT
  rcases hp with ⟨ys, y, hx, hy, hsum, rfl⟩ | ⟨l, i, p, c, hx, rfl⟩
  · have hv := ev_tmp h hx (fun c => by simp)
    unfold RV at hv
    unfold RA at hv
    obtain ⟨b, off, us, e, hb, hr, hc⟩ := hv
    simp only [List.cons.injEq, and_true] at e
    have hrun := run_fieldAt (P := P) (w := w) hT hf b off
    unfold RA at hr
    obtain ⟨ws, k1, k2, k3, k4⟩ := RL.at f hr hy
    refine pure_step (x := .ptr y) (v := .pointer (some ⟨b, off + o_, none⟩)) hn hdf h (by simp only [execOp, e, Sem.run_bind, hrun, Result.andThen_ok, Sem.run_pure]) ?_ hin hK
    unfold RV
    unfold RA
    exact ⟨b, off + o_, ws, rfl, hb, k1, fun j u hu => by have := hc _ _ (k4 j u hu); rwa [hsum, ← Nat.add_assoc] at this⟩
  · have hv := ev_tmp h hx (fun c => by simp)
    unfold RV at hv
    obtain ⟨ob, ho, e⟩ := hv
    have hrun := run_fieldAt (P := P) (w := w) hT hf (B l) (i * ob.sz + c)
    refine pure_step (x := .optr l i (p ++ [f]) (c + o_)) (v := .pointer (some ⟨B l, i * ob.sz + c + o_, none⟩)) hn hdf h (by simp only [execOp, e, Sem.run_bind, hrun, Result.andThen_ok, Sem.run_pure]) ?_ hin hK
    unfold RV
    exact ⟨ob, ho, by rw [Nat.add_assoc]⟩
theorem pre_index (hΘ : TabOK P Θ) (hn : a.tmps.size = n) (hdf : a.defers = []) (h : SimW W M S0 s a.tmps w S B V T) {dst : Option Tmp} {t : TypeId} {x ix : Operand} {ty : TypeId} {pos : String} {after : Array Edge} {guard : Option (Nat × Bool)} {e : Eff}
    (hp : Pre P Θ ⟨dst, .indexAddr t x ix, ty, pos, after, guard⟩ s e) (hin : inN n dst = true) (hK : ∀ a' w', Sim W M S0 n (s.app dst e) a' w' → K a' w') : (⟨dst, .indexAddr t x ix, ty, pos, after, guard⟩ : Oper).wp P a w K Q := by
  simp only [Pre] at hp
  obtain ⟨k, j, hix, hp⟩ := hp
  have hei := ev_int h hix
  rcases hp with ⟨el, sz, b, z, ht, hp⟩ | ⟨el, m, sz, z, ht, hj, hp⟩
  · have hT := hΘ t
    rw [ht] at hT
    rcases hp with ⟨xs, y, hx, hy, rfl⟩ | ⟨l, ob, hx, ho, hsz, hj, rfl⟩
    · have hv := ev_tmp h hx (fun c => by simp)
      unfold RV at hv
      unfold RA at hv
      obtain ⟨A, c, e, h1, h2, h3, h0, h4⟩ := hv
      simp only [List.cons.injEq, and_true] at e
      have hj : j < xs.length := (List.getElem?_eq_some_iff.1 hy).1
      rcases h4 with h4 | ⟨b', off, us, rfl, hb', hr, hc⟩
      · rw [h4] at hj; simp at hj
      have hrun := run_indexAt (P := P) (w := w) hT (k := k) (A := ⟨b', off, none⟩) (c := c) hj
      rw [add_off] at hrun
      obtain ⟨ws, k1, k2, k3, k4⟩ := RL.at j hr hy
      have hpre : aszs (xs.take j) = j * sz := by rw [aszs_const (fun x hx' => h3 x (List.mem_of_mem_take hx')), List.length_take, Nat.min_eq_left (by omega)]
      refine pure_step (x := .ptr y) (v := .pointer (some ⟨b', off + j * sz, none⟩)) hn hdf h (by simp only [execOp, e, hei, Sem.run_bind, hrun, Result.andThen_ok, Sem.run_pure]) ?_ hin hK
      unfold RV
      unfold RA
      exact ⟨b', off + j * sz, ws, rfl, hb', k1, fun i u hu => by have := hc _ _ (k4 i u hu); rwa [hpre, ← Nat.add_assoc] at this⟩
    · have hv := ev_tmp h hx (fun c => by simp)
      unfold RV at hv
      obtain ⟨_, e⟩ := hv
      have hne : ob.xs ≠ [] := fun e' => by rw [e'] at hj; simp at hj
      obtain ⟨tt, cs, cap, cur, h0, hr, ha, hpos, hV, _⟩ := (h.rows.ro l ob ho).block hne
      have hrun := run_indexAt (P := P) (w := w) hT (k := k) (A := ⟨B l, 0, none⟩) (c := cap) hj
      rw [add_off] at hrun
      refine pure_step (x := .optr l j [] 0) (v := .pointer (some ⟨B l, 0 + j * sz, none⟩)) hn hdf h (by simp only [execOp, e, hV, hei, Sem.run_bind, hrun, Result.andThen_ok, Sem.run_pure]) ?_ hin hK
      unfold RV
      exact ⟨ob, ho, by rw [hsz, Nat.zero_add, Nat.add_zero]⟩
  · have hT := hΘ t
    rw [ht] at hT
    rcases hp with ⟨xs, y, hx, hy, hall, rfl⟩ | ⟨l, i, p, c, hx, rfl⟩
    · have hv := ev_tmp h hx (fun c => by simp)
      unfold RV at hv
      unfold RA at hv
      obtain ⟨b, off, us, e, hb, hr, hc⟩ := hv
      simp only [List.cons.injEq, and_true] at e
      unfold RA at hr
      have hrun := run_indexArr (P := P) (w := w) hT (k := k) (A := ⟨b, off, none⟩) hj
      rw [add_off] at hrun
      obtain ⟨ws, k1, k2, k3, k4⟩ := RL.at j hr hy
      have hpre : aszs (xs.take j) = j * sz := by rw [aszs_const (fun x hx' => hall x (List.mem_of_mem_take hx')), List.length_take, Nat.min_eq_left (by have := (List.getElem?_eq_some_iff.1 hy).1; omega)]
      refine pure_step (x := .ptr y) (v := .pointer (some ⟨b, off + j * sz, none⟩)) hn hdf h (by simp only [execOp, e, hei, Sem.run_bind, hrun, Result.andThen_ok, Sem.run_pure]) ?_ hin hK
      unfold RV
      unfold RA
      exact ⟨b, off + j * sz, ws, rfl, hb, k1, fun i u hu => by have := hc _ _ (k4 i u hu); rwa [hpre, ← Nat.add_assoc] at this⟩
    · have hv := ev_tmp h hx (fun c => by simp)
      unfold RV at hv
      obtain ⟨ob, ho, e⟩ := hv
      have hrun := run_indexArr (P := P) (w := w) hT (k := k) (A := ⟨B l, i * ob.sz + c, none⟩) hj
      rw [add_off] at hrun
      refine pure_step (x := .optr l i (p ++ [j]) (c + j * sz)) (v := .pointer (some ⟨B l, i * ob.sz + c + j * sz, none⟩)) hn hdf h (by simp only [execOp, e, hei, Sem.run_bind, hrun, Result.andThen_ok, Sem.run_pure]) ?_ hin hK
      unfold RV
      exact ⟨ob, ho, by rw [Nat.add_assoc]⟩
theorem RL.drop : ∀ {xs : List AV} {cs : List Value} (l : Nat), RL S w xs cs → RL S w (xs.drop l) (cs.drop (aszs (xs.take l)))
  | xs, cs, 0, h => by simpa [aszs] using h
  | [], cs, l + 1, h => by unfold RL at h; subst h; simp; unfold RL; rfl
  | x :: xs, cs, l + 1, h => by
    unfold RL at h
    obtain ⟨c1, c2, rfl, h1, h2⟩ := h
    rw [List.drop_succ_cons, List.take_succ_cons, aszs, ← RA.size _ _ h1, ← List.drop_drop, List.drop_left]
    exact RL.drop l h2
theorem RL.take : ∀ {xs : List AV} {cs : List Value} (l : Nat), RL S w xs cs → RL S w (xs.take l) (cs.take (aszs (xs.take l)))
  | xs, cs, 0, h => by simp [aszs]; unfold RL; rfl
  | [], cs, l + 1, h => by unfold RL at h; subst h; simp; unfold RL; rfl
  | x :: xs, cs, l + 1, h => by
    unfold RL at h
    obtain ⟨c1, c2, rfl, h1, h2⟩ := h
    rw [List.take_succ_cons, aszs, ← RA.size _ _ h1, List.take_append, Nat.add_sub_cancel_left, show c1.take (c1.length + aszs (xs.take l)) = c1 from List.take_of_length_le (by omega)]
    unfold RL
    exact ⟨c1, _, rfl, h1, RL.take l h2⟩
theorem run_bound {x : Value} {k : IntKind} {i y : Nat} {c : BoundsCode} (hx : x = .int k (i : Int)) (h : i ≤ y) : (Instr.sliceBound x y c).run P w = .ok i w := by
  subst hx
  have h1 : (0 : Int) ≤ (i : Int) ∧ (i : Int) ≤ (y : Int) := by omega
  simp [Instr.sliceBound, asIntOf, h1]
theorem pre_slice (hΘ : TabOK P Θ) (hn : a.tmps.size = n) (hdf : a.defers = []) (h : SimW W M S0 s a.tmps w S B V T) {dst : Option Tmp} {t : TypeId} {x : Operand} {lo hi mx : Option Operand} {ty : TypeId} {pos : String} {after : Array Edge} {guard : Option (Nat × Bool)} {e : Eff}
    (hp : Pre P Θ ⟨dst, .slice t x lo hi mx, ty, pos, after, guard⟩ s e) (hin : inN n dst = true) (hK : ∀ a' w', Sim W M S0 n (s.app dst e) a' w' → K a' w') : (⟨dst, .slice t x lo hi mx, ty, pos, after, guard⟩ : Oper).wp P a w K Q := by
  simp only [Pre] at hp
  rcases hp with ⟨p, r, hx, hall, hr, h1, rfl⟩ | ⟨el, sz, b, z, xs, l, hh, ht, rfl, hx, hlo, hhi, hle, hle2, rfl⟩
  · have hone : ∀ (m : Option Operand), (∀ y ∈ m.toList, (conc (s.ev y)).isSome = true) → m.map a.eval = m.map fun y => (conc (s.ev y)).getD undef := fun m hm => by
      cases m with
      | none => rfl
      | some y =>
        have := hm y (by simp)
        obtain ⟨b, hb⟩ := Option.isSome_iff_exists.1 this
        simp [hb, ev_conc h hb]
    refine pure_step (x := .v r) (v := r) hn hdf h ?_ (one_list h1) hin hK
    simp only [execOp, ev_conc h hx]
    rw [hone lo (fun y hy => hall y (by simp at hy ⊢; exact .inl hy)), hone hi (fun y hy => hall y (by simp at hy ⊢; exact .inr (.inl hy))), hone mx (fun y hy => hall y (by simp at hy ⊢; exact .inr (.inr hy)))]
    rw [Sem.run_bind, hr w]; rfl
  · have hT := hΘ t
    rw [ht] at hT
    obtain ⟨hu, _, i, zv, hi', _, hs', _, h0', _⟩ := hT
    have hv := ev_tmp h hx (fun c => by simp)
    unfold RV at hv
    unfold RA at hv
    obtain ⟨A, c, e, h1, h2, h3, h0, h4⟩ := hv
    simp only [List.cons.injEq, and_true] at e
    have hB : (Instr.sliceBounds true xs.length c (lo.map a.eval) (hi.map a.eval) none).run P w = .ok (l, hh, c) w := by
      have q1 : ∀ y, lo = some y → ∀ cd, (Instr.sliceBound (a.eval y) hh cd).run P w = .ok l w := fun y e cd => by
        subst e; unfold lowAt at hlo; simp only at hlo; obtain ⟨k, hy⟩ := hlo; exact run_bound (ev_int h hy) hle
      have q2 : ∀ y, hi = some y → ∀ cd, (Instr.sliceBound (a.eval y) c cd).run P w = .ok hh w := fun y e cd => by
        subst e; unfold highAt at hhi; simp only at hhi; obtain ⟨k, hy⟩ := hhi; exact run_bound (ev_int h hy) (by omega)
      have q3 : lo = none → l = 0 := fun e => by subst e; unfold lowAt at hlo; exact hlo
      have q4 : hi = none → hh = xs.length := fun e => by subst e; unfold highAt at hhi; exact hhi
      cases lo with
      | none =>
        have := q3 rfl
        subst this
        cases hi with
        | none => have := q4 rfl; subst this; simp [Instr.sliceBounds, Result.andThen]
        | some y => simp [Instr.sliceBounds, q2 y rfl, Result.andThen]
      | some z =>
        cases hi with
        | none => have := q4 rfl; subst this; simp [Instr.sliceBounds, q1 z rfl, Result.andThen]
        | some y => simp [Instr.sliceBounds, q2 y rfl, q1 z rfl, Result.andThen]
    have hrun : (Instr.sliceAt t (a.eval x) (lo.map a.eval) (hi.map a.eval) none).run P w = .ok (.slice (if c = l then A else A.map (·.add (l * sz))) (hh - l) (c - l)) w := by
      rw [e]
      simp only [Instr.sliceAt, Sem.run_bind, run_underlying hu, Result.andThen_ok, Instr.slice, hB, sizeOf, typeInfo, run_program, hi', Sem.run_pure, hs']
    refine pure_step (x := .lst sz ((xs.take hh).drop l)) (v := .slice (if c = l then A else A.map (·.add (l * sz))) (hh - l) (c - l)) hn hdf h (by simp only [execOp, Option.map_none, Sem.run_bind, hrun, Result.andThen_ok, Sem.run_pure]) ?_ hin hK
    unfold RV
    unfold RA
    have hlen : ((xs.take hh).drop l).length = hh - l := by simp; omega
    refine ⟨if c = l then A else A.map (·.add (l * sz)), c - l, by rw [hlen], by rw [hlen]; omega, by omega, fun y hy => h3 y (List.mem_of_mem_take (List.mem_of_mem_drop hy)), h0, ?_⟩
    by_cases hlh : l = hh
    · left; apply List.eq_nil_of_length_eq_zero; rw [hlen]; omega
    · rcases h4 with h4 | ⟨b', off, us, rfl, hb', hr, hc⟩
      · rw [h4] at hle2; simp at hle2; omega
      · right
        have hcl : ¬ c = l := by omega
        have ht1 : aszs (xs.take hh) = hh * sz := by rw [aszs_const (fun y hy => h3 y (List.mem_of_mem_take hy)), List.length_take, Nat.min_eq_left hle2]
        have hr1 := RL.drop l (RL.take hh hr)
        have ht2 : aszs ((xs.take hh).take l) = l * sz := by rw [aszs_const (fun y hy => h3 y (List.mem_of_mem_take (List.mem_of_mem_take hy))), List.length_take, List.length_take, Nat.min_eq_left (by omega)]
        rw [ht1, ht2] at hr1
        refine ⟨b', off + l * sz, _, by rw [if_neg hcl]; simp [add_off], hb', hr1, fun j u hj => ?_⟩
        rw [List.getElem?_drop, List.getElem?_take] at hj
        split at hj
        · rw [Nat.add_assoc]; exact hc _ u hj
        · cases hj
end
end Go.Proofs.Ytmafbodblpgcjaa.AM
