/- Texts of the machine over data, folded. -/
import Derived.Test.YtodckioppgjbdaaGreatDoorKd2
import Derived.MapKept
set_option linter.unusedVariables false
set_option linter.unusedSimpArgs false
namespace Go.Proofs.YtodckioppgjbdaaGreatDoor.AM
open Go Go.RowKit
section
variable {P : Program} {Θ : Tab} {W : World} {M : Hand} {S0 : Nat → Prop} {n : Nat} {s : St} {a : Act} {w : World} {S : Nat → Prop} {B : Nat → Nat} {V : Nat → Value} {T : Nat → Nat → Prop} {tmps : Array Value}
variable {K : Act → World → Prop} {Q : Exit → Act → World → Prop}
theorem jG {α : Type} {cs vs : List α} {q : Nat} (h : ∀ j u, vs[j]? = some u → cs[q + j]? = some u) (hl : q + vs.length ≤ cs.length) : cs.take q ++ vs ++ cs.drop (q + vs.length) = cs := by
 have : vs = (cs.drop q).take vs.length := by
  apply List.ext_getElem?
  intro j
  rw [List.getElem?_take]
  split
  · rename_i hj
    rw [List.getElem?_drop, List.getElem?_eq_getElem hj]
    exact (h j _ (List.getElem?_eq_getElem hj)).symm
  · rename_i hj
    rw [List.getElem?_eq_none (by omega)]
 conv => lhs; lhs; rhs; rw [this]
 rw [List.append_assoc, ← List.drop_drop, List.take_append_drop, List.take_append_drop]
theorem aHi {e : ET} {xs : List AV} {i : Nat} {Q : AbsR} (h : y8 e xs i = some (.c Q)) : False := by
 cases e with
 | s _ => cases h
 | z _ => simp only [y8] at h; split at h <;> cases h
 | d _ => simp only [y8] at h; split at h <;> cases h
 | u => simp only [y8] at h; split at h <;> cases h
 | o _ j _ => simp only [y8] at h; cases hb : Nat.beq j i <;> rw [hb] at h <;> cases h
 | c _ => cases h
 | p _ _ => cases h
theorem RO.opn {hp : Nat → Option OB} {T : Nat → Prop} {ob : OB} {b : Nat} {v : Value} {i : Nat} {e' : ET} (ho : y8 ob.e ob.xs i = some e') (h : RO S w hp B V T ob b v) : ob.xs ≠ [] := by
 obtain ⟨t, cs, h1, h2, h3, _⟩ := h
 obtain ⟨⟨t', y, rfl⟩, _, k⟩ := RK.opn h3 ho h2
 have hlt := k.len
 intro e; rw [e] at hlt
 cases hoe : ob.e with
 | s _ => rw [hoe] at ho; cases ho
 | z _ => rw [hoe, e] at ho; simp [y8] at ho
 | d _ => rw [hoe, e] at ho; simp [y8] at ho
 | u => rw [hoe, e] at ho; simp [y8] at ho
 | c Q => rw [hoe] at ho; cases ho
 | p _ _ => rw [hoe] at ho; cases ho
 | o t2 j yy =>
  rw [hoe] at h2
  have := h2.1
  rw [e] at this; simp at this
theorem SimW.unfold (h : SimW W M S0 s tmps w S B V T) {l i c L : Nat} {p : List Nat} {ob : OB} {t' : Option Nat} {y : AV} {sz' : Nat} {xs' : List AV} (ho : s.hp l = some ob) (hop : y8 ob.e ob.xs i = some (.o t' i y)) (hg : xU y p 0 = some (.lst sz' xs', c)) (hok : okL L = true) (hf : s.hp L = none) :
 ∃ v B' V' T', w.cell? ⟨B l, i * ob.sz + c, none⟩ = some v ∧ v.oneCell' = true ∧ SimW W M S0 ((s.set l (some ⟨.o t' i (setM y p (.own L)), ob.sz, ob.xs⟩)).set L (some ⟨.u, sz', xs'⟩)) tmps w S B' V' T' ∧ V' L = v := by
 have hro := h.rows.ro l ob ho
 obtain ⟨tt, cs, cap, cur, h0, hr, ha, hpos, hV, hheap, hc, hm, hs, ht⟩ := hro.block (hro.opn hop)
 obtain ⟨_, hty, hr1⟩ := RK.opn ha hop hr
 have hlL : l ≠ L := fun e => by rw [e, hf] at ho; cases ho
 obtain ⟨vs, T1, Tr, k1, k2, k3, k4, k5⟩ := hr1.focus ha hg
 unfold RO1 at k1
 unfold RD at k1
 obtain ⟨v, tv, us, T1', rfl, m1, m2, m3, m4, m5, m6⟩ := k1
 have h1v : v.oneCell' = true := by rcases m1.2 with ⟨rfl, _⟩ | ⟨g, cap, cur, rfl, _⟩ <;> rfl
 have hcell := wX hheap ht (k4 0 v rfl)
 simp only [Nat.add_zero] at hcell
 let bL : Nat := v.ownBlock.getD 0
 let ob1 : OB := ⟨.o t' i (setM y p (.own L)), ob.sz, ob.xs⟩
 let s1 : St := (s.set l (some ob1)).set L (some ⟨.u, sz', xs'⟩)
 have hpL : s1.hp L = some ⟨.u, sz', xs'⟩ := yY
 have hpl : s1.hp l = some ob1 := by show ((s.set l (some ob1)).set L _).hp l = _; rw [yG hlL]; exact yY
 have hpn : ∀ j, j ≠ l → j ≠ L → s1.hp j = s.hp j := fun j h1 h2 => by show ((s.set l (some ob1)).set L _).hp j = _; rw [yG h2, yG h1]
 have hsame : ∀ j, Same s.hp s1.hp B (upd B L bL) V (upd V L v) j := fun j o hjo => by
  have hjL : j ≠ L := fun e => by rw [e, hf] at hjo; cases hjo
  by_cases hj : j = l
  · subst hj; rw [ho] at hjo; cases hjo; exact ⟨ob1, hpl, rfl, upd_ne hjL, upd_ne hjL⟩
  · exact ⟨o, by rw [hpn j hj hjL]; exact hjo, rfl, upd_ne hjL, upd_ne hjL⟩
 have hr2 := hr1.carry (S' := S) (w' := w) (hp' := s1.hp) (B' := upd B L bL) (V' := upd V L v) (fun _ h => h) (fun _ _ => rfl) (fun j _ => hsame j) (fun _ _ => rfl)
 obtain ⟨vs2, T3, Tr2, n1, n2, n3, n4, n5⟩ := hr2.focus ha hg
 have hvs2 : vs2 = [v] := by
  have e1 := RO1.size _ _ _ n1
  match vs2, e1 with
  | [u], _ =>
   have a1 := n4 0 u rfl
   have a2 := k4 0 v rfl
   rw [a1] at a2; cases a2; rfl
 subst hvs2
 have hr3 := n5 (.own L) [v] (fun _ => False) Tr2 rfl (by unfold RO1; exact ⟨noF, ⟨_, hpL⟩, by rw [upd_same], by rw [upd_same]; exact h1v⟩) (Split.l0 noF)
 rw [jG n4 n3] at hr3
 unfold RO1 at n1
 unfold RD at n1
 obtain ⟨v2, tv2, us2, T2', e2, q1, q2, q3, q4, q5, q6⟩ := n1
 simp only [List.cons.injEq, and_true] at e2
 subst e2
 have hblkl : ∀ g, Blk (upd V L v) (upd (upd T l Tr2) L T2') l g → Blk V T l g := fun g hg => by
  unfold Blk at hg ⊢
  rw [upd_ne hlL, upd_ne hlL, upd_same] at hg
  exact hg.imp id (fun k => n2.right k)
 have hblkL : ∀ g, Blk (upd V L v) (upd (upd T l Tr2) L T2') L g → T l g ∧ ¬ Tr2 g := fun g hg => by
  unfold Blk at hg
  rw [upd_same, upd_same] at hg
  have := (q5 g).2 hg
  exact ⟨n2.left this, n2.2 g this⟩
 have hblkn : ∀ j g, j ≠ l → j ≠ L → (Blk (upd V L v) (upd (upd T l Tr2) L T2') j g ↔ Blk V T j g) := fun j g h1 h2 => by unfold Blk; rw [upd_ne h2, upd_ne h2, upd_ne h1]
 have hown : ∀ j o g, s1.hp j = some o → Blk (upd V L v) (upd (upd T l Tr2) L T2') j g → ∃ j' o', s.hp j' = some o' ∧ Blk V T j' g ∧ (j' = j ∨ (j = L ∧ j' = l)) := fun j o g e hg => by
  by_cases h1 : j = l
  · subst h1; exact ⟨j, ob, ho, hblkl g hg, .inl rfl⟩
  · by_cases h2 : j = L
    · subst h2; exact ⟨l, ob, ho, .inr (hblkL g hg).1, .inr ⟨rfl, rfl⟩⟩
    · exact ⟨j, o, by rw [← hpn j h1 h2]; exact e, (hblkn j g h1 h2).1 hg, .inl rfl⟩
 refine ⟨v, upd B L bL, upd V L v, upd (upd T l Tr2) L T2', hcell, h1v, ⟨h.below, h.s0, h.slt, fun t => ?_, ⟨fun j o e => ?_, fun j o g e hg => ?_, fun j o g e hg => ?_, fun j j' o o' g e1 e2 h1 h2 => ?_, fun j es e => ?_⟩, fun j b u hp => ?_, h.gl⟩, upd_same⟩
 · exact RV.carry (fun _ h => h) (fun _ _ => rfl) _ _ (fun j _ => hsame j) (h.sl t)
 · by_cases h1 : j = l
   · subst h1
     rw [hpl] at e; cases e
     rw [upd_ne hlL, upd_ne hlL, upd_ne hlL, upd_same]
     exact ⟨tt, cs, ⟨fun t2 e => h0 t2 (by rw [← hty]; exact e), trivial⟩, hr3, ha, hpos, hro.choose_spec.choose_spec.2.2.2.2.1 |> fun _ => ⟨by rw [hr.size ha], .inr ⟨B j, cap, cur, hV, Nat.zero_le _, hheap, hc, hm, hs, ht⟩⟩, fun g hg => by rw [hV] at hg; simp [Value.ownBlock] at hg; exact hg.symm⟩
   · by_cases h2 : j = L
     · subst h2
       rw [hpL] at e; cases e
       rw [upd_same, upd_same, upd_same]
       exact ⟨tv2, us2, ⟨(fun t' e => by cases e), trivial⟩, q4, q2, q3, q1, fun g hg => by show g = v.ownBlock.getD 0; rw [hg]; rfl⟩
     · rw [hpn j h1 h2] at e
       rw [upd_ne h2, upd_ne h2, upd_ne h2, upd_ne h1]
       exact (h.rows.ro j o e).carry (fun _ h => h) (fun _ _ => rfl) (fun i _ => hsame i) (fun _ _ => rfl) (fun _ _ => rfl)
 · obtain ⟨j', o', e', hb, _⟩ := hown j o g e hg
   exact h.rows.me j' o' g e' hb
 · by_cases h1 : j = l
   · subst h1
     rw [upd_ne hlL] at hg
     rw [upd_ne hlL, upd_same]
     exact fun k => h.rows.nd j ob g ho hg (n2.right k)
   · by_cases h2 : j = L
     · subst h2
       rw [upd_same] at hg ⊢
       exact q6 g hg
     · rw [hpn j h1 h2] at e
       rw [upd_ne h2] at hg
       rw [upd_ne h2, upd_ne h1]
       exact h.rows.nd j o g e hg
 · have key : ∀ {j : Nat} {o : OB}, s1.hp j = some o → Blk (upd V L v) (upd (upd T l Tr2) L T2') j g → j = l → Blk (upd V L v) (upd (upd T l Tr2) L T2') L g → False := fun {j o} e hb hj hL => by
    subst hj
    obtain ⟨k1, k2⟩ := hblkL g hL
    unfold Blk at hb
    rw [upd_ne hlL, upd_ne hlL, upd_same] at hb
    rcases hb with hb | hb
    · exact h.rows.nd j ob g ho hb k1
    · exact k2 hb
   obtain ⟨p1, q1', e3, b1, c1⟩ := hown j o g e1 h1
   obtain ⟨p2, q2', e4, b2, c2⟩ := hown j' o' g e2 h2
   have hpq := h.rows.ds p1 p2 q1' q2' g e3 e4 b1 b2
   rcases c1 with c1 | ⟨c1, d1⟩
   · rcases c2 with c2 | ⟨c2, d2⟩
     · rw [← c1, ← c2, hpq]
     · exact (key e1 h1 (by rw [← c1, hpq, d2]) (c2 ▸ h2)).elim
   · rcases c2 with c2 | ⟨c2, d2⟩
     · exact (key e2 h2 (by rw [← c2, ← hpq, d1]) (c1 ▸ h1)).elim
     · rw [c1, c2]
 · obtain ⟨hjL, e⟩ := qJ e
   obtain ⟨hjl, e⟩ := qJ e
   obtain ⟨⟨t, ho'⟩, k1, arr, clock, k2, k3⟩ := h.rows.mp j es e
   rw [upd_ne hjL, upd_ne hjL, upd_ne hjl]
   exact ⟨⟨t, by rw [hpn j hjl hjL]; exact ho'⟩, k1, arr, clock, k2, k3⟩
 · obtain ⟨p1, p2, p3⟩ := h.pin j b u hp
   have hj := aHh hok p1
   exact ⟨p1, by rw [upd_ne hj]; exact p2, by rw [upd_ne hj]; exact p3⟩
theorem SimW.fold (h : SimW W M S0 s tmps w S B V T) {l i c l' : Nat} {p : List Nat} {t : Option Nat} {y : AV} {sz : Nat} {xs : List AV} {ob' : OB} (ho : s.hp l = some ⟨.o t i y, sz, xs⟩) (hg : xU y p 0 = some (.own l', c)) (hne : l' ≠ l) (hok : okL l' = true) (ho' : s.hp l' = some ob') (hd : ob'.e.deep = true) :
 ∃ T', SimW W M S0 ((s.drop l').set l (some ⟨.o t i (xE l' (setM y p (.lst ob'.sz ob'.xs))), sz, xs⟩)) tmps w S B V T' := by
 have hlne : l ≠ l' := Ne.symm hne
 obtain ⟨tt, cs, h0, hr, ha, hpos, hown, hB⟩ := h.rows.ro l _ ho
 obtain ⟨t2, us, g0, gr, ga, gpos, gown, gB⟩ := h.rows.ro l' ob' ho'
 have hrd : RDL w ob'.xs (T l') us := by
  cases he : ob'.e with
  | s _ => rw [he] at hd; cases hd
  | o _ _ _ => rw [he] at hd; cases hd
  | z _ => rw [he] at gr; exact gr.2
  | d _ => rw [he] at gr; exact gr
  | u => rw [he] at gr; exact gr
  | c Q => rw [he] at hd; cases hd
  | p _ _ => rw [he] at hd; cases hd
 obtain ⟨vs, T1, Tr, k1, k2, k3, k4, k5⟩ := hr.focus ha hg
 unfold RO1 at k1
 obtain ⟨hT1, _, rfl, _⟩ := k1
 have hTr : T l = Tr := k2.eqr hT1
 have hin : RO1 S w s.hp B V (.lst ob'.sz ob'.xs) (Blk V T l') [V l'] := by
  unfold RO1; unfold RD
  exact ⟨V l', t2, us, T l', rfl, gown, ga, gpos, hrd, fun g => Iff.rfl, fun g hg => h.rows.nd l' ob' g ho' hg⟩
 have hr1 := k5 (.lst ob'.sz ob'.xs) [V l'] (Blk V T l') (fun g => Blk V T l' g ∨ T l g) rfl hin ⟨fun g => by rw [hTr], fun g a b => by rw [← hTr] at b; exact hne (h.rows.ds l' l _ _ g ho' ho a (.inr b))⟩
 rw [jG k4 k3] at hr1
 have hd' := h.drop l' hok
 have hr2 := RK.kill l' hr1
 let ob1 : OB := ⟨.o t i (xE l' (setM y p (.lst ob'.sz ob'.xs))), sz, xs⟩
 let s1 : St := (s.drop l').set l (some ob1)
 have hpl : s1.hp l = some ob1 := yY
 have hpn : ∀ j, j ≠ l → s1.hp j = (s.drop l').hp j := fun j h1 => yG h1
 have hdl : (s.drop l').hp l = some ⟨.o t i (xE l' y), sz, xs⟩ := by
  show (bif Nat.beq l l' then none else xV l' (s.hp l)) = _
  rw [xY hlne, ho]; rfl
 have hsame0 : ∀ j, j ≠ l' → Same s.hp s1.hp B B V V j := fun j hj o e => by
  by_cases h1 : j = l
  · subst h1; rw [ho] at e; cases e; exact ⟨ob1, hpl, rfl, rfl, rfl⟩
  · refine ⟨⟨yR l' o.e, o.sz, o.xs⟩, ?_, rfl, rfl, rfl⟩
    rw [hpn j h1]
    show (bif Nat.beq j l' then none else xV l' (s.hp j)) = _
    rw [xY hj, e]; rfl
 have hsame : ∀ j, Same (s.drop l').hp s1.hp B B V V j := fun j o e => by
  by_cases h1 : j = l
  · subst h1; rw [hdl] at e; cases e; exact ⟨ob1, hpl, rfl, rfl, rfl⟩
  · exact ⟨o, by rw [hpn j h1]; exact e, rfl, rfl, rfl⟩
 have hblk : ∀ j g, j ≠ l → (Blk V (upd T l (fun g => Blk V T l' g ∨ T l g)) j g ↔ Blk V T j g) := fun j g hj => by unfold Blk; rw [upd_ne hj]
 have hblkl : ∀ g, Blk V (upd T l (fun g => Blk V T l' g ∨ T l g)) l g → Blk V T l g ∨ Blk V T l' g := fun g hg => by
  unfold Blk at hg; rw [upd_same] at hg
  rcases hg with hg | hg | hg
  · exact .inl (.inl hg)
  · exact .inr hg
  · exact .inl (.inr hg)
 have hex : ∀ j o, s1.hp j = some o → j ≠ l → j ≠ l' ∧ ∃ o', s.hp j = some o' := fun j o e h1 => by
  rw [hpn j h1] at e
  have e0 : (bif Nat.beq j l' then none else xV l' (s.hp j)) = some o := e
  have hj : j ≠ l' := fun e' => by rw [e'] at e0; simp at e0
  rw [xY hj] at e0
  obtain ⟨o', e', _⟩ := y7 e0
  exact ⟨hj, o', e'⟩
 refine ⟨upd T l (fun g => Blk V T l' g ∨ T l g), hd'.below, hd'.s0, hd'.slt, fun t => ?_, ⟨fun j o e => ?_, fun j o g e hg => ?_, fun j o g e hg => ?_, fun j j' o o' g e1 e2 h1 h2 => ?_, fun j es e => ?_⟩, hd'.pin, hd'.gl⟩
 · exact RV.carry (fun _ h => h) (fun _ _ => rfl) _ _ (fun j _ => hsame j) (hd'.sl t)
 · by_cases h1 : j = l
   · subst h1
     rw [hpl] at e; cases e
     rw [upd_same]
     exact ⟨tt, cs, h0, hr2.carry (fun _ h => h) (fun _ _ => rfl) (fun i hi => hsame0 i (fun e => by rw [e] at hi; exact absurd ((vS l' (.o t i (setM y p (.lst ob'.sz ob'.xs)))).symm.trans hi) (by simp))) (fun _ _ => rfl), ha, hpos, hown, hB⟩
   · rw [hpn j h1] at e
     rw [upd_ne h1]
     exact (hd'.rows.ro j o e).carry (fun _ h => h) (fun _ _ => rfl) (fun i _ => hsame i) (fun _ _ => rfl) (fun _ _ => rfl)
 · by_cases h1 : j = l
   · subst h1
     rcases hblkl g hg with k | k
     · exact h.rows.me j _ g ho k
     · exact h.rows.me l' _ g ho' k
   · obtain ⟨_, o', e'⟩ := hex j o e h1
     exact h.rows.me j o' g e' ((hblk j g h1).1 hg)
 · by_cases h1 : j = l
   · subst h1
     rw [upd_same]
     rintro (k | k)
     · exact hne (h.rows.ds l' j _ _ g ho' ho k (.inl hg))
     · exact h.rows.nd j _ g ho hg k
   · obtain ⟨_, o', e'⟩ := hex j o e h1
     rw [upd_ne h1]
     exact h.rows.nd j o' g e' hg
 · by_cases hj : j = l
   · by_cases hj' : j' = l
     · rw [hj, hj']
     · subst hj
       obtain ⟨n1, o2, e3⟩ := hex j' o' e2 hj'
       have b2 := (hblk j' g hj').1 h2
       rcases hblkl g h1 with k | k
       · exact h.rows.ds j j' _ _ g ho e3 k b2
       · exact absurd (h.rows.ds l' j' _ _ g ho' e3 k b2).symm n1
   · obtain ⟨n1, o1, e3⟩ := hex j o e1 hj
     have b1 := (hblk j g hj).1 h1
     by_cases hj' : j' = l
     · subst hj'
       rcases hblkl g h2 with k | k
       · exact h.rows.ds j j' _ _ g e3 ho b1 k
       · exact absurd (h.rows.ds j l' _ _ g e3 ho' b1 k) n1
     · obtain ⟨n2, o2, e4⟩ := hex j' o' e2 hj'
       exact h.rows.ds j j' _ _ g e3 e4 b1 ((hblk j' g hj').1 h2)
 · obtain ⟨hj, e⟩ := qJ e
   obtain ⟨⟨t, hq⟩, k1, arr, clock, k2, k3⟩ := hd'.rows.mp j es e
   rw [upd_ne hj]
   exact ⟨⟨t, by rw [hpn j hj]; exact hq⟩, k1, arr, clock, k2, k3⟩
theorem SimW.foldr (h : SimW W M S0 s tmps w S B V T) {l i c l' : Nat} {p : List Nat} {t : Option Nat} {y : AV} {sz : Nat} {xs : List AV} {ob' : OB} (ho : s.hp l = some ⟨.o t i y, sz, xs⟩) (hg : xU y p 0 = some (.own l', c)) (hne : l' ≠ l) (hok : okL l' = true) (ho' : s.hp l' = some ob') (hsh : ob'.e.shut = true) :
 ∃ S', SimW W M S0 ((s.drop l').set l (some ⟨.o t i (xE l' (setM y p (.rd (.lst ob'.sz ob'.xs)))), sz, xs⟩)) tmps w S' B V T := by
 have hlne : l ≠ l' := Ne.symm hne
 obtain ⟨tt, cs, h0, hr, ha, hpos, hown, hB⟩ := h.rows.ro l _ ho
 have hra := (h.rows.ro l' ob' ho').list hsh
 have hsub : ∀ b, S b → (S b ∨ Blk V T l' b) := fun b hb => .inl hb
 have hrS : RK (fun g => S g ∨ Blk V T l' g) w s.hp B V sz xs (T l) cs (.o t i y) := hr.carry hsub (fun _ _ => rfl) (fun j _ => Same.refl j) (fun _ _ => rfl)
 obtain ⟨vs, T1, Tr, k1, k2, k3, k4, k5⟩ := hrS.focus ha hg
 unfold RO1 at k1
 obtain ⟨hT1, _, rfl, _⟩ := k1
 have hTr : T l = Tr := k2.eqr hT1
 have hin : RO1 (fun g => S g ∨ Blk V T l' g) w s.hp B V (.rd (.lst ob'.sz ob'.xs)) Fa [V l'] := by
  unfold RO1
  exact ⟨noF, hra⟩
 have hr1 := k5 (.rd (.lst ob'.sz ob'.xs)) [V l'] Fa (T l) rfl hin (by rw [← hTr]; exact Split.l0 noF)
 rw [jG k4 k3] at hr1
 have hr2 := RK.kill l' hr1
 have hexd : ∀ j o, (s.drop l').hp j = some o → j ≠ l' ∧ ∃ o', s.hp j = some o' := fun j o e => by
  have e0 : (bif Nat.beq j l' then none else xV l' (s.hp j)) = some o := e
  have hj : j ≠ l' := fun e' => by rw [e'] at e0; simp at e0
  rw [xY hj] at e0
  obtain ⟨o', e', _⟩ := y7 e0
  exact ⟨hj, o', e'⟩
 have hd' := (h.drop l' hok).more (S' := fun g => S g ∨ Blk V T l' g) hsub (fun b hb => by
  rcases hb with hb | hb
  · exact h.slt b hb
  · obtain ⟨_, q2, q3⟩ := h.rows.me l' _ b ho' hb
    exact ⟨q2, .inr q3⟩) (fun j o g e hg hs => by
  obtain ⟨hj, o', e'⟩ := hexd j o e
  rcases hs with hs | hs
  · exact (h.rows.me j o' g e' hg).1 hs
  · exact hj (h.rows.ds j l' _ _ g e' ho' hg hs))
 let ob1 : OB := ⟨.o t i (xE l' (setM y p (.rd (.lst ob'.sz ob'.xs)))), sz, xs⟩
 let s1 : St := (s.drop l').set l (some ob1)
 have hpl : s1.hp l = some ob1 := yY
 have hpn : ∀ j, j ≠ l → s1.hp j = (s.drop l').hp j := fun j h1 => yG h1
 have hdl : (s.drop l').hp l = some ⟨.o t i (xE l' y), sz, xs⟩ := by
  show (bif Nat.beq l l' then none else xV l' (s.hp l)) = _
  rw [xY hlne, ho]; rfl
 have hsame0 : ∀ j, j ≠ l' → Same s.hp s1.hp B B V V j := fun j hj o e => by
  by_cases h1 : j = l
  · subst h1; rw [ho] at e; cases e; exact ⟨ob1, hpl, rfl, rfl, rfl⟩
  · refine ⟨⟨yR l' o.e, o.sz, o.xs⟩, ?_, rfl, rfl, rfl⟩
    rw [hpn j h1]
    show (bif Nat.beq j l' then none else xV l' (s.hp j)) = _
    rw [xY hj, e]; rfl
 have hsame : ∀ j, Same (s.drop l').hp s1.hp B B V V j := fun j o e => by
  by_cases h1 : j = l
  · subst h1; rw [hdl] at e; cases e; exact ⟨ob1, hpl, rfl, rfl, rfl⟩
  · exact ⟨o, by rw [hpn j h1]; exact e, rfl, rfl, rfl⟩
 have hex : ∀ j o, s1.hp j = some o → ∃ o2, (s.drop l').hp j = some o2 := fun j o e => by
  by_cases h1 : j = l
  · subst h1; exact ⟨_, hdl⟩
  · exact ⟨o, by rw [hpn j h1] at e; exact e⟩
 refine ⟨fun g => S g ∨ Blk V T l' g, hd'.below, hd'.s0, hd'.slt, fun t => ?_, ⟨fun j o e => ?_, fun j o g e hg => ?_, fun j o g e hg => ?_, fun j j' o o' g e1 e2 h1 h2 => ?_, fun j es e => ?_⟩, hd'.pin, hd'.gl⟩
 · exact RV.carry (fun _ h => h) (fun _ _ => rfl) _ _ (fun j _ => hsame j) (hd'.sl t)
 · by_cases h1 : j = l
   · subst h1
     rw [hpl] at e; cases e
     exact ⟨tt, cs, h0, hr2.carry (fun _ h => h) (fun _ _ => rfl) (fun i hi => hsame0 i (fun e => by rw [e] at hi; exact absurd ((vS l' (.o t i (setM y p (.rd (.lst ob'.sz ob'.xs))))).symm.trans hi) (by simp))) (fun _ _ => rfl), ha, hpos, hown, hB⟩
   · rw [hpn j h1] at e
     exact (hd'.rows.ro j o e).carry (fun _ h => h) (fun _ _ => rfl) (fun i _ => hsame i) (fun _ _ => rfl) (fun _ _ => rfl)
 · obtain ⟨o2, e2⟩ := hex j o e
   exact hd'.rows.me j o2 g e2 hg
 · obtain ⟨o2, e2⟩ := hex j o e
   exact hd'.rows.nd j o2 g e2 hg
 · obtain ⟨o2, e3⟩ := hex j o e1
   obtain ⟨o3, e4⟩ := hex j' o' e2
   exact hd'.rows.ds j j' o2 o3 g e3 e4 h1 h2
 · obtain ⟨hj, e⟩ := qJ e
   obtain ⟨⟨t, hq⟩, k1, arr, clock, k2, k3⟩ := hd'.rows.mp j es e
   exact ⟨⟨t, by rw [hpn j hj]; exact hq⟩, k1, arr, clock, k2, k3⟩
mutual
def jY : AV → Option AV
 | .v x => some (.v x)
 | .rd x => some x
 | .mix xs => (aAA xs).map .agg
 | _ => none
def aAA : List AV → Option (List AV)
 | [] => some []
 | x :: xs => match jY x, aAA xs with
  | some y, some ys => some (y :: ys)
  | _, _ => none
end
mutual
theorem RO1.read {hp : Nat → Option OB} : ∀ (x y : AV) (T : Nat → Prop) (cs : List Value), jY x = some y → RO1 S w hp B V x T cs → RA S w y cs ∧ asz y = asz x
 | .v x, y, T, cs, e, h => by
  simp only [jY, Option.some.injEq] at e; subst e
  unfold RO1 RD at h; unfold RA
  exact ⟨h.2, rfl⟩
 | .rd x, y, T, cs, e, h => by
  simp only [jY, Option.some.injEq] at e; subst e
  unfold RO1 at h
  exact ⟨h.2, by rw [asz]⟩
 | .mix xs, y, T, cs, e, h => by
  simp only [jY, Option.map_eq_some_iff] at e
  obtain ⟨ys, e, rfl⟩ := e
  unfold RO1 at h
  obtain ⟨q1, q2⟩ := ROs.read xs ys T cs e h
  unfold RA asz
  exact ⟨q1, q2⟩
 | .any, y, T, cs, e, h | .agg _, y, T, cs, e, h | .lst _ _, y, T, cs, e, h | .ptr _, y, T, cs, e, h | .own _, y, T, cs, e, h | .optr _ _ _ _, y, T, cs, e, h | .tup _, y, T, cs, e, h | .mapv _, y, T, cs, e, h | .fn _ _ _, y, T, cs, e, h | .ifc _ _, y, T, cs, e, h => by simp [jY] at e
theorem ROs.read {hp : Nat → Option OB} : ∀ (xs ys : List AV) (T : Nat → Prop) (cs : List Value), aAA xs = some ys → ROs S w hp B V xs T cs → RL S w ys cs ∧ xB ys = xB xs
 | [], ys, T, cs, e, h => by
  simp only [aAA, Option.some.injEq] at e; subst e
  unfold ROs at h; unfold RL
  exact ⟨h.1, rfl⟩
 | x :: xs, ys, T, cs, e, h => by
  unfold aAA at e
  cases h1 : jY x with
  | none => rw [h1] at e; cases e
  | some y =>
   cases h2 : aAA xs with
   | none => rw [h1, h2] at e; cases e
   | some zs =>
    rw [h1, h2] at e
    simp only [Option.some.injEq] at e; subst e
    unfold ROs at h
    obtain ⟨c1, c2, T1, T2, rfl, _, k1, k2⟩ := h
    obtain ⟨q1, q2⟩ := RO1.read x y T1 c1 h1 k1
    obtain ⟨q3, q4⟩ := ROs.read xs zs T2 c2 h2 k2
    unfold RL xB
    exact ⟨⟨c1, c2, rfl, q1, q3⟩, by rw [q2, q4]⟩
end
theorem RK.read {hp : Nat → Option OB} {sz : Nat} {T : Nat → Prop} {cs : List Value} {t : Option Nat} {y y' q : AV} (hy : jY y = some y') (h : RK S w hp B V sz [q] T cs (.o t 0 y)) : RL S w [y'] cs ∧ asz y' = sz := by
 obtain ⟨_, hs, c0, c1, c2, T0, T', T1, T2, rfl, _, _, h0, h1, h2⟩ := h
 obtain ⟨q1, q2⟩ := RO1.read y y' T1 c1 hy h1
 simp only [List.take_zero, List.drop_succ_cons, List.drop_nil, List.drop_zero] at h0 h2
 unfold RDL at h0 h2
 rw [h0.1, h2.1, List.nil_append, List.append_nil]
 exact ⟨RL.sing q1, by rw [q2, hs]⟩
theorem SimW.kind (h : SimW W M S0 s tmps w S B V T) {l : Nat} {ob ob' : OB} (ho : s.hp l = some ob) (hsz : ob'.sz = ob.sz) (hty : ∀ t', ob'.e.typ = some t' → ob.e.typ = some t') (hlen : ob'.xs.length = ob.xs.length) (ha' : (∀ x ∈ ob.xs, asz x = ob.sz) → ∀ cs, RK S w s.hp B V ob.sz ob.xs (T l) cs ob.e → (∀ x ∈ ob'.xs, asz x = ob.sz) ∧ ∃ T', (∀ g, T' g → T l g) ∧ RK S w s.hp B V ob.sz ob'.xs T' cs ob'.e) (hnc : ∀ Q, ob'.e ≠ .c Q := by (intro Q hQ; cases hQ)) :
 ∃ T', SimW W M S0 (s.set l (some ob')) tmps w S B V T' := by
 obtain ⟨tt, cs, h0, hr, ha, hpos, hown, hB⟩ := h.rows.ro l ob ho
 obtain ⟨hall, T', hT', hr'⟩ := ha' ha cs hr
 have hsame : ∀ j, Same s.hp (s.set l (some ob')).hp B B V V j := fun j o hjo => by
  by_cases hj : j = l
  · subst hj; rw [ho] at hjo; cases hjo; exact ⟨ob', yY, hsz, rfl, rfl⟩
  · exact ⟨o, by rw [yG hj]; exact hjo, rfl, rfl, rfl⟩
 exact ⟨_, h.inpl ho hsz (Grown.refl _ _) ⟨tt, cs, ⟨fun t' e => h0.1 t' (hty t' e), ROc.of hnc⟩, by rw [hsz]; exact hr'.carry (fun _ h => h) (fun _ _ => rfl) (fun j _ => hsame j) (fun _ _ => rfl), by rw [hsz]; exact hall, by rw [hsz]; exact hpos, by rw [hsz, hlen]; exact hown, hB⟩ hT'⟩
theorem SimW.give (h : SimW W M S0 s tmps w S B V T) {l t sz : Nat} {xs : List AV} {e : ET} (ho : s.hp l = some ⟨e, sz, xs⟩) (he : e = .d t ∨ e = .z t) (hok : okL l = true) : ∃ S' T', (∀ b, S b → S' b) ∧ SimW W M S0 (s.set l (some ⟨.s t, sz, xs⟩)) tmps w S' B V T' := by
 obtain ⟨tt, cs, h0, hr, ha, hpos, hown, hB⟩ := h.rows.ro l _ ho
 have hrd : RDL w xs (T l) cs := by rcases he with rfl | rfl <;> first | exact hr | exact hr.2
 have ht : tt = t := by rcases he with rfl | rfl <;> exact h0.1 t rfl
 have hsub : ∀ b, S b → S b ∨ T l b := fun b hb => .inl hb
 have hsame : ∀ j, Same s.hp (s.set l (some ⟨.s t, sz, xs⟩)).hp B B V V j := fun j o hjo => by
  by_cases hj : j = l
  · subst hj; rw [ho] at hjo; cases hjo; exact ⟨⟨.s t, sz, xs⟩, yY, rfl, rfl, rfl⟩
  · exact ⟨o, by rw [yG hj]; exact hjo, rfl, rfl, rfl⟩
 have hblk : ∀ j g, Blk V (upd T l Fa) j g → Blk V T j g ∧ (j = l → (V l).ownBlock = some g) := fun j g hg => by
  by_cases hj : j = l
  · subst hj; unfold Blk at hg; rw [upd_same] at hg
    rcases hg with hg | hg
    · exact ⟨.inl hg, fun _ => hg⟩
    · exact hg.elim
  · unfold Blk at hg ⊢; rw [upd_ne hj] at hg; exact ⟨hg, fun e => absurd e hj⟩
 have hex : ∀ j o, (s.set l (some ⟨.s t, sz, xs⟩)).hp j = some o → ∃ o', s.hp j = some o' := fun j o e => by
  by_cases hj : j = l
  · subst hj; exact ⟨_, ho⟩
  · exact ⟨o, by rw [yG hj] at e; exact e⟩
 refine ⟨fun g => S g ∨ T l g, upd T l Fa, hsub, h.below, fun b hb => .inl (h.s0 b hb), fun b hb => ?_, fun t => ?_, ⟨fun j o e => ?_, fun j o g e hg => ?_, fun j o g e hg => ?_, fun j j' o o' g e1 e2 h1 h2 => ?_, fun j es e => ?_⟩, h.pin, h.gl⟩
 · rcases hb with hb | hb
   · exact h.slt b hb
   · obtain ⟨_, k2, k3⟩ := h.rows.me l _ b ho (.inr hb)
     exact ⟨k2, .inr k3⟩
 · exact RV.carry hsub (fun _ _ => rfl) _ _ (fun j _ => hsame j) (h.sl t)
 · by_cases hj : j = l
   · subst hj
     rw [yY] at e; cases e
     rw [upd_same]
     exact ⟨tt, cs, ⟨fun t' e => by cases e; exact ht, trivial⟩, RDL.toRL _ _ _ (fun g hg => .inr hg) hrd, ha, hpos, hown, hB⟩
   · rw [yG hj] at e
     rw [upd_ne hj]
     exact (h.rows.ro j o e).carry hsub (fun _ _ => rfl) (fun i _ => hsame i) (fun _ _ => rfl) (fun _ _ => rfl)
 · obtain ⟨o', e'⟩ := hex j o e
   obtain ⟨b1, b2⟩ := hblk j g hg
   obtain ⟨k1, k2, k3⟩ := h.rows.me j o' g e' b1
   refine ⟨fun hs => hs.elim k1 (fun hs => ?_), k2, k3⟩
   by_cases hj : j = l
   · subst hj; exact h.rows.nd j _ g ho (b2 rfl) hs
   · exact (h.far ho).2 j o' g hj e' b1 (.inr hs)
 · obtain ⟨o', e'⟩ := hex j o e
   by_cases hj : j = l
   · subst hj; rw [upd_same]; exact fun k => k
   · rw [upd_ne hj]; exact h.rows.nd j o' g e' hg
 · obtain ⟨p, e3⟩ := hex j o e1
   obtain ⟨q, e4⟩ := hex j' o' e2
   exact h.rows.ds j j' p q g e3 e4 (hblk j g h1).1 (hblk j' g h2).1
 · obtain ⟨hj, e⟩ := qJ e
   obtain ⟨⟨t, hq⟩, k1, arr, clock, k2, k3⟩ := h.rows.mp j es e
   rw [upd_ne hj]
   exact ⟨⟨t, by rw [yG hj]; exact hq⟩, k1, arr, clock, k2, k3⟩
theorem RK.nil {hp : Nat → Option OB} {sz : Nat} {e : ET} (h : e.shut = true) : RK S w hp B V sz [] Fa [] e := by
 cases e with
 | s t => simp only [RK]; unfold RL; rfl
 | z t => simp only [RK]; exact ⟨noF, by unfold RDL; exact ⟨rfl, noF⟩⟩
 | d t => simp only [RK]; unfold RDL; exact ⟨rfl, noF⟩
 | u => simp only [RK]; unfold RDL; exact ⟨rfl, noF⟩
 | o _ _ _ => cases h
 | c Q => exact ⟨rfl, rfl, fun g hg => hg.elim⟩
 | p _ _ => cases h
theorem aFE (e : ET) : ∃ te, ∀ t', e.typ = some t' → te = t' := by
 cases hh : e.typ with
 | none => exact ⟨0, fun t' e => by cases e⟩
 | some q => exact ⟨q, fun t' e => by cases e; rfl⟩
theorem SimW.nilrow (h : SimW W M S0 s tmps w S B V T) {d sz : Nat} {e : ET} (hok : okL d = true) (he : e.row = true) (h0 : 0 < sz) :
 SimW W M S0 ((s.kill d).set d (some ⟨e, sz, []⟩)) tmps w S (upd B d 0) (upd V d (.slice none 0 0)) (upd T d Fa) := by
 obtain ⟨kn1, kn2⟩ := kG (s := s) (l := d)
 obtain ⟨te, hte⟩ := aFE e
 exact (h.kill d).repl (w' := w) hok kn1 (fun j o _ ho => kn2 j o ho) (Grown.refl _ _) ⟨te, [], ⟨hte, ROc.of (aGD he)⟩, RK.nil (aEs he), by simp, h0, World.ownsRow_nil _ _ _ _, fun g hg => by simp [Value.ownBlock] at hg⟩ (fun g hg => by
  rcases hg with hg | hg
  · simp [Value.ownBlock] at hg
  · exact hg.elim) (fun g hg => by simp [Value.ownBlock] at hg)
theorem ql {x : AV} {us : List Value} (h : RA S w x us) {ti : TI} (hagg : zV x = ti.isAgg) : ∃ u, RV S w s.hp B V x u ∧ (if ti.isAgg then Value.agg us.toArray else us.headD undef) = u ∧ (ti.isAgg = false → us.length = 1) := by
 obtain ⟨u, h1, h2, h3⟩ := RV.ofRA (hp := s.hp) (B := B) (V := V) h
 rw [← hagg]; exact ⟨u, h1, h2, h3⟩
theorem aIo (hΘ : yP P Θ) (hn : a.tmps.size = n) (hdf : a.defers = []) (h : SimW W M S0 s a.tmps w S B V T) {dst : Option Tmp} {t : TypeId} {x : Operand} {ty : TypeId} {pos : String} {after : Array Edge} {guard : Option (Nat × Bool)} {e : Eff}
 (hp : Pre P Θ ⟨dst, .load t x, ty, pos, after, guard⟩ s e) (hin : inN n dst = true) (hK : ∀ a' w', Sim W M S0 n (s.app dst e) a' w' → K a' w') : (⟨dst, .load t x, ty, pos, after, guard⟩ : Oper).wp P a w K Q := by
 simp only [Pre] at hp
 obtain ⟨hk, hp⟩ := hp
 obtain ⟨i0, hi0, hs0, hag, _⟩ := jc (hΘ t) hk
 rcases hp with ⟨y, hx, hagg, hsz, rfl⟩ | ⟨l, i, p, c, ob, hx, ho, hp⟩
 · have hv := yt h hx (fun c => by simp)
   unfold RV at hv
   unfold RA at hv
   obtain ⟨b, off, us, e, hb, hr, hc⟩ := hv
   simp only [List.cons.injEq, and_true] at e
   obtain ⟨u, hu, eu, h1⟩ := ql (s := s) (B := B) (V := V) hr hagg
   have hrun := uR (P := P) (w := w) t hi0 (by rw [hs0, ← hsz]; exact (RA.size _ _ hr).symm) hc (hag w) h1
   rw [eu] at hrun
   exact xw hn hdf h (by simp only [execOp, e, Sem.run_bind, hrun, Result.andThen_ok, Sem.run_pure]) hu hin hK
 · have hv := yt h hx (fun c => by simp)
   unfold RV at hv
   obtain ⟨ob', ho', hpx⟩ := hv
   rw [ho] at ho'; cases ho'
   have hro := h.rows.ro l ob ho
   rcases hp with ⟨y, z, hop, hq, hg, hagg, hsz, rfl⟩ | ⟨t', y, z, hop, hg, hp⟩
   · have hne : ob.xs ≠ [] := fun e => by rw [e] at hq; simp at hq
     obtain ⟨tt, cs, cap, cur, h0, hr, ha, hpos, hV, hheap, hc, hm, hs, ht⟩ := hro.block hne
     obtain ⟨qs, k1, k4⟩ : ∃ qs, RA S w y qs ∧ ∀ j u, qs[j]? = some u → cs[xB (ob.xs.take i) + j]? = some u := by
      rcases hop with hop | ⟨t0, k, hoe, hki⟩
      · have hr' : RL S w ob.xs cs := by
         cases hoe : ob.e with
         | s _ => rw [hoe] at hr; exact hr
         | z _ => rw [hoe] at hr; exact RDL.toRL _ _ _ (fun g hg => (hr.1 g hg).elim) hr.2
         | _ => rw [hoe] at hop; cases hop
        obtain ⟨qs, k1, k2, k3, k4⟩ := RL.at i hr' hq
        exact ⟨qs, k1, k4⟩
      · rw [hoe] at hr
        obtain ⟨_, c1, c2, T1, q1, _, q3, q4⟩ := hr
        have hilt : i < ob.xs.length := (List.getElem?_eq_some_iff.1 hq).1
        obtain ⟨qs, k1, k2, k3, k4⟩ := RL.at (i - k) q4 (by rw [List.getElem?_drop, show k + (i - k) = i from by omega]; exact hq)
        refine ⟨qs, k1, fun j u hu => ?_⟩
        have e1 := k4 j u hu
        have l1 := RDL.size _ _ _ q3
        have hk2 : k < ob.xs.length := by omega
        have l2 : xB (ob.xs.take i) = xB (ob.xs.take k) + xB ((ob.xs.drop k).take (i - k)) := by
         rw [xW (sz := ob.sz) (fun x hx => ha x (List.mem_of_mem_take hx)), xW (sz := ob.sz) (fun x hx => ha x (List.mem_of_mem_take hx)), xW (sz := ob.sz) (fun x hx => ha x (List.mem_of_mem_drop (List.mem_of_mem_take hx))), ← Nat.add_mul]
         congr 1
         simp only [List.length_take, List.length_drop]; omega
        rw [q1, List.getElem?_append_right (by omega), l2, l1]
        rw [show xB (ob.xs.take k) + xB ((ob.xs.drop k).take (i - k)) + j - xB (ob.xs.take k) = xB ((ob.xs.drop k).take (i - k)) + j from by omega]
        exact e1
     obtain ⟨ws, m1, m2, m3, m4⟩ := qm p y qs 0 c z k1 hg
     have hilt : i < ob.xs.length := (List.getElem?_eq_some_iff.1 hq).1
     have hpre : xB (ob.xs.take i) = i * ob.sz := by rw [xW (fun x hx' => ha x (List.mem_of_mem_take hx')), List.length_take, Nat.min_eq_left (by omega)]
     have hcell : ∀ j u, ws[j]? = some u → w.cell? ⟨B l, i * ob.sz + c + j, none⟩ = some u := fun j u hu => by
      have h1 := k4 _ _ (m4 j u hu)
      rw [hpre, Nat.sub_zero, ← Nat.add_assoc] at h1
      exact wX hheap ht h1
     obtain ⟨u, hu, eu, h1⟩ := ql (s := s) (B := B) (V := V) m2 hagg
     have hrun := uR (P := P) (w := w) t hi0 (by rw [hs0, ← hsz]; exact (RA.size _ _ m2).symm) hcell (hag w) h1
     rw [eu] at hrun
     exact xw hn hdf h (by simp only [execOp, hpx, Sem.run_bind, hrun, Result.andThen_ok, Sem.run_pure]) hu hin hK
   · obtain ⟨tt, cs, cap, cur, h0, hr, ha, hpos, hV, hheap, hc, hm, hs, ht⟩ := hro.block (hro.opn hop)
     obtain ⟨_, hty, hr1⟩ := RK.opn ha hop hr
     obtain ⟨vs, T1, Tr, k1, k2, k3, k4, k5⟩ := hr1.focus ha hg
     have hcell : ∀ j u, vs[j]? = some u → w.cell? ⟨B l, i * ob.sz + c + j, none⟩ = some u := fun j u hu => wX hheap ht (k4 j u hu)
     rcases hp with ⟨x', hof, hagg, hsz, rfl⟩ | ⟨d, el, sz, b, z0, ek, rfl, rfl, htl, hek, hok, rfl⟩ | ⟨d, sz', xs', el, sz, b, z0, rfl, rfl, htl, hf, hok, rfl⟩
     · obtain ⟨u, hu, eu, h1⟩ := RV.ofO k1 hof
       have hrun := uR (P := P) (w := w) t hi0 (by rw [hs0, ← hsz, aFm hof]; exact (RO1.size _ _ _ k1).symm) hcell (hag w) (by rw [← hagg]; exact h1)
       rw [← hagg, eu] at hrun
       exact xw hn hdf h (by simp only [execOp, hpx, Sem.run_bind, hrun, Result.andThen_ok, Sem.run_pure]) hu hin hK
     · unfold RO1 at k1
       unfold RD at k1
       obtain ⟨_, rfl, _⟩ := k1
       have hti : (Θ.look t).size = 1 := by rw [htl]; rfl
       have hrun := uR (P := P) (w := w) t hi0 (us := [Value.slice none 0 0]) (by rw [hs0, hti]; rfl) hcell (hag w) (fun _ => rfl)
       have hia : (Θ.look t).isAgg = false := by rw [htl]; rfl
       rw [hia] at hrun
       have hT := hΘ t
       rw [htl] at hT
       obtain ⟨_, _, _, _, _, _, _, _, hsz0, _⟩ := hT
       have hsim := h.nilrow (d := d + 1) (sz := sz) hok hek hsz0
       refine yo (v := .slice none 0 0) (w1 := w) (by simp only [execOp, hpx, Sem.run_bind, hrun, Result.andThen_ok, Sem.run_pure]; rfl) (hK _ _ (Sim.put hn hdf hsim (some d) ?_ hin))
       unfold RV; exact ⟨⟨_, yY⟩, upd_same.symm⟩
     · obtain ⟨v, B', V', T', hc1, h1v, hsim, hVL⟩ := h.unfold ho hop hg hok hf
       have hti : (Θ.look t).size = 1 := by rw [htl]; rfl
       have hrun := uR (P := P) (w := w) t hi0 (us := [v]) (b := B l) (off := i * ob.sz + c) (by rw [hs0, hti]; rfl) (fun j u hu => by
        cases j with
        | zero => simp at hu; subst hu; simpa using hc1
        | succ j => simp at hu) (hag w) (fun _ => rfl)
       have hia : (Θ.look t).isAgg = false := by rw [htl]; rfl
       rw [hia] at hrun
       refine yo (v := v) (w1 := w) (by simp only [execOp, hpx, Sem.run_bind, hrun, Result.andThen_ok, Sem.run_pure]; rfl) (hK _ _ (Sim.put hn hdf hsim (some d) ?_ hin))
       unfold RV; exact ⟨⟨_, yY⟩, hVL.symm⟩
theorem aHm (hΘ : yP P Θ) (hn : a.tmps.size = n) (hdf : a.defers = []) (h : SimW W M S0 s a.tmps w S B V T) {dst : Option Tmp} {t : TypeId} {x : Operand} {f : Nat} {ty : TypeId} {pos : String} {after : Array Edge} {guard : Option (Nat × Bool)} {e : Eff}
 (hp : Pre P Θ ⟨dst, .fieldAddr t x f, ty, pos, after, guard⟩ s e) (hin : inN n dst = true) (hK : ∀ a' w', Sim W M S0 n (s.app dst e) a' w' → K a' w') : (⟨dst, .fieldAddr t x f, ty, pos, after, guard⟩ : Oper).wp P a w K Q := by
 simp only [Pre] at hp
 obtain ⟨fs, z, o_, z_, ht, hf, hp⟩ := hp
 have hT := hΘ t
 rw [ht] at hT
 rcases hp with ⟨ys, y, hx, hy, hsum, rfl⟩ | ⟨l, i, p, c, hx, rfl⟩
 · have hv := yt h hx (fun c => by simp)
   unfold RV at hv
   unfold RA at hv
   obtain ⟨b, off, us, e, hb, hr, hc⟩ := hv
   simp only [List.cons.injEq, and_true] at e
   have hrun := aBe (P := P) (w := w) hT hf b off
   unfold RA at hr
   obtain ⟨ws, k1, k2, k3, k4⟩ := RL.at f hr hy
   refine xw (x := .ptr y) (v := .pointer (some ⟨b, off + o_, none⟩)) hn hdf h (by simp only [execOp, e, Sem.run_bind, hrun, Result.andThen_ok, Sem.run_pure]) ?_ hin hK
   unfold RV
   unfold RA
   exact ⟨b, off + o_, ws, rfl, hb, k1, fun j u hu => by have := hc _ _ (k4 j u hu); rwa [hsum, ← Nat.add_assoc] at this⟩
 · have hv := yt h hx (fun c => by simp)
   unfold RV at hv
   obtain ⟨ob, ho, e⟩ := hv
   have hrun := aBe (P := P) (w := w) hT hf (B l) (i * ob.sz + c)
   refine xw (x := .optr l i (p ++ [f]) (c + o_)) (v := .pointer (some ⟨B l, i * ob.sz + c + o_, none⟩)) hn hdf h (by simp only [execOp, e, Sem.run_bind, hrun, Result.andThen_ok, Sem.run_pure]) ?_ hin hK
   unfold RV
   exact ⟨ob, ho, by rw [Nat.add_assoc]⟩
theorem aHn (hΘ : yP P Θ) (hn : a.tmps.size = n) (hdf : a.defers = []) (h : SimW W M S0 s a.tmps w S B V T) {dst : Option Tmp} {t : TypeId} {x ix : Operand} {ty : TypeId} {pos : String} {after : Array Edge} {guard : Option (Nat × Bool)} {e : Eff}
 (hp : Pre P Θ ⟨dst, .indexAddr t x ix, ty, pos, after, guard⟩ s e) (hin : inN n dst = true) (hK : ∀ a' w', Sim W M S0 n (s.app dst e) a' w' → K a' w') : (⟨dst, .indexAddr t x ix, ty, pos, after, guard⟩ : Oper).wp P a w K Q := by
 simp only [Pre] at hp
 obtain ⟨k, j, hix, hp⟩ := hp
 have hei := uh h hix
 rcases hp with ⟨el, sz, b, z, ht, hp⟩ | ⟨el, m, sz, z, ht, hj, hp⟩
 · have hT := hΘ t
   rw [ht] at hT
   rcases hp with ⟨xs, y, hx, hy, rfl⟩ | ⟨l, ob, hx, ho, hsz, hj, rfl⟩
   · have hv := yt h hx (fun c => by simp)
     unfold RV at hv
     unfold RA at hv
     obtain ⟨A, c, e, h1, h2, h3, h0, h4⟩ := hv
     simp only [List.cons.injEq, and_true] at e
     have hj : j < xs.length := (List.getElem?_eq_some_iff.1 hy).1
     rcases h4 with h4 | ⟨b', off, us, rfl, hb', hr, hc⟩
     · rw [h4] at hj; simp at hj
     have hrun := run_indexAt (P := P) (w := w) hT (k := k) (A := ⟨b', off, none⟩) (c := c) hj
     rw [wG] at hrun
     obtain ⟨ws, k1, k2, k3, k4⟩ := RL.at j hr hy
     have hpre : xB (xs.take j) = j * sz := by rw [xW (fun x hx' => h3 x (List.mem_of_mem_take hx')), List.length_take, Nat.min_eq_left (by omega)]
     refine xw (x := .ptr y) (v := .pointer (some ⟨b', off + j * sz, none⟩)) hn hdf h (by simp only [execOp, e, hei, Sem.run_bind, hrun, Result.andThen_ok, Sem.run_pure]) ?_ hin hK
     unfold RV
     unfold RA
     exact ⟨b', off + j * sz, ws, rfl, hb', k1, fun i u hu => by have := hc _ _ (k4 i u hu); rwa [hpre, ← Nat.add_assoc] at this⟩
   · have hv := yt h hx (fun c => by simp)
     unfold RV at hv
     obtain ⟨_, e⟩ := hv
     have hne : ob.xs ≠ [] := fun e' => by rw [e'] at hj; simp at hj
     obtain ⟨tt, cs, cap, cur, h0, hr, ha, hpos, hV, _⟩ := (h.rows.ro l ob ho).block hne
     have hrun := run_indexAt (P := P) (w := w) hT (k := k) (A := ⟨B l, 0, none⟩) (c := cap) hj
     rw [wG] at hrun
     refine xw (x := .optr l j [] 0) (v := .pointer (some ⟨B l, 0 + j * sz, none⟩)) hn hdf h (by simp only [execOp, e, hV, hei, Sem.run_bind, hrun, Result.andThen_ok, Sem.run_pure]) ?_ hin hK
     unfold RV
     exact ⟨ob, ho, by rw [hsz, Nat.zero_add, Nat.add_zero]⟩
 · have hT := hΘ t
   rw [ht] at hT
   rcases hp with ⟨xs, y, hx, hy, hall, rfl⟩ | ⟨l, i, p, c, hx, rfl⟩
   · have hv := yt h hx (fun c => by simp)
     unfold RV at hv
     unfold RA at hv
     obtain ⟨b, off, us, e, hb, hr, hc⟩ := hv
     simp only [List.cons.injEq, and_true] at e
     unfold RA at hr
     have hrun := aBB (P := P) (w := w) hT (k := k) (A := ⟨b, off, none⟩) hj
     rw [wG] at hrun
     obtain ⟨ws, k1, k2, k3, k4⟩ := RL.at j hr hy
     have hpre : xB (xs.take j) = j * sz := by rw [xW (fun x hx' => hall x (List.mem_of_mem_take hx')), List.length_take, Nat.min_eq_left (by have := (List.getElem?_eq_some_iff.1 hy).1; omega)]
     refine xw (x := .ptr y) (v := .pointer (some ⟨b, off + j * sz, none⟩)) hn hdf h (by simp only [execOp, e, hei, Sem.run_bind, hrun, Result.andThen_ok, Sem.run_pure]) ?_ hin hK
     unfold RV
     unfold RA
     exact ⟨b, off + j * sz, ws, rfl, hb, k1, fun i u hu => by have := hc _ _ (k4 i u hu); rwa [hpre, ← Nat.add_assoc] at this⟩
   · have hv := yt h hx (fun c => by simp)
     unfold RV at hv
     obtain ⟨ob, ho, e⟩ := hv
     have hrun := aBB (P := P) (w := w) hT (k := k) (A := ⟨B l, i * ob.sz + c, none⟩) hj
     rw [wG] at hrun
     refine xw (x := .optr l i (p ++ [j]) (c + j * sz)) (v := .pointer (some ⟨B l, i * ob.sz + c + j * sz, none⟩)) hn hdf h (by simp only [execOp, e, hei, Sem.run_bind, hrun, Result.andThen_ok, Sem.run_pure]) ?_ hin hK
     unfold RV
     exact ⟨ob, ho, by rw [Nat.add_assoc]⟩
theorem RL.drop : ∀ {xs : List AV} {cs : List Value} (l : Nat), RL S w xs cs → RL S w (xs.drop l) (cs.drop (xB (xs.take l)))
 | xs, cs, 0, h => by simpa [xB] using h
 | [], cs, l + 1, h => by unfold RL at h; subst h; simp; unfold RL; rfl
 | x :: xs, cs, l + 1, h => by
  unfold RL at h
  obtain ⟨c1, c2, rfl, h1, h2⟩ := h
  rw [List.drop_succ_cons, List.take_succ_cons, xB, ← RA.size _ _ h1, ← List.drop_drop, List.drop_left]
  exact RL.drop l h2
theorem RL.take : ∀ {xs : List AV} {cs : List Value} (l : Nat), RL S w xs cs → RL S w (xs.take l) (cs.take (xB (xs.take l)))
 | xs, cs, 0, h => by simp [xB]; unfold RL; rfl
 | [], cs, l + 1, h => by unfold RL at h; subst h; simp; unfold RL; rfl
 | x :: xs, cs, l + 1, h => by
  unfold RL at h
  obtain ⟨c1, c2, rfl, h1, h2⟩ := h
  rw [List.take_succ_cons, xB, ← RA.size _ _ h1, List.take_append, Nat.add_sub_cancel_left, show c1.take (c1.length + xB (xs.take l)) = c1 from List.take_of_length_le (by omega)]
  unfold RL
  exact ⟨c1, _, rfl, h1, RL.take l h2⟩
theorem aD8 {x : Value} {k : IntKind} {i y : Nat} {c : BoundsCode} (hx : x = .int k (i : Int)) (h : i ≤ y) : (Instr.sliceBound x y c).run P w = .ok i w := by
 subst hx
 have h1 : (0 : Int) ≤ (i : Int) ∧ (i : Int) ≤ (y : Int) := by omega
 simp [Instr.sliceBound, asIntOf, h1]
theorem aHo (hΘ : yP P Θ) (hn : a.tmps.size = n) (hdf : a.defers = []) (h : SimW W M S0 s a.tmps w S B V T) {dst : Option Tmp} {t : TypeId} {x : Operand} {lo hi mx : Option Operand} {ty : TypeId} {pos : String} {after : Array Edge} {guard : Option (Nat × Bool)} {e : Eff}
 (hp : Pre P Θ ⟨dst, .slice t x lo hi mx, ty, pos, after, guard⟩ s e) (hin : inN n dst = true) (hK : ∀ a' w', Sim W M S0 n (s.app dst e) a' w' → K a' w') : (⟨dst, .slice t x lo hi mx, ty, pos, after, guard⟩ : Oper).wp P a w K Q := by
 simp only [Pre] at hp
 rcases hp with ⟨p, r, hx, hall, hr, h1, rfl⟩ | ⟨el, sz, b, z, xs, l, hh, ht, rfl, hx, hlo, hhi, hle, hle2, rfl⟩
 · have hone : ∀ (m : Option Operand), (∀ y ∈ m.toList, (xX (s.ev y)).isSome = true) → m.map a.eval = m.map fun y => (xX (s.ev y)).getD undef := fun m hm => by
    cases m with
    | none => rfl
    | some y =>
     have := hm y (by simp)
     obtain ⟨b, hb⟩ := Option.isSome_iff_exists.1 this
     simp [hb, zq h hb]
   refine xw (x := .v r) (v := r) hn hdf h ?_ (aA0 h1) hin hK
   simp only [execOp, zq h hx]
   rw [hone lo (fun y hy => hall y (by simp at hy ⊢; exact .inl hy)), hone hi (fun y hy => hall y (by simp at hy ⊢; exact .inr (.inl hy))), hone mx (fun y hy => hall y (by simp at hy ⊢; exact .inr (.inr hy)))]
   rw [Sem.run_bind, hr w]; rfl
 · have hT := hΘ t
   rw [ht] at hT
   obtain ⟨hu, _, i, zv, hi', _, hs', _, h0', _⟩ := hT
   have hv := yt h hx (fun c => by simp)
   unfold RV at hv
   unfold RA at hv
   obtain ⟨A, c, e, h1, h2, h3, h0, h4⟩ := hv
   simp only [List.cons.injEq, and_true] at e
   have hB : (Instr.sliceBounds true xs.length c (lo.map a.eval) (hi.map a.eval) none).run P w = .ok (l, hh, c) w := by
    have q1 : ∀ y, lo = some y → ∀ cd, (Instr.sliceBound (a.eval y) hh cd).run P w = .ok l w := fun y e cd => by
     subst e; unfold aCX at hlo; simp only at hlo; obtain ⟨k, hy⟩ := hlo; exact aD8 (uh h hy) hle
    have q2 : ∀ y, hi = some y → ∀ cd, (Instr.sliceBound (a.eval y) c cd).run P w = .ok hh w := fun y e cd => by
     subst e; unfold aAo at hhi; simp only at hhi; obtain ⟨k, hy⟩ := hhi; exact aD8 (uh h hy) (by omega)
    have q3 : lo = none → l = 0 := fun e => by subst e; unfold aCX at hlo; exact hlo
    have q4 : hi = none → hh = xs.length := fun e => by subst e; unfold aAo at hhi; exact hhi
    cases lo with
    | none =>
     have := q3 rfl
     subst this
     cases hi with
     | none => have := q4 rfl; subst this; simp [Instr.sliceBounds, Result.andThen]
     | some y => simp [Instr.sliceBounds, q2 y rfl, Result.andThen]
    | some z =>
     cases hi with
     | none => have := q4 rfl; subst this; simp [Instr.sliceBounds, q1 z rfl, Result.andThen]
     | some y => simp [Instr.sliceBounds, q2 y rfl, q1 z rfl, Result.andThen]
   have hrun : (Instr.sliceAt t (a.eval x) (lo.map a.eval) (hi.map a.eval) none).run P w = .ok (.slice (if c = l then A else A.map (·.add (l * sz))) (hh - l) (c - l)) w := by
    rw [e]
    simp only [Instr.sliceAt, Sem.run_bind, run_underlying hu, Result.andThen_ok, Instr.slice, hB, sizeOf, typeInfo, run_program, hi', Sem.run_pure, hs']
   refine xw (x := .lst sz ((xs.take hh).drop l)) (v := .slice (if c = l then A else A.map (·.add (l * sz))) (hh - l) (c - l)) hn hdf h (by simp only [execOp, Option.map_none, Sem.run_bind, hrun, Result.andThen_ok, Sem.run_pure]) ?_ hin hK
   unfold RV
   unfold RA
   have hlen : ((xs.take hh).drop l).length = hh - l := by simp; omega
   refine ⟨if c = l then A else A.map (·.add (l * sz)), c - l, by rw [hlen], by rw [hlen]; omega, by omega, fun y hy => h3 y (List.mem_of_mem_take (List.mem_of_mem_drop hy)), h0, ?_⟩
   by_cases hlh : l = hh
   · left; apply List.eq_nil_of_length_eq_zero; rw [hlen]; omega
   · rcases h4 with h4 | ⟨b', off, us, rfl, hb', hr, hc⟩
     · rw [h4] at hle2; simp at hle2; omega
     · right
       have hcl : ¬ c = l := by omega
       have ht1 : xB (xs.take hh) = hh * sz := by rw [xW (fun y hy => h3 y (List.mem_of_mem_take hy)), List.length_take, Nat.min_eq_left hle2]
       have hr1 := RL.drop l (RL.take hh hr)
       have ht2 : xB ((xs.take hh).take l) = l * sz := by rw [xW (fun y hy => h3 y (List.mem_of_mem_take (List.mem_of_mem_take hy))), List.length_take, List.length_take, Nat.min_eq_left (by omega)]
       rw [ht1, ht2] at hr1
       refine ⟨b', off + l * sz, _, by rw [if_neg hcl]; simp [wG], hb', hr1, fun j u hj => ?_⟩
       rw [List.getElem?_drop, List.getElem?_take] at hj
       split at hj
       · rw [Nat.add_assoc]; exact hc _ u hj
       · cases hj
end
end Go.Proofs.YtodckioppgjbdaaGreatDoor.AM
namespace Go.Proofs.YtodckioppgjbdaaGreatDoor.AM
open Go Go.RowKit Go.MapKept
theorem aGR (a b : ByteArray) : (a == b) = decide (a = b) := by
 obtain ⟨x⟩ := a
 obtain ⟨y⟩ := b
 show (x == y) = decide ((⟨x⟩ : ByteArray) = ⟨y⟩)
 by_cases h : x = y
 · subst h; simp
 · simp [h]
theorem RL.free {S S' : Nat → Prop} {w w' : World} : ∀ {xs : List AV} {cs : List Value} {bs : List Value}, xX.concL xs = some bs → RL S w xs cs → RL S' w' xs cs
 | [], cs, bs, _, h => by unfold RL at h ⊢; exact h
 | .v x :: xs, cs, bs, hc, h => by
  unfold RL at h ⊢
  obtain ⟨c1, c2, e, h1, h2⟩ := h
  unfold xX.concL at hc
  cases hb : xX.concL xs with
  | none => rw [hb] at hc; cases hc
  | some b => exact ⟨c1, c2, e, by unfold RA at h1 ⊢; exact h1, RL.free hb h2⟩
 | .any :: _, _, _, hc, _ | .agg _ :: _, _, _, hc, _ | .lst _ _ :: _, _, _, hc, _ | .ptr _ :: _, _, _, hc, _ | .own _ :: _, _, _, hc, _ | .optr _ _ _ _ :: _, _, _, hc, _ | .tup _ :: _, _, _, hc, _ | .mapv _ :: _, _, _, hc, _ | .mix _ :: _, _, _, hc, _ | .rd _ :: _, _, _, hc, _ | .fn _ _ _ :: _, _, _, hc, _ | .ifc _ _ :: _, _, _, hc, _ => by simp [xX.concL] at hc
theorem RV.free {S : Nat → Prop} {w : World} {hp B V} {x : AV} {u b : Value} (hc : xX x = some b) (h : RV S w hp B V x u) : ∀ S' w' hp' B' V', RV S' w' hp' B' V' x u := fun S' w' hp' B' V' => by
 cases x with
 | v x => unfold RV at h ⊢; exact h
 | agg xs =>
  unfold RV at h ⊢
  obtain ⟨cs, e, h⟩ := h
  simp only [xX, Option.map_eq_some_iff] at hc
  obtain ⟨bs, hb, _⟩ := hc
  exact ⟨cs, e, RL.free hb h⟩
 | fn f aa bb =>
  cases aa with
  | cons _ _ => simp [xX] at hc
  | nil =>
   cases bb with
   | cons _ _ => simp [xX] at hc
   | nil =>
    unfold RV at h ⊢
    obtain ⟨us, vs, e, h1, h2⟩ := h
    obtain ⟨rfl, rfl⟩ := aEw h1 h2
    exact ⟨[], [], e, by unfold RVs; rfl, by unfold RVs; rfl⟩
 | mix xs =>
  unfold RV at h ⊢
  obtain ⟨cs, e, h⟩ := h
  simp only [xX, Option.map_eq_some_iff] at hc
  obtain ⟨bs, hb, _⟩ := hc
  exact ⟨cs, e, (aCH hb h).2⟩
 | _ => simp [xX] at hc
theorem zA.find {q : ByteArray} : ∀ {m : List (ByteArray × AV)} {es : List MapEntry} (i : Nat), zA m es →
 (zY m q = none ∧ Instr.findNow .string (.string q) es i = some none ∧ aAR m q = m) ∨ ∃ j e y, j < es.length ∧ zY m q = some y ∧ Instr.findNow .string (.string q) es i = some (some (i + j, e.val)) ∧ es[j]? = some e ∧ e.key = .string q ∧ (∀ S w hp B V, RV S w hp B V y e.val) ∧ zA (aAR m q) (es.eraseIdx j)
 | [], es, i, h => by unfold zA at h; subst h; exact .inl ⟨rfl, rfl, rfl⟩
 | (k, y) :: m, es, i, h => by
  unfold zA at h
  obtain ⟨e, r, rfl, h1, h2, h3⟩ := h
  by_cases hk : q = k
  · subst hk
    refine .inr ⟨0, e, y, by simp, by simp [zY], ?_, rfl, h1, h2, by simp [aAR]; exact h3⟩
    simp [Instr.findNow, h1, Instr.sameNow, aGR]
  · have hs : Instr.sameNow .string (.string q) e.key = some false := by rw [h1]; simp [Instr.sameNow, aGR, hk]
    have hmd : aAR ((k, y) :: m) q = (k, y) :: aAR m q := by simp [aAR, hk]
    have hmg : zY ((k, y) :: m) q = zY m q := by simp [zY, hk]
    rcases zA.find (i + 1) h3 with ⟨a1, a2, a3⟩ | ⟨j, e', y', b0, b1, b2, b3, b4, b5, b6⟩
    · exact .inl ⟨hmg.trans a1, by rw [Instr.findNow, hs]; exact a2, by rw [hmd, a3]⟩
    · refine .inr ⟨j + 1, e', y', by simp; omega, hmg.trans b1, by rw [Instr.findNow, hs]; simp only; rw [b2, Nat.add_assoc, Nat.add_comm 1 j], by simpa using b3, b4, b5, ?_⟩
      rw [hmd, List.eraseIdx_cons_succ]
      unfold zA
      exact ⟨e, _, rfl, h1, h2, b6⟩
theorem zA.put {q : ByteArray} {x : AV} {u : Value} (hx : ∀ S w hp B V, RV S w hp B V x u) : ∀ {m : List (ByteArray × AV)} {es : List MapEntry} (clock : Nat), zA m es →
 (zY m q = none → zA (vE m q x) (es ++ [{ key := .string q, val := u, born := clock }])) ∧ ∀ i j e, Instr.findNow .string (.string q) es i = some (some (i + j, e)) → zA (vE m q x) (es.modify j fun e => { e with key := .string q, val := u })
 | [], es, clock, h => by
  unfold zA at h; subst h
  refine ⟨fun _ => ?_, fun i j e hf => by simp [Instr.findNow] at hf⟩
  simp only [vE, List.nil_append]
  unfold zA
  exact ⟨_, [], rfl, rfl, hx, by unfold zA; rfl⟩
 | (k, y) :: m, es, clock, h => by
  unfold zA at h
  obtain ⟨e, r, rfl, h1, h2, h3⟩ := h
  by_cases hk : q = k
  · subst hk
    refine ⟨fun hn => by simp [zY] at hn, fun i j e' hf => ?_⟩
    simp [Instr.findNow, h1, Instr.sameNow, aGR] at hf
    have : j = 0 := by omega
    subst this
    simp only [vE, if_true, List.modify_zero_cons]
    unfold zA
    exact ⟨_, r, rfl, rfl, hx, h3⟩
  · have hs : Instr.sameNow .string (.string q) e.key = some false := by rw [h1]; simp [Instr.sameNow, aGR, hk]
    have hmp : vE ((k, y) :: m) q x = (k, y) :: vE m q x := by simp [vE, hk]
    have hmg : zY ((k, y) :: m) q = zY m q := by simp [zY, hk]
    obtain ⟨p1, p2⟩ := zA.put hx clock h3
    rw [hmp, hmg]
    refine ⟨fun hn => ?_, fun i j e' hf => ?_⟩
    · rw [List.cons_append]; unfold zA; exact ⟨e, _, rfl, h1, h2, p1 hn⟩
    · rw [Instr.findNow, hs] at hf
      simp only at hf
      have hj : 0 < j := by
       rcases Nat.eq_zero_or_pos j with h0 | h0
       · subst h0
         rcases zA.find (q := q) (i + 1) h3 with ⟨_, a2, _⟩ | ⟨j', e2, y2, _, _, b2, _⟩
         · rw [a2] at hf; cases hf
         · rw [b2] at hf; simp at hf; omega
       · exact h0
      obtain ⟨j', rfl⟩ : ∃ j', j = j' + 1 := ⟨j - 1, by omega⟩
      rw [List.modify_succ_cons]
      unfold zA
      exact ⟨e, _, rfl, h1, h2, p2 (i + 1) j' e' (by rw [hf]; congr 3; omega)⟩
section
variable {P : Program} {Θ : Tab} {W : World} {M : Hand} {S0 : Nat → Prop} {n : Nat} {s : St} {a : Act} {w : World} {S : Nat → Prop} {B : Nat → Nat} {V : Nat → Value} {T : Nat → Nat → Prop} {tmps : Array Value}
variable {K : Act → World → Prop} {Q : Exit → Act → World → Prop}
theorem SimW.setM (h : SimW W M S0 s tmps w S B V T) {l : Nat} {ent ent' : List (ByteArray × AV)} {arr arr' : Array MapEntry} {clock clock' : Nat} (hl : s.mp l = some ent) (hb : w.heap[B l]? = some (.map arr clock)) (hR : zA ent' arr'.toList) :
 SimW W M S0 (s.setM l ent') tmps { w with heap := w.heap.setIfInBounds (B l) (.map arr' clock') } S B V T := by
 obtain ⟨⟨t0, a1⟩, a2, _⟩ := h.rows.mp l ent hl
 obtain ⟨k1, k2⟩ := heap_set (o' := .map arr' clock') hb
 have hbl : Blk V T l (B l) := .inr a2
 have hSw : ∀ b, S b → (w.heap.setIfInBounds (B l) (.map arr' clock'))[b]? = w.heap[b]? := fun b hs => k2 b (fun e => (h.far a1).1 b hs (e ▸ hbl))
 have hoth : ∀ j o g, j ≠ l → s.hp j = some o → Blk V T j g → (w.heap.setIfInBounds (B l) (.map arr' clock'))[g]? = w.heap[g]? := fun j o g hj hjo hg => k2 g (fun e => (h.far a1).2 j o g hj hjo hg (e ▸ hbl))
 have hgr : Grown w { w with heap := w.heap.setIfInBounds (B l) (.map arr' clock') } (Blk V T l) := ⟨rfl, rfl, rfl, by simp, fun k _ hk => k2 k (fun e => hk (by rw [e]; exact hbl))⟩
 have hnd : (V l).ownBlock ≠ some (B l) := fun e => h.rows.nd l _ _ a1 e a2
 refine ⟨h.below.trans hgr (fun g hb hlt => (h.rows.me l _ g a1 hb).2.2.resolve_left (by omega)), h.s0, fun b hb' => ⟨Nat.lt_of_lt_of_le (h.slt b hb').1 hgr.size, (h.slt b hb').2⟩, fun t => RV.carry (fun _ h => h) hSw _ _ (fun j _ => Same.refl j) (h.sl t), ⟨fun j o e => ?_, fun j o g e hg => ?_, h.rows.nd, h.rows.ds, fun j es e => ?_⟩, h.pin, h.gl⟩
 · by_cases hj : j = l
   · subst hj
     rw [show s.hp j = some o from e] at a1; cases a1
     obtain ⟨t, cs, q1, q2, q3, q4, q5, q6⟩ := h.rows.ro j _ e
     refine ⟨t, cs, q1, RL.mono (fun _ h => h) hSw _ _ q2, q3, q4, jX q5 (fun g hg => k2 g (fun e => hnd (by rw [hg, e]))), q6⟩
   · exact (h.rows.ro j o e).carry (fun _ h => h) hSw (fun j _ => Same.refl j) (fun g hg => hoth j o g hj e (.inr hg)) (fun g hg => hoth j o g hj e (.inl hg))
 · obtain ⟨q1, q2, q3⟩ := h.rows.me j o g e hg
   exact ⟨q1, Nat.lt_of_lt_of_le q2 hgr.size, q3⟩
 · by_cases hj : j = l
   · subst hj
     have : es = ent' := by simpa [St.setM] using e.symm
     subst this
     exact ⟨⟨t0, a1⟩, a2, arr', clock', k1, hR⟩
   · have e' : s.mp j = some es := by simpa [St.setM, xY hj] using e
     obtain ⟨⟨t2, b1⟩, b2, arr2, clock2, b3, b4⟩ := h.rows.mp j es e'
     exact ⟨⟨t2, b1⟩, b2, arr2, clock2, (hoth j _ _ hj b1 (.inr b2)).trans b3, b4⟩
theorem SimW.newMap (h : SimW W M S0 s tmps w S B V T) {d t : Nat} (hok : okL d = true) (hf : s.hp d = none) :
 SimW W M S0 ((s.set d (some ⟨.s t, 1, []⟩)).setM d []) tmps (w.alloc (.map #[] 0)) S (upd B d w.heap.size) (upd V d (.slice none 0 0)) (upd T d (fun g => g = w.heap.size)) := by
 have hb : Below w.heap.size w (w.alloc (.map #[] 0)) := (Below.refl _ _).alloc (Nat.le_refl _) _
 obtain ⟨hn1, hn2⟩ := jF h hf
 have hlt : w.heap.size < (w.alloc (.map #[] 0)).heap.size := (Array.getElem?_eq_some_iff.1 (heap_alloc w (.map #[] 0)).1).1
 have h1 := h.repl (l := d) (ob' := ⟨.s t, 1, []⟩) (b' := w.heap.size) (v' := .slice none 0 0) (T' := fun g => g = w.heap.size) hok hn1 (fun j o _ ho => hn2 j o ho) (Grown.of hb _) ⟨t, [], ⟨fun t' e => by cases e; rfl, trivial⟩, by simp only [RK]; unfold RL; rfl, by simp, Nat.one_pos, World.ownsRow_nil _ _ _ _, fun g hg => by simp [Value.ownBlock] at hg⟩ (fun g hg => by
  rcases hg with hg | hg
  · simp [Value.ownBlock] at hg
  · exact ⟨by rw [hg]; exact hlt, .inl (.inl (by rw [hg]; exact Nat.le_refl _))⟩) (fun g hg => by simp [Value.ownBlock] at hg)
 refine ⟨h1.below, h1.s0, h1.slt, h1.sl, ⟨h1.rows.ro, h1.rows.me, h1.rows.nd, h1.rows.ds, fun j es e => ?_⟩, h1.pin, h1.gl⟩
 by_cases hj : j = d
 · subst hj
   have : es = [] := by simpa [St.setM] using e.symm
   subst this
   rw [upd_same, upd_same]
   exact ⟨⟨t, yY⟩, rfl, #[], 0, (heap_alloc w _).1, by simp [zA]⟩
 · exact h1.rows.mp j es (by simpa [St.setM, xY hj] using e)
theorem aCM (h : SimW W M S0 s a.tmps w S B V T) {x : Operand} {l : Nat} {es : List (ByteArray × AV)} (hmp : s.mp l = some es) (hx : s.ev x = .mapv l) : a.eval x = .map (some (B l)) := by
 have hv := yt h hx (fun c => by simp)
 unfold RV at hv
 obtain ⟨ob, ho, hv⟩ := hv
 obtain ⟨⟨t, hq⟩, _⟩ := h.rows.mp l es hmp
 rw [ho] at hq; cases hq
 exact hv
theorem vV (q : ByteArray) : IsKey .string (.string q) := by simp [IsKey]
theorem aFY (hΘ : yP P Θ) (hn : a.tmps.size = n) (hdf : a.defers = []) (h : SimW W M S0 s a.tmps w S B V T) {dst : Option Tmp} {t : TypeId} {r : Option Operand} {ty : TypeId} {pos : String} {after : Array Edge} {guard : Option (Nat × Bool)} {e : Eff}
 (hp : Pre P Θ ⟨dst, .makeMap t r, ty, pos, after, guard⟩ s e) (hin : inN n dst = true) (hK : ∀ a' w', Sim W M S0 n (s.app dst e) a' w' → K a' w') : (⟨dst, .makeMap t r, ty, pos, after, guard⟩ : Oper).wp P a w K Q := by
 simp only [Pre] at hp
 obtain ⟨d, kt, vt, z, rfl, hf, hok, ht, hr, rfl⟩ := hp
 have hT := hΘ t
 rw [ht] at hT
 have hrun : (Instr.makeMap t (r.map a.eval)).run P w = .ok (.map (some w.heap.size)) (w.alloc (.map #[] 0)) := by
  cases r with
  | none => rfl
  | some x =>
   obtain ⟨k, m, hx⟩ := hr x (by simp)
   simp [Instr.makeMap, run_underlying hT.1, uh h hx, asInt, asIntOf, Result.andThen]
 refine yo (v := .map (some w.heap.size)) (w1 := w.alloc (.map #[] 0)) (by simp only [execOp, Sem.run_bind, hrun, Result.andThen_ok, Sem.run_pure]) (hK _ _ (Sim.put hn hdf (h.newMap (d := d + 1) (t := t) hok hf) (some d) ?_ hin))
 unfold RV
 exact ⟨_, by simp [St.setM, St.set]; rfl, by rw [upd_same]; rfl⟩
theorem aGp (hΘ : yP P Θ) (hn : a.tmps.size = n) (hdf : a.defers = []) (h : SimW W M S0 s a.tmps w S B V T) {dst : Option Tmp} {t : TypeId} {m k : Operand} {ok : Bool} {ty : TypeId} {pos : String} {after : Array Edge} {guard : Option (Nat × Bool)} {e : Eff}
 (hp : Pre P Θ ⟨dst, .lookup t m k ok, ty, pos, after, guard⟩ s e) (hin : inN n dst = true) (hK : ∀ a' w', Sim W M S0 n (s.app dst e) a' w' → K a' w') : (⟨dst, .lookup t m k ok, ty, pos, after, guard⟩ : Oper).wp P a w K Q := by
 simp only [Pre] at hp
 obtain ⟨l, ent, kk, kt, vt, z, ht, hm, hmp, hk, rfl⟩ := hp
 have hT := hΘ t
 rw [ht] at hT
 obtain ⟨hu, hkt, i, zv, hi, hz, hzr⟩ := hT
 obtain ⟨_, _, arr, clock, hb, hR⟩ := h.rows.mp l ent hmp
 have key : ∃ v, (Instr.lookup t (a.eval m) (a.eval k) ok).run P w = .ok (if ok then .tuple #[v, .bool (zY ent kk).isSome] else v) w ∧ ∀ S w hp B V, RV S w hp B V ((zY ent kk).getD z) v := by
  rw [aCM h hmp hm, uh h hk]
  rcases zA.find (q := kk) 0 hR with ⟨f1, f2, _⟩ | ⟨j, en, y, _, f1, f2, _, _, f3, _⟩
  · refine ⟨zv, ?_, by rw [f1]; exact hzr⟩
    have hzero : (zeroValue vt).run P w = .ok zv w := by simp [zeroValue, typeInfo, run_program, hi, hz, Result.andThen]
    simp [Instr.lookup, run_underlying hu, MapKept.run_getObj_map hb, MapKept.run_checkKey hkt (vV kk), MapKept.run_findKey hkt f2, hzero, f1, Result.andThen]
  · refine ⟨en.val, ?_, by rw [f1]; exact f3⟩
    simp [Instr.lookup, run_underlying hu, MapKept.run_getObj_map hb, MapKept.run_checkKey hkt (vV kk), MapKept.run_findKey hkt f2, f1, Result.andThen]
 obtain ⟨v, hrun, hv⟩ := key
 refine yo (v := if ok then .tuple #[v, .bool (zY ent kk).isSome] else v) (w1 := w) (by simp only [execOp, Sem.run_bind, hrun, Result.andThen_ok, Sem.run_pure]) (hK _ _ (Sim.put hn hdf h dst ?_ hin))
 cases ok with
 | false => exact hv _ _ _ _ _
 | true =>
  simp only [cond_true, if_true]
  unfold RV
  refine ⟨[v, .bool (zY ent kk).isSome], rfl, ?_⟩
  unfold RVs
  refine ⟨_, _, rfl, hv _ _ _ _ _, ?_⟩
  unfold RVs
  refine ⟨_, _, rfl, by unfold RV; exact ⟨rfl, rfl⟩, by unfold RVs; rfl⟩
theorem aDi (hΘ : yP P Θ) (hn : a.tmps.size = n) (hdf : a.defers = []) (h : SimW W M S0 s a.tmps w S B V T) {dst : Option Tmp} {t : TypeId} {m k x : Operand} {ty : TypeId} {pos : String} {after : Array Edge} {guard : Option (Nat × Bool)} {e : Eff}
 (hp : Pre P Θ ⟨dst, .mapUpdate t m k x, ty, pos, after, guard⟩ s e) (hin : inN n dst = true) (hK : ∀ a' w', Sim W M S0 n (s.app dst e) a' w' → K a' w') : (⟨dst, .mapUpdate t m k x, ty, pos, after, guard⟩ : Oper).wp P a w K Q := by
 simp only [Pre] at hp
 obtain ⟨l, ent, kk, b, kt, vt, z, ht, hm, hmp, hk, hx, hcs, rfl⟩ := hp
 have hT := hΘ t
 rw [ht] at hT
 obtain ⟨hu, hkt, i, zv, hi, hz, hzr⟩ := hT
 obtain ⟨_, _, arr, clock, hb, hR⟩ := h.rows.mp l ent hmp
 have hxv : ∀ S w hp B V, RV S w hp B V (s.ev x) b := by
  have hv := zu h x hcs
  rw [zq h hx] at hv
  exact RV.free hx hv
 obtain ⟨p1, p2⟩ := zA.put (q := kk) hxv clock hR
 have key : ∃ arr' clock', (Instr.mapUpdate t (a.eval m) (a.eval k) (a.eval x)).run P w = .ok () { w with heap := w.heap.setIfInBounds (B l) (.map arr' clock') } ∧ zA (vE ent kk (s.ev x)) arr'.toList := by
  rw [aCM h hmp hm, uh h hk, zq h hx]
  rcases zA.find (q := kk) 0 hR with ⟨f1, f2, _⟩ | ⟨j, en, y, fj, f1, f2, f4, f5, f3, _⟩
  · refine ⟨arr.push { key := .string kk, val := b, born := clock }, clock + 1, ?_, by simpa using p1 f1⟩
    simp [Instr.mapUpdate, run_underlying hu, MapKept.run_getObj_map hb, MapKept.run_checkKey hkt (vV kk), MapKept.run_findKey hkt f2, MapKept.run_setObj_map _ hb, Result.andThen]
  · rw [Nat.zero_add] at f2
    refine ⟨arr.modify j fun e => { e with key := .string kk, val := b }, clock, ?_, ?_⟩
    · have hj : arr[j]? = some en := by simpa using f4
      simp [Instr.mapUpdate, run_underlying hu, MapKept.run_getObj_map hb, MapKept.run_checkKey hkt (vV kk), MapKept.run_findKey hkt f2, hj, f5, MapKept.run_keyThatStays (vV kk), MapKept.run_setObj_map _ hb, Result.andThen]
    · have := p2 0 j en.val (by rw [Nat.zero_add]; exact f2)
      simpa using this
 obtain ⟨arr', clock', hrun, hR'⟩ := key
 refine aA4 (w1 := { w with heap := w.heap.setIfInBounds (B l) (.map arr' clock') }) (by simp only [execOp, Sem.run_bind, hrun, Result.andThen_ok, Sem.run_pure]) (hK _ _ (Sim.put hn hdf (h.setM hmp hb hR') dst (by unfold RV; trivial) hin))
theorem aGn (hΘ : yP P Θ) (hn : a.tmps.size = n) (hdf : a.defers = []) (h : SimW W M S0 s a.tmps w S B V T) {dst : Option Tmp} {t : TypeId} {m k x : Operand} {ty : TypeId} {pos : String} {after : Array Edge} {guard : Option (Nat × Bool)} {e : Eff}
 (hp : Pre P Θ ⟨dst, .insert t m k x, ty, pos, after, guard⟩ s e) (hin : inN n dst = true) (hK : ∀ a' w', Sim W M S0 n (s.app dst e) a' w' → K a' w') : (⟨dst, .insert t m k x, ty, pos, after, guard⟩ : Oper).wp P a w K Q := by
 simp only [Pre] at hp
 obtain ⟨l, ent, kk, b, kt, vt, z, ht, hm, hmp, hk, hx, hcs, rfl⟩ := hp
 have hT := hΘ t
 rw [ht] at hT
 obtain ⟨hu, hkt, i, zv, hi, hz, hzr⟩ := hT
 obtain ⟨_, _, arr, clock, hb, hR⟩ := h.rows.mp l ent hmp
 have hxv : ∀ S w hp B V, RV S w hp B V (s.ev x) b := by
  have hv := zu h x hcs
  rw [zq h hx] at hv
  exact RV.free hx hv
 obtain ⟨p1, p2⟩ := zA.put (q := kk) hxv clock hR
 have key : ∃ arr' clock', (Instr.mapUpdate t (a.eval m) (a.eval k) (a.eval x)).run P w = .ok () { w with heap := w.heap.setIfInBounds (B l) (.map arr' clock') } ∧ zA (vE ent kk (s.ev x)) arr'.toList := by
  rw [aCM h hmp hm, uh h hk, zq h hx]
  rcases zA.find (q := kk) 0 hR with ⟨f1, f2, _⟩ | ⟨j, en, y, fj, f1, f2, f4, f5, f3, _⟩
  · refine ⟨arr.push { key := .string kk, val := b, born := clock }, clock + 1, ?_, by simpa using p1 f1⟩
    simp [Instr.mapUpdate, run_underlying hu, MapKept.run_getObj_map hb, MapKept.run_checkKey hkt (vV kk), MapKept.run_findKey hkt f2, MapKept.run_setObj_map _ hb, Result.andThen]
  · rw [Nat.zero_add] at f2
    refine ⟨arr.modify j fun e => { e with key := .string kk, val := b }, clock, ?_, ?_⟩
    · have hj : arr[j]? = some en := by simpa using f4
      simp [Instr.mapUpdate, run_underlying hu, MapKept.run_getObj_map hb, MapKept.run_checkKey hkt (vV kk), MapKept.run_findKey hkt f2, hj, f5, MapKept.run_keyThatStays (vV kk), MapKept.run_setObj_map _ hb, Result.andThen]
    · have := p2 0 j en.val (by rw [Nat.zero_add]; exact f2)
      simpa using this
 obtain ⟨arr', clock', hrun, hR'⟩ := key
 refine aA4 (w1 := { w with heap := w.heap.setIfInBounds (B l) (.map arr' clock') }) (by simp only [execOp, Sem.run_bind, hrun, Result.andThen_ok, Sem.run_pure]) (hK _ _ (Sim.put hn hdf (h.setM hmp hb hR') dst (by unfold RV; trivial) hin))
theorem aGl (hΘ : yP P Θ) (hn : a.tmps.size = n) (hdf : a.defers = []) (h : SimW W M S0 s a.tmps w S B V T) {dst : Option Tmp} {ags : Array Operand} {ts : Array TypeId} {ty : TypeId} {pos : String} {after : Array Edge} {guard : Option (Nat × Bool)} {e : Eff}
 (hp : Pre P Θ ⟨dst, .call ⟨.builtin .delete, ags, ts⟩, ty, pos, after, guard⟩ s e) (hin : inN n dst = true) (hK : ∀ a' w', Sim W M S0 n (s.app dst e) a' w' → K a' w') : (⟨dst, .call ⟨.builtin .delete, ags, ts⟩, ty, pos, after, guard⟩ : Oper).wp P a w K Q := by
 simp only [Pre] at hp
 obtain ⟨x, y, t, t2, l, ent, kk, kt, vt, z, rfl, rfl, ht, hx, hmp, hy, rfl⟩ := hp
 have hT := hΘ t
 rw [ht] at hT
 obtain ⟨hu, hkt, i, zv, hi, hz, hzr⟩ := hT
 obtain ⟨_, _, arr, clock, hb, hR⟩ := h.rows.mp l ent hmp
 have ex := aCM h hmp hx
 have ey := uh h hy
 have key : ∃ arr', (Builtin.delete_ #[t, t2] ty #[.map (some (B l)), .string kk]).run P w = .ok (.tuple #[]) { w with heap := w.heap.setIfInBounds (B l) (.map arr' clock) } ∧ zA (aAR ent kk) arr'.toList := by
  rcases zA.find (q := kk) 0 hR with ⟨f1, f2, f3⟩ | ⟨j, en, y, fj, f1, f2, f4, f5, f3, f6⟩
  · refine ⟨arr, ?_, by rw [f3]; exact hR⟩
    simp [Builtin.delete_, run_underlying hu, MapKept.run_getObj_map hb, MapKept.run_checkKey hkt (vV kk), MapKept.run_findKey hkt f2, MapKept.run_setObj_map _ hb, Result.andThen]
  · rw [Nat.zero_add] at f2
    refine ⟨arr.eraseIdxIfInBounds j, ?_, by
     have hj : j < arr.size := by simpa using fj
     rw [Array.eraseIdxIfInBounds, dif_pos hj]; simpa using f6⟩
    simp [Builtin.delete_, run_underlying hu, MapKept.run_getObj_map hb, MapKept.run_checkKey hkt (vV kk), MapKept.run_findKey hkt f2, MapKept.run_setObj_map _ hb, Result.andThen]
 obtain ⟨arr', hrun, hR'⟩ := key
 refine yo (v := .tuple #[]) (w1 := { w with heap := w.heap.setIfInBounds (B l) (.map arr' clock) }) (by simp only [execOp, resolve, invoke, builtin, Sem.run_bind, Sem.run_pure, Result.andThen_ok, List.map_toArray, List.map_cons, List.map_nil, ex, ey, hrun]) (hK _ _ (Sim.put hn hdf (h.setM hmp hb hR') dst (by unfold RV; exact ⟨[], rfl, by unfold RVs; rfl⟩) hin))
theorem aCa {t ty e : TypeId} {i : TypeInfo} (ht : P.underlying t = some (.slice e)) (hi : P.info? e = some i) {base t0 sz m : Nat} {v : Value} {xs : List Value} (hown : w.ownsRow base t0 sz v m xs) (A : Option Addr) (c : Nat) :
 (Builtin.append_ #[t, t] ty #[v, .slice A 0 c]).run P w = .ok v w := by
 have hf : (Builtin.firstCells i.size 0 (.slice A 0 c)).run P w = .ok #[] w := by
  cases A with
  | none => simp [Builtin.firstCells]
  | some a => exact run_firstCells_some (P := P) w i.size 0 a 0 c [] (by simp) (by simp)
 rcases hown.2 with ⟨rfl, rfl⟩ | ⟨g, cap, cur, rfl, _, _, hc, _⟩
 · simp [Builtin.append_, run_underlying ht, sizeOf, typeInfo, hi, Builtin.lenOf, hf]
 · simp [Builtin.append_, run_underlying ht, sizeOf, typeInfo, hi, Builtin.lenOf, hf, hc, storeCells]
theorem aCA {t ty el : TypeId} {sz b : Nat} {z : AV} (hT : vB P t (.slice el sz b z)) {v : Value} {m k : Nat} {cs us : List Value} (hown : w.ownsRow 0 el sz v m cs) {A : Option Addr} {c : Nat} (hus : us.length = k * sz) (h1 : ∀ u ∈ us, u.oneCell' = true) (hy : k = 0 ∨ ∃ ad, A = some ad ∧ ∀ j u, us[j]? = some u → w.cell? (ad.add j) = some u) (hb : (m + k) * b ≤ 140737488355328) (hm : m + k ≤ maxLen) :
 ∃ v' w1, (Builtin.append_ #[t, t] ty #[v, .slice A k c]).run P w = .ok v' w1 ∧ w1.ownsRow 0 el sz v' (m + k) (cs ++ us) ∧ Grown w w1 (fun g => v.ownBlock = some g) ∧ ∀ g, v'.ownBlock = some g → g < w1.heap.size ∧ (v.ownBlock = some g ∨ w.heap.size ≤ g) := by
 obtain ⟨hu, _, i, zv, hi, hzv, hs, hby, h0, hasz, hzr⟩ := hT
 rcases Nat.eq_zero_or_pos k with hk | hk
 · subst hk
   have : us = [] := List.eq_nil_of_length_eq_zero (by omega)
   subst this
   exact ⟨v, w, aCa hu hi hown A c, by simpa using hown, Grown.refl _ _, fun g hg => ⟨(hown.lt g hg).2, .inl hg⟩⟩
 · rcases hy with hy | ⟨ad, rfl, hc⟩
   · omega
   have hzs : zv.cells.size = sz := by rw [← Array.length_toList, RD.size _ _ _ (hzr w), hasz]
   obtain ⟨g, cap, w1, hrun, hown', hgr, hat, hlt⟩ := run_append_lies (P := P) w t ty 0 el i zv sz b hu hi hzv hs hby hzs h0 v m cs hown ad k c us hus hc h1 hk hm hb (Nat.zero_le _) w.heap.size rfl
   exact ⟨_, w1, hrun, hown', Grown.by hgr, fun g' hg' => by
    simp [Value.ownBlock] at hg'; subst hg'
    exact ⟨hlt, hat.imp id (fun e => by omega)⟩⟩
theorem aDC {hp : Nat → Option OB} {T : Nat → Prop} {ob : OB} {b : Nat} {v : Value} (h : RO S w hp B V T ob b v) : ∃ A c us, v = .slice A ob.xs.length c ∧ us.length = ob.xs.length * ob.sz ∧ RK S w hp B V ob.sz ob.xs T us ob.e ∧ (ob.xs.length = 0 ∨ ∃ ad, A = some ad ∧ ∀ j u, us[j]? = some u → w.cell? (ad.add j) = some u) := by
 obtain ⟨t, cs, h1, h2, h3, h4, h5, h6⟩ := h
 rcases h5.2 with ⟨rfl, hl⟩ | ⟨g, cap, cur, rfl, _, hg, hc, hm, hs, ht⟩
 · exact ⟨none, 0, cs, by rw [hl], h5.1, h2, .inl hl⟩
 · exact ⟨_, cap, cs, rfl, h5.1, h2, .inr ⟨_, rfl, fun j u hu => by rw [wG, Nat.zero_add]; exact wX hg ht hu⟩⟩
theorem aGk (hΘ : yP P Θ) (hn : a.tmps.size = n) (hdf : a.defers = []) (h : SimW W M S0 s a.tmps w S B V T) {dst : Option Tmp} {ags : Array Operand} {ts : Array TypeId} {ty : TypeId} {pos : String} {after : Array Edge} {guard : Option (Nat × Bool)} {e : Eff}
 (hp : Pre P Θ ⟨dst, .call ⟨.builtin .append, ags, ts⟩, ty, pos, after, guard⟩ s e) (hin : inN n dst = true) (hK : ∀ a' w', Sim W M S0 n (s.app dst e) a' w' → K a' w') : (⟨dst, .call ⟨.builtin .append, ags, ts⟩, ty, pos, after, guard⟩ : Oper).wp P a w K Q := by
 simp only [Pre] at hp
 obtain ⟨x, y, t, el, sz, b, z, l, ob, ys, rfl, rfl, ht, hx, ho, hok, hz, hb, hm, hp⟩ := hp
 have hT := hΘ t
 rw [ht] at hT
 have hvx := yt h hx (fun c => by simp)
 unfold RV at hvx
 obtain ⟨_, ex⟩ := hvx
 obtain ⟨tt, cs, q0, qk, qa, qpos, qown, qB⟩ := h.rows.ro l ob ho
 have hsz0 : 0 < sz := hz ▸ qpos
 rcases hp with ⟨t0, hk0, rfl, hy, rfl⟩ | ⟨l', ob', hk0, hy, hne, hok', ho', hd', hz', rfl, hpos', rfl⟩
 · have htt : tt = t0 := by rcases hk0 with e | e <;> exact q0.1 t0 (by rw [e]; rfl)
   subst htt
   have hcs : RL S w ob.xs cs := by
    rcases hk0 with e | e
    · rw [e] at qk; exact qk
    · rw [e] at qk; exact RDL.toRL _ _ _ (fun g hg => (qk.1 g hg).elim) qk.2
   have hsrc : ∃ A c us, a.eval y = .slice A ys.length c ∧ us.length = ys.length * sz ∧ RL S w ys us ∧ (∀ x ∈ ys, asz x = sz) ∧ (ys.length = 0 ∨ ∃ ad, A = some ad ∧ ∀ j u, us[j]? = some u → w.cell? (ad.add j) = some u) := by
    rcases hy with hy | ⟨l', ob', hy, hne, ho', hop, hz', rfl⟩
    · have hv := yt h hy (fun c => by simp)
      unfold RV at hv
      unfold RA at hv
      obtain ⟨A, c, e, _, _, h3, _, h4⟩ := hv
      simp only [List.cons.injEq, and_true] at e
      rcases h4 with h4 | ⟨b', off, us, rfl, _, hr, hc⟩
      · subst h4; exact ⟨A, c, [], e, by simp, by unfold RL; rfl, by simp, .inl rfl⟩
      · exact ⟨_, c, us, e, by rw [RL.size _ _ hr, xW h3], hr, h3, .inr ⟨_, rfl, fun j u hu => by rw [wG]; exact hc j u hu⟩⟩
    · have hv := yt h hy (fun c => by simp)
      unfold RV at hv
      obtain ⟨_, e⟩ := hv
      obtain ⟨A, c, us, e1, e2, e3, e4⟩ := aDC (h.rows.ro l' ob' ho')
      obtain ⟨_, _, _, _, ha', _⟩ := h.rows.ro l' ob' ho'
      refine ⟨A, c, us, by rw [e, e1], by rw [e2, hz'], ?_, hz' ▸ ha', e4⟩
      cases hoe : ob'.e with
      | s _ => rw [hoe] at e3; exact e3
      | z _ => rw [hoe] at e3; exact RDL.toRL _ _ _ (fun g hg => (e3.1 g hg).elim) e3.2
      | _ => rw [hoe] at hop; cases hop
   obtain ⟨A, c, us, ey, hul, hur, hya, hsc⟩ := hsrc
   obtain ⟨v', w1, hrun, hown', hgr, hat⟩ := aCA (P := P) (ty := ty) hT (by rw [← hz]; exact qown) (A := A) (c := c) hul (RL.one _ _ hur) hsc hb hm
   obtain ⟨kn1, kn2⟩ := kG (s := s) (l := l)
   have hSw : ∀ b, S b → w1.heap[b]? = w.heap[b]? := fun b hs => hgr.block b (h.slt b hs).1 (fun hb => (h.far ho).1 b hs (.inl hb))
   have hsim := (h.kill l).repl (l := l) (w' := w1) (ob' := ⟨.s tt, sz, ob.xs ++ ys⟩) (b' := (v'.ownBlock).getD 0) (v' := v') (T' := Fa) hok kn1 (fun j o _ ho => kn2 j o ho) ⟨hgr.os, hgr.tape, hgr.output, hgr.size, fun k hk hn => hgr.block k hk (fun hb => hn ⟨⟨_, jr ho⟩, .inl hb⟩)⟩ ⟨tt, cs ++ us, ⟨fun t' e => by cases e; rfl, trivial⟩, RL.mono (fun _ h => h) hSw _ _ (RL.app hcs hur), fun x hx => (List.mem_append.1 hx).elim (fun hx => hz ▸ qa x hx) (hya x), hsz0, by simpa using hown', fun g hg => by rw [hg]; rfl⟩ (fun g hg => by
    rcases hg with hg | hg
    · obtain ⟨k1, k2⟩ := hat g hg
      exact ⟨k1, .inl (k2.elim (fun k => .inr ⟨⟨_, jr ho⟩, .inl k⟩) .inl)⟩
    · exact hg.elim) (fun g _ hg => hg)
   refine yo (v := v') (w1 := w1) ?_ (hK _ _ ?_)
   · simp only [execOp, resolve, invoke, builtin, Sem.run_bind, Sem.run_pure, Result.andThen_ok, List.map_toArray, List.map_cons, List.map_nil, ex, ey, hrun]
   · refine Sim.put hn hdf hsim dst ?_ hin
     unfold RV
     exact ⟨⟨_, yY⟩, upd_same.symm⟩
 · have htt : tt = el := by rcases hk0 with e | e | ⟨e, _⟩ <;> exact q0.1 el (by rw [e]; rfl)
   subst htt
   obtain ⟨T1, hT1, hcs⟩ : ∃ T1 : Nat → Prop, (∀ g, T1 g → T l g) ∧ RDL w ob.xs T1 cs := by
    rcases hk0 with e | e | ⟨e, hno⟩
    · rw [e] at qk; exact ⟨T l, fun _ h => h, qk.2⟩
    · rw [e] at qk; exact ⟨T l, fun _ h => h, qk⟩
    · rw [e] at qk
      refine ⟨Fa, fun g hg => hg.elim, ?_⟩
      have : ∀ (xs : List AV) (cs : List Value), (∀ x ∈ xs, zb x = true) → RL S w xs cs → RDL w xs Fa cs := by
       intro xs
       induction xs with
       | nil => intro cs _ h; unfold RL at h; unfold RDL; exact ⟨h, noF⟩
       | cons x xs ih =>
        intro cs hx h
        unfold RL at h
        obtain ⟨c1, c2, e, h1, h2⟩ := h
        unfold RDL
        exact ⟨c1, c2, Fa, Fa, e, Split.l0 noF, RA.toRD noF _ _ (hx x (by simp)) h1, ih c2 (fun y hy => hx y (List.mem_cons_of_mem _ hy)) h2⟩
      exact this _ _ hno qk
   have hv := yt h hy (fun c => by simp)
   unfold RV at hv
   obtain ⟨_, ey⟩ := hv
   obtain ⟨A, c, us, e1, e2, e3, e4⟩ := aDC (h.rows.ro l' ob' ho')
   obtain ⟨_, _, _, _, ha', _⟩ := h.rows.ro l' ob' ho'
   have hus : RDL w ob'.xs (T l') us := by
    cases hoe : ob'.e with
    | s _ => rw [hoe] at hd'; cases hd'
    | o _ _ _ => rw [hoe] at hd'; cases hd'
    | z _ => rw [hoe] at e3; exact e3.2
    | d _ => rw [hoe] at e3; exact e3
    | u => rw [hoe] at e3; exact e3
    | c Q => rw [hoe] at hd'; cases hd'
    | p _ _ => rw [hoe] at hd'; cases hd'
   rw [e1] at ey
   obtain ⟨v', w1, hrun, hown', hgr, hat⟩ := aCA (P := P) (ty := ty) hT (by rw [← hz]; exact qown) (A := A) (c := c) (by rw [e2, hz']) (RDL.one _ _ _ hus) e4 hb hm
   have hk1 := (h.kill l).drop l' hok'
   have hll : l ≠ l' := Ne.symm hne
   have hgl : ((s.kill l).drop l').hp l = some ⟨yR l' (yR l ob.e), ob.sz, ob.xs⟩ := by
    show (bif Nat.beq l l' then none else xV l' (xV l (s.hp l))) = _
    rw [xY hll, ho]; rfl
   have hex : ∀ j o, ((s.kill l).drop l').hp j = some o → j ≠ l' ∧ ∃ o1, s.hp j = some o1 ∧ o = ⟨yR l' (yR l o1.e), o1.sz, o1.xs⟩ := fun j o e => by
    have e0 : (bif Nat.beq j l' then none else xV l' (xV l (s.hp j))) = some o := e
    have hj : j ≠ l' := fun e' => by rw [e'] at e0; simp at e0
    rw [xY hj] at e0
    obtain ⟨o1, f1, f2⟩ := y7 e0
    obtain ⟨o2, f3, f4⟩ := y7 f1
    exact ⟨hj, o2, f3, by rw [f2, f4]⟩
   have hn1 : ∀ t, (((s.kill l).drop l').sl t).names l = false := fun t => by
    show AV.names l (bif ((s.kill l).sl t).names l' then .any else (s.kill l).sl t) = false
    cases ((s.kill l).sl t).names l' with
    | true => rfl
    | false => exact (kG (s := s) (l := l)).1 t
   have hn2 : ∀ j o, j ≠ l → ((s.kill l).drop l').hp j = some o → yS l o.e = false := fun j o _ e => by
    obtain ⟨_, o1, _, rfl⟩ := hex j o e
    cases hq : yS l (yR l' (yR l o1.e)) with
    | false => rfl
    | true => exact absurd ((vS l o1.e).symm.trans (vo l' l _ hq)) (by simp)
   have hTw : ∀ g, T l' g → w1.heap[g]? = w.heap[g]? := fun g hg => hgr.block g (h.rows.me l' ob' g ho' (.inr hg)).2.1 (fun hb => hne (h.rows.ds l' l ob' ob g ho' ho (.inr hg) (.inl hb)))
   have hTw1 : ∀ g, T1 g → w1.heap[g]? = w.heap[g]? := fun g hg => hgr.block g (h.rows.me l ob g ho (.inr (hT1 g hg))).2.1 (fun hb => h.rows.nd l ob g ho hb (hT1 g hg))
   have hsim := hk1.repl (l := l) (w' := w1) (ob' := ⟨.d tt, sz, ob.xs ++ ob'.xs⟩) (b' := (v'.ownBlock).getD 0) (v' := v') (T' := fun g => T1 g ∨ T l' g) hok hn1 hn2 ⟨hgr.os, hgr.tape, hgr.output, hgr.size, fun k hk hn => hgr.block k hk (fun hb => hn ⟨⟨_, hgl⟩, .inl hb⟩)⟩ ⟨tt, cs ++ us, ⟨fun t' e => by cases e; rfl, trivial⟩, RDL.app (RDL.mono _ _ _ hTw1 hcs) (RDL.mono _ _ _ hTw hus) ⟨fun g => Iff.rfl, fun g a b => hne (h.rows.ds l' l ob' ob g ho' ho (.inr b) (.inr (hT1 g a)))⟩, fun x hx => (List.mem_append.1 hx).elim (fun hx => hz ▸ qa x hx) (fun hx => hz' ▸ ha' x hx), hsz0, by simpa using hown', fun g hg => by rw [hg]; rfl⟩ (fun g hg => by
    rcases hg with hg | hg | hg
    · obtain ⟨k1, k2⟩ := hat g hg
      exact ⟨k1, .inl (k2.elim (fun k => .inr ⟨⟨_, hgl⟩, .inl k⟩) .inl)⟩
    · exact ⟨Nat.lt_of_lt_of_le (h.rows.me l ob g ho (.inr (hT1 g hg))).2.1 hgr.size, .inl (.inr ⟨⟨_, hgl⟩, .inr (hT1 g hg)⟩)⟩
    · obtain ⟨m1, m2, m3⟩ := h.rows.me l' ob' g ho' (.inr hg)
      refine ⟨Nat.lt_of_lt_of_le m2 hgr.size, .inr ⟨m1, m3, fun j o e hb => ?_⟩⟩
      obtain ⟨hj, o1, f1, _⟩ := hex j o e
      exact hj (h.rows.ds j l' o1 ob' g f1 ho' hb (.inr hg))) (fun g hg hT => by
    obtain ⟨k1, k2⟩ := hat g hg
    rcases hT with hT | hT
    · rcases k2 with k2 | k2
      · exact h.rows.nd l ob g ho k2 (hT1 g hT)
      · have := (h.rows.me l ob g ho (.inr (hT1 g hT))).2.1; omega
    · rcases k2 with k2 | k2
      · exact hne (h.rows.ds l' l ob' ob g ho' ho (.inr hT) (.inl k2))
      · have := (h.rows.me l' ob' g ho' (.inr hT)).2.1; omega)
   refine yo (v := v') (w1 := w1) ?_ (hK _ _ ?_)
   · simp only [execOp, resolve, invoke, builtin, Sem.run_bind, Sem.run_pure, Result.andThen_ok, List.map_toArray, List.map_cons, List.map_nil, ex, ey, hrun]
   · refine Sim.put hn hdf hsim dst ?_ hin
     unfold RV
     exact ⟨⟨_, yY⟩, upd_same.symm⟩
theorem aJq (hΘ : yP P Θ) (hn : a.tmps.size = n) (hdf : a.defers = []) (h : SimW W M S0 s a.tmps w S B V T) {dst : Option Tmp} {ags : Array Operand} {ts : Array TypeId} {ty : TypeId} {pos : String} {after : Array Edge} {guard : Option (Nat × Bool)} {e : Eff}
 (hp : Pre P Θ ⟨dst, .call ⟨.builtin .len, ags, ts⟩, ty, pos, after, guard⟩ s e) (hin : inN n dst = true) (hK : ∀ a' w', Sim W M S0 n (s.app dst e) a' w' → K a' w') : (⟨dst, .call ⟨.builtin .len, ags, ts⟩, ty, pos, after, guard⟩ : Oper).wp P a w K Q := by
 simp only [Pre] at hp
 obtain ⟨x, t, m, rfl, rfl, hl, hok, rfl⟩ := hp
 have hT := hΘ t
 have hrun : (Builtin.len_ #[t] ty #[a.eval x]).run P w = .ok (.int .i64 (m : Int)) w := by
  cases hx : s.ev x with
  | v c =>
   rw [hx] at hl hok
   rw [uh h hx]
   unfold kX at hl
   split at hl
   · rename_i bb hq
     cases hq
     simp only [aCV] at hok
     simp at hl
     rw [hok] at hT
     simp [Builtin.len_, run_underlying hT.1, goInt, hl]
   · rename_i hq
     cases hq
     simp only [aCV] at hok
     obtain ⟨el, sz', b, z, ht⟩ := hok
     rw [ht] at hT
     simp at hl
     simp [Builtin.len_, run_underlying hT.1, goInt, ← hl]
   · rename_i hq; cases hq
   · rename_i hq; cases hq
   · cases hl
  | lst sz xs =>
   rw [hx] at hl hok
   have hv := yt h hx (fun c => by simp)
   unfold RV at hv
   unfold RA at hv
   obtain ⟨A, c, e, _⟩ := hv
   simp only [List.cons.injEq, and_true] at e
   obtain ⟨el, sz', b, z, ht⟩ := hok
   rw [ht] at hT
   simp [kX] at hl
   simp [Builtin.len_, run_underlying hT.1, goInt, e, hl]
  | own l =>
   rw [hx] at hl hok
   have hv := yt h hx (fun c => by simp)
   unfold RV at hv
   obtain ⟨⟨ob, ho⟩, e⟩ := hv
   obtain ⟨el, sz', b, z, ht⟩ := hok
   rw [ht] at hT
   simp [kX, ho] at hl
   obtain ⟨A, c, us, e1, _⟩ := aDC (h.rows.ro l ob ho)
   simp [Builtin.len_, run_underlying hT.1, goInt, e, e1, hl]
  | _ => rw [hx] at hl; simp [kX] at hl
 refine xw (x := .v (.int .i64 (m : Int))) (v := .int .i64 (m : Int)) hn hdf h ?_ (aA0 rfl) hin hK
 simp only [execOp, resolve, invoke, builtin, Sem.run_bind, Sem.run_pure, Result.andThen_ok, List.map_toArray, List.map_cons, List.map_nil, hrun]
theorem aAj (h : SimW W M S0 s a.tmps w S B V T) : ∀ (xs : List Operand), wU xs → RVs S w s.hp B V (xs.map s.ev) (xs.map a.eval)
 | [], _ => by simp only [List.map_nil]; unfold RVs; rfl
 | x :: xs, hc => by
  simp only [List.map_cons]
  unfold RVs
  exact ⟨_, _, rfl, zu h x (hc x (by simp)), aAj h xs (fun y hy => hc y (List.mem_cons_of_mem _ hy))⟩
theorem aEn (hn : a.tmps.size = n) (hdf : a.defers = []) (h : SimW W M S0 s a.tmps w S B V T) {dst : Option Tmp} {fn : Fn} {first captured : Array Operand} {ty : TypeId} {pos : String} {after : Array Edge} {guard : Option (Nat × Bool)} {e : Eff}
 (hp : Pre P Θ ⟨dst, .makeFunc fn first captured, ty, pos, after, guard⟩ s e) (hin : inN n dst = true) (hK : ∀ a' w', Sim W M S0 n (s.app dst e) a' w' → K a' w') : (⟨dst, .makeFunc fn first captured, ty, pos, after, guard⟩ : Oper).wp P a w K Q := by
 simp only [Pre] at hp
 obtain ⟨f, rfl, hc, rfl⟩ := hp
 refine xw (x := .fn f (first.toList.map s.ev) (captured.toList.map s.ev)) (v := .func (.func f) (first.map a.eval) (captured.map a.eval)) hn hdf h (by simp only [execOp, Instr.makeFunc, Sem.run_bind, Sem.run_pure, Result.andThen_ok]) ?_ hin hK
 unfold RV
 refine ⟨first.toList.map a.eval, captured.toList.map a.eval, by congr 1 <;> rw [← Array.toList_map, Array.toArray_toList], aAj h _ (fun x hx => hc x (List.mem_append_left _ hx)), aAj h _ (fun x hx => hc x (List.mem_append_right _ hx))⟩
theorem aB0 (hΘ : yP P Θ) (hn : a.tmps.size = n) (hdf : a.defers = []) (h : SimW W M S0 s a.tmps w S B V T) {dst : Option Tmp} {t : TypeId} {x : Operand} {ty : TypeId} {pos : String} {after : Array Edge} {guard : Option (Nat × Bool)} {e : Eff}
 (hp : Pre P Θ ⟨dst, .makeInterface t x, ty, pos, after, guard⟩ s e) (hin : inN n dst = true) (hK : ∀ a' w', Sim W M S0 n (s.app dst e) a' w' → K a' w') : (⟨dst, .makeInterface t x, ty, pos, after, guard⟩ : Oper).wp P a w K Q := by
 simp only [Pre] at hp
 obtain ⟨hc, hk, hni, rfl⟩ := hp
 have hT := hΘ t
 have hrun : (Instr.makeInterface t (a.eval x)).run P w = .ok (.iface t (a.eval x)) w := by
  cases hq : Θ.look t with
  | non => rw [hq] at hk; cases hk
  | map _ _ _ => rw [hq] at hk; cases hk
  | iface => exact absurd hq hni
  | str => rw [hq] at hT; simp [Instr.makeInterface, run_underlying hT.1]
  | int k => rw [hq] at hT; simp [Instr.makeInterface, run_underlying hT.1]
  | bool => rw [hq] at hT; simp [Instr.makeInterface, run_underlying hT.1]
  | slice _ _ _ _ => rw [hq] at hT; simp [Instr.makeInterface, run_underlying hT.1]
  | struct _ _ => rw [hq] at hT; obtain ⟨_, _, _, hu, _⟩ := hT; simp [Instr.makeInterface, run_underlying hu]
  | ptr => rw [hq] at hT; obtain ⟨⟨_, hu⟩, _⟩ := hT; simp [Instr.makeInterface, run_underlying hu]
  | func => rw [hq] at hT; obtain ⟨⟨_, _, _, hu⟩, _⟩ := hT; simp [Instr.makeInterface, run_underlying hu]
  | arr _ _ _ _ => rw [hq] at hT; simp [Instr.makeInterface, run_underlying hT.1]
 refine xw (x := .ifc t (s.ev x)) (v := .iface t (a.eval x)) hn hdf h (by simp only [execOp, Sem.run_bind, hrun, Sem.run_pure, Result.andThen_ok]) ?_ hin hK
 unfold RV
 exact ⟨_, rfl, zu h x hc⟩
theorem aGm (hΘ : yP P Θ) (hn : a.tmps.size = n) (hdf : a.defers = []) (h : SimW W M S0 s a.tmps w S B V T) {dst : Option Tmp} {t : TypeId} {x i : Operand} {ty : TypeId} {pos : String} {after : Array Edge} {guard : Option (Nat × Bool)} {e : Eff}
 (hp : Pre P Θ ⟨dst, .index t x i, ty, pos, after, guard⟩ s e) (hin : inN n dst = true) (hK : ∀ a' w', Sim W M S0 n (s.app dst e) a' w' → K a' w') : (⟨dst, .index t x i, ty, pos, after, guard⟩ : Oper).wp P a w K Q := by
 simp only [Pre] at hp
 rcases hp with ⟨p, q, r, hx, hi, hr, h1, rfl⟩ | ⟨el, m, sz, z, k, j, xs, y, ht, hi, hx, hlen, hall, hy, hk, hagg, hsz, rfl⟩
 · exact xw (x := .v r) (v := r) hn hdf h (by simp only [execOp, zq h hx, zq h hi, Sem.run_bind, hr w, Result.andThen_ok, Sem.run_pure]) (aA0 h1) hin hK
 · have hT := hΘ t
   rw [ht] at hT
   obtain ⟨hu, _, hm0, hsz0, hasz, ie, hie, hse⟩ := hT
   obtain ⟨i0, hi0, hs0, hag, _⟩ := jc (hΘ el) hk
   rw [hie] at hi0; cases hi0
   have hv := yt h hx (fun c => by simp)
   unfold RV at hv
   obtain ⟨cs, e, hr⟩ := hv
   obtain ⟨us, k1, k2, k3, k4⟩ := RL.at j hr hy
   have hjl : j < xs.length := (List.getElem?_eq_some_iff.1 hy).1
   have hpre : xB (xs.take j) = j * sz := by rw [xW (fun x hx' => hall x (List.mem_of_mem_take hx')), List.length_take, Nat.min_eq_left (by omega)]
   have hul : us.length = sz := by rw [RA.size _ _ k1, hall y (List.mem_of_getElem? hy)]
   obtain ⟨u, hu2, eu, h1⟩ := ql (s := s) (B := B) (V := V) k1 hagg
   have hpart : (part el cs.toArray (j * sz)).run P w = .ok u w := by
    rw [hpre] at k3
    unfold part
    cases hg : (Θ.look el).isAgg with
    | true =>
     have hag' := hag w
     rw [hg] at hag'
     simp only [Sem.run_bind, hag', Result.andThen_ok, if_true, sizeOf, typeInfo, run_program, hie, Sem.run_pure, hse]
     rw [hg] at eu
     simp only [if_true] at eu
     rw [← eu]
     congr 2
     apply Array.ext'
     simp only [List.extract_toArray, List.extract_eq_take_drop]
     rw [show j * sz + sz - j * sz = us.length from by omega]
     exact k3
    | false =>
     have hag' := hag w
     rw [hg] at hag'
     simp only [Sem.run_bind, hag', Result.andThen_ok, if_false, Bool.false_eq_true]
     have hl1 := h1 hg
     rw [hg] at eu
     simp only [if_false, Bool.false_eq_true] at eu
     match us, hl1 with
     | [q], _ =>
      have := k4 0 q rfl
      rw [hpre, Nat.add_zero] at this
      simp only [List.getElem?_toArray, this, Sem.run_pure]
      simp at eu; rw [eu]
   have hrun : (Instr.index t (a.eval x) (a.eval i)).run P w = .ok u w := by
    rw [e, uh h hi]
    have h2 : (0 : Int) ≤ (j : Int) ∧ (j : Int) < (m : Int) := by omega
    simp only [Instr.index, asIntOf, Sem.run_bind, Sem.run_pure, Result.andThen_ok, run_underlying hu, h2, and_self, if_true, Int.toNat_natCast, sizeOf, typeInfo, run_program, hie, hse, hpart]
   exact xw (x := y) (v := u) hn hdf h (by simp only [execOp, Sem.run_bind, hrun, Result.andThen_ok, Sem.run_pure]) hu2 hin hK
end
end Go.Proofs.YtodckioppgjbdaaGreatDoor.AM
namespace Go.Proofs.YtodckioppgjbdaaGreatDoor.AM
open Go Go.RowKit
section
variable {S S' : Nat → Prop} {w : World} {hp hp' : Nat → Option OB} {B B' : Nat → Nat} {V V' : Nat → Value}
def Alike (hp hp' : Nat → Option OB) (B B' : Nat → Nat) (V V' : Nat → Value) (ρ : Nat → Nat) (l : Nat) : Prop := ∃ ob ob', hp l = some ob ∧ hp' (ρ l) = some ob' ∧ ob'.sz = ob.sz ∧ V' (ρ l) = V l ∧ B' (ρ l) = B l
variable {ρ : Nat → Nat}
mutual
theorem RV.map : ∀ (x : AV) (u : Value), (∀ l, x.names l = true → Alike hp hp' B B' V V' ρ l) → (RV S w hp B V x u ↔ RV S w hp' B' V' (mapA ρ x) u)
 | .any, u, _ => by simp only [mapA]; unfold RV; exact Iff.rfl
 | .v x, u, _ => by simp only [mapA]; unfold RV; exact Iff.rfl
 | .agg xs, u, _ => by simp only [mapA]; unfold RV; exact Iff.rfl
 | .lst sz xs, u, _ => by simp only [mapA]; unfold RV; exact Iff.rfl
 | .ptr x, u, _ => by simp only [mapA]; unfold RV; exact Iff.rfl
 | .rd x, u, _ => by simp only [mapA]; unfold RV; exact Iff.rfl
 | .own l, u, hn => by
  obtain ⟨ob, ob', h1, h2, h3, h4, h5⟩ := hn l (by simp [AV.names])
  simp only [mapA]; unfold RV; rw [h4]
  exact ⟨fun h => ⟨⟨ob', h2⟩, h.2⟩, fun h => ⟨⟨ob, h1⟩, h.2⟩⟩
 | .optr l i p c, u, hn => by
  obtain ⟨ob, ob', h1, h2, h3, h4, h5⟩ := hn l (by simp [AV.names])
  simp only [mapA]; unfold RV; rw [h5]
  exact ⟨fun ⟨o, k1, k2⟩ => by rw [h1] at k1; cases k1; exact ⟨ob', h2, by rw [k2, h3]⟩, fun ⟨o, k1, k2⟩ => by rw [h2] at k1; cases k1; exact ⟨ob, h1, by rw [k2, h3]⟩⟩
 | .mapv l, u, hn => by
  obtain ⟨ob, ob', h1, h2, h3, h4, h5⟩ := hn l (by simp [AV.names])
  simp only [mapA]; unfold RV; rw [h5]
  exact ⟨fun ⟨o, k1, k2⟩ => by rw [h1] at k1; cases k1; exact ⟨ob', h2, by rw [k2, h3]⟩, fun ⟨o, k1, k2⟩ => by rw [h2] at k1; cases k1; exact ⟨ob, h1, by rw [k2, h3]⟩⟩
 | .tup xs, u, hn => by
  simp only [mapA]; unfold RV
  exact ⟨fun ⟨us, e, h⟩ => ⟨us, e, (RVs.map xs us (fun l hl => hn l (by simpa [AV.names] using hl))).1 h⟩, fun ⟨us, e, h⟩ => ⟨us, e, (RVs.map xs us (fun l hl => hn l (by simpa [AV.names] using hl))).2 h⟩⟩
 | .mix xs, u, hn => by
  simp only [mapA]; unfold RV
  exact ⟨fun ⟨us, e, h⟩ => ⟨us, e, (ROs.map xs _ us (fun l hl => hn l (by simpa [AV.names] using hl))).1 h⟩, fun ⟨us, e, h⟩ => ⟨us, e, (ROs.map xs _ us (fun l hl => hn l (by simpa [AV.names] using hl))).2 h⟩⟩
 | .fn f xs ys, u, hn => by
  have e1 := fun us => RVs.map xs us (fun l hl => hn l (by simp [AV.names, hl]))
  have e2 := fun us => RVs.map ys us (fun l hl => hn l (by simp [AV.names, hl]))
  simp only [mapA]; unfold RV
  exact ⟨fun ⟨us, vs, e, h1, h2⟩ => ⟨us, vs, e, (e1 us).1 h1, (e2 vs).1 h2⟩, fun ⟨us, vs, e, h1, h2⟩ => ⟨us, vs, e, (e1 us).2 h1, (e2 vs).2 h2⟩⟩
 | .ifc t x, u, hn => by
  have e1 := fun u => RV.map x u (fun l hl => hn l (by simpa [AV.names] using hl))
  simp only [mapA]; unfold RV
  exact ⟨fun ⟨u', e, h⟩ => ⟨u', e, (e1 u').1 h⟩, fun ⟨u', e, h⟩ => ⟨u', e, (e1 u').2 h⟩⟩
theorem RVs.map : ∀ (xs : List AV) (us : List Value), (∀ l, xI l xs = true → Alike hp hp' B B' V V' ρ l) → (RVs S w hp B V xs us ↔ RVs S w hp' B' V' (uN ρ xs) us)
 | [], us, _ => by simp only [uN]; unfold RVs; exact Iff.rfl
 | x :: xs, us, hn => by
  have e1 := fun u => RV.map x u (fun l hl => hn l (by simp [xI, hl]))
  have e2 := fun us => RVs.map xs us (fun l hl => hn l (by simp [xI, hl]))
  simp only [uN]; unfold RVs
  exact ⟨fun ⟨u, us', e, h1, h2⟩ => ⟨u, us', e, (e1 u).1 h1, (e2 us').1 h2⟩, fun ⟨u, us', e, h1, h2⟩ => ⟨u, us', e, (e1 u).2 h1, (e2 us').2 h2⟩⟩
theorem RO1.map : ∀ (x : AV) (T : Nat → Prop) (cs : List Value), (∀ l, x.names l = true → Alike hp hp' B B' V V' ρ l) → (RO1 S w hp B V x T cs ↔ RO1 S w hp' B' V' (mapA ρ x) T cs)
 | .any, T, cs, _ => by simp only [mapA]; unfold RO1; exact Iff.rfl
 | .v x, T, cs, _ => by simp only [mapA]; unfold RO1; exact Iff.rfl
 | .agg xs, T, cs, _ => by simp only [mapA]; unfold RO1; exact Iff.rfl
 | .lst sz xs, T, cs, _ => by simp only [mapA]; unfold RO1; exact Iff.rfl
 | .ptr x, T, cs, _ => by simp only [mapA]; unfold RO1; exact Iff.rfl
 | .rd x, T, cs, _ => by simp only [mapA]; unfold RO1; exact Iff.rfl
 | .tup x, T, cs, _ => by simp only [mapA]; unfold RO1; exact Iff.rfl
 | .own l, T, cs, hn => by
  obtain ⟨ob, ob', h1, h2, h3, h4, h5⟩ := hn l (by simp [AV.names])
  simp only [mapA]; unfold RO1; rw [h4]
  exact ⟨fun h => ⟨h.1, ⟨ob', h2⟩, h.2.2⟩, fun h => ⟨h.1, ⟨ob, h1⟩, h.2.2⟩⟩
 | .optr l i p c, T, cs, hn => by
  obtain ⟨ob, ob', h1, h2, h3, h4, h5⟩ := hn l (by simp [AV.names])
  simp only [mapA]; unfold RO1; rw [h5]
  exact ⟨fun ⟨k0, o, k1, k2⟩ => by rw [h1] at k1; cases k1; exact ⟨k0, ob', h2, by rw [k2, h3]⟩, fun ⟨k0, o, k1, k2⟩ => by rw [h2] at k1; cases k1; exact ⟨k0, ob, h1, by rw [k2, h3]⟩⟩
 | .mapv l, T, cs, hn => by
  obtain ⟨ob, ob', h1, h2, h3, h4, h5⟩ := hn l (by simp [AV.names])
  simp only [mapA]; unfold RO1; rw [h5]
  exact ⟨fun ⟨k0, o, k1, k2⟩ => by rw [h1] at k1; cases k1; exact ⟨k0, ob', h2, by rw [k2, h3]⟩, fun ⟨k0, o, k1, k2⟩ => by rw [h2] at k1; cases k1; exact ⟨k0, ob, h1, by rw [k2, h3]⟩⟩
 | .mix xs, T, cs, hn => by
  simp only [mapA]; unfold RO1
  exact ROs.map xs T cs (fun l hl => hn l (by simpa [AV.names] using hl))
 | .fn f xs ys, T, cs, hn => by
  have e1 := fun us => RVs.map xs us (fun l hl => hn l (by simp [AV.names, hl]))
  have e2 := fun us => RVs.map ys us (fun l hl => hn l (by simp [AV.names, hl]))
  simp only [mapA]; unfold RO1
  exact ⟨fun ⟨k0, us, vs, e, h1, h2⟩ => ⟨k0, us, vs, e, (e1 us).1 h1, (e2 vs).1 h2⟩, fun ⟨k0, us, vs, e, h1, h2⟩ => ⟨k0, us, vs, e, (e1 us).2 h1, (e2 vs).2 h2⟩⟩
 | .ifc t x, T, cs, hn => by
  have e1 := fun u => RV.map x u (fun l hl => hn l (by simpa [AV.names] using hl))
  simp only [mapA]; unfold RO1
  exact ⟨fun ⟨k0, u', e, h⟩ => ⟨k0, u', e, (e1 u').1 h⟩, fun ⟨k0, u', e, h⟩ => ⟨k0, u', e, (e1 u').2 h⟩⟩
theorem ROs.map : ∀ (xs : List AV) (T : Nat → Prop) (cs : List Value), (∀ l, xI l xs = true → Alike hp hp' B B' V V' ρ l) → (ROs S w hp B V xs T cs ↔ ROs S w hp' B' V' (uN ρ xs) T cs)
 | [], T, cs, _ => by simp only [uN]; unfold ROs; exact Iff.rfl
 | x :: xs, T, cs, hn => by
  have e1 := fun T c => RO1.map x T c (fun l hl => hn l (by simp [xI, hl]))
  have e2 := fun T c => ROs.map xs T c (fun l hl => hn l (by simp [xI, hl]))
  simp only [uN]; unfold ROs
  exact ⟨fun ⟨c1, c2, T1, T2, e, s, h1, h2⟩ => ⟨c1, c2, T1, T2, e, s, (e1 T1 c1).1 h1, (e2 T2 c2).1 h2⟩, fun ⟨c1, c2, T1, T2, e, s, h1, h2⟩ => ⟨c1, c2, T1, T2, e, s, (e1 T1 c1).2 h1, (e2 T2 c2).2 h2⟩⟩
end
mutual
theorem aE6 : ∀ x : AV, asz (mapA ρ x) = asz x
 | .mix xs => by simp only [mapA, asz]; exact aDX xs
 | .any => rfl
 | .v _ => rfl
 | .agg _ => rfl
 | .lst _ _ => rfl
 | .ptr _ => rfl
 | .rd _ => rfl
 | .tup _ => rfl
 | .own _ => rfl
 | .optr _ _ _ _ => rfl
 | .mapv _ => rfl
 | .fn _ _ _ => rfl
 | .ifc _ _ => rfl
theorem aDX : ∀ xs : List AV, xB (uN ρ xs) = xB xs
 | [] => rfl
 | x :: xs => by simp only [uN, xB, aE6 x, aDX xs]
end
def aBm (ρ : Nat → Nat) : ET → ET
 | .o t i y => .o t i (mapA ρ y)
 | e => e
theorem RK.map {sz : Nat} {xs : List AV} {T : Nat → Prop} {cs : List Value} {e : ET} (hn : ∀ l, yS l e = true → Alike hp hp' B B' V V' ρ l) : RK S w hp B V sz xs T cs e ↔ RK S w hp' B' V' sz xs T cs (aBm ρ e) := by
 cases e with
 | o t i y =>
  simp only [aBm, RK, aE6]
  have e1 := fun T c => RO1.map (S := S) (w := w) y T c (fun l hl => hn l hl)
  exact ⟨fun ⟨h1, h2, c0, c1, c2, T0, T', T1, T2, h3, h4, h5, h6, h7, h8⟩ => ⟨h1, h2, c0, c1, c2, T0, T', T1, T2, h3, h4, h5, h6, (e1 T1 c1).1 h7, h8⟩, fun ⟨h1, h2, c0, c1, c2, T0, T', T1, T2, h3, h4, h5, h6, h7, h8⟩ => ⟨h1, h2, c0, c1, c2, T0, T', T1, T2, h3, h4, h5, h6, (e1 T1 c1).2 h7, h8⟩⟩
 | _ => exact Iff.rfl
theorem aIf (e : ET) : (aBm ρ e).typ = e.typ := by cases e <;> rfl
theorem aIe (w : World) (b : Nat) (T : Nat → Prop) (e : ET) : ROc w b T (aBm ρ e) ↔ ROc w b T e := by cases e <;> exact Iff.rfl
theorem RO.map {T : Nat → Prop} {ob : OB} {b : Nat} {v : Value} (hn : ∀ l, yS l ob.e = true → Alike hp hp' B B' V V' ρ l) : RO S w hp B V T ob b v ↔ RO S w hp' B' V' T ⟨aBm ρ ob.e, ob.sz, ob.xs⟩ b v := by
 unfold RO
 simp only [aIf, aIe]
 exact ⟨fun ⟨t, cs, h1, h2, h3⟩ => ⟨t, cs, h1, (RK.map hn).1 h2, h3⟩, fun ⟨t, cs, h1, h2, h3⟩ => ⟨t, cs, h1, (RK.map hn).2 h2, h3⟩⟩
mutual
theorem RA.flat : ∀ (x : AV) (cs : List Value), yM x → RA S w x cs → RA S' w x cs
 | .v x, cs, _, h => by unfold RA at h ⊢; exact h
 | .agg xs, cs, hf, h => by unfold yM at hf; unfold RA at h ⊢; exact RL.flat xs cs hf h
 | .lst sz xs, cs, hf, h => by
  unfold yM at hf
  unfold RA at h ⊢
  obtain ⟨A, c, h1, h2, h3, h4, h4', _⟩ := h
  exact ⟨A, c, h1, h2, h3, h4, h4', .inl hf⟩
 | .ptr _, cs, hf, h => by unfold yM at hf; exact hf.elim
 | .any, cs, _, h | .own _, cs, _, h | .optr _ _ _ _, cs, _, h | .tup _, cs, _, h | .mapv _, cs, _, h | .mix _, cs, _, h | .rd _, cs, _, h | .fn _ _ _, cs, _, h | .ifc _ _, cs, _, h => by unfold RA at h; exact h.elim
theorem RL.flat : ∀ (xs : List AV) (cs : List Value), zH xs → RL S w xs cs → RL S' w xs cs
 | [], cs, _, h => by unfold RL at h ⊢; exact h
 | x :: xs, cs, hf, h => by
  unfold zH at hf
  unfold RL at h ⊢
  obtain ⟨c1, c2, e, h1, h2⟩ := h
  exact ⟨c1, c2, e, RA.flat x c1 hf.1 h1, RL.flat xs c2 hf.2 h2⟩
end
mutual
theorem RV.flat : ∀ (x : AV) (u : Value), yM x → RV S w hp B V x u → RV S' w hp B V x u
 | .any, u, _, h => by unfold RV at h ⊢; trivial
 | .v x, u, _, h => by unfold RV at h ⊢; exact h
 | .agg xs, u, hf, h => by
  unfold yM at hf
  unfold RV at h ⊢
  obtain ⟨cs, e, h⟩ := h
  exact ⟨cs, e, RL.flat xs cs hf h⟩
 | .lst sz xs, u, hf, h => by unfold RV at h ⊢; exact RA.flat _ _ hf h
 | .ptr x, u, hf, h => by unfold yM at hf; exact hf.elim
 | .rd x, u, hf, h => by unfold RV at h; exact h.elim
 | .own l, u, _, h => by unfold RV at h ⊢; exact h
 | .optr l i _ c, u, hf, h => by unfold RV at h ⊢; exact h
 | .mapv l, u, hf, h => by unfold yM at hf; exact hf.elim
 | .tup xs, u, hf, h => by
  unfold yM at hf
  unfold RV at h ⊢
  obtain ⟨us, e, h⟩ := h
  exact ⟨us, e, RVs.flat xs us hf h⟩
 | .mix xs, u, hf, h => by
  unfold yM at hf
  unfold RV at h ⊢
  obtain ⟨us, e, h⟩ := h
  exact ⟨us, e, ROs.flat xs _ us hf h⟩
 | .fn f xs ys, u, hf, h => by
  unfold yM at hf
  unfold RV at h ⊢
  obtain ⟨us, vs, e, h1, h2⟩ := h
  exact ⟨us, vs, e, RVs.flat xs us hf.1 h1, RVs.flat ys vs hf.2 h2⟩
 | .ifc t x, u, hf, h => by
  unfold yM at hf
  unfold RV at h ⊢
  obtain ⟨u', e, h⟩ := h
  exact ⟨u', e, RV.flat x u' hf h⟩
theorem RVs.flat : ∀ (xs : List AV) (us : List Value), zH xs → RVs S w hp B V xs us → RVs S' w hp B V xs us
 | [], us, _, h => by unfold RVs at h ⊢; exact h
 | x :: xs, us, hf, h => by
  unfold zH at hf
  unfold RVs at h ⊢
  obtain ⟨u, us', e, h1, h2⟩ := h
  exact ⟨u, us', e, RV.flat x u hf.1 h1, RVs.flat xs us' hf.2 h2⟩
theorem RO1.flat : ∀ (x : AV) (T : Nat → Prop) (cs : List Value), yM x → RO1 S w hp B V x T cs → RO1 S' w hp B V x T cs
 | .any, T, cs, _, h => by unfold RO1 at h ⊢; exact h
 | .v x, T, cs, _, h => by unfold RO1 at h ⊢; exact h
 | .agg xs, T, cs, _, h => by unfold RO1 at h ⊢; exact h
 | .lst sz xs, T, cs, _, h => by unfold RO1 at h ⊢; exact h
 | .ptr x, T, cs, _, h => by unfold RO1 at h; exact h.elim
 | .tup x, T, cs, _, h => by unfold RO1 at h; exact h.elim
 | .rd x, T, cs, hf, h => by unfold yM at hf; unfold RO1 at h ⊢; exact ⟨h.1, RA.flat x cs hf h.2⟩
 | .own l, T, cs, _, h => by unfold RO1 at h ⊢; exact h
 | .optr l i _ c, T, cs, _, h => by unfold RO1 at h ⊢; exact h
 | .mapv l, T, cs, hf, h => by unfold yM at hf; exact hf.elim
 | .mix xs, T, cs, hf, h => by unfold yM at hf; unfold RO1 at h ⊢; exact ROs.flat xs T cs hf h
 | .fn f xs ys, T, cs, hf, h => by
  unfold yM at hf
  unfold RO1 at h ⊢
  obtain ⟨k0, us, vs, e, h1, h2⟩ := h
  exact ⟨k0, us, vs, e, RVs.flat xs us hf.1 h1, RVs.flat ys vs hf.2 h2⟩
 | .ifc t x, T, cs, hf, h => by
  unfold yM at hf
  unfold RO1 at h ⊢
  obtain ⟨k0, u', e, h⟩ := h
  exact ⟨k0, u', e, RV.flat x u' hf h⟩
theorem ROs.flat : ∀ (xs : List AV) (T : Nat → Prop) (cs : List Value), zH xs → ROs S w hp B V xs T cs → ROs S' w hp B V xs T cs
 | [], T, cs, _, h => by unfold ROs at h ⊢; exact h
 | x :: xs, T, cs, hf, h => by
  unfold zH at hf
  unfold ROs at h ⊢
  obtain ⟨c1, c2, T1, T2, e, s, h1, h2⟩ := h
  exact ⟨c1, c2, T1, T2, e, s, RO1.flat x T1 c1 hf.1 h1, ROs.flat xs T2 c2 hf.2 h2⟩
end
theorem RO.flat {T : Nat → Prop} {ob : OB} {b : Nat} {v : Value} (hf : kE ob) (h : RO S w hp B V T ob b v) : RO S' w hp B V T ob b v := by
 obtain ⟨t, cs, h1, h2, h3⟩ := h
 refine ⟨t, cs, h1, ?_, h3⟩
 unfold kE at hf
 cases he : ob.e with
 | s t' => rw [he] at hf h2; exact RL.flat _ _ hf h2
 | o t' i y =>
  rw [he] at hf h2
  obtain ⟨q1, q2, c0, c1, c2, T0, T', T1, T2, q3, q4, q5, q6, q7, q8⟩ := h2
  exact ⟨q1, q2, c0, c1, c2, T0, T', T1, T2, q3, q4, q5, q6, RO1.flat y T1 c1 hf q7, q8⟩
 | z _ => rw [he] at h2; exact h2
 | d _ => rw [he] at h2; exact h2
 | u => rw [he] at h2; exact h2
 | c Q => rw [he] at h2; exact h2
 | p _ _ => rw [he] at hf; exact hf.elim
theorem Rows.flat {T : Nat → Nat → Prop} {lo : Nat → Prop} (hf : ∀ l ob, hp l = some ob → kE ob) (hs : ∀ g, S' g → S g) (h : Rows S w hp (fun _ => none) B V T lo) : Rows S' w hp (fun _ => none) B V T lo :=
 ⟨fun l ob ho => (h.ro l ob ho).flat (hf l ob ho), fun l ob g ho hg => ⟨fun k => (h.me l ob g ho hg).1 (hs g k), (h.me l ob g ho hg).2⟩, h.nd, h.ds, fun l es e => by cases e⟩
end
section
variable {P : Program} {Θ : Tab} {W : World} {M : Hand} {S0 : Nat → Prop} {n : Nat} {s : St} {a : Act} {w : World} {S : Nat → Prop} {B : Nat → Nat} {V : Nat → Value} {T : Nat → Nat → Prop} {tmps : Array Value}
variable {K : Act → World → Prop} {Q : Exit → Act → World → Prop}
theorem aCd {d : Nat} {B2 : Nat → Nat} {V2 : Nat → Value} {T2 : Nat → Nat → Prop} : ∀ (obs : List OB) (k : Nat) {s : St} {B : Nat → Nat} {V : Nat → Value} {T : Nat → Nat → Prop}, SimW W M S0 s tmps w S B V T → yB s d k obs →
 (∀ i ob, obs[i]? = some ob → (∀ hp B V, RO S w hp B V (T2 (k + i)) ob (B2 (k + i)) (V2 (k + i))) ∧ (∀ g, (V2 (k + i)).ownBlock = some g → ¬ T2 (k + i) g) ∧ ∀ g, Blk V2 T2 (k + i) g → ¬ S g ∧ g < w.heap.size ∧ (W.heap.size ≤ g ∨ M.bl g) ∧ ∀ j o, s.hp j = some o → ¬ Blk V T j g) →
 (∀ i j o1 o2 g, obs[i]? = some o1 → obs[j]? = some o2 → Blk V2 T2 (k + i) g → Blk V2 T2 (k + j) g → i = j) →
 ∃ B' V' T', SimW W M S0 (yx d k obs s) tmps w S B' V' T' ∧ (∀ i ob, obs[i]? = some ob → (yx d k obs s).hp (d + 1000 * (k + i)) = some ob ∧ V' (d + 1000 * (k + i)) = V2 (k + i) ∧ B' (d + 1000 * (k + i)) = B2 (k + i)) ∧
  (∀ l, (∀ i, l = d + 1000 * (k + i) → obs.length ≤ i) → (yx d k obs s).hp l = s.hp l ∧ V' l = V l ∧ B' l = B l)
 | [], k, s, B, V, T, h, _, _, _ => ⟨B, V, T, h, by simp, fun _ _ => ⟨rfl, rfl, rfl⟩⟩
 | ob :: obs, k, s, B, V, T, h, hf, hr, hd => by
  obtain ⟨⟨f1, f2, f3⟩, f4⟩ := hf
  obtain ⟨r1, r2, r3⟩ := hr 0 ob rfl
  simp only [Nat.add_zero] at r1 r2 r3
  obtain ⟨n1, n2⟩ := jF h f1
  have h1 := h.repl (w' := w) (ob' := ob) (b' := B2 k) (v' := V2 k) (T' := T2 k) f2 n1 (fun j o _ ho => n2 j o ho) (Grown.refl _ _) (r1 _ _ _) (fun g hg => by
   obtain ⟨q1, q2, q3, q4⟩ := r3 g hg
   exact ⟨q2, .inr ⟨q1, q3, q4⟩⟩) r2
  have hfree : ∀ (o : List OB) (j : Nat), k < j → yB s d j o → yB (s.set (d + 1000 * k) (some ob)) d j o := by
   intro o
   induction o with
   | nil => intro j _ _; trivial
   | cons x o ih => intro j hj hq; exact ⟨⟨by rw [yG (by omega)]; exact hq.1.1, hq.1.2⟩, ih (j + 1) (by omega) hq.2⟩
  obtain ⟨B', V', T', k1, k2, k3⟩ := aCd obs (k + 1) h1 (hfree obs (k + 1) (by omega) f4)
   (fun i o ho => by
    obtain ⟨q1, q2, q3⟩ := hr (i + 1) o (by simpa using ho)
    rw [show k + (i + 1) = k + 1 + i from by omega] at q1 q2 q3
    refine ⟨q1, q2, fun g hg => ?_⟩
    obtain ⟨m1, m2, m3, m4⟩ := q3 g hg
    refine ⟨m1, m2, m3, fun j o' ho' hb => ?_⟩
    by_cases hj : j = d + 1000 * k
    · subst hj
      unfold Blk at hb
      rw [upd_same, upd_same] at hb
      have := hd 0 (i + 1) ob o g rfl (by simpa using ho) (by rw [Nat.add_zero]; exact hb) (by rwa [show k + (i + 1) = k + 1 + i from by omega])
      omega
    · rw [yG hj] at ho'
      unfold Blk at hb
      rw [upd_ne hj, upd_ne hj] at hb
      exact m4 j o' ho' hb)
   (fun i j o1 o2 g e1 e2 e3 e4 => by
    have := hd (i + 1) (j + 1) o1 o2 g (by simpa using e1) (by simpa using e2) (by rwa [show k + (i + 1) = k + 1 + i from by omega]) (by rwa [show k + (j + 1) = k + 1 + j from by omega])
    omega)
  refine ⟨B', V', T', k1, fun i o ho => ?_, fun l hl => ?_⟩
  · cases i with
    | zero =>
     simp at ho; subst ho
     obtain ⟨q1, q2, q3⟩ := k3 (d + 1000 * k) (fun i hi => by omega)
     simp only [Nat.add_zero]
     exact ⟨q1.trans yY, q2.trans upd_same, q3.trans upd_same⟩
    | succ i =>
     have := k2 i o (by simpa using ho)
     rwa [show k + 1 + i = k + (i + 1) from by omega] at this
  · have hne : l ≠ d + 1000 * k := fun e => by have := hl 0 (by simpa using e); simp at this
    obtain ⟨q1, q2, q3⟩ := k3 l (fun i hi => by have := hl (i + 1) (by rw [hi]; congr 2; omega); simp at this; omega)
    exact ⟨q1.trans (yG hne), q2.trans (upd_ne hne), q3.trans (upd_ne hne)⟩
theorem aAl {s : St} {d : Nat} : ∀ (obs : List OB) (k : Nat), yB s d k obs → ∀ ob ∈ obs, ob.e.shut = true
 | [], _, _ => by simp
 | ob :: obs, k, h => fun o ho => by
  rcases List.mem_cons.1 ho with rfl | ho
  · exact h.1.2.2
  · exact aAl obs (k + 1) h.2 o ho
theorem RO.any {hp hp' : Nat → Option OB} {B B' : Nat → Nat} {V V' : Nat → Value} {T : Nat → Prop} {ob : OB} {b : Nat} {v : Value} (hs : ob.e.shut = true) (h : RO S w hp B V T ob b v) : RO S w hp' B' V' T ob b v :=
 h.carry (fun _ h => h) (fun _ _ => rfl) (fun l hl => by cases he : ob.e <;> rw [he] at hl hs <;> first | cases hl | cases hs) (fun _ _ => rfl) (fun _ _ => rfl)
theorem aAe (hn : a.tmps.size = n) (hdf : a.defers = []) (h : SimW W M S0 s a.tmps w S B V T) {d : Tmp} {out : Out} {v : Value} {B2 : Nat → Nat} {V2 : Nat → Value} {T2 : Nat → Nat → Prop} (hv : RV S w (zh out.obs) B2 V2 out.val v) (hr : Rows S w (zh out.obs) (fun _ => none) B2 V2 T2 (fun g => W.heap.size ≤ g ∨ M.bl g)) (hfar : ∀ l ob g, zh out.obs l = some ob → Blk V2 T2 l g → ∀ j o, s.hp j = some o → ¬ Blk V T j g) (hf : yB s (d + 1) 0 out.obs) (hin : inN n (some d) = true) :
 Sim W M S0 n ((yx (d + 1) 0 out.obs s).put (some d) (ren (d + 1) out.val)) (a.put (some d) v) w := by
 have hsh := aAl _ _ hf
 obtain ⟨B', V', T', k1, k2, k3⟩ := aCd (d := d + 1) (B2 := B2) (V2 := V2) (T2 := T2) out.obs 0 h hf (fun i ob ho => by
  rw [Nat.zero_add]
  refine ⟨fun hp B V => (hr.ro i ob ho).any (hsh ob (List.mem_of_getElem? ho)), fun g => hr.nd i ob g ho, fun g hg => ?_⟩
  obtain ⟨q1, q2, q3⟩ := hr.me i ob g ho hg
  exact ⟨q1, q2, q3, hfar i ob g ho hg⟩) (fun i j o1 o2 g e1 e2 e3 e4 => by rw [Nat.zero_add] at e3 e4; exact hr.ds i j o1 o2 g e1 e2 e3 e4)
 refine Sim.put hn hdf k1 (some d) ?_ hin
 refine (RV.map (hp := zh out.obs) (B := B2) (V := V2) out.val v (fun l hl => ?_)).1 hv
 obtain ⟨ob, ho⟩ := RV.there _ _ hl hv
 obtain ⟨q1, q2, q3⟩ := k2 l ob ho
 rw [Nat.zero_add] at q1 q2 q3
 exact ⟨ob, ob, ho, q1, rfl, q2, q3⟩
theorem aAV {Ls : List Nat} (hn : Ls.Nodup) {i j l : Nat} (hi : Ls[i]? = some l) (hj : Ls[j]? = some l) : i = j := by
 obtain ⟨h1, e1⟩ := List.getElem?_eq_some_iff.1 hi
 obtain ⟨h2, e2⟩ := List.getElem?_eq_some_iff.1 hj
 apply Classical.byContradiction
 intro hne
 have hp := List.pairwise_iff_getElem.1 hn
 rcases Nat.lt_or_gt_of_ne hne with hlt | hlt
 · exact hp i j h1 h2 hlt (e1.trans e2.symm)
 · exact hp j i h2 h1 hlt (e2.trans e1.symm)
theorem wF : ∀ (obs : List OB) (b l : Nat) (ob : OB), xH b obs l = some ob → ∃ k, l = b + 1000000 * k ∧ obs[k]? = some ob
 | [], b, l, ob, h => by simp [xH] at h
 | o :: obs, b, l, ob, h => by
  simp only [xH] at h
  by_cases e : l = b
  · subst e; simp at h; exact ⟨0, rfl, by simp [h]⟩
  · rw [xY e] at h
    obtain ⟨k, h1, h2⟩ := wF obs _ l ob h
    exact ⟨k + 1, by omega, by simpa using h2⟩
theorem aBV : ∀ (obs : List OB) (b k : Nat), xH b obs (b + 1000000 * k) = obs[k]?
 | [], b, k => by simp [xH]
 | o :: obs, b, 0 => by simp [xH]
 | o :: obs, b, k + 1 => by
  simp only [xH]
  rw [xY (show b + 1000000 * (k + 1) ≠ b by omega)]
  have := aBV obs (b + 1000000) k
  rw [show b + 1000000 + 1000000 * k = b + 1000000 * (k + 1) from by omega] at this
  simpa using this
theorem aCf : ∀ (Ls : List Nat) (b k L : Nat), Ls[k]? = some L → xk b Ls (b + 1000000 * k) = L
 | [], b, k, L, h => by simp at h
 | l :: Ls, b, 0, L, h => by simp at h; simp [xk, h]
 | l :: Ls, b, k + 1, L, h => by
  simp only [xk]
  rw [xY (show b + 1000000 * (k + 1) ≠ b by omega)]
  have := aCf Ls (b + 1000000) k L (by simpa using h)
  rw [show b + 1000000 + 1000000 * k = b + 1000000 * (k + 1) from by omega] at this
  simpa using this
theorem qL {Ls : List Nat} : ∀ (L : List Nat) (obs : List OB), handed s Ls L obs → L.length = obs.length ∧ ∀ (k : Nat) (ob : OB), obs[k]? = some ob → ∃ l, L[k]? = some l ∧ s.hp l = some (vY Ls ob)
 | [], [], _ => ⟨rfl, by simp⟩
 | [], _ :: _, h => h.elim
 | _ :: _, [], h => h.elim
 | l :: L, o :: obs, h => by
  obtain ⟨k1, k2⟩ := qL L obs h.2
  refine ⟨by simp [k1], fun k ob e => ?_⟩
  cases k with
  | zero => simp at e; subst e; exact ⟨l, rfl, h.1⟩
  | succ k => simpa using k2 k ob (by simpa using e)
theorem qI {Ls : List Nat} : ∀ (L : List Nat) (obs : List OB) (s : St), L.Nodup → L.length = obs.length → (∀ (k l : Nat) (ob : OB), L[k]? = some l → obs[k]? = some ob → (yu Ls L obs s).hp l = some (vY Ls ob)) ∧ (∀ l, l ∉ L → (yu Ls L obs s).hp l = s.hp l ∧ (yu Ls L obs s).mp l = s.mp l) ∧ (yu Ls L obs s).sl = s.sl ∧ ∀ l, l ∈ L → (yu Ls L obs s).mp l = none
 | [], [], s, _, _ => ⟨by simp, fun l _ => ⟨rfl, rfl⟩, rfl, by simp⟩
 | [], _ :: _, s, _, h => by simp at h
 | _ :: _, [], s, _, h => by simp at h
 | l0 :: L, o0 :: obs, s, hnd, hl => by
  rw [List.nodup_cons] at hnd
  obtain ⟨k1, k2, k3, k4⟩ := qI (Ls := Ls) L obs (s.set l0 (some (vY Ls o0))) hnd.2 (by simpa using hl)
  refine ⟨fun k l ob e1 e2 => ?_, fun l hl => ?_, k3, fun l hl => ?_⟩
  · cases k with
    | zero => simp at e1 e2; subst e1 e2; exact ((k2 l0 hnd.1).1).trans yY
    | succ k => exact k1 k l ob (by simpa using e1) (by simpa using e2)
  · rw [List.mem_cons, not_or] at hl
    obtain ⟨q1, q2⟩ := k2 l hl.2
    exact ⟨q1.trans (yG hl.1), q2.trans (by simp [St.set, xY hl.1])⟩
  · by_cases hm : l ∈ L
    · exact k4 l hm
    · rcases List.mem_cons.1 hl with rfl | hl
      · exact ((k2 l hm).2).trans (by simp [St.set])
      · exact absurd hl hm
theorem aGG (Ls : List Nat) (ob : OB) : vY Ls ob = ⟨aBm (xk 0 Ls) ob.e, ob.sz, ob.xs⟩ := by
 unfold vY aIx aBm aKk
 cases ob.e <;> rfl
theorem wR {p : Nat → Bool} {l : Nat} {e : ET} (h : uT p e = true) (hn : yS l e = true) : p l = true := by
 cases e with
 | o t i y => exact uZ y h hn
 | _ => cases hn
theorem aJg (h : SimW W M S0 s tmps w S B V T) {Ls : List Nat} {rin : List OB} (hh : handed s Ls Ls rin) (hnd : Ls.Nodup) (hw : ∀ ob ∈ rin, uT (fun l => (xH 0 rin l).isSome) ob.e = true) {Sc : Nat → Prop} (hSc : ∀ b, S b → Sc b) (hfr : ∀ l ∈ Ls, ∀ ob g, s.hp l = some ob → Blk V T l g → ¬ Sc g) :
 Rows Sc w (xH 0 rin) (fun _ => none) (fun l => B (xk 0 Ls l)) (fun l => V (xk 0 Ls l)) (fun l => T (xk 0 Ls l)) (fun _ => True) ∧ ∀ l ob, xH 0 rin l = some ob → xk 0 Ls l ∈ Ls ∧ s.hp (xk 0 Ls l) = some (vY Ls ob) := by
 obtain ⟨hlen, hat⟩ := qL Ls rin hh
 have hlab : ∀ l ob, xH 0 rin l = some ob → ∃ k, l = 1000000 * k ∧ rin[k]? = some ob ∧ Ls[k]? = some (xk 0 Ls l) ∧ s.hp (xk 0 Ls l) = some (vY Ls ob) := fun l ob e => by
  obtain ⟨k, h1, h2⟩ := wF rin 0 l ob e
  obtain ⟨L, h3, h4⟩ := hat k ob h2
  have h5 := aCf Ls 0 k L h3
  rw [← h1] at h5
  exact ⟨k, by omega, h2, by rw [h5]; exact h3, by rw [h5]; exact h4⟩
 have hmem : ∀ l ob, xH 0 rin l = some ob → xk 0 Ls l ∈ Ls ∧ s.hp (xk 0 Ls l) = some (vY Ls ob) := fun l ob e => by
  obtain ⟨k, _, _, h3, h4⟩ := hlab l ob e
  exact ⟨List.mem_of_getElem? h3, h4⟩
 refine ⟨⟨fun l ob e => ?_, fun l ob g e hb => ?_, fun l ob g e hb => ?_, fun l l' ob ob' g e1 e2 b1 b2 => ?_, fun l es e => by cases e⟩, hmem⟩
 · obtain ⟨h3, h4⟩ := hmem l ob e
   have hro := h.rows.ro _ _ h4
   rw [aGG] at hro
   obtain ⟨k, _, h2⟩ := wF rin 0 l ob e
   have hc := (RO.map (S := S) (w := w) (hp := xH 0 rin) (hp' := s.hp) (B := fun l => B (xk 0 Ls l)) (B' := B) (V := fun l => V (xk 0 Ls l)) (V' := V) (ρ := xk 0 Ls) (T := T (xk 0 Ls l)) (ob := ob) (b := B (xk 0 Ls l)) (v := V (xk 0 Ls l)) (fun j hj => by
    have := wR (hw ob (List.mem_of_getElem? h2)) hj
    obtain ⟨o, ho⟩ := Option.isSome_iff_exists.1 this
    exact ⟨o, vY Ls o, ho, (hmem j o ho).2, rfl, rfl, rfl⟩)).2 hro
   exact hc.carry hSc (fun _ _ => rfl) (fun j _ => Same.refl j) (fun _ _ => rfl) (fun _ _ => rfl)
 · obtain ⟨h3, h4⟩ := hmem l ob e
   obtain ⟨_, q2, _⟩ := h.rows.me _ _ g h4 hb
   exact ⟨hfr _ h3 _ g h4 hb, q2, trivial⟩
 · obtain ⟨h3, h4⟩ := hmem l ob e
   exact h.rows.nd _ _ g h4 hb
 · obtain ⟨k, a1, a2, a3, a4⟩ := hlab l ob e1
   obtain ⟨k', c1, c2, c3, c4⟩ := hlab l' ob' e2
   have := h.rows.ds _ _ _ _ g a4 c4 b1 b2
   rw [this] at a3
   have hkk : k = k' := aAV hnd a3 c3
   rw [a1, c1, hkk]
theorem aI8 (h : SimW W M S0 s tmps w S B V T) {Ls : List Nat} {rin rout : List OB} (hh : handed s Ls Ls rin) (hnd : Ls.Nodup) (hsz : rout.map OB.sz = rin.map OB.sz) (hw : ∀ ob ∈ rout, uT (fun l => (xH 0 rin l).isSome) ob.e = true) {w' : World} {S1 : Nat → Prop} {T1 : Nat → Nat → Prop}
 (hg : Grown w w' (HB (xH 0 rin) (fun l => V (xk 0 Ls l)) (fun l => T (xk 0 Ls l)))) (hS1 : ∀ b, S b → S1 b) (hs1 : ∀ b, S1 b → b < w'.heap.size ∧ (S b ∨ w.heap.size ≤ b ∨ HB (xH 0 rin) (fun l => V (xk 0 Ls l)) (fun l => T (xk 0 Ls l)) b)) (hmem : ∀ l ob, xH 0 rin l = some ob → xk 0 Ls l ∈ Ls ∧ s.hp (xk 0 Ls l) = some (vY Ls ob))
 (hr : Rows S1 w' (xH 0 rout) (fun _ => none) (fun l => B (xk 0 Ls l)) (fun l => V (xk 0 Ls l)) T1 (fun g => w.heap.size ≤ g ∨ HB (xH 0 rin) (fun l => V (xk 0 Ls l)) (fun l => T (xk 0 Ls l)) g)) :
 ∃ T2, SimW W M S0 (yu Ls Ls rout s) tmps w' S1 B V T2 ∧ ∀ j o g, (yu Ls Ls rout s).hp j = some o → Blk V T2 j g → (∃ l' ob', xH 0 rout l' = some ob' ∧ Blk (fun l => V (xk 0 Ls l)) T1 l' g) ∨ (g < w.heap.size ∧ ¬ HB (xH 0 rin) (fun l => V (xk 0 Ls l)) (fun l => T (xk 0 Ls l)) g) := by
 obtain ⟨hlen, hat⟩ := qL Ls rin hh
 have hlen' : Ls.length = rout.length := by rw [hlen]; have := congrArg List.length hsz; simpa using this.symm
 obtain ⟨p1, p2, p3, p4⟩ := qI (Ls := Ls) Ls rout s hnd hlen'
 have hpl : ∀ l, l ∈ Ls → ∃ k ob ob', Ls[k]? = some l ∧ rin[k]? = some ob ∧ rout[k]? = some ob' ∧ ob'.sz = ob.sz ∧ xk 0 Ls (1000000 * k) = l ∧ xH 0 rin (1000000 * k) = some ob ∧ xH 0 rout (1000000 * k) = some ob' ∧ s.hp l = some (vY Ls ob) ∧ (yu Ls Ls rout s).hp l = some (vY Ls ob') := fun l hl => by
  obtain ⟨k, hk, e⟩ := List.getElem_of_mem hl
  have e1 : Ls[k]? = some l := by rw [List.getElem?_eq_getElem hk, e]
  obtain ⟨ob, e2⟩ : ∃ ob, rin[k]? = some ob := ⟨_, List.getElem?_eq_getElem (by omega)⟩
  obtain ⟨ob', e3⟩ : ∃ ob, rout[k]? = some ob := ⟨_, List.getElem?_eq_getElem (by omega)⟩
  have e4 : ob'.sz = ob.sz := by
   have := congrArg (fun l => l[k]?) hsz
   simp only [List.getElem?_map, e2, e3, Option.map_some, Option.some.injEq] at this
   exact this
  obtain ⟨l2, e5, e6⟩ := hat k ob e2
  rw [e1] at e5; cases e5
  have e7 := aCf Ls 0 k l e1
  rw [Nat.zero_add] at e7
  have e8 := aBV rin 0 k
  have e9 := aBV rout 0 k
  rw [Nat.zero_add] at e8 e9
  exact ⟨k, ob, ob', e1, e2, e3, e4, e7, by rw [e8, e2], by rw [e9, e3], e6, p1 k l ob' e1 e3⟩
 have hsame : ∀ j, Same s.hp (yu Ls Ls rout s).hp B B V V j := fun j o e => by
  by_cases hj : j ∈ Ls
  · obtain ⟨k, ob, ob', q1, q2, q3, q4, q5, q6, q7, q8, q9⟩ := hpl j hj
    rw [q8] at e; cases e
    exact ⟨_, q9, q4, rfl, rfl⟩
  · exact ⟨o, by rw [(p2 j hj).1]; exact e, rfl, rfl, rfl⟩
 have hHB : ∀ g, HB (xH 0 rin) (fun l => V (xk 0 Ls l)) (fun l => T (xk 0 Ls l)) g → ∃ l, l ∈ Ls ∧ ∃ ob, s.hp l = some ob ∧ Blk V T l g := fun g ⟨l, ob, e, hb⟩ => ⟨xk 0 Ls l, (hmem l ob e).1, _, (hmem l ob e).2, hb⟩
 have hSw : ∀ b, S b → w'.heap[b]? = w.heap[b]? := fun b hs => hg.block b (h.slt b hs).1 (fun hb => by
  obtain ⟨l, _, ob, ho, hb⟩ := hHB b hb
  exact (h.far ho).1 b hs hb)
 have hoth : ∀ j o g, j ∉ Ls → s.hp j = some o → Blk V T j g → w'.heap[g]? = w.heap[g]? := fun j o g hj hjo hb => hg.block g (h.rows.me j o g hjo hb).2.1 (fun hb' => by
  obtain ⟨l, hl, ob, ho, hb'⟩ := hHB g hb'
  exact (h.far ho).2 j o g (fun e => hj (e ▸ hl)) hjo hb hb')
 let T2 : Nat → Nat → Prop := fun l g => (l ∈ Ls ∧ ∃ k, xk 0 Ls (1000000 * k) = l ∧ Ls[k]? = some l ∧ T1 (1000000 * k) g) ∨ (l ∉ Ls ∧ T l g)
 have hT2n : ∀ j, j ∉ Ls → T2 j = T j := fun j hj => funext fun g => propext ⟨fun h => h.elim (fun h => absurd h.1 hj) (fun h => h.2), fun h => .inr ⟨hj, h⟩⟩
 have hT2h : ∀ k l, Ls[k]? = some l → xk 0 Ls (1000000 * k) = l → T2 l = T1 (1000000 * k) := fun k l e1 e2 => funext fun g => propext ⟨fun h => by
  rcases h with ⟨_, k', _, q2, q3⟩ | ⟨q1, _⟩
  · have : k = k' := aAV hnd e1 q2
    subst this; exact q3
  · exact absurd (List.mem_of_getElem? e1) q1, fun h => .inl ⟨List.mem_of_getElem? e1, k, e2, e1, h⟩⟩
 have hblk : ∀ j o g, (yu Ls Ls rout s).hp j = some o → Blk V T2 j g → (j ∉ Ls ∧ s.hp j = some o ∧ Blk V T j g) ∨ ∃ k ob', Ls[k]? = some j ∧ xH 0 rout (1000000 * k) = some ob' ∧ Blk (fun l => V (xk 0 Ls l)) T1 (1000000 * k) g := fun j o g e hb => by
  by_cases hj : j ∈ Ls
  · obtain ⟨k, ob, ob', q1, q2, q3, q4, q5, q6, q7, q8, q9⟩ := hpl j hj
    refine .inr ⟨k, ob', q1, q7, ?_⟩
    unfold Blk at hb ⊢
    rw [hT2h k j q1 q5] at hb
    simp only [q5]; exact hb
  · refine .inl ⟨hj, by rw [← (p2 j hj).1]; exact e, ?_⟩
    unfold Blk at hb ⊢
    rw [hT2n j hj] at hb; exact hb
 refine ⟨T2, ⟨h.below.trans hg (fun g hb hlt => by
  obtain ⟨l, _, ob, ho, hb⟩ := hHB g hb
  exact (h.rows.me l ob g ho hb).2.2.resolve_left (by omega)), fun b hb => hS1 b (h.s0 b hb), fun b hb => ⟨(hs1 b hb).1, by
  rcases (hs1 b hb).2 with hb' | hb' | hb'
  · exact (h.slt b hb').2
  · exact .inr (.inl (Nat.le_trans h.below.size hb'))
  · obtain ⟨l, _, ob, ho, hb2⟩ := hHB b hb'
    exact .inr (h.rows.me l ob b ho hb2).2.2⟩, fun t => ?_, ⟨fun j o e => ?_, fun j o g e hb => ?_, fun j o g e hb => ?_, fun j j' o o' g e1 e2 b1 b2 => ?_, fun j es e => ?_⟩, h.pin, h.gl⟩, fun j o g e hb => ?_⟩
 · rw [p3]; exact RV.carry hS1 hSw _ _ (fun j _ => hsame j) (h.sl t)
 · by_cases hj : j ∈ Ls
   · obtain ⟨k, ob, ob', q1, q2, q3, q4, q5, q6, q7, q8, q9⟩ := hpl j hj
     rw [q9] at e; cases e
     rw [hT2h k j q1 q5]
     have hro := hr.ro _ _ q7
     simp only [q5] at hro
     rw [aGG]
     refine (RO.map (ρ := xk 0 Ls) (fun i hi => ?_)).1 hro
     have := wR (hw ob' (List.mem_of_getElem? q3)) hi
     obtain ⟨o, ho⟩ := Option.isSome_iff_exists.1 this
     obtain ⟨h3, h4⟩ := hmem i o ho
     obtain ⟨k2, ob2, ob2', r1, r2, r3, r4, r5, r6, r7, r8, r9⟩ := hpl _ h3
     obtain ⟨k3, h5, h6⟩ := wF rin 0 i o ho
     rw [Nat.zero_add] at h5
     have hkk : k2 = k3 := by
      obtain ⟨l3, h7, h8⟩ := hat k3 o h6
      have h9 := aCf Ls 0 k3 l3 h7
      rw [Nat.zero_add, ← h5] at h9
      rw [h9] at r1
      exact aAV hnd r1 h7
     subst hkk
     rw [← h5] at r7
     exact ⟨ob2', vY Ls ob2', r7, r9, rfl, rfl, rfl⟩
   · rw [(p2 j hj).1] at e
     rw [hT2n j hj]
     exact (h.rows.ro j o e).carry hS1 hSw (fun i _ => hsame i) (fun g hg => hoth j o g hj e (.inr hg)) (fun g hg => hoth j o g hj e (.inl hg))
 · rcases hblk j o g e hb with ⟨hj, e', hb'⟩ | ⟨k, ob', q1, q7, hb'⟩
   · obtain ⟨k1, k2, k3⟩ := h.rows.me j o g e' hb'
     refine ⟨fun hs => ?_, Nat.lt_of_lt_of_le k2 hg.size, k3⟩
     rcases (hs1 g hs).2 with hs' | hs' | hs'
     · exact k1 hs'
     · omega
     · obtain ⟨l, hl, ob, ho, hb2⟩ := hHB g hs'
       exact absurd (h.rows.ds j l o ob g e' ho hb' hb2) (fun e => hj (e ▸ hl))
   · obtain ⟨k1, k2, k3⟩ := hr.me _ _ g q7 hb'
     refine ⟨k1, k2, ?_⟩
     rcases k3 with k3 | k3
     · exact .inl (Nat.le_trans h.below.size k3)
     · obtain ⟨l, _, ob, ho, hb2⟩ := hHB g k3
       exact (h.rows.me l ob g ho hb2).2.2
 · by_cases hj : j ∈ Ls
   · obtain ⟨k, ob, ob', q1, q2, q3, q4, q5, q6, q7, q8, q9⟩ := hpl j hj
     rw [hT2h k j q1 q5]
     exact hr.nd _ ob' g q7 (by simp only [q5]; exact hb)
   · rw [(p2 j hj).1] at e
     rw [hT2n j hj]
     exact h.rows.nd j o g e hb
 · rcases hblk j o g e1 b1 with ⟨hj, e3, c1⟩ | ⟨k, ob1, q1, q2, c1⟩
   · rcases hblk j' o' g e2 b2 with ⟨hj', e4, c2⟩ | ⟨k', ob2, r1, r2, c2⟩
     · exact h.rows.ds j j' o o' g e3 e4 c1 c2
     · obtain ⟨_, k2, k3⟩ := hr.me _ _ g r2 c2
       have hlt := (h.rows.me j o g e3 c1).2.1
       rcases k3 with k3 | k3
       · omega
       · obtain ⟨l, hl, ob, ho, hb2⟩ := hHB g k3
         exact absurd (h.rows.ds j l o ob g e3 ho c1 hb2) (fun e => hj (e ▸ hl))
   · rcases hblk j' o' g e2 b2 with ⟨hj', e4, c2⟩ | ⟨k', ob2, r1, r2, c2⟩
     · obtain ⟨_, k2, k3⟩ := hr.me _ _ g q2 c1
       have hlt := (h.rows.me j' o' g e4 c2).2.1
       rcases k3 with k3 | k3
       · omega
       · obtain ⟨l, hl, ob, ho, hb2⟩ := hHB g k3
         exact absurd (h.rows.ds j' l o' ob g e4 ho c2 hb2) (fun e => hj' (e ▸ hl))
     · have := hr.ds _ _ _ _ g q2 r2 c1 c2
       have hkk : k = k' := by omega
       subst hkk
       rw [q1] at r1; cases r1; rfl
 · by_cases hj : j ∈ Ls
   · rw [p4 j hj] at e; cases e
   · rw [(p2 j hj).2] at e
     obtain ⟨⟨t, ho⟩, k1, arr, clock, k2, k3⟩ := h.rows.mp j es e
     rw [hT2n j hj]
     exact ⟨⟨t, by rw [(p2 j hj).1]; exact ho⟩, k1, arr, clock, (hoth j _ _ hj ho (.inr k1)).trans k2, k3⟩
 · rcases hblk j o g e hb with ⟨hj, e', hb'⟩ | ⟨k, ob', q1, q7, hb'⟩
   · refine .inr ⟨(h.rows.me j o g e' hb').2.1, fun hh2 => ?_⟩
     obtain ⟨l, hl, ob, ho, hb2⟩ := hHB g hh2
     exact absurd (h.rows.ds j l o ob g e' ho hb' hb2) (fun e => hj (e ▸ hl))
   · exact .inl ⟨_, ob', q7, hb'⟩
end
section
variable {P : Program} {Θ : Tab} {W : World} {M : Hand} {S0 : Nat → Prop} {n : Nat} {s : St} {a : Act} {w : World} {S : Nat → Prop} {B : Nat → Nat} {V : Nat → Value} {T : Nat → Nat → Prop} {tmps : Array Value}
variable {K : Act → World → Prop} {Q : Exit → Act → World → Prop}
theorem RVs.app {S : Nat → Prop} {w : World} {hp : Nat → Option OB} : ∀ {xs ys : List AV} {us vs : List Value}, RVs S w hp B V xs us → RVs S w hp B V ys vs → RVs S w hp B V (xs ++ ys) (us ++ vs)
 | [], ys, us, vs, h, k => by unfold RVs at h; subst h; exact k
 | x :: xs, ys, us, vs, h, k => by
  unfold RVs at h
  obtain ⟨u, us', rfl, h1, h2⟩ := h
  show RVs _ _ _ _ _ (x :: (xs ++ ys)) (u :: (us' ++ vs))
  unfold RVs
  exact ⟨u, _, rfl, h1, RVs.app h2 k⟩
theorem Rows.none {S : Nat → Prop} {w : World} {B : Nat → Nat} {V : Nat → Value} {T : Nat → Nat → Prop} {lo : Nat → Prop} : Rows S w (xH 0 []) (fun _ => none) B V T lo :=
 ⟨fun l ob e => by simp [xH] at e, fun l ob g e => by simp [xH] at e, fun l ob g e => by simp [xH] at e, fun l l' ob ob' g e => by simp [xH] at e, fun l es e => by cases e⟩
theorem aCt {V : Nat → Value} {T : Nat → Nat → Prop} : NoT (HB (xH 0 []) V T) := fun g ⟨l, ob, e, _⟩ => by simp [xH] at e
mutual
theorem aFc (h : SimW W M S0 s tmps w S B V T) {Ls : List Nat} {S' : Nat → Prop} (hm : ∀ b, S b → S' b) : ∀ (x : AV) (u : Value), (∀ l ∈ uX Ls (yT x), ∀ ob, s.hp l = some ob → ob.e.shut = true → ∀ g, Blk V T l g → S' g) → vW s Ls x = true → RV S w s.hp B V x u → RV S' w s.hp B V (s.datH Ls x) u
 | .own l, u, hb, hd, hr => by
  simp only [St.datH]
  cases hc : Ls.contains l with
  | true => simp only [cond_true]; exact RV.carry hm (fun _ _ => rfl) _ _ (fun j _ => Same.refl j) hr
  | false =>
   simp only [cond_false]
   simp only [vW, hc, Bool.false_or] at hd
   exact (vw h hm (fun l' hl' => hb l' (by simp [uX, yT] at hl' ⊢; subst hl'; exact ⟨rfl, by simpa using hc⟩)) hd hr).1
 | .optr l i p c, u, hb, hd, hr => by
  simp only [St.datH]
  cases hc : Ls.contains l with
  | true => simp only [cond_true]; exact RV.carry hm (fun _ _ => rfl) _ _ (fun j _ => Same.refl j) hr
  | false =>
   simp only [cond_false]
   simp only [vW, hc, Bool.false_or] at hd
   exact (vw h hm (fun l' hl' => hb l' (by simp [uX, yT] at hl' ⊢; subst hl'; exact ⟨rfl, by simpa using hc⟩)) hd hr).1
 | .mix xs, u, hb, hd, hr => by
  simp only [St.datH]
  cases hc : (xu xs).all (fun l => Ls.contains l) with
  | true => simp only [cond_true]; exact RV.carry hm (fun _ _ => rfl) _ _ (fun j _ => Same.refl j) hr
  | false =>
   simp only [cond_false]
   simp only [vW, hc, Bool.false_or, Bool.and_eq_true] at hd
   have := (vw (hp' := s.hp) (B' := B) (V' := V) h hm (x := .mix xs) (fun l' hl' => hb l' (by
    have h2 := List.all_eq_true.1 hd.2 l' (by simpa [yT] using hl')
    simp only [uX, List.mem_filter]
    exact ⟨hl', h2⟩)) (by simp only [xG]; exact hd.1) hr).1
   simpa only [St.dat] using this
 | .ifc t x, u, hb, hd, hr => by
  unfold RV at hr
  obtain ⟨u', rfl, hr⟩ := hr
  simp only [vW] at hd
  simp only [St.datH]
  unfold RV
  exact ⟨u', rfl, aFc h hm x u' (fun l hl => hb l (by simpa [yT] using hl)) hd hr⟩
 | .fn f xs ys, u, hb, hd, hr => by
  unfold RV at hr
  obtain ⟨us, vs, rfl, h1, h2⟩ := hr
  simp only [vW, Bool.and_eq_true] at hd
  simp only [St.datH]
  unfold RV
  exact ⟨us, vs, rfl, qK h hm xs us (fun l hl => hb l (by simp only [uX, List.mem_filter, yT, List.mem_append] at hl ⊢; exact ⟨.inl hl.1, hl.2⟩)) hd.1 h1, qK h hm ys vs (fun l hl => hb l (by simp only [uX, List.mem_filter, yT, List.mem_append] at hl ⊢; exact ⟨.inr hl.1, hl.2⟩)) hd.2 h2⟩
 | .any, u, _, _, _ => by simp only [St.datH]; unfold RV; trivial
 | .v x, u, _, _, hr => by simp only [St.datH]; unfold RV at hr ⊢; exact hr
 | .agg xs, u, _, _, hr => by simp only [St.datH]; exact RV.carry hm (fun _ _ => rfl) _ _ (fun j _ => Same.refl j) hr
 | .lst sz xs, u, _, _, hr => by simp only [St.datH]; exact RV.carry hm (fun _ _ => rfl) _ _ (fun j _ => Same.refl j) hr
 | .ptr x, u, _, _, hr => by simp only [St.datH]; exact RV.carry hm (fun _ _ => rfl) _ _ (fun j _ => Same.refl j) hr
 | .tup xs, u, _, hd, _ => by simp [vW] at hd
 | .mapv l, u, _, _, hr => by simp only [St.datH]; exact RV.carry hm (fun _ _ => rfl) _ _ (fun j _ => Same.refl j) hr
 | .rd _, u, _, hd, _ => by simp [vW] at hd
theorem qK (h : SimW W M S0 s tmps w S B V T) {Ls : List Nat} {S' : Nat → Prop} (hm : ∀ b, S b → S' b) : ∀ (xs : List AV) (us : List Value), (∀ l ∈ uX Ls (xu xs), ∀ ob, s.hp l = some ob → ob.e.shut = true → ∀ g, Blk V T l g → S' g) → wH s Ls xs = true → RVs S w s.hp B V xs us → RVs S' w s.hp B V (s.datHL Ls xs) us
 | [], us, _, _, hr => by unfold RVs at hr; simp only [St.datHL]; unfold RVs; exact hr
 | x :: xs, us, hb, hd, hr => by
  unfold RVs at hr
  obtain ⟨u, us', rfl, h1, h2⟩ := hr
  simp only [wH, Bool.and_eq_true] at hd
  simp only [St.datHL]
  unfold RVs
  exact ⟨u, us', rfl, aFc h hm x u (fun l hl => hb l (by simp only [uX, List.mem_filter, xu, List.mem_append] at hl ⊢; exact ⟨.inl hl.1, hl.2⟩)) hd.1 h1, qK h hm xs us' (fun l hl => hb l (by simp only [uX, List.mem_filter, xu, List.mem_append] at hl ⊢; exact ⟨.inr hl.1, hl.2⟩)) hd.2 h2⟩
end
mutual
theorem aCR (l : Nat) : ∀ x : AV, xE l (xE l x) = xE l x
 | .own k => by simp only [xE]; cases e : Nat.beq k l <;> simp [xE, e]
 | .optr k i p c => by simp only [xE]; cases e : Nat.beq k l <;> simp [xE, e]
 | .mapv k => by simp only [xE]; cases e : Nat.beq k l <;> simp [xE, e]
 | .mix xs => by simp only [xE, aCT l xs]
 | .fn f xs ys => by simp only [xE]; cases e : xI l xs || xI l ys <;> simp [xE, e]
 | .ifc t x => by simp only [xE]; cases e : x.names l <;> simp [xE, e]
 | .any => rfl
 | .v _ => rfl
 | .agg _ => rfl
 | .lst _ _ => rfl
 | .ptr _ => rfl
 | .rd _ => rfl
 | .tup xs => rfl
theorem aCT (l : Nat) : ∀ xs : List AV, uM l (uM l xs) = uM l xs
 | [] => rfl
 | x :: xs => by simp only [uM, aCR l x, aCT l xs]
end
theorem aG4 (l : Nat) (o : Option OB) : xV l (xV l o) = xV l o := by
 cases o with
 | none => rfl
 | some ob =>
  obtain ⟨e, sz, xs⟩ := ob
  cases e <;> simp [xV, yR, aCR]
theorem aIB {g : Operand} {f : FuncId} {us vs : List Value} {dst : Option Tmp} {ags : Array Operand} {ts : Array TypeId} {ty : TypeId} {pos : String} {after : Array Edge} {guard : Option (Nat × Bool)} (hg : a.eval g = .func (.func f) us.toArray vs.toArray) (hent : ∀ vs w, (callFunc f vs).run P w = .ok (.enter f vs) w) :
 (execOp a.eval ⟨dst, .call ⟨.value g, ags, ts⟩, ty, pos, after, guard⟩).run P w = .ok (.enter f (us ++ ags.toList.map a.eval ++ vs).toArray) w := by
 simp only [execOp, resolve, hg, Deferred.ofValue, invoke, Sem.run_bind, Sem.run_pure, Result.andThen_ok, hent]
 congr 2
 apply Array.ext'
 simp
theorem aDN {ls : List Nat} (hd : ∀ d, s.hp d = none → (ji ls s).hp d = none) (d : Nat) : ∀ (obs : List OB) (k : Nat), yB s d k obs → yB (ji ls s) d k obs
 | [], _, _ => trivial
 | ob :: r, k, h => ⟨⟨hd _ h.1.1, h.1.2⟩, aDN hd d r (k + 1) h.2⟩
theorem aAD {Ls : List Nat} {d : Nat} : ∀ (obs : List OB) (k : Nat) {s1 : St}, (∀ l, s.hp l = none → s1.hp l = none) → yB s d k obs → yB s1 d k obs
 | [], _, _, _, _ => trivial
 | ob :: r, k, s1, hh, h => ⟨⟨hh _ h.1.1, h.1.2⟩, aAD (Ls := Ls) r (k + 1) hh h.2⟩
theorem aJz {d : Tmp} {v : AV} {k : Nat} {obs : List OB} : s.app (some d) ⟨v, jC k obs⟩ = (yx k 0 obs s).put (some d) v := by cases obs <;> rfl
theorem aD4 (hn : a.tmps.size = n) (hdf : a.defers = []) (h : SimW W M S0 s a.tmps w S B V T) {d : Tmp} {op : Op} {ty : TypeId} {pos : String} {after : Array Edge} {guard : Option (Nat × Bool)} {e : Eff} {f : FuncId} {out : Out} {A : List AV} {VS : List Value}
 (hA : RVs S w s.hp B V A VS) (hp : aBE P s f d out A e) (hrun : (∀ vs w, (callFunc f vs).run P w = .ok (.enter f vs) w) → (execOp a.eval ⟨some d, op, ty, pos, after, guard⟩).run P w = .ok (.enter f VS.toArray) w) (hin : inN n (some d) = true) (hK : ∀ a' w', Sim W M S0 n (s.app (some d) e) a' w' → K a' w') : (⟨some d, op, ty, pos, after, guard⟩ : Oper).wp P a w K Q := by
 unfold aBE at hp
 rcases hp with ⟨args, hargs, hac, hfree, hok, hp⟩ | ⟨args, rin, rout, Ls, hargs, hac, hh, hnd, hsz, hfree, hok, hwi, hwe, hfl, rfl⟩
 · have hent := hac.1
   replace hrun := hrun hent
   subst hargs
   rcases hp with ⟨hfl, rfl⟩ | ⟨hall, rfl⟩
   ·
     obtain ⟨Sc, hSc, hScl, hcase⟩ : ∃ Sc : Nat → Prop, (∀ b, S b → Sc b) ∧ (∀ b, Sc b → b < w.heap.size) ∧ (((∀ b, Sc b → S b) ∧ xu A = []) ∨ (out.flat ∧ ∀ l ob g, s.hp l = some ob → Blk V T l g → Sc g)) := by
      rcases hfl with hfl | hfl
      · exact ⟨S, fun _ h => h, fun b hb => (h.slt b hb).1, .inl ⟨fun _ h => h, hfl⟩⟩
      · refine ⟨fun b => S b ∨ ∃ l ob, s.hp l = some ob ∧ Blk V T l b, fun _ h => .inl h, fun b hb => ?_, .inr ⟨hfl, fun l ob g ho hg => .inr ⟨l, ob, ho, hg⟩⟩⟩
        rcases hb with hb | ⟨l, ob, ho, hg⟩
        · exact (h.slt b hb).1
        · exact (h.rows.me l ob b ho hg).2.1
     have hargs := aBF (hp' := xH 0 []) (B' := fun _ => 0) (V' := fun _ => undef) h hSc A VS (fun l hl ob ho _ g hg => by
      rcases hcase with ⟨_, hno⟩ | ⟨_, hall⟩
      · rw [hno] at hl; simp at hl
      · exact hall l ob g ho hg) hok hA
     unfold Oper.wp
     rw [hrun]
     show Calls P f VS.toArray w _
     refine (hac.2 w Sc _ _ (fun _ _ => False) VS hScl (fun g y hg => h.glob hSc hg) Rows.none hargs).mono ?_
     rintro e' w' ⟨v, S1, B2, V2, T2, T1, rfl, hgr, m1, hs1, hrv, hro, _, _⟩
     show K (a.put (some d) v) w'
     have hbel := hgr.below aCt
     have hs1 : ∀ b, S1 b → b < w'.heap.size ∧ (Sc b ∨ w.heap.size ≤ b) := fun b hb => ⟨(hs1 b hb).1, (hs1 b hb).2.imp id (fun h => h.resolve_right (aCt b))⟩
     have hro : Rows S1 w' (zh out.obs) (fun _ => none) B2 V2 T2 (fun g => w.heap.size ≤ g) := ⟨hro.ro, fun l ob g ho hg => ⟨(hro.me l ob g ho hg).1, (hro.me l ob g ho hg).2.1, (hro.me l ob g ho hg).2.2.resolve_right (aCt g)⟩, hro.nd, hro.ds, hro.mp⟩
     obtain ⟨S2, q1, q2, q3, q4⟩ : ∃ S2 : Nat → Prop, (∀ b, S b → S2 b) ∧ (∀ b, S2 b → b < w'.heap.size ∧ (S b ∨ w.heap.size ≤ b)) ∧ RV S2 w' (zh out.obs) B2 V2 out.val v ∧ Rows S2 w' (zh out.obs) (fun _ => none) B2 V2 T2 (fun g => w.heap.size ≤ g) := by
      rcases hcase with ⟨hsub, _⟩ | ⟨hflat, _⟩
      · exact ⟨S1, fun b hb => m1 b (hSc b hb), fun b hb => ⟨(hs1 b hb).1, (hs1 b hb).2.imp (hsub b) id⟩, hrv, hro⟩
      · refine ⟨fun b => S b ∨ (w.heap.size ≤ b ∧ S1 b), fun b hb => .inl hb, fun b hb => ?_, RV.flat _ _ hflat.1 hrv, hro.flat (fun l ob ho => hflat.2 ob (List.mem_of_getElem? ho)) (fun g hg => ?_)⟩
        · rcases hb with hb | hb
          · exact ⟨Nat.lt_of_lt_of_le (h.slt b hb).1 hbel.size, .inl hb⟩
          · exact ⟨(hs1 b hb.2).1, .inr hb.1⟩
        · rcases hg with hg | hg
          · exact m1 g (hSc g hg)
          · exact hg.2
     have hsim := (h.world hbel).more q1 (fun b hb => ⟨(q2 b hb).1, by
      rcases (q2 b hb).2 with hb' | hb'
      · exact (h.slt b hb').2
      · exact .inr (.inl (Nat.le_trans h.below.size hb'))⟩) (fun l ob g ho hg hs => by
      obtain ⟨k1, k2, k3⟩ := h.rows.me l ob g ho hg
      rcases (q2 g hs).2 with hb' | hb'
      · exact k1 hb'
      · omega)
     rw [aJz] at hK
     exact hK _ _ (aAe hn hdf hsim q3 ⟨q4.ro, fun l ob g ho hg => by
      obtain ⟨k1, k2, k3⟩ := q4.me l ob g ho hg
      exact ⟨k1, k2, .inl (Nat.le_trans h.below.size k3)⟩, q4.nd, q4.ds, q4.mp⟩ (fun l ob g ho hg j o hj hb => by
      have := (q4.me l ob g ho hg).2.2
      have := (h.rows.me j o g hj hb).2.1
      omega) hfree hin)
   ·
     obtain ⟨Sf, mf, hF, rf, df, _⟩ := kW (xu A) hall h
     have hargs := aBF (hp' := xH 0 []) (B' := fun _ => 0) (V' := fun _ => undef) h mf A VS (fun l hl ob ho hs g hg => rf l hl ob ho hs g hg) hok hA
     unfold Oper.wp
     rw [hrun]
     show Calls P f VS.toArray w _
     refine (hac.2 w Sf _ _ (fun _ _ => False) VS (fun b hb => (hF.slt b hb).1) (fun g y hg => hF.glob (fun _ h => h) hg) Rows.none hargs).mono ?_
     rintro e' w' ⟨v, S1, B2, V2, T2, T1, rfl, hgr, m1, hs1, hrv, hro, _, _⟩
     show K (a.put (some d) v) w'
     have hbel := hgr.below aCt
     have hs1 : ∀ b, S1 b → b < w'.heap.size ∧ (Sf b ∨ w.heap.size ≤ b) := fun b hb => ⟨(hs1 b hb).1, (hs1 b hb).2.imp id (fun h => h.resolve_right (aCt b))⟩
     have hro : Rows S1 w' (zh out.obs) (fun _ => none) B2 V2 T2 (fun g => w.heap.size ≤ g) := ⟨hro.ro, fun l ob g ho hg => ⟨(hro.me l ob g ho hg).1, (hro.me l ob g ho hg).2.1, (hro.me l ob g ho hg).2.2.resolve_right (aCt g)⟩, hro.nd, hro.ds, hro.mp⟩
     have hsim := (hF.world hbel).more m1 (fun b hb => ⟨(hs1 b hb).1, by
      rcases (hs1 b hb).2 with hb' | hb'
      · exact (hF.slt b hb').2
      · exact .inr (.inl (Nat.le_trans hF.below.size hb'))⟩) (fun l ob g ho hg hs => by
      obtain ⟨k1, k2, k3⟩ := hF.rows.me l ob g ho hg
      rcases (hs1 g hs).2 with hb' | hb'
      · exact k1 hb'
      · omega)
     have heq : s.app (some d) ⟨ren (d + 1) out.val, jk (xu A) (yx (d + 1) 0 out.obs)⟩ = (yx (d + 1) 0 out.obs (ji (xu A) s)).put (some d) (ren (d + 1) out.val) := aBL
     rw [heq] at hK
     exact hK _ _ (aAe hn hdf hsim hrv ⟨hro.ro, fun l ob g ho hg => by
      obtain ⟨k1, k2, k3⟩ := hro.me l ob g ho hg
      exact ⟨k1, k2, .inl (Nat.le_trans h.below.size k3)⟩, hro.nd, hro.ds, hro.mp⟩ (fun l ob g ho hg j o hj hb => by
      have := (hro.me l ob g ho hg).2.2
      have := (hF.rows.me j o g hj hb).2.1
      omega) (aDN df _ _ _ hfree) hin)
 ·
   have hent := hac.1
   replace hrun := hrun hent
   have hwin : ∀ ob ∈ rin, uT (fun l => (xH 0 rin l).isSome) ob.e = true := fun ob ho => List.all_eq_true.1 hwe ob (List.mem_append_left _ ho)
   have hwout : ∀ ob ∈ rout, uT (fun l => (xH 0 rin l).isSome) ob.e = true := fun ob ho => List.all_eq_true.1 hwe ob (List.mem_append_right _ ho)
   obtain ⟨Sc, hSc, hScl, hScf, hcase⟩ : ∃ Sc : Nat → Prop, (∀ b, S b → Sc b) ∧ (∀ b, Sc b → b < w.heap.size) ∧ (∀ l ∈ Ls, ∀ ob g, s.hp l = some ob → Blk V T l g → ¬ Sc g) ∧ (((∀ b, Sc b → S b) ∧ uX Ls (xu A) = []) ∨ ((out.flat ∧ ∀ ob ∈ rout, kE ob) ∧ ∀ l ob g, l ∉ Ls → s.hp l = some ob → Blk V T l g → Sc g)) := by
    rcases hfl with hfl | hfl
    · exact ⟨S, fun _ h => h, fun b hb => (h.slt b hb).1, fun l _ ob g ho hg => (h.rows.me l ob g ho hg).1, .inl ⟨fun _ h => h, hfl⟩⟩
    · refine ⟨fun b => S b ∨ ∃ l ob, l ∉ Ls ∧ s.hp l = some ob ∧ Blk V T l b, fun _ h => .inl h, fun b hb => ?_, fun l hl ob g ho hg hs => ?_, .inr ⟨hfl, fun l ob g hl ho hg => .inr ⟨l, ob, hl, ho, hg⟩⟩⟩
      · rcases hb with hb | ⟨l, ob, _, ho, hg⟩
        · exact (h.slt b hb).1
        · exact (h.rows.me l ob b ho hg).2.1
      · rcases hs with hs | ⟨l', ob', hl', ho', hg'⟩
        · exact (h.rows.me l ob g ho hg).1 hs
        · exact hl' (h.rows.ds l l' ob ob' g ho ho' hg hg' ▸ hl)
   obtain ⟨hrows, hmem⟩ := aJg h hh hnd hwin hSc hScf
   have hdat := qK h (Ls := Ls) hSc A VS (fun l hl ob ho _ g hg => by
    rcases hcase with ⟨_, hno⟩ | ⟨_, hall⟩
    · rw [hno] at hl; simp at hl
    · have hl' : l ∉ Ls := by simp only [uX, List.mem_filter] at hl; simpa using hl.2
      exact hall l ob g hl' ho hg) hok hA
   rw [hargs] at hdat
   have hargs' := (RVs.map (S := Sc) (w := w) (hp := xH 0 rin) (hp' := s.hp) (B := fun l => B (xk 0 Ls l)) (B' := B) (V := fun l => V (xk 0 Ls l)) (V' := V) (ρ := xk 0 Ls) args VS (fun l hl => by
    have := uH args hwi hl
    obtain ⟨o, ho⟩ := Option.isSome_iff_exists.1 this
    exact ⟨o, vY Ls o, ho, (hmem l o ho).2, rfl, rfl, rfl⟩)).2 hdat
   unfold Oper.wp
   rw [hrun]
   show Calls P f VS.toArray w _
   refine (hac.2 w Sc _ _ (fun l => T (xk 0 Ls l)) VS hScl (fun g y hg => h.glob hSc hg) hrows hargs').mono ?_
   rintro e' w' ⟨v, S1, B2, V2, T2, T1, rfl, hgr, m1, hs1, hrv, hro, hhd, hx⟩
   show K (a.put (some d) v) w'
   obtain ⟨S2, q1, q2, q3, q4, q5⟩ : ∃ S2 : Nat → Prop, (∀ b, S b → S2 b) ∧ (∀ b, S2 b → b < w'.heap.size ∧ (S b ∨ w.heap.size ≤ b ∨ HB (xH 0 rin) (fun l => V (xk 0 Ls l)) (fun l => T (xk 0 Ls l)) b)) ∧ RV S2 w' (zh out.obs) B2 V2 out.val v ∧ Rows S2 w' (zh out.obs) (fun _ => none) B2 V2 T2 (fun g => w.heap.size ≤ g ∨ HB (xH 0 rin) (fun l => V (xk 0 Ls l)) (fun l => T (xk 0 Ls l)) g) ∧ Rows S2 w' (xH 0 rout) (fun _ => none) (fun l => B (xk 0 Ls l)) (fun l => V (xk 0 Ls l)) T1 (fun g => w.heap.size ≤ g ∨ HB (xH 0 rin) (fun l => V (xk 0 Ls l)) (fun l => T (xk 0 Ls l)) g) := by
    rcases hcase with ⟨hsub, _⟩ | ⟨hflat, _⟩
    · exact ⟨S1, fun b hb => m1 b (hSc b hb), fun b hb => ⟨(hs1 b hb).1, (hs1 b hb).2.imp (hsub b) id⟩, hrv, hro, hhd⟩
    · have hsub : ∀ g, (S g ∨ (w.heap.size ≤ g ∧ S1 g)) → S1 g := fun g hg => hg.elim (fun hg => m1 g (hSc g hg)) (fun hg => hg.2)
      refine ⟨fun b => S b ∨ (w.heap.size ≤ b ∧ S1 b), fun b hb => .inl hb, fun b hb => ?_, RV.flat _ _ hflat.1.1 hrv, hro.flat (fun l ob ho => hflat.1.2 ob (List.mem_of_getElem? ho)) hsub, hhd.flat (fun l ob ho => by obtain ⟨k, _, h2⟩ := wF rout 0 l ob ho; exact hflat.2 ob (List.mem_of_getElem? h2)) hsub⟩
      rcases hb with hb | hb
      · exact ⟨Nat.lt_of_lt_of_le (h.slt b hb).1 hgr.size, .inl hb⟩
      · exact ⟨(hs1 b hb.2).1, .inr (.inl hb.1)⟩
   obtain ⟨T3, hsim, hblk⟩ := aI8 h hh hnd hsz hwout hgr q1 q2 hmem q5
   obtain ⟨hlen, hat⟩ := qL Ls rin hh
   have hlen' : Ls.length = rout.length := by rw [hlen]; have := congrArg List.length hsz; simpa using this.symm
   obtain ⟨p1, p2, p3, p4⟩ := qI (Ls := Ls) Ls rout s hnd hlen'
   refine hK _ _ (aAe hn hdf hsim q3 ⟨q4.ro, fun l ob g ho hg => by
    obtain ⟨k1, k2, k3⟩ := q4.me l ob g ho hg
    refine ⟨k1, k2, ?_⟩
    rcases k3 with k3 | ⟨l2, ob2, e2, b2⟩
    · exact .inl (Nat.le_trans h.below.size k3)
    · exact (h.rows.me _ _ g (hmem l2 ob2 e2).2 b2).2.2, q4.nd, q4.ds, q4.mp⟩ (fun l ob g ho hg j o hj hb => by
    rcases hblk j o g hj hb with ⟨l', ob', e1, e2⟩ | e1
    · exact hx l l' ob ob' g ho e1 hg e2
    · rcases (q4.me l ob g ho hg).2.2 with k3 | k3
      · have := e1.1; omega
      · exact e1.2 k3) (aAD (s := s) (Ls := Ls) out.obs 0 (fun l hl => by
    by_cases hm : l ∈ Ls
    · obtain ⟨k, hk, e⟩ := List.getElem_of_mem hm
      obtain ⟨l2, e5, e6⟩ := hat k (rin[k]'(by omega)) (List.getElem?_eq_getElem (by omega))
      rw [List.getElem?_eq_getElem hk, e] at e5; cases e5
      rw [e6] at hl; cases hl
    · rw [(p2 l hm).1]; exact hl) hfree) hin)
theorem aIn (hn : a.tmps.size = n) (hdf : a.defers = []) (h : SimW W M S0 s a.tmps w S B V T) {dst : Option Tmp} {g : Operand} {ags : Array Operand} {ts : Array TypeId} {ty : TypeId} {pos : String} {after : Array Edge} {guard : Option (Nat × Bool)} {e : Eff}
 (hp : Pre P Θ ⟨dst, .call ⟨.value g, ags, ts⟩, ty, pos, after, guard⟩ s e) (hin : inN n dst = true) (hK : ∀ a' w', Sim W M S0 n (s.app dst e) a' w' → K a' w') : (⟨dst, .call ⟨.value g, ags, ts⟩, ty, pos, after, guard⟩ : Oper).wp P a w K Q := by
 simp only [Pre] at hp
 obtain ⟨f, xs, ys, d, out, hg, rfl, hcs, hp⟩ := hp
 have hgv := yt h hg (fun c => by simp)
 unfold RV at hgv
 obtain ⟨us, vs, eg, r1, r2⟩ := hgv
 exact aD4 hn hdf h (RVs.app (RVs.app r1 (aAj h _ hcs)) r2) hp (fun hent => aIB eg hent) hin hK
theorem aGt {g : Operand} {f : FuncId} {t : TypeId} {u u' : Value} {m : String} {dst : Option Tmp} {ags : Array Operand} {ts : Array TypeId} {ty : TypeId} {pos : String} {after : Array Edge} {guard : Option (Nat × Bool)} (hg : a.eval g = .iface t u) (hm : (method (P.types.size + Made.depth) t u m).run P w = .ok (f, u') w) (hent : ∀ vs w, (callFunc f vs).run P w = .ok (.enter f vs) w) :
 (execOp a.eval ⟨dst, .call ⟨.invoke g m, ags, ts⟩, ty, pos, after, guard⟩).run P w = .ok (.enter f (u' :: ags.toList.map a.eval).toArray) w := by
 have e0 : (#[a.eval g] ++ ags.map a.eval)[0]? = some (.iface t u) := by rw [Array.getElem?_append_left (by simp)]; simp [hg]
 have e1 : (#[a.eval g] ++ ags.map a.eval).extract 1 (#[a.eval g] ++ ags.map a.eval).size = ags.map a.eval := by
  apply Array.ext'
  simp [List.take_of_length_le]
 simp only [execOp, resolve, invoke, Sem.run_bind, Sem.run_pure, Result.andThen_ok, e0, e1, callMethod, run_program, hm, hent]
 congr 2
 apply Array.ext'
 simp
theorem aGo (hn : a.tmps.size = n) (hdf : a.defers = []) (h : SimW W M S0 s a.tmps w S B V T) {dst : Option Tmp} {g : Operand} {m : String} {ags : Array Operand} {ts : Array TypeId} {ty : TypeId} {pos : String} {after : Array Edge} {guard : Option (Nat × Bool)} {e : Eff}
 (hp : Pre P Θ ⟨dst, .call ⟨.invoke g m, ags, ts⟩, ty, pos, after, guard⟩ s e) (hin : inN n dst = true) (hK : ∀ a' w', Sim W M S0 n (s.app dst e) a' w' → K a' w') : (⟨dst, .call ⟨.invoke g m, ags, ts⟩, ty, pos, after, guard⟩ : Oper).wp P a w K Q := by
 simp only [Pre] at hp
 obtain ⟨t, y, y', f, d, out, hg, hvia, rfl, hcs, hp⟩ := hp
 have hgv := yt h hg (fun c => by simp)
 unfold RV at hgv
 obtain ⟨u, eg, r1⟩ := hgv
 obtain ⟨u', hm, r2⟩ := hvia S w s.hp B V u r1
 refine aD4 hn hdf h (A := y' :: ags.toList.map s.ev) (VS := u' :: ags.toList.map a.eval) ?_ hp (fun hent => aGt eg hm hent) hin hK
 unfold RVs
 exact ⟨u', _, rfl, r2, aAj h _ hcs⟩
theorem qQ (hΘ : yP P Θ) {o : Oper} {e : Eff} (hs : Sim W M S0 n s a w) (hp : Pre P Θ o s e) (hin : inN n o.dst = true) (hK : ∀ a' w', Sim W M S0 n (s.app o.dst e) a' w' → K a' w') : o.wp P a w K Q := by
 obtain ⟨hn, hdf, S, B, V, T, h⟩ := hs
 obtain ⟨dst, op, ty, pos, after, guard⟩ := o
 have scal : ∀ {r : Value}, (execOp a.eval ⟨dst, op, ty, pos, after, guard⟩).run P w = .ok (.value r) w → r.oneCell' = true → e = ⟨.v r, none⟩ → (⟨dst, op, ty, pos, after, guard⟩ : Oper).wp P a w K Q := fun {r} hr h1 he => by
  subst he; exact xw hn hdf h hr (aA0 h1) hin hK
 have mv : ∀ {x : Operand}, (execOp a.eval ⟨dst, op, ty, pos, after, guard⟩).run P w = .ok (.value (a.eval x)) w → ((∀ c, x = .const c → c.oneCell' = true) ∧ (e = ⟨s.ev x, none⟩ ∨
  (∃ l ob, s.ev x = .own l ∧ s.hp l = some ob ∧ ob.e.shut = true ∧ okL l = true ∧ e = ⟨.lst ob.sz ob.xs, some fun s => s.frz l⟩) ∨
  (∃ d el sz, dst = some d ∧ 0 < sz ∧ ET.row el = true ∧ okL (d + 1) = true ∧ x = .const (.slice none 0 0) ∧ e = ⟨.own (d + 1), some fun s => (s.kill (d + 1)).set (d + 1) (some ⟨el, sz, []⟩)⟩) ∨
  ∃ l L ob, s.ev x = .own l ∧ s.hp l = some ob ∧ ob.e.shut = true ∧ okL l = true ∧ okL L = true ∧ L ≠ l ∧ e = ⟨.own L, some fun s => s.relab l L ob⟩)) → (⟨dst, op, ty, pos, after, guard⟩ : Oper).wp P a w K Q := fun {x} hrun hp => by
  obtain ⟨hc, rfl | ⟨l, ob, hx, ho, hsh, hok, rfl⟩ | ⟨d, el, sz, rfl, h0, hel, hok, rfl, rfl⟩ | ⟨l, L, ob, hx, ho, hsh, hok, hokL, hne, rfl⟩⟩ := hp
  · exact xw hn hdf h hrun (zu h x hc) hin hK
  · have hv := yt h hx (fun c => by simp)
    unfold RV at hv
    obtain ⟨S', m, h', r⟩ := h.frz l hok
    refine yo hrun (hK _ _ (Sim.put hn hdf h' dst ?_ hin))
    rw [hv.2]; unfold RV
    exact aBJ h m ho hsh (r ob ho hsh)
  · refine yo hrun (hK _ _ (Sim.put hn hdf (h.nilrow (d := d + 1) (sz := sz) hok hel h0) (some d) ?_ hin))
    unfold RV; exact ⟨⟨_, yY⟩, upd_same.symm⟩
  · have hv := yt h hx (fun c => by simp)
    unfold RV at hv
    have hk := (h.kill L).kill l
    have hlL : l ≠ L := Ne.symm hne
    let s2 : St := (s.kill L).kill l
    have hshk : ∀ k, yR k ob.e = ob.e := fun k => aAP k _ hsh
    have ho2 : s2.hp l = some ob := by
     show xV l (xV L (s.hp l)) = _
     rw [ho]; simp only [xV, hshk]
    have hnL1 : ∀ t, (s2.sl t).names L = false := fun t => by
     show AV.names L (bif ((s.kill L).sl t).names l then .any else (s.kill L).sl t) = false
     cases ((s.kill L).sl t).names l with
     | true => rfl
     | false => exact (kG (s := s) (l := L)).1 t
    have hnL2 : ∀ j o, s2.hp j = some o → yS L o.e = false := fun j o e => by
     obtain ⟨o1, f1, rfl⟩ := y7 e
     obtain ⟨o2, f2, rfl⟩ := y7 f1
     cases hq : yS L (yR l (yR L o2.e)) with
     | false => rfl
     | true => exact absurd ((vS L o2.e).symm.trans (vo l L _ hq)) (by simp)
    have hd := hk.drop l hok
    have hro := h.rows.ro l ob ho
    have hdn : ∀ j o, (s2.drop l).hp j = some o → j ≠ l ∧ ∃ o1, s2.hp j = some o1 ∧ o = ⟨yR l o1.e, o1.sz, o1.xs⟩ := fun j o e => by
     have e0 : (bif Nat.beq j l then none else xV l (s2.hp j)) = some o := e
     have hj : j ≠ l := fun e' => by rw [e'] at e0; simp at e0
     rw [xY hj] at e0
     obtain ⟨o1, f1, f2⟩ := y7 e0
     exact ⟨hj, o1, f1, f2⟩
    have hsim := hd.repl (l := L) (w' := w) (ob' := ob) (b' := B l) (v' := V l) (T' := T l) hokL (fun t => by
     show AV.names L (bif (s2.sl t).names l then .any else s2.sl t) = false
     cases (s2.sl t).names l with
     | true => rfl
     | false => exact hnL1 t) (fun j o _ e => by
     obtain ⟨_, o1, f1, rfl⟩ := hdn j o e
     cases hq : yS L (yR l o1.e) with
     | false => rfl
     | true => exact absurd ((hnL2 j o1 f1).symm.trans (vo l L _ hq)) (by simp)) (Grown.refl _ _) (hro.any hsh) (fun g hg => by
     obtain ⟨q1, q2, q3⟩ := h.rows.me l ob g ho hg
     refine ⟨q2, .inr ⟨q1, q3, fun j o e hb => ?_⟩⟩
     obtain ⟨hj, o1, f1, _⟩ := hdn j o e
     exact hj (hk.rows.ds j l o1 ob g f1 ho2 hb hg)) (fun g hg => h.rows.nd l ob g ho hg)
    have heq : (s2.drop l).set L (some ob) = s.relab l L ob := by
     show St.mk _ _ _ = St.mk _ _ _
     congr 1
     · funext j
       show (bif (bif (bif (s.sl j).names L then AV.any else s.sl j).names l then AV.any else (bif (s.sl j).names L then AV.any else s.sl j)).names l then AV.any else (bif (bif (s.sl j).names L then AV.any else s.sl j).names l then AV.any else (bif (s.sl j).names L then AV.any else s.sl j))) = (bif (s.sl j).names l || (s.sl j).names L then AV.any else s.sl j)
       cases e1 : (s.sl j).names L <;> cases e2 : (s.sl j).names l <;> simp [e1, e2, AV.names]
     · funext j
       show (bif Nat.beq j L then some ob else bif Nat.beq j l then none else xV l (xV l (xV L (s.hp j)))) = (bif Nat.beq j L then some ob else bif Nat.beq j l then none else xV l (xV L (s.hp j)))
       rw [aG4]
     · funext j
       show (bif Nat.beq j L then none else bif Nat.beq j l then none else s.mp j) = (bif Nat.beq j L || Nat.beq j l then none else s.mp j)
       cases Nat.beq j L <;> cases Nat.beq j l <;> rfl
    rw [heq] at hsim
    refine yo hrun (hK _ _ (Sim.put hn hdf hsim dst ?_ hin))
    unfold RV; exact ⟨⟨ob, by simp [St.relab]⟩, by rw [upd_same]; exact hv.2⟩
 cases op with
 | move x =>
  simp only [Pre] at hp
  exact mv (by simp only [execOp, Sem.run_pure]) hp
 | assign x =>
  simp only [Pre] at hp
  exact mv (by simp only [execOp, Sem.run_pure]) hp
 | nilCheck x =>
  simp only [Pre] at hp
  obtain ⟨rfl, hp⟩ := hp
  have hnc : ∀ c, x = .const c → c.oneCell' = true := fun c e => by
   subst e
   rcases hp with ⟨y, h1⟩ | ⟨l, i, p, c', h1⟩ | ⟨f, xs, ys, h1⟩ | ⟨t, y, h1⟩ <;> simp [St.ev] at h1
  have hv := zu h x hnc
  have hv0 := hv
  refine xw hn hdf h ?_ hv0 hin hK
  rcases hp with ⟨y, h1⟩ | ⟨l, i, p, c', h1⟩ | ⟨f, xs, ys, h1⟩ | ⟨t, y, h1⟩
  · rw [h1] at hv; unfold RV at hv; unfold RA at hv
    obtain ⟨b, off, us, e, _⟩ := hv
    simp only [List.cons.injEq, and_true] at e
    simp only [execOp, e, Sem.run_pure]
  · rw [h1] at hv; unfold RV at hv
    obtain ⟨ob, ho, e⟩ := hv
    simp only [execOp, e, Sem.run_pure]
  · rw [h1] at hv; unfold RV at hv
    obtain ⟨us, vs, e, _⟩ := hv
    simp only [execOp, e, Sem.run_pure]
  · rw [h1] at hv; unfold RV at hv
    obtain ⟨u', e, _⟩ := hv
    simp only [execOp, e, Sem.run_pure]
 | pick c x y =>
  simp only [Pre] at hp
  obtain ⟨hx, hy, t, hc, rfl⟩ := hp
  refine xw hn hdf h (v := if t then a.eval x else a.eval y) ?_ ?_ hin hK
  · simp only [execOp]; exact aIu _ _ _ _ (uh h hc)
  · cases t
    · exact zu h y hy
    · exact zu h x hx
 | binOp op t x y t2 =>
  simp only [Pre] at hp
  rcases hp with ⟨p, q, r, hx, hy, hr, h1, rfl⟩ | ⟨r, hcx, hcy, hr, h1, rfl⟩
  rotate_left
  · refine scal ?_ h1 rfl
    have := hr S w s.hp B V _ _ (zu h x hcx) (zu h y hcy)
    simp only [execOp]
    rw [Sem.run_bind, this]; rfl
  refine scal ?_ h1 rfl
  have := hr w
  simp only [execOp, zq h hx, zq h hy]
  rw [Sem.run_bind, this]; rfl
 | unOp op t x =>
  simp only [Pre] at hp
  obtain ⟨p, r, hx, hr, h1, rfl⟩ := hp
  exact scal (by simp only [execOp, zq h hx, Sem.run_bind, hr w, Result.andThen_ok, Sem.run_pure]) h1 rfl
 | convert t1 t2 x =>
  simp only [Pre] at hp
  rcases hp with ⟨p, r, hx, hr, h1, rfl⟩ | ⟨r, hc, hok, hr, h1, rfl⟩
  rotate_left
  · have hv := aBF (S' := fun b => S b ∨ ∃ l ob, s.hp l = some ob ∧ Blk V T l b) (hp' := xH 0 []) (B' := fun _ => 0) (V' := fun _ => undef) h (fun _ h => .inl h) [s.ev x] [a.eval x] (fun l _ ob ho _ g hg => .inr ⟨l, ob, ho, hg⟩) hok (by
     unfold RVs; exact ⟨_, [], rfl, zu h x hc, by unfold RVs; rfl⟩)
    simp only [List.map_cons, List.map_nil] at hv
    unfold RVs at hv
    obtain ⟨u, us, e, hv, _⟩ := hv
    simp only [List.cons.injEq] at e
    obtain ⟨rfl, _⟩ := e
    exact scal (by simp only [execOp, Sem.run_bind, hr _ _ _ _ _ _ hv, Result.andThen_ok, Sem.run_pure]) h1 rfl
  exact scal (by simp only [execOp, zq h hx, Sem.run_bind, hr w, Result.andThen_ok, Sem.run_pure]) h1 rfl
 | index t x i => exact aGm hΘ hn hdf h hp hin hK
 | slice t x lo hi mx => exact aHo hΘ hn hdf h hp hin hK
 | extract x i =>
  simp only [Pre] at hp
  obtain ⟨xs, y, hx, hy, rfl⟩ := hp
  have hv := yt h hx (fun c => by simp)
  unfold RV at hv
  obtain ⟨us, e, hv⟩ := hv
  have hat : ∀ (xs : List AV) (us : List Value) (i : Nat) (y : AV), RVs S w s.hp B V xs us → xs[i]? = some y → ∃ u, us[i]? = some u ∧ RV S w s.hp B V y u := by
   intro xs
   induction xs with
   | nil => intro us i y _ hy; simp at hy
   | cons x xs ih =>
    intro us i y hr hy
    unfold RVs at hr
    obtain ⟨u, us', rfl, h1, h2⟩ := hr
    cases i with
    | zero => simp at hy; subst hy; exact ⟨u, rfl, h1⟩
    | succ i => simp at hy; simpa using ih us' i y h2 hy
  obtain ⟨u, hu, hrv⟩ := hat xs us i y hv hy
  exact xw hn hdf h (by simp [execOp, e, Instr.extract, hu]) hrv hin hK
 | field t x f =>
  simp only [Pre] at hp
  obtain ⟨hc, r, hr, rfl⟩ := hp
  obtain ⟨r', h1, h2⟩ := hr S w s.hp B V _ (zu h x hc)
  exact xw hn hdf h (by simp only [execOp, Sem.run_bind, h1, Result.andThen_ok, Sem.run_pure]) h2 hin hK
 | alloc t => exact aHk hΘ hn hdf h hp hin hK
 | box t x => exact aJp hΘ hn hdf h hp hin hK
 | build t ps => exact aHl hΘ hn hdf h hp hin hK
 | buildSlice t m ps => exact aCw hΘ hn hdf h hp hin hK
 | makeSlice t l c => exact aIp hΘ hn hdf h hp hin hK
 | load t x => exact aIo hΘ hn hdf h hp hin hK
 | store t x y => exact aHp hΘ hn hdf h hp hin hK
 | fieldAddr t x f => exact aHm hΘ hn hdf h hp hin hK
 | indexAddr t x i => exact aHn hΘ hn hdf h hp hin hK
 | makeFunc fn f c => exact aEn hn hdf h hp hin hK
 | makeInterface t x => exact aB0 hΘ hn hdf h hp hin hK
 | call c =>
  obtain ⟨callee, ags, ts⟩ := c
  cases callee with
  | invoke r m => exact aGo hn hdf h hp hin hK
  | builtin b =>
   by_cases hb1 : b = .len
   · subst hb1; exact aJq hΘ hn hdf h hp hin hK
   by_cases hb2 : b = .append
   · subst hb2; exact aGk hΘ hn hdf h hp hin hK
   by_cases hb3 : b = .delete
   · subst hb3; exact aGl hΘ hn hdf h hp hin hK
   have hp' : ∃ vs r, (ags.toList.mapM fun x => xX (s.ev x)) = some vs ∧ (∀ w, (builtin b ts ty (ags.map fun | .const _ => true | _ => false) vs.toArray).run P w = .ok (.value r) w) ∧ r.oneCell' = true ∧ e = ⟨.v r, none⟩ := by
    cases b <;> first | exact hp | exact absurd rfl hb1 | exact absurd rfl hb2 | exact absurd rfl hb3
   obtain ⟨vs, r, hvs, hr, h1, rfl⟩ := hp'
   refine scal ?_ h1 rfl
   have hmap : ∀ (l : List Operand) (vs : List Value), (l.mapM fun x => xX (s.ev x)) = some vs → l.map a.eval = vs := by
    intro l
    induction l with
    | nil => intro vs hv; simp at hv; subst hv; rfl
    | cons x l ih =>
     intro vs hv
     simp only [List.mapM_cons, Option.bind_eq_bind, Option.bind_eq_some_iff, Option.pure_def, Option.some.injEq] at hv
     obtain ⟨c, hc, cs, hcs, rfl⟩ := hv
     simp only [List.map_cons, zq h hc, ih cs hcs]
   have hargs : ags.map a.eval = vs.toArray := by
    apply Array.ext'
    rw [Array.toList_map, hmap _ _ hvs]
   simp only [execOp, resolve, invoke, Sem.run_bind, Sem.run_pure, Result.andThen_ok, hargs]
   exact hr w
  | value f => exact aIn hn hdf h hp hin hK
 | makeMap t r => exact aFY hΘ hn hdf h hp hin hK
 | mapUpdate t m k v => exact aDi hΘ hn hdf h hp hin hK
 | insert t m k v => exact aGn hΘ hn hdf h hp hin hK
 | lookup t m k ok => exact aGp hΘ hn hdf h hp hin hK
 | typeAssert x xT asserted ok =>
  simp only [Pre] at hp
  obtain ⟨hc, r, hr, rfl⟩ := hp
  obtain ⟨r', h1, h2⟩ := hr S w s.hp B V _ (zu h x hc)
  exact xw hn hdf h (by simp only [execOp, Sem.run_bind, h1, Result.andThen_ok, Sem.run_pure]) h2 hin hK
 | _ => simp only [Pre] at hp
end
end Go.Proofs.YtodckioppgjbdaaGreatDoor.AM
