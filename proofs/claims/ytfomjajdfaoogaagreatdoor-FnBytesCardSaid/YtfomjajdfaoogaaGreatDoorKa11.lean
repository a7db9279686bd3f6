/- Texts of the machine over data, folded. -/
import Derived.Test.YtfomjajdfaoogaaGreatDoorKa5
import Derived.Test.YtfomjajdfaoogaaGreatDoorKa10
import Derived.Test.YtfomjajdfaoogaaGreatDoorKa9
import Derived.Test.YtfomjajdfaoogaaGreatDoorKa8
set_option linter.unusedVariables false
set_option linter.unusedSimpArgs false
set_option maxRecDepth 100000
namespace Go.Proofs.YtfomjajdfaoogaaGreatDoor.AM
open Go Go.RowKit
theorem aIX : ∀ {l k : List ByteArray}, l.Nodup → (∀ x ∈ l, x ∈ k) → l.length ≤ k.length
 | [], k, _, _ => Nat.zero_le _
 | x :: l, k, h, hs => by
  have hx : x ∈ k := hs x (by simp)
  have h1 : (k.filter fun y => decide (y ≠ x)).length < k.length := by
   rcases Nat.lt_or_ge (k.filter fun y => decide (y ≠ x)).length k.length with q | q
   · exact q
   · have e : k.filter (fun y => decide (y ≠ x)) = k := List.Sublist.eq_of_length_le List.filter_sublist q
     rw [← e] at hx
     simp at hx
  rw [List.nodup_cons] at h
  have h2 := aIX (l := l) (k := k.filter fun y => decide (y ≠ x)) h.2 fun y hy => by
   rw [List.mem_filter]
   refine ⟨hs y (by simp [hy]), decide_eq_true fun e => ?_⟩
   subst e; exact h.1 hy
  simp; omega
theorem Good.len {es : List Ent} (h : Good es) : es.length ≤ 8 := by
 have h1 : (es.map (·.1)).Nodup := by
  unfold List.Nodup
  rw [List.pairwise_map]
  exact h.1.imp fun hk => aJr hk
 have h2 := aIX h1 (k := wD) fun x hx => by
  obtain ⟨e, he, rfl⟩ := List.mem_map.1 hx
  exact (h.2 e he).1
 have e8 : wD.length = 8 := rfl
 rw [e8] at h2
 simpa using h2
theorem Good.mrg {base a b : List Ent} (hb : Good base) (ha : Good a) (hc : Good b) : Good (qX base a b) := by
 unfold qX
 refine Good.apply _ ha fun e he => ?_
 have h1 := (hb.diff hc).2 e (List.mem_filter.1 he).1
 exact ⟨h1.1, h1.2.1, h1.2.2.1⟩
theorem aGP : ∀ (cs : List Cmt) (n : Nat) (c : Cmt), vN n (cs ++ [c]) = (vN n cs && u6 (n + cs.length) c)
 | [], n, c => by simp [vN]
 | d :: cs, n, c => by
  have e : n + 1 + cs.length = n + (d :: cs).length := by simp; omega
  rw [List.cons_append, vN, aGP cs (n + 1) c, vN, Bool.and_assoc, e]
structure GoodS (cs : List Cmt) : Prop where
 coms : vN 0 cs = true
 pos : 1 ≤ cs.length
 maps : ∀ c ∈ cs, Good c.2 ∧ c.1.length ≤ 2
theorem GoodS.sto {cs : List Cmt} (h : GoodS cs) (hl : cs.length ≤ 60) : uO cs = true := by
 unfold uO
 rw [h.coms, decide_eq_true ⟨h.pos, hl⟩]; rfl
theorem GoodS.snoc {cs : List Cmt} (h : GoodS cs) {c : Cmt} (hc : u6 cs.length c = true) (hg : Good c.2) (hl : c.1.length ≤ 2) : GoodS (cs ++ [c]) := by
 refine ⟨?_, by simp, fun x hx => ?_⟩
 · rw [aGP, h.coms, Nat.zero_add, hc]; rfl
 · rcases List.mem_append.1 hx with q | q
   · exact h.maps x q
   · rw [List.mem_singleton.1 q]; exact ⟨hg, hl⟩
theorem GoodS.mp {cs : List Cmt} (h : GoodS cs) (k : Nat) : Good (mpN cs k) := by
 unfold mpN
 split
 · rename_i c hc
   obtain ⟨hi, rfl⟩ := List.getElem?_eq_some_iff.1 hc
   exact (h.maps _ (List.getElem_mem hi)).1
 · exact Good.nil
theorem GoodS.comOK {cs : List Cmt} (h : GoodS cs) : comOK 1000 cs := fun c hc => by
 obtain ⟨g, hl⟩ := h.maps c hc
 have := g.len
 refine ⟨by omega, by omega, fun e he => ?_⟩
 have := (aBw (g.2 e he).1).2
 omega
theorem aDN {n : Nat} {m : List Ent} {p : Nat} (h1 : 1 ≤ p) (h2 : p ≤ n) (hm : Good m) : u6 n ([(p : Int)], m) = true := by
 unfold u6
 rw [hm.ok (Nat.le_trans hm.len (by omega)), Bool.true_and]
 refine aCB ⟨by simp, by simp; omega, fun i hi => ?_⟩
 have : i = 0 := by simp at hi; omega
 subst this
 exact ⟨by simp, by simp; omega, by simp; omega, by simp⟩
theorem aJ6 {n : Nat} {m : List Ent} {p q : Nat} (h1 : 1 ≤ p) (h2 : p ≤ n) (h3 : 1 ≤ q) (h4 : q ≤ n) (hpq : q ≠ p) (hm : Good m) : u6 n ([(p : Int), (q : Int)], m) = true := by
 unfold u6
 rw [hm.ok (Nat.le_trans hm.len (by omega)), Bool.true_and]
 refine aCB ⟨by simp, by simp; omega, fun i hi => ?_⟩
 have : i = 0 ∨ i = 1 := by simp at hi; omega
 rcases this with rfl | rfl
 · exact ⟨by simp, by simp; omega, by simp; omega, by simp⟩
 · exact ⟨by simp, by simp; omega, by simp; omega, by simp; omega⟩
noncomputable def jV (c : List UInt8) (s : Src) (out : List Cmt) : Cmt × Src :=
 if (xB c (edS c (xB c s out.length).2).2 out.length).1 = (xB c s out.length).1 then (([(((xB c s out.length).1 + 1 : Nat) : Int)], yR (mpN out ((xB c s out.length).1 + 1)) (edS c (xB c s out.length).2).1), (xB c (edS c (xB c s out.length).2).2 out.length).2)
 else if (xB c (xB c (edS c (xB c s out.length).2).2 out.length).2 3).1 = 2 then
  (([(((xB c s out.length).1 + 1 : Nat) : Int), (((xB c (edS c (xB c s out.length).2).2 out.length).1 + 1 : Nat) : Int)], qX (mpN out (kX out ((xB c s out.length).1 + 1) ((xB c (edS c (xB c s out.length).2).2 out.length).1 + 1))) (yR (mpN out ((xB c s out.length).1 + 1)) (edS c (xB c s out.length).2).1) (mpN out ((xB c (edS c (xB c s out.length).2).2 out.length).1 + 1))), (xB c (xB c (edS c (xB c s out.length).2).2 out.length).2 3).2)
 else (([(((xB c s out.length).1 + 1 : Nat) : Int)], yR (mpN out ((xB c s out.length).1 + 1)) (edS c (xB c s out.length).2).1), (xB c (xB c (edS c (xB c s out.length).2).2 out.length).2 3).2)
theorem aIa {c : List UInt8} {s : Src} {out : List Cmt} {K : Nat} (h : s.ok K) (hg : GoodS out) : (jV c s out).2.ok (K + 13) ∧ u6 out.length (jV c s out).1 = true ∧ Good (jV c s out).1.2 ∧ (jV c s out).1.1.length ≤ 2 := by
 obtain ⟨p1, p2⟩ := yC (c := c) (n := out.length) h hg.pos
 obtain ⟨e1, e2, e3⟩ := aGW (c := c) p1
 obtain ⟨q1, q2⟩ := yC (c := c) (n := out.length) e1 hg.pos
 obtain ⟨r1, r2⟩ := yC (c := c) (n := 3) q1 (by omega)
 have gm := (hg.mp ((xB c s out.length).1 + 1)).applyE e2
 unfold jV
 generalize (xB c s out.length).1 = p at *
 generalize (xB c s out.length).2 = s1 at *
 generalize (xB c (xB c (edS c s1).2 out.length).2 3) = x at *
 generalize (xB c (edS c s1).2 out.length) = q at *
 generalize yR (mpN out (p + 1)) (edS c s1).1 = m at *
 split
 · exact ⟨q1.le (by omega), aDN (by omega) (by omega) gm, gm, by simp⟩
 · rename_i hpq
   split
   · have gg := (hg.mp (kX out (p + 1) (q.1 + 1))).mrg gm (hg.mp (q.1 + 1))
     exact ⟨r1.le (by omega), aJ6 (by omega) (by omega) (by omega) (by omega) (by omega) gg, gg, by simp⟩
   · exact ⟨r1.le (by omega), aDN (by omega) (by omega) gm, gm, by simp⟩
noncomputable def aCf (c : List UInt8) : Nat → Src → List Cmt → List Cmt × Src
 | 0, s, out => (out, s)
 | n + 1, s, out => aCf c n (jV c s out).2 (out ++ [(jV c s out).1])
theorem aMF {c : List UInt8} : ∀ (n : Nat) (s : Src) (out : List Cmt) (K : Nat), s.ok K → GoodS out → (aCf c n s out).2.ok (K + 13 * n) ∧ GoodS (aCf c n s out).1 ∧ (aCf c n s out).1.length = out.length + n
 | 0, s, out, K, h, hg => ⟨h, hg, rfl⟩
 | n + 1, s, out, K, h, hg => by
  obtain ⟨a1, a2, a3, a4⟩ := aIa (c := c) h hg
  obtain ⟨b1, b2, b3⟩ := aMF (c := c) n _ (out ++ [(jV c s out).1]) (K + 13) a1 (hg.snoc a2 a3 a4)
  refine ⟨b1.le (by omega), b2, ?_⟩
  show (aCf c n _ _).1.length = _
  rw [b3]; simp; omega
def uF (c : List UInt8) (k : Nat) : Nat := min (1 + c.length / 12) k
theorem GoodS.one {m : List Ent} (h : Good m) : GoodS [([], m)] := by
 refine ⟨?_, by simp, fun x hx => by rw [List.mem_singleton.1 hx]; exact ⟨h, by simp⟩⟩
 unfold vN vN u6
 rw [h.ok (Nat.le_trans h.len (by omega)), aCB ⟨by simp, by simp, fun i hi => by simp at hi⟩]; rfl
noncomputable def aDi (c : List UInt8) (s : Src) : List Cmt × Src := aCf c (xB c (uS c s).2 (uF c 10 + 3)).1 (xB c (uS c s).2 (uF c 10 + 3)).2 [([], (uS c s).1)]
theorem aSB {c : List UInt8} {s : Src} {K : Nat} (h : s.ok K) : (aDi c s).2.ok (K + 200) ∧ GoodS (aDi c s).1 ∧ (aDi c s).1.length ≤ 13 := by
 obtain ⟨e1, e2, e3⟩ := aEc (c := c) h
 have hr : uF c 10 ≤ 10 := Nat.min_le_right _ _
 obtain ⟨n1, n2⟩ := yC (c := c) (n := uF c 10 + 3) e1 (by omega)
 obtain ⟨a1, a2, a3⟩ := aMF (c := c) (xB c (uS c s).2 (uF c 10 + 3)).1 _ [([], (uS c s).1)] _ n1 (GoodS.one e2)
 refine ⟨a1.le (by omega), a2, ?_⟩
 unfold aDi
 rw [a3]; simp; omega
section
variable {P : Program} {Θ : Tab} {s : St} {ty : TypeId} {pos : String} {after : Array Edge} {g : Option (Nat × Bool)}
theorem aLa {s s' : St} : ∀ (ps : List (Nat × Operand)) (z : List AV), (∀ x ∈ ps, s'.ev x.2 = s.ev x.2) → uU s' z ps = uU s z ps ∧ (aAL s z ps → aAL s' z ps)
 | [], z, _ => ⟨rfl, fun h => h⟩
 | (i, x) :: ps, z, h => by
  have h1 := h (i, x) (by simp)
  simp only at h1
  obtain ⟨q1, q2⟩ := aLa ps (z.set i ((toO (s.ev x)).getD .any)) (fun y hy => h y (List.mem_cons_of_mem _ hy))
  unfold uU aAL
  rw [h1]
  exact ⟨q1, fun ⟨a, b⟩ => ⟨a, q2 b⟩⟩
theorem aPy {d : Option Tmp} {t : TypeId} {ps : Array (Nat × Operand)} {fs : List (Nat × Nat)} {z : List AV} (ht : Θ.look t = .struct fs z) (hm : aAL s (kr z) ps.toList) (hc : wQ (ps.toList.map (·.2)) = true) (hn : ((jc (.mix (uU s (kr z) ps.toList))).all fun l => ps.toList.any fun x => match x.2 with | .tmp t => (s.sl t).names l | _ => false) = true) :
 Sft P Θ ⟨d, .build t ps, ty, pos, after, g⟩ s (.mix (uU s (kr z) ps.toList)) [] [] := by
 refine ⟨fun s' h1 h2 => ⟨⟨.mix (uU s (kr z) ps.toList), none⟩, ?_, fun K hK => .done hK⟩, fun l ob h => by simp [yI] at h, fun l hl => (by cases hl), fun l hl => ?_, fun l hl => (zl hl).elim, fun l ob hl => (zl hl).elim⟩
 · have hev : ∀ x ∈ ps.toList, s'.ev x.2 = s.ev x.2 := fun x hx => h1 x.2 (by simp [Op.operands]; exact ⟨x.1, by simpa using hx⟩)
   obtain ⟨q1, q2⟩ := aLa (s := s) (s' := s') ps.toList (kr z) hev
   rw [← q1]
   exact uo ht (q2 hm) hc
 · have h3 := List.all_eq_true.1 hn l (kJ _ hl)
   obtain ⟨x, hx, h4⟩ := List.any_eq_true.1 h3
   obtain ⟨i, x⟩ := x
   cases x with
   | tmp t => exact .inr ⟨t, y7 (by simp [Op.operands]; exact ⟨i, by simpa using hx⟩), h4⟩
   | _ => cases h4
theorem aQB {d : Nat} {t : TypeId} {x : Operand} {el sz b : Nat} {z : AV} {v : Value} (hf : s.hp (d + 1) = none) (ht : Θ.look t = .slice el sz b z) (hx : s.ev x = .v v) (hv : v.oneCell' = true) (hz : Nat.beq (asz (.v v)) (asz z) = true) (hsz : Nat.ble sz 65536 = true) (hok : okL (d + 1) = true := by rfl) :
 Sft P Θ ⟨some d, .buildSlice t 1 #[(0, x)], ty, pos, after, g⟩ s (.own (d + 1)) [] [(d + 1, some ⟨.s el, sz, [.v v]⟩)] := by
 refine ⟨fun s' h1 h2 => ⟨⟨.own (d + 1), some fun s'' => s''.set (d + 1) (some ⟨.s el, sz, [.v v]⟩)⟩, ?_, fun K hK => .done ?_⟩, fun l ob h => ?_, fun l hl => (by cases hl), fun l hl => .inl ?_, fun l ⟨o, hl⟩ => .inl ?_, fun l ob ⟨o, hl⟩ ho => ?_⟩
 · exact aBz ((h2 _ (.inl (in1 _ _))).1.trans hf) ht ((h1 x (by simp [Op.operands])).trans hx) hv hz hsz hok
 · rw [zQ, j6]; exact hK
 · obtain ⟨_, e⟩ := nu1 h; cases e; rfl
 · simp only [AV.names] at hl; rw [← Nat.eq_of_beq_eq_true hl]; exact in1 _ _
 · obtain ⟨rfl, _⟩ := nu1 hl; exact ⟨d, rfl, rfl⟩
 · obtain ⟨rfl, _⟩ := nu1 hl; rw [hf] at ho; cases ho
theorem nu2 {l l' m : Nat} {o1 o2 : Option OB} {o : Option OB} (h : yI [(l, o1), (l', o2)] m = some o) : (m = l ∧ o = o1) ∨ (m = l' ∧ o = o2) := by
 simp only [yI] at h
 cases e : Nat.beq m l with
 | true => rw [e] at h; simp only [cond_true, Option.some.injEq] at h; exact .inl ⟨Nat.eq_of_beq_eq_true e, h.symm⟩
 | false =>
  rw [e] at h; simp only [cond_false] at h
  cases e' : Nat.beq m l' with
  | true => rw [e'] at h; simp only [cond_true, Option.some.injEq] at h; exact .inr ⟨Nat.eq_of_beq_eq_true e', h.symm⟩
  | false => rw [e'] at h; cases h
theorem aTu (l l' : Nat) (o1 o2 : Option OB) : yF [(l, o1), (l', o2)] l := ⟨o1, by simp [yI]⟩
theorem aSw (l l' : Nat) (o1 o2 : Option OB) : yF [(l, o1), (l', o2)] l' := by
 unfold yF
 simp only [yI]
 cases e : Nat.beq l' l with
 | true => exact ⟨_, rfl⟩
 | false => exact ⟨o2, by simp⟩
theorem aSA {l l' : Nat} {ob ob' : OB} {s : St} (hne : Nat.beq l l' = false) : (s.set l (some ob)).set l' (some ob') = shp [] [(l, some ob), (l', some ob')] s := by
 unfold shp St.set
 congr 1
 · funext j
   show (bif Nat.beq j l' then some ob' else bif Nat.beq j l then some ob else s.hp j) = (match (bif Nat.beq j l then some (some ob) else bif Nat.beq j l' then some (some ob') else none) with | some o => o | none => s.hp j)
   cases e : Nat.beq j l with
   | true =>
    have : Nat.beq j l' = false := by rw [Nat.eq_of_beq_eq_true e]; exact hne
    rw [this]; rfl
   | false => cases Nat.beq j l' <;> rfl
 · funext j
   show (bif Nat.beq j l' then none else bif Nat.beq j l then none else s.mp j) = (match (bif Nat.beq j l then some (some ob) else bif Nat.beq j l' then some (some ob') else none) with | some _ => none | none => s.mp j)
   cases Nat.beq j l <;> cases Nat.beq j l' <;> rfl
theorem aNH {f : FuncId} {ts : Array TypeId} {t a l : Nat} {ri ro ob : OB} (hac : ACG P f [.optr 0 0 [] 0] [ri] [ro] ⟨.own 0, [ob]⟩) (hx : s.sl a = .optr l 0 [] 0) (ho : s.hp l = some ri) (hsz : ro.sz = ri.sz) (hf : s.hp (t + 1) = none) (hne : Nat.beq l (t + 1) = false) (hri : ri.e.shut = true) (hro : ro.e.shut = true) (hob : ob.e.shut = true) (hok : okL (t + 1) = true := by rfl) :
 Sft P Θ ⟨some t, .call ⟨.value (.func f), #[.tmp a], ts⟩, ty, pos, after, g⟩ s (.own (t + 1)) [] [(l, some ro), (t + 1, some ob)] := by
 have hsub : ∀ o : OB, o.e.shut = true → wY [l] o = o := fun o h => by
  obtain ⟨e, sz, xs⟩ := o
  cases e <;> first | rfl | cases h
 have hwi : ∀ o : OB, o.e.shut = true → ∀ p, uK p o.e = true := fun o h p => by
  obtain ⟨e, sz, xs⟩ := o
  cases e <;> first | rfl | cases h
 refine ⟨fun s' h1 h2 => ⟨⟨.own (t + 1), some fun s => yu (t + 1) 0 [ob] (yS [l] [l] [ro] s)⟩, ?_, fun K hK => .done ?_⟩, fun m o h => ?_, fun l hl => (by cases hl), fun m hl => .inl ?_, fun m ⟨o, hl⟩ => ?_, fun m o ⟨o', hl⟩ hm => ?_⟩
 · have ea : s'.ev (.tmp a) = .optr l 0 [] 0 := (h1 (.tmp a) (by simp [Op.operands, Call.operands])).trans hx
   have ho' : s'.hp l = some ri := (h2 l (.inl (aTu _ _ _ _))).1.trans ho
   have hf' : s'.hp (t + 1) = none := (h2 _ (.inl (aSw _ _ _ _))).1.trans hf
   have e2 : (([] : List AV) ++ [Operand.tmp a].map s'.ev ++ []) = [.optr l 0 [] 0] := by simp [ea]
   refine wO (x := .func f) (xs := []) (ys := []) (out := ⟨.own 0, [ob]⟩) [l] hac rfl ?_ ⟨ho'.trans (congrArg some (hsub ri hri).symm), trivial⟩ rfl (by simp [hsz]) ⟨⟨hf', hok, hob⟩, trivial⟩ ?_ ?_ ?_ (.inl ?_) rfl
   · show s'.datHL [l] ([] ++ [Operand.tmp a].map s'.ev ++ []) = _
     rw [e2]
     simp [St.datHL, St.datH, aAu, wG, mapA, xk]
   · show vM s' [l] ([] ++ [Operand.tmp a].map s'.ev ++ []) = true
     rw [e2]; simp [vM, kg]
   · simp [zC, AV.within, xE]
   · simp [hwi ri hri, hwi ro hro]
   · show (zn [l] (xY ([] ++ [Operand.tmp a].map s'.ev ++ []))).isEmpty = true
     rw [e2]; simp [xY, yP, zn]
 · have e3 : yu (t + 1) 0 [ob] (yS [l] [l] [ro] s') = shp [] [(l, some ro), (t + 1, some ob)] s' := by
    show (s'.set l (some (wY [l] ro))).set (t + 1 + 1000 * 0) (some ob) = _
    rw [hsub ro hro]
    exact aSA hne
   rw [zQ, e3]; exact hK
 · rcases nu2 h with ⟨_, e⟩ | ⟨_, e⟩ <;> (cases e; assumption)
 · simp only [AV.names] at hl; rw [← Nat.eq_of_beq_eq_true hl]; exact aSw _ _ _ _
 · rcases nu2 hl with ⟨rfl, _⟩ | ⟨rfl, _⟩
   · exact .inr ⟨a, y7 (by simp [Op.operands, Call.operands]), by rw [hx]; simp [AV.names]⟩
   · exact .inl ⟨t, rfl, rfl⟩
 · rcases nu2 hl with ⟨rfl, _⟩ | ⟨rfl, _⟩
   · rw [ho] at hm; cases hm; exact hri
   · rw [hf] at hm; cases hm
theorem aRY {n k : Nat} {ops : Array Oper} {K : St → Prop} (h : Gh K s) : xQ P Θ n ops k [] s K := h
end
abbrev aTW (l : List Cmt) : OB := ⟨33, 2, l.map xS⟩
attribute [local irreducible] xI xO xQ xX yG Pre ACG
theorem aLM {c : List UInt8} {s : Src} (hc : c.length ≤ maxLen) : ACG Tryz.prog 59 [.optr 0 0 [] 0, .v (.int .i64 10)] [zu c s] [zu c s] ⟨.v (.int .i64 ((uF c 10 : Nat) : Int)), []⟩ := by
 unfold maxLen at hc
 have d1 : (c.length : Int) / 12 = ((c.length / 12 : Nat) : Int) := by omega
 have d2 : c.length / 12 ≤ c.length := Nat.div_le_self _ _
 refine xL (rs := [.tmp 4]) xH (by kernel_rfl) Tryz.func59 rfl Tryz.ntmps59 (by rw [Tryz.results59]) (by kernel_rfl) (by simp) rfl rfl (xA _ _ _ ?_); conv => whnf
 repeat ((first | refine qp (xC (aN3 (by omega) (by omega) (by omega) d1) rfl rfl rfl) ?_ | refine qp (xC (zN (c := ((1 + c.length / 12 : Nat) : Int)) (by omega) (by omega) (by omega)) rfl rfl rfl) ?_ | refine qp (aQ0 (a := 1 + c.length / 12) (b := 10) rfl rfl) ?_ | refine qz ?_); conv => whnf)
 exact j5 rfl rfl
set_option maxHeartbeats 8000000 in
theorem aPK {c : List UInt8} {s : Src} {K : Nat} (hc : c.length ≤ maxLen) (hs : s.ok K) (hK : K ≤ 800000000) : ACG Tryz.prog 28 [.optr 0 0 [] 0] [zu c s] [zu c (aDi c s).2] ⟨.own 0, [aTW (aDi c s).1]⟩ := by
 have hr : uF c 10 ≤ 10 := Nat.min_le_right _ _
 obtain ⟨e1, e2, e3⟩ := aEc (c := c) hs
 obtain ⟨n1, n2⟩ := yC (c := c) (n := uF c 10 + 3) e1 (by omega)
 have h1 := aFx (c := c) hc hs (by omega)
 have h2 := aLM (c := c) (s := (uS c s).2) hc
 have h3 := vF (n := uF c 10 + 3) hc e1 (by omega) (by omega)
 have g1 := GoodS.one e2
 refine xL (rs := [.tmp 2]) xH (by kernel_rfl) Tryz.func28 rfl Tryz.ntmps28 (by rw [Tryz.results28]) (by kernel_rfl) (by simp) rfl rfl (xA _ _ _ ?_); conv => whnf
 (refine qg [0] (h1) ?_; conv => whnf)
 refine qr (uo rfl ⟨⟨_, _, rfl, rfl, rfl⟩, ⟨_, _, rfl, rfl, rfl⟩, trivial⟩ rfl) ?_
 conv => whnf
 refine jv (aKI rfl rfl rfl rfl rfl) rfl rfl (fun e => by cases e) (Gh.foldr 15 11 [0] rfl rfl rfl rfl rfl rfl (Gh.foldr 15 13 [1] rfl rfl rfl rfl rfl rfl (Gh.shuts 15 rfl rfl (Gh.done ?_))))
 conv => whnf
 repeat ((first | refine qg [0] (h2) ?_ | refine qg [0] (h3) ?_ | refine qp (xC (zN (c := ((uF c 10 + 3 : Nat) : Int)) (by omega) (by omega) (by omega)) rfl rfl rfl) ?_ | refine qz ?_); conv => whnf)
 have hS : aDi c s = aCf c (xB c (uS c s).2 (uF c 10 + 3)).1 (xB c (uS c s).2 (uF c 10 + 3)).2 [([], (uS c s).1)] := rfl
 generalize aDi c s = Z at hS ⊢
 generalize (uS c s).1 = es at *
 generalize (xB c (uS c s).2 (uF c 10 + 3)).2 = s1 at *
 generalize (xB c (uS c s).2 (uF c 10 + 3)).1 = n0 at *
 refine xZ (ι := { p : Nat × Src × List Cmt // p.2.1.ok (K + 12 + 13 * (12 - p.1)) ∧ p.1 ≤ 12 ∧ GoodS p.2.2 ∧ p.2.2.length + p.1 ≤ 13 ∧ Z = aCf c p.1 p.2.1 p.2.2 }) (fun p => ⟨[(0, .optr 0 0 [] 0), (3, .own 15), (4, .v (.int .i64 (p.1.1 : Int)))], [(0, zu c p.1.2.1), (15, aTW p.1.2.2)]⟩) (fun p => p.1.1) ⟨(n0, s1, [([], es)]), n1.le (by omega), by omega, g1, by simp; omega, hS⟩ (by exact qle) ?_
 rintro ⟨⟨n, s2, out⟩, h1, h2, h3, h4, h5⟩
 dsimp only at h1 h2 h3 h4 h5 ⊢
 conv => whnf
 cases n with
 | zero =>
  have h6 : Z = (out, s2) := h5
  subst h6
  repeat ((refine qz ?_; conv => whnf))
  exact aH9 rfl rfl rfl
 | succ n =>
  obtain ⟨p1, p2⟩ := yC (c := c) (n := out.length) h1 h3.pos
  obtain ⟨q1, q2, q3⟩ := aGW (c := c) p1
  obtain ⟨r1, r2⟩ := yC (c := c) (n := out.length) q1 h3.pos
  obtain ⟨t1, t2⟩ := yC (c := c) (n := 3) r1 (by omega)
  obtain ⟨u1, u2, u3, u4⟩ := aIa (c := c) h1 h3
  have hso := h3.sto (by omega)
  have gm := (h3.mp ((xB c s2 out.length).1 + 1)).applyE q2
  have hst : aCf c (n + 1) s2 out = aCf c n (jV c s2 out).2 (out ++ [(jV c s2 out).1]) := rfl
  rw [hst] at h5
  have c1 := vF (n := out.length) hc h1 (by omega) (by omega)
  have c2 := aJI (c := c) hc p1 (by omega)
  have c3 := vF (n := out.length) hc q1 (by omega) (by omega)
  have c4 := aDp (n := 3) hc r1 (by omega) (by omega) (by omega)
  have hmp : mpN out ((xB c s2 out.length).1 + 1) = (out[(xB c s2 out.length).1]).2 := aKA (k := (xB c s2 out.length).1 + 1) p2
  have lmp := aKB hso ((xB c s2 out.length).1 + 1)
  have c5 := aC3 (es := mpN out ((xB c s2 out.length).1 + 1)) (xs := (edS c (xB c s2 out.length).2).1) (by omega)
  have hone : jV c s2 out = if (xB c (edS c (xB c s2 out.length).2).2 out.length).1 = (xB c s2 out.length).1 then (([(((xB c s2 out.length).1 + 1 : Nat) : Int)], yR (mpN out ((xB c s2 out.length).1 + 1)) (edS c (xB c s2 out.length).2).1), (xB c (edS c (xB c s2 out.length).2).2 out.length).2)
   else if (xB c (xB c (edS c (xB c s2 out.length).2).2 out.length).2 3).1 = 2 then
    (([(((xB c s2 out.length).1 + 1 : Nat) : Int), (((xB c (edS c (xB c s2 out.length).2).2 out.length).1 + 1 : Nat) : Int)], qX (mpN out (kX out ((xB c s2 out.length).1 + 1) ((xB c (edS c (xB c s2 out.length).2).2 out.length).1 + 1))) (yR (mpN out ((xB c s2 out.length).1 + 1)) (edS c (xB c s2 out.length).2).1) (mpN out ((xB c (edS c (xB c s2 out.length).2).2 out.length).1 + 1))), (xB c (xB c (edS c (xB c s2 out.length).2).2 out.length).2 3).2)
   else (([(((xB c s2 out.length).1 + 1 : Nat) : Int)], yR (mpN out ((xB c s2 out.length).1 + 1)) (edS c (xB c s2 out.length).2).1), (xB c (xB c (edS c (xB c s2 out.length).2).2 out.length).2 3).2) := rfl
  generalize jV c s2 out = one at *
  generalize xB c s2 out.length = pp at *
  obtain ⟨p, sp⟩ := pp
  dsimp only at *
  generalize edS c sp = ee at *
  obtain ⟨xs, se⟩ := ee
  dsimp only at *
  generalize xB c se out.length = qq at *
  obtain ⟨q, sq⟩ := qq
  dsimp only at *
  generalize xB c sq 3 = tt at *
  obtain ⟨r, sr⟩ := tt
  dsimp only at *
  generalize hm : yR (mpN out (p + 1)) xs = m at *
  rw [hmp] at c5
  have hi : (out.map xS)[p]? = some (xS out[p]) := by simp [p2]
  have hOK := wJ (gm.ok (Nat.le_trans gm.len (by omega))) (Nat.le_trans gm.len (by unfold maxLen; omega)) gm.small
  repeat ((first | refine qg [0] (c1) ?_ | refine qp (xC (zN (c := ((p + 1 : Nat) : Int)) (by omega) (by omega) (by omega)) rfl rfl rfl) ?_ | refine qz ?_); conv => whnf)
  refine .inr ⟨by kernel_rfl, vv (by kernel_rfl), ?_⟩
  refine xJ (wT rfl) rfl rfl rfl (.inl rfl) (by kernel_rfl) ?_
  refine xU (aQB rfl rfl rfl rfl rfl rfl) aAF rfl rfl (by kernel_rfl) ?_
  refine xJ (wT rfl) rfl rfl rfl (.inl rfl) (by kernel_rfl) ?_
  refine xJ (wT rfl) rfl rfl rfl (.inl rfl) (by kernel_rfl) ?_
  refine xJ (xC (yU (c := (p : Int)) (by omega) (by omega) (by omega)) rfl rfl rfl) rfl rfl rfl (.inl rfl) (by kernel_rfl) ?_
  refine xU (aDF (zX (by simpa using p2) rfl rfl rfl rfl rfl) rfl rfl) ul rfl rfl (by kernel_rfl) ?_
  refine xJ (uG rfl rfl rfl) rfl rfl rfl (.inl rfl) (by kernel_rfl) ?_
  refine xJ (zO rfl rfl hi rfl rfl rfl rfl) rfl rfl rfl (.inr rfl) (by kernel_rfl) ?_
  refine xJ (wT rfl) rfl rfl rfl (.inl rfl) (by kernel_rfl) ?_
  refine xU (aNH c2 rfl rfl rfl rfl rfl rfl rfl rfl) in2 rfl rfl (by kernel_rfl) ?_
  refine xU (aI8 c5 rfl ⟨by simp [yj, uJ], aEe (x9 qV _)⟩ ⟨⟨rfl, rfl, rfl⟩, trivial⟩ rfl rfl rfl) aJn rfl rfl (by kernel_rfl) ?_
  refine xU (aPy rfl ⟨⟨_, _, rfl, rfl, rfl⟩, ⟨_, _, rfl, rfl, rfl⟩, trivial⟩ rfl rfl) ul rfl rfl (by kernel_rfl) ?_
  refine xU (aDd rfl rfl) aAF rfl rfl (by kernel_rfl) ?_
  refine qb (yJ rfl rfl rfl rfl rfl rfl) rfl rfl (by kernel_rfl) ?_
  refine aRY (Gh.foldr 7 40 [1] rfl rfl rfl rfl rfl rfl (Gh.done ?_))
  conv => whnf
  repeat ((first | refine qg [0] (c3) ?_ | refine qp (xC (zN (c := ((q + 1 : Nat) : Int)) (by omega) (by omega) (by omega)) rfl rfl rfl) ?_ | refine qz ?_); conv => whnf)
  by_cases hqp : q = p
  · rw [if_pos hqp] at hone
    subst hone
    dsimp only at *
    repeat ((refine qz ?_; conv => whnf))
    refine jv (aCA hOK rfl (.inl rfl) trivial rfl rfl) rfl rfl (fun e => by cases e) (Gh.foldr 7 31 [0] rfl rfl rfl rfl rfl rfl (Gh.shuts 7 rfl rfl (Gh.done ?_)))
    conv => whnf
    refine qr (vH (f := xS) (xs := out) ([((p + 1 : Nat) : Int)], m) (out ++ [([((p + 1 : Nat) : Int)], m)]) rfl (by omega) rfl rfl rfl rfl rfl rfl rfl) ?_
    conv => whnf
    repeat ((first | refine qp (xC (yU (c := (n : Int)) (by omega) (by omega) (by omega)) rfl rfl rfl) ?_ | refine qz ?_); conv => whnf)
    exact ⟨⟨(n, sq, out ++ [([((p + 1 : Nat) : Int)], m)]), u1.le (by omega), by omega, h3.snoc u2 u3 u4, by simp; omega, h5⟩, by exact qle, by simp⟩
  rw [if_neg hqp] at hone
  repeat ((refine qz ?_; conv => whnf))
  (refine qg [0] (c4) ?_; conv => whnf)
  by_cases hr2 : r = 2
  case neg =>
   rw [if_neg hr2] at hone
   rw [decide_eq_false (by omega)]
   subst hone
   dsimp only at *
   conv => whnf
   repeat ((refine qz ?_; conv => whnf))
   refine jv (aCA hOK rfl (.inl rfl) trivial rfl rfl) rfl rfl (fun e => by cases e) (Gh.foldr 7 31 [0] rfl rfl rfl rfl rfl rfl (Gh.shuts 7 rfl rfl (Gh.done ?_)))
   conv => whnf
   refine qr (vH (f := xS) (xs := out) ([((p + 1 : Nat) : Int)], m) (out ++ [([((p + 1 : Nat) : Int)], m)]) rfl (by omega) rfl rfl rfl rfl rfl rfl rfl) ?_
   conv => whnf
   repeat ((first | refine qp (xC (yU (c := (n : Int)) (by omega) (by omega) (by omega)) rfl rfl rfl) ?_ | refine qz ?_); conv => whnf)
   exact ⟨⟨(n, sr, out ++ [([((p + 1 : Nat) : Int)], m)]), u1.le (by omega), by omega, h3.snoc u2 u3 u4, by simp; omega, h5⟩, by exact qle, by simp⟩
  rw [if_pos hr2] at hone
  rw [decide_eq_true (by omega)]
  subst hone
  dsimp only at *
  have hB := aJ1 hso (a := p + 1) (b := q + 1) (by omega) (by omega) (by omega) (by omega)
  have k1 := aGC hso (a := p + 1) (b := q + 1) (by omega) (by omega) (by omega) (by omega)
  generalize hBe : kX out (p + 1) (q + 1) = B at *
  have hB1 : B - 1 < out.length := by omega
  have hmb : mpN out B = (out[B - 1]).2 := aKA hB1
  have hmq : mpN out (q + 1) = (out[q]).2 := aKA (k := q + 1) r2
  have lb := aKB hso B
  have lq := aKB hso (q + 1)
  have lm := gm.len
  have gM := (h3.mp B).mrg gm (h3.mp (q + 1))
  have k2 := aC4 (base := mpN out B) (a := m) (b := mpN out (q + 1)) (by omega) (by omega) (by omega)
  generalize qX (mpN out B) m (mpN out (q + 1)) = M at *
  rw [hmb, hmq] at k2
  have hib : (out.map xS)[B - 1]? = some (xS out[B - 1]) := by simp [hB1]
  have hiq : (out.map xS)[q]? = some (xS out[q]) := by simp [r2]
  have lM := gM.len
  have hOK := wJ (gM.ok (Nat.le_trans gM.len (by omega))) (Nat.le_trans gM.len (by unfold maxLen; omega)) gM.small
  conv => whnf
  repeat ((refine qz ?_; conv => whnf))
  refine qr (vH (f := yo) (xs := [((p + 1 : Nat) : Int)]) ((q + 1 : Nat) : Int) [((p + 1 : Nat) : Int), ((q + 1 : Nat) : Int)] rfl (by simp) rfl rfl rfl rfl rfl rfl rfl) ?_
  conv => whnf
  refine qr (yJ rfl rfl rfl rfl rfl rfl) ?_
  conv => whnf
  refine .inr ⟨by kernel_rfl, vv (by kernel_rfl), ?_⟩
  iterate 4 refine xJ (wT rfl) rfl rfl rfl (.inl rfl) (by kernel_rfl) ?_
  refine xU (aI8 k1 rfl ⟨by simp [yj, uJ], aEd⟩ trivial rfl rfl rfl) aJn rfl rfl (by kernel_rfl) ?_
  refine xJ (xC (yU (c := ((B - 1 : Nat) : Int)) (by omega) (by omega) (by omega)) rfl rfl rfl) rfl rfl rfl (.inl rfl) (by kernel_rfl) ?_
  refine xU (aDF (zX (by simpa using hB1) rfl rfl rfl rfl rfl) rfl rfl) ul rfl rfl (by kernel_rfl) ?_
  refine xJ (uG rfl rfl rfl) rfl rfl rfl (.inl rfl) (by kernel_rfl) ?_
  refine xJ (zO rfl rfl hib rfl rfl rfl rfl) rfl rfl rfl (.inr rfl) (by kernel_rfl) ?_
  refine xJ (uG rfl rfl rfl) rfl rfl rfl (.inl rfl) (by kernel_rfl) ?_
  refine xJ (aOW rfl rfl rfl rfl rfl rfl rfl rfl) rfl rfl rfl (.inr rfl) (by kernel_rfl) ?_
  iterate 2 refine xJ (wT rfl) rfl rfl rfl (.inl rfl) (by kernel_rfl) ?_
  refine xJ (xC (yU (c := (q : Int)) (by omega) (by omega) (by omega)) rfl rfl rfl) rfl rfl rfl (.inl rfl) (by kernel_rfl) ?_
  refine xU (aDF (zX (by simpa using r2) rfl rfl rfl rfl rfl) rfl rfl) ul rfl rfl (by kernel_rfl) ?_
  refine xJ (uG rfl rfl rfl) rfl rfl rfl (.inl rfl) (by kernel_rfl) ?_
  refine xJ (zO rfl rfl hiq rfl rfl rfl rfl) rfl rfl rfl (.inr rfl) (by kernel_rfl) ?_
  refine xU (aCI k2 rfl rfl rfl ⟨⟨rfl, rfl, rfl⟩, ⟨rfl, rfl, rfl⟩, trivial⟩ rfl rfl rfl) aJn rfl rfl (by kernel_rfl) ?_
  refine xJ (wT rfl) rfl rfl rfl (.inl rfl) (by kernel_rfl) ?_
  refine xJ (aEr rfl rfl) rfl rfl rfl (.inl rfl) (by kernel_rfl) ?_
  refine xJ (aEr rfl rfl) rfl rfl rfl (.inl rfl) (by kernel_rfl) ?_
  iterate 2 refine xU (aRs rfl) ul rfl rfl (by kernel_rfl) ?_
  refine jo ?_
  conv => whnf
  repeat (first | (refine qp (xC (aAw (by simp; omega)) rfl rfl rfl) ?_; conv => whnf) | (refine qz ?_; conv => whnf))
  refine jv (yJ rfl rfl rfl rfl rfl rfl) rfl rfl (fun e => by cases e) (Gh.foldr 7 78 [1] rfl rfl rfl rfl rfl rfl (Gh.done ?_))
  conv => whnf
  repeat ((refine qz ?_; conv => whnf))
  refine jv (aCA hOK rfl (.inl rfl) trivial rfl rfl) rfl rfl (fun e => by cases e) (Gh.foldr 7 31 [0] rfl rfl rfl rfl rfl rfl (Gh.shuts 7 rfl rfl (Gh.done ?_)))
  conv => whnf
  refine qr (vH (f := xS) (xs := out) ([((p + 1 : Nat) : Int), ((q + 1 : Nat) : Int)], M) (out ++ [([((p + 1 : Nat) : Int), ((q + 1 : Nat) : Int)], M)]) rfl (by omega) rfl rfl rfl rfl rfl rfl rfl) ?_
  conv => whnf
  repeat ((first | refine qp (xC (yU (c := (n : Int)) (by omega) (by omega) (by omega)) rfl rfl rfl) ?_ | refine qz ?_); conv => whnf)
  exact ⟨⟨(n, sr, out ++ [([((p + 1 : Nat) : Int), ((q + 1 : Nat) : Int)], M)]), u1.le (by omega), by omega, h3.snoc u2 u3 u4, by simp; omega, h5⟩, by exact qle, by simp⟩
noncomputable def aHn (c : List UInt8) : List Cmt := (aDi c (aHm c)).1
theorem aME (c : List UInt8) : GoodS (aHn c) ∧ (aHn c).length ≤ 13 := (aSB (aFC c)).2
theorem aId {c : List UInt8} (hc : c.length ≤ maxLen) : AC Tryz.prog 8 [.lst 1 (c.map uM)] ⟨.lst 2 ((aHn c).map xS), []⟩ := by
 obtain ⟨g1, g2⟩ := aME c
 have h1 := aHu hc
 have h2 := aPK hc (aFC c) (by omega)
 have h3 := aGD (l := aHn c) (by omega) (fun x hx => by obtain ⟨a1, a2, _⟩ := g1.comOK x hx; exact ⟨by omega, by omega⟩)
 unfold aHn at *
 refine qrf Tryz.func8 Tryz.ntmps8 Tryz.results8 ?_; conv => whnf
 repeat ((first | refine qz ?_ | refine qf (h1) ?_); conv => whnf)
 (refine qg [5] (h2) ?_; conv => whnf)
 repeat ((first | refine qz ?_ | refine qf (h3) ?_); conv => whnf)
 exact aTO rfl rfl
end Go.Proofs.YtfomjajdfaoogaaGreatDoor.AM
namespace Go.Proofs.YtfomjajdfaoogaaGreatDoor.AM
open Go Go.RowKit
theorem aEL : Tryz.prog.underlying 86 = some (.struct (Tryz.prog.fieldsOf 86)) := by kernel_rfl
theorem aFa : Tryz.prog.stoodInHeld 86 = false := by kernel_rfl
theorem aIF : Tryz.prog.eqGuardType Tryz.prog.depth 86 = false := by kernel_rfl
theorem aOg (a b : ByteArray) (x y u v : Int) (g h : Bool) (w : World) : (Op.equalIn 10000 86 (.agg #[.string a, .int .i64 x, .int .i64 u, .bool g]) (.agg #[.string b, .int .i64 y, .int .i64 v, .bool h])).run Tryz.prog w = .ok (decide (a = b ∧ x = y ∧ u = v ∧ g = h)) w := by
 have hf := Option.some.inj (aEL.symm.trans Tryz.underlying86)
 injection hf with hf
 rw [run_equalIn_struct w 9999 _ _ _ aEL aFa, hf]
 have q0 : ∀ (s : ByteArray) (n m : Int) (c : Bool) (w : World), (part 9 #[.string s, .int .i64 n, .int .i64 m, .bool c] 0).run Tryz.prog w = .ok (.string s) w := fun s n m c w => rfl
 have q1 : ∀ (s : ByteArray) (n m : Int) (c : Bool) (w : World), (part 3 #[.string s, .int .i64 n, .int .i64 m, .bool c] 1).run Tryz.prog w = .ok (.int .i64 n) w := fun s n m c w => rfl
 have q2 : ∀ (s : ByteArray) (n m : Int) (c : Bool) (w : World), (part 3 #[.string s, .int .i64 n, .int .i64 m, .bool c] 2).run Tryz.prog w = .ok (.int .i64 m) w := fun s n m c w => rfl
 have q3 : ∀ (s : ByteArray) (n m : Int) (c : Bool) (w : World), (part 4 #[.string s, .int .i64 n, .int .i64 m, .bool c] 3).run Tryz.prog w = .ok (.bool c) w := fun s n m c w => rfl
 have r0 := fun a b w => run_equalIn_string (P := Tryz.prog) w 9998 9 a b Tryz.underlying9
 have r1 := fun a b w => run_equalIn_int (P := Tryz.prog) w 9998 3 .i64 .i64 a b Tryz.underlying3
 have r2 := fun a b w => run_equalIn_bool' (P := Tryz.prog) w 9998 4 a b Tryz.underlying4
 by_cases h1 : a = b
 · subst h1
   by_cases h2 : x = y
   · subst h2
     by_cases h3 : u = v
     · subst h3
       cases g <;> cases h <;> simp [Op.eqFields, q0, q1, q2, q3, r0, r1, r2, Result.andThen]
     · simp [Op.eqFields, q0, q1, q2, q3, r0, r1, r2, Result.andThen, h3]
   · simp [Op.eqFields, q0, q1, q2, q3, r0, r1, r2, Result.andThen, h2]
 · simp [Op.eqFields, q0, q1, q2, q3, r0, r1, r2, Result.andThen, vP, h1]
instance : DecidableEq Rf := fun a b => decidable_of_iff _ aLr.symm
theorem aLQ {a b : Rf} {x y : Operand} {r : Bool} (h : decide (a ≠ b) = r) : yh Tryz.prog .neq 86 x y (.agg #[.string a.name, .int .i64 a.head, .int .i64 a.ver, .bool a.gone]) (.agg #[.string b.name, .int .i64 b.head, .int .i64 b.ver, .bool b.gone]) (.bool r) := fun w => by
 rw [Sem.run_bind, run_eqGuard_agg w _ _ _ _ _ _ aIF, Result.andThen_ok, run_neq_struct, aOg, Result.andThen_ok, ← h]
 have : decide (a.name = b.name ∧ a.head = b.head ∧ a.ver = b.ver ∧ a.gone = b.gone) = decide (a = b) := by
  rw [decide_eq_decide]; exact aLr.symm
 rw [this]
 by_cases e : a = b <;> simp [e]
def aDV (n : Nat) (l : List Rf) : Bool := l.all fun r => decide (r.head ≤ n)
noncomputable def uL (b : Bas) : Bool := uO b.store && (uy b.refs && aDV b.store.length b.refs)
theorem aIH {n : Nat} {l : List Rf} {k : Nat} (h : k < l.length) : aDV n (l.drop k) = (decide (l[k].head ≤ n) && aDV n (l.drop (k + 1))) := by
 unfold aDV; rw [List.drop_eq_getElem_cons h, List.all_cons]
structure Bas.ok (b : Bas) (N : Nat) : Prop where
 sm : b.store.length ≤ N
 sc : comOK N b.store
 rm : b.refs.length ≤ N
 rk : aTw N b.refs
attribute [local irreducible] xI xO xQ xX yG Pre ACG
set_option maxHeartbeats 1000000 in
theorem qo {b : Bas} (hb : b.ok maxLen) : AC Tryz.prog 40 [yA b] ⟨.v (.bool (uL b)), []⟩ := by
 have h1 := aC2 hb.sm hb.sc
 have h2 := aMO hb.rm hb.rk
 have hm := hb.rm
 have hm2 := hb.sm
 unfold maxLen at hm hm2
 unfold uL
 generalize uO b.store = x at h1
 generalize uy b.refs = y at h2
 cases x
 case false =>
  refine qrf Tryz.func40 Tryz.ntmps40 Tryz.results40 ?_; conv => whnf
  repeat ((first | refine qz ?_ | refine qc (h1) ?_ | refine qc (h2) ?_); conv => whnf)
  exact xD rfl trivial
 cases y
 case false =>
  refine qrf Tryz.func40 Tryz.ntmps40 Tryz.results40 ?_; conv => whnf
  repeat ((first | refine qz ?_ | refine qc (h1) ?_ | refine qc (h2) ?_); conv => whnf)
  exact xD rfl trivial
 rw [Bool.true_and, Bool.true_and]
 refine qrf Tryz.func40 Tryz.ntmps40 Tryz.results40 ?_; conv => whnf
 repeat ((first | refine qz ?_ | refine qc (h1) ?_ | refine qc (h2) ?_); conv => whnf)
 refine xZ (ι := { k : Nat // k ≤ b.refs.length ∧ aDV b.store.length (b.refs.drop k) = aDV b.store.length b.refs }) (fun k => ⟨[(1, .optr 2 0 [] 0), (16, .lst 4 (b.refs.map yL)), (17, .v (.int .i64 (b.refs.length : Int))), (18, .v (.int .i64 (k.1 : Int)))], [(2, ⟨41, 2, [yA b]⟩)]⟩) (fun k => b.refs.length - k.1) ⟨0, Nat.zero_le _, rfl⟩ (by exact qle) ?_
 rintro ⟨k, hk, hd⟩
 dsimp only at hk hd ⊢
 conv => whnf
 by_cases hlt : k < b.refs.length
 · rw [aIH hlt] at hd
   by_cases he : b.refs[k].head ≤ b.store.length
   · rw [decide_eq_true he, Bool.true_and] at hd
     repeat ((first | refine qz ?_ | refine qst ?_); conv => whnf)
     exact ⟨⟨k + 1, hlt, hd⟩, by exact qle, by simp; omega⟩
   · rw [decide_eq_false he, Bool.false_and] at hd
     rw [← hd]
     repeat ((first | refine qz ?_ | refine qst ?_); conv => whnf)
     exact xD rfl trivial
 · rw [← hd, List.drop_eq_nil_of_le (by omega)]
   repeat ((refine qz ?_; conv => whnf))
   exact xD rfl trivial
set_option maxHeartbeats 1000000 in
theorem aJS {b : Bas} (hb : b.ok maxLen) : AC Tryz.prog 46 [yA b] ⟨.v (.bool (uL b)), []⟩ := by
 have h1 := aPF hb.sm hb.sc
 have h2 := aPG hb.rm hb.rk
 have hm := hb.rm
 have hm2 := hb.sm
 unfold maxLen at hm hm2
 unfold uL
 generalize uO b.store = x at h1
 generalize uy b.refs = y at h2
 cases x
 case false =>
  refine qrf Tryz.func46 Tryz.ntmps46 Tryz.results46 ?_; conv => whnf
  repeat ((first | refine qz ?_ | refine qc (h1) ?_ | refine qc (h2) ?_); conv => whnf)
  exact xD rfl trivial
 cases y
 case false =>
  refine qrf Tryz.func46 Tryz.ntmps46 Tryz.results46 ?_; conv => whnf
  repeat ((first | refine qz ?_ | refine qc (h1) ?_ | refine qc (h2) ?_); conv => whnf)
  exact xD rfl trivial
 rw [Bool.true_and, Bool.true_and]
 refine qrf Tryz.func46 Tryz.ntmps46 Tryz.results46 ?_; conv => whnf
 repeat ((first | refine qz ?_ | refine qc (h1) ?_ | refine qc (h2) ?_); conv => whnf)
 refine xZ (ι := { k : Nat // k ≤ b.refs.length ∧ aDV b.store.length (b.refs.drop k) = aDV b.store.length b.refs }) (fun k => ⟨[(1, .optr 2 0 [] 0), (3, .v (.int .i64 (k.1 : Int)))], [(2, ⟨41, 2, [yA b]⟩)]⟩) (fun k => b.refs.length - k.1) ⟨0, Nat.zero_le _, rfl⟩ (by exact qle) ?_
 rintro ⟨k, hk, hd⟩
 dsimp only at hk hd ⊢
 conv => whnf
 by_cases hlt : k < b.refs.length
 · rw [aIH hlt] at hd
   by_cases he : b.refs[k].head ≤ b.store.length
   · rw [decide_eq_true he, Bool.true_and] at hd
     repeat ((refine qz ?_; conv => whnf))
     refine .inl ⟨by kernel_rfl, ?_⟩
     conv => whnf
     repeat ((first | refine qz ?_ | refine qst ?_); conv => whnf)
     exact ⟨⟨k + 1, hlt, hd⟩, by exact qle, by simp; omega⟩
   · rw [decide_eq_false he, Bool.false_and] at hd
     rw [← hd]
     repeat ((refine qz ?_; conv => whnf))
     refine .inl ⟨by kernel_rfl, ?_⟩
     conv => whnf
     repeat ((first | refine qz ?_ | refine qst ?_); conv => whnf)
     exact xD rfl trivial
 · rw [← hd, List.drop_eq_nil_of_le (by omega)]
   repeat ((refine qz ?_; conv => whnf))
   exact xD rfl trivial
theorem aMN {a b : List Rf} (hm : a.length ≤ maxLen) (hm' : b.length ≤ maxLen) : AC Tryz.prog 53 [.lst 4 (a.map yL), .lst 4 (b.map yL)] ⟨.v (.bool (decide (a = b))), []⟩ := by
 unfold maxLen at hm hm'
 by_cases hl : a.length = b.length
 case neg =>
  rw [decide_eq_false (fun e => hl (by rw [e]))]
  refine qrf Tryz.func53 Tryz.ntmps53 Tryz.results53 ?_; conv => whnf
  repeat ((refine qz ?_; conv => whnf))
  exact xD rfl trivial
 refine qrf Tryz.func53 Tryz.ntmps53 Tryz.results53 ?_; conv => whnf
 repeat ((refine qz ?_; conv => whnf))
 refine xZ (ι := { k : Nat // k ≤ a.length ∧ Agree a b k }) (fun k => ⟨[(0, .lst 4 (a.map yL)), (1, .lst 4 (b.map yL)), (12, .v (.int .i64 (a.length : Int))), (13, .v (.int .i64 (k.1 : Int)))], []⟩) (fun k => a.length - k.1) ⟨0, Nat.zero_le _, fun i h => by omega⟩ (by exact qle) ?_
 rintro ⟨k, hk, hg⟩
 dsimp only at hk hg ⊢
 conv => whnf
 by_cases hlt : k < a.length
 case neg =>
  rw [decide_eq_true (aJi hl (fun i hi => hg i (by omega)))]
  repeat ((refine qz ?_; conv => whnf))
  exact xD rfl trivial
 have hlt' : k < b.length := by omega
 by_cases he : a[k] = b[k]
 · repeat ((refine qz ?_; conv => whnf))
   refine .inl ⟨by kernel_rfl, ?_⟩
   conv => whnf
   repeat ((first | refine qz ?_ | refine qp (aGn (aLQ (a := a[k]) (b := b[k]) (r := false) (by simp [he])) rfl rfl rfl) ?_); conv => whnf)
   exact ⟨⟨k + 1, hlt, hg.snoc hlt hlt' he⟩, by exact qle, by simp; omega⟩
 · rw [decide_eq_false (fun e => he (by subst e; rfl))]
   repeat ((refine qz ?_; conv => whnf))
   refine .inl ⟨by kernel_rfl, ?_⟩
   conv => whnf
   repeat ((first | refine qz ?_ | refine qp (aGn (aLQ (a := a[k]) (b := b[k]) (r := true) (by simp [he])) rfl rfl rfl) ?_); conv => whnf)
   exact xD rfl trivial
theorem aLT {a b : Bas} : a = b ↔ a.store = b.store ∧ a.refs = b.refs := by cases a; cases b; simp
instance : DecidableEq Bas := fun a b => decidable_of_iff _ aLT.symm
noncomputable def aNF (a b : Bas) : Bool := uL a && (uL b && decide (a = b))
theorem aRq {a b : Bas} (ha : uL a = true) (hb : uL b = true) : aNE a.store b.store = decide (a.store = b.store) := by
 unfold uL at ha hb
 simp only [Bool.and_eq_true] at ha hb
 unfold aNE
 rw [ha.1, hb.1, Bool.true_and, Bool.true_and]
theorem aJK {a b : Bas} (ha : a.ok maxLen) (hb : b.ok maxLen) : AC Tryz.prog 20 [yA a, yA b] ⟨.v (.bool (aNF a b)), []⟩ := by
 have h1 := qo ha
 have h2 := qo hb
 have h3 := aIg ha.sm hb.sm ha.sc hb.sc
 have h4 := aMN ha.rm hb.rm
 unfold aNF
 cases x : uL a
 case false =>
  rw [x] at h1
  simp only [Bool.false_and]
  refine qrf Tryz.func20 Tryz.ntmps20 Tryz.results20 ?_; conv => whnf
  repeat ((first | refine qz ?_ | refine qc (h1) ?_ | refine qc (h2) ?_); conv => whnf)
  exact xD rfl trivial
 cases y : uL b
 case false =>
  rw [x] at h1; rw [y] at h2
  simp only [Bool.false_and, Bool.true_and]
  refine qrf Tryz.func20 Tryz.ntmps20 Tryz.results20 ?_; conv => whnf
  repeat ((first | refine qz ?_ | refine qc (h1) ?_ | refine qc (h2) ?_); conv => whnf)
  exact xD rfl trivial
 rw [aRq x y] at h3
 rw [x] at h1; rw [y] at h2
 simp only [Bool.true_and]
 by_cases he : a.store = b.store
 · have : decide (a = b) = decide (a.refs = b.refs) := by simp [aLT, he]
   rw [this]
   rw [decide_eq_true he] at h3
   refine qrf Tryz.func20 Tryz.ntmps20 Tryz.results20 ?_; conv => whnf
   repeat ((first | refine qz ?_ | refine qc (h1) ?_ | refine qc (h2) ?_ | refine qc (h3) ?_ | refine qc (h4) ?_); conv => whnf)
   exact xD rfl trivial
 · rw [decide_eq_false (fun e => he (by rw [e]))]
   rw [decide_eq_false he] at h3
   refine qrf Tryz.func20 Tryz.ntmps20 Tryz.results20 ?_; conv => whnf
   repeat ((first | refine qz ?_ | refine qc (h1) ?_ | refine qc (h2) ?_ | refine qc (h3) ?_ | refine qc (h4) ?_); conv => whnf)
   exact xD rfl trivial
end Go.Proofs.YtfomjajdfaoogaaGreatDoor.AM
namespace Go.Proofs.YtfomjajdfaoogaaGreatDoor.AM
open Go Go.RowKit
def aBR : Rf := ⟨"main".toUTF8, 1, 1, false⟩
theorem aO8 {s : St} {Θ : Tab} {a t l l1 l2 t2 : Nat} {v : Value} {ob o1 o2 : OB} {t' : Option Nat} (h1 : s.sl a = .optr l 0 [] 0) (ho : s.hp l = some ob) (hop : ob.e.open_ = false) (hoe : yX ob.e ob.xs 0 = some (.o t' 0 (.mix [.own l1, .own l2]))) (ho1 : s.hp l1 = some o1) (ho2 : s.hp l2 = some o2) (hn : Nat.beq l1 l2 = false) (hk : ((Θ.look t).known && (Θ.look t).isAgg && Nat.beq 2 (Θ.look t).size) = true) (hv : s.sl t2 = .v v) (hok1 : okL l1 = true := by rfl) (hok2 : okL l2 = true := by rfl) (hs1 : o1.e.shut = true := by rfl) (hs2 : o2.e.shut = true := by rfl) :
 vg Θ [.cell a t, .tmp t2] ⟨.tup [.mix [.own 0, .own 1], .v v], [o1, o2]⟩ .ret s := by
 have hr : rvA s (.cell a t) = .mix [.own l1, .own l2] := by
  simp only [rvA, h1, ho, hop, hoe, cond_false]; rfl
 simp only [Bool.and_eq_true] at hk
 have hne : l1 ≠ l2 := fun e => by rw [e] at hn; simp at hn
 refine ⟨trivial, [l1, l2], by simp [hne], ⟨⟨ho1, hok1, hs1⟩, ⟨ho2, hok2, hs2⟩, trivial⟩, ⟨⟨hk.1.1, by rw [hr]; exact hk.1.2.symm, by rw [hr]; exact Nat.eq_of_beq_eq_true hk.2, .inl ⟨l, ob, _, h1, ho, .inr ⟨hop, _, _, hoe, rfl⟩⟩⟩, trivial, trivial⟩, ⟨_, rfl⟩, ⟨.inl ⟨?_, rfl⟩, .inl ⟨?_, rfl⟩, trivial⟩⟩
 · rw [hr]; rfl
 · exact hv
attribute [local irreducible] xI xO xQ xX yG Pre ACG
end Go.Proofs.YtfomjajdfaoogaaGreatDoor.AM
namespace Go.Proofs.YtfomjajdfaoogaaGreatDoor.AM
open Go Go.RowKit
theorem aRZ {x : ByteArray} (h : okN x = true) : x.size ≤ 12 := by
 unfold okN Nm.nameOK at h
 have e : x.size = x.data.toList.length := by rw [Array.length_toList]; rfl
 rw [e]
 split at h
 · simp at h
 · rename_i c cs hc
   rw [hc]
   simp only [Bool.and_eq_true, decide_eq_true_eq] at h
   simp only [List.length_cons]
   omega
structure GoodB (B : Bas) : Prop where
 st : GoodS B.store
 len : B.store.length ≤ 60
 rf : uy B.refs = true
 hd : ∀ r ∈ B.refs, r.head ≤ B.store.length
theorem GoodB.bas {B : Bas} (h : GoodB B) : uL B = true := by
 unfold uL aDV
 rw [h.st.sto h.len, h.rf, Bool.true_and, Bool.true_and, List.all_eq_true]
 exact fun r hr => decide_eq_true (h.hd r hr)
theorem GoodB.ok {B : Bas} (h : GoodB B) : B.ok maxLen := by
 have h1 := h.len
 have h2 := (zH h.rf).1
 refine ⟨by unfold maxLen; omega, fun c hc => ?_, by unfold maxLen; omega, fun r hr => ?_⟩
 · obtain ⟨a, b, d⟩ := h.st.comOK c hc
   exact ⟨by unfold maxLen; omega, by unfold maxLen; omega, fun e he => by have := d e he; unfold maxLen; omega⟩
 · obtain ⟨i, hi, rfl⟩ := List.getElem_of_mem hr
   obtain ⟨_, g, _⟩ := (zH h.rf).2 i hi
   have := aRZ ((aAd _).1 g).1
   unfold maxLen; omega
theorem GoodB.ref {B : Bas} (h : GoodB B) {j : Nat} (hj : j < B.refs.length) : okN B.refs[j].name = true ∧ (1 ≤ B.refs[j].ver ∧ B.refs[j].ver ≤ 1000000) ∧ (if B.refs[j].gone = true then B.refs[j].head = 0 else 1 ≤ B.refs[j].head ∧ B.refs[j].head ≤ 60) := by
 obtain ⟨_, g, _⟩ := (zH h.rf).2 j hj
 exact (aAd _).1 g
theorem aNv {l : List Rf} {n m : Int} (h : ∀ r ∈ l, r.head ≤ n) (hnm : n ≤ m) {j : Nat} (hj : j < l.length) {y : Rf} (hy : y.head ≤ m) : ∀ r ∈ l.set j y, r.head ≤ m := by
 intro r hr
 rcases List.mem_or_eq_of_mem_set hr with hr | rfl
 · have := h r hr; omega
 · exact hy
theorem aMB {l : List Rf} (hb : uy l = true) {j : Nat} (hj : j < l.length) {h : Int} {g : Bool} (hv : l[j].ver < 1000000) (hh : if g = true then h = 0 else 1 ≤ h ∧ h ≤ 60) : uy (aAV l j h g) = true := by
 rw [aEz hj]
 obtain ⟨_, b1, _⟩ := (zH hb).2 j hj
 obtain ⟨c1, c2, _⟩ := (aAd _).1 b1
 exact aOh hb hj rfl ((aAd _).2 ⟨c1, ⟨by dsimp only; omega, by dsimp only; omega⟩, hh⟩)
theorem GoodB.set {B : Bas} (h : GoodB B) {j : Nat} (hj : j < B.refs.length) {p : Int} {g : Bool} (hv : B.refs[j].ver < 1000000) (hh : if g = true then p = 0 else 1 ≤ p ∧ p ≤ B.store.length) : GoodB ⟨B.store, aAV B.refs j p g⟩ := by
 have hl := h.len
 refine ⟨h.st, h.len, aMB h.rf hj hv (by cases g <;> simp at hh ⊢ <;> omega), ?_⟩
 rw [aEz hj]
 exact aNv h.hd (Int.le_refl _) hj (by dsimp only; split at hh <;> omega)
theorem GoodB.adv {B : Bas} (h : GoodB B) (hl : B.store.length < 60) {j : Nat} (hj : j < B.refs.length) (hv : B.refs[j].ver < 1000000) {c : Cmt} (hc : u6 B.store.length c = true) (hg : Good c.2) (hp : c.1.length ≤ 2) : GoodB ⟨B.store ++ [c], aAV B.refs j ((B.store.length : Int) + 1) false⟩ := by
 refine ⟨h.st.snoc hc hg hp, by simp; omega, aMB h.rf hj hv (by simp; omega), ?_⟩
 rw [aEz hj]
 refine aNv (m := (((B.store ++ [c]).length : Nat) : Int)) h.hd (by simp; omega) hj (by simp)
theorem aGw {l : List Rf} (h : uy l = true) (hl : l.length < 8) {r : Rf} (hr : kU r = true) (hn : rAt l r.name 0 < 0) : uy (l ++ [r]) = true := by
 obtain ⟨_, h2⟩ := zH h
 refine aAe ⟨by simp; omega, fun i hi => ?_⟩
 rcases Nat.lt_or_ge i l.length with q | q
 · obtain ⟨_, a, b⟩ := h2 i q
   refine ⟨hi, by rw [List.getElem_append_left q]; exact a, ?_⟩
   rw [List.getElem_append_left q, List.take_append_of_le_length (by omega)]; exact b
 · have : i = l.length := by simp at hi; omega
   subst this
   refine ⟨hi, by simpa using hr, ?_⟩
   have e : (l ++ [r])[l.length] = r := by simp
   rw [e, List.take_append_of_le_length (by omega), List.take_length]; exact hn
theorem GoodB.create {B : Bas} (h : GoodB B) {x : ByteArray} (hx : okN x = true) {p : Int} (h1 : 1 ≤ p) (h2 : p ≤ B.store.length) : GoodB ⟨B.store, (mkR B.refs x p).1⟩ := by
 have hl := h.len
 have h8 := (zH h.rf).1
 by_cases h0 : rAt B.refs x 0 < 0
 · rw [aOK h0]
   split
   · exact h
   · refine ⟨h.st, h.len, aGw h.rf (by omega) ((aAd _).2 ⟨hx, ⟨by dsimp only; omega, by dsimp only; omega⟩, by simp; omega⟩) h0, fun r hr => ?_⟩
     rcases List.mem_append.1 hr with q | q
     · exact h.hd r q
     · rw [List.mem_singleton.1 q]; exact h2
 · obtain ⟨j, hj, e, _⟩ := aGs (by omega : 0 ≤ rAt B.refs x 0)
   rw [aOJ hj e]
   split
   · exact h
   · split
     · exact h
     · have hv := (h.ref hj).2.1
       exact h.set hj (by omega) (by simp; omega)
theorem GoodB.delete {B : Bas} (h : GoodB B) {x : ByteArray} : GoodB ⟨B.store, (dlR B.refs x).1⟩ := by
 rcases aD0 B.refs x with e | ⟨j, hj, e, _, _⟩
 · rw [aNm e]; exact h
 · rw [aNl hj e]
   split
   · exact h
   · have hv := (h.ref hj).2.1
     exact h.set hj (by omega) (by simp)
theorem GoodB.head {B : Bas} (h : GoodB B) {j : Nat} (hj : j < B.refs.length) (hg : B.refs[j].gone = false) : ∃ p : Nat, B.refs[j].head = (p : Int) + 1 ∧ p < B.store.length := by
 have h1 := (h.ref hj).2.2
 have h2 := h.hd _ (List.getElem_mem hj)
 rw [hg, if_neg (by simp)] at h1
 exact ⟨(B.refs[j].head - 1).toNat, by omega, by omega⟩
theorem GoodB.map {B : Bas} (h : GoodB B) {p : Nat} (hp : p < B.store.length) : Good (B.store[p]).2 := (h.st.maps _ (List.getElem_mem hp)).1
theorem aTe : okN aBR.name = true := by kernel_rfl
theorem GoodB.new {m : List Ent} (hm : Good m) : GoodB ⟨[([], m)], [aBR]⟩ := by
 refine ⟨GoodS.one hm, by simp, ?_, by simp [aBR]⟩
 have := aGw (l := []) (r := aBR) (aAe ⟨by simp, fun i h => by simp at h⟩) (by simp) ((aAd _).2 ⟨aTe, ⟨by decide, by decide⟩, by simp [aBR]⟩) (by simp [rAt])
 exact this
attribute [local irreducible] xI xO xQ xX yG Pre ACG
end Go.Proofs.YtfomjajdfaoogaaGreatDoor.AM
namespace Go.Proofs.YtfomjajdfaoogaaGreatDoor.AM
open Go Go.RowKit
theorem aLW {F : Nat → Bool} : ∀ k j, F j = true → 1 ≤ j → j ≤ k → j ≤ bsF F k
 | 0, j, _, h1, h2 => by omega
 | k + 1, j, hf, h1, h2 => by
  unfold bsF
  split
  · exact h2
  · rename_i hn
    rcases Nat.lt_or_ge k j with q | q
    · have : j = k + 1 := by omega
      subst this; exact absurd hf hn
    · exact aLW k j hf h1 q
theorem aN6 {cs : List Cmt} (hb : uO cs = true) {a b j : Nat} (h1 : 1 ≤ a) (h2 : 1 ≤ b) (h3 : ja cs a j = true) (h4 : ja cs b j = true) : j ≤ kX cs a b := by
 have q1 := (aBa.1 h3).le hb h1
 have q2 := (aBa.1 h4).le hb h2
 unfold kX
 exact aLW _ j (by unfold aBk; rw [h3, h4]; rfl) q1.1 (by omega)
attribute [local irreducible] xI xO xQ xX yG Pre ACG
theorem aIk {xs : List Int} (hm : xs.length ≤ 1048576) : AC Tryz.prog 12 [.lst 1 (xs.map yo), .lst 1 (xs.map yo)] ⟨.v (.bool true), []⟩ := by
 refine qrf Tryz.func12 Tryz.ntmps12 Tryz.results12 ?_; conv => whnf
 repeat ((refine qz ?_; conv => whnf))
 refine xZ (ι := { k : Nat // k ≤ xs.length }) (fun k => ⟨[(0, .lst 1 (xs.map yo)), (1, .lst 1 (xs.map yo)), (5, .v (.int .i64 (k.1 : Int)))], []⟩) (fun k => xs.length - k.1) ⟨0, Nat.zero_le _⟩ (by exact qle) ?_
 rintro ⟨k, hk⟩
 dsimp only
 conv => whnf
 by_cases hlt : k < xs.length
 · repeat ((refine qz ?_; conv => whnf))
   refine .inl ⟨by kernel_rfl, ?_⟩
   conv => whnf
   repeat ((first | refine qp (xC (aAx rfl) rfl rfl rfl) ?_ | refine qz ?_); conv => whnf)
   exact ⟨⟨k + 1, hlt⟩, by exact qle, by simp; omega⟩
 · repeat ((refine qz ?_; conv => whnf))
   exact xD rfl trivial
end Go.Proofs.YtfomjajdfaoogaaGreatDoor.AM
namespace Go.Proofs.YtfomjajdfaoogaaGreatDoor.AM
open Go Go.RowKit
abbrev aAM : AV := .v (.slice none 0 0)
def aF3 : AV → Prop
 | .v _ | .agg _ | .lst _ _ | .any => True
 | _ => False
section
variable {s : St} {Θ : Tab}
theorem aAh {x : AV} (hd : aF3 x) : aAg s [] x x := by
 cases x <;> first | exact .inl ⟨rfl, rfl⟩ | exact hd.elim
theorem aNf {a t l : Nat} {ob : OB} {t' : Option Nat} {xs : List AV} (h1 : s.sl a = .optr l 0 [] 0) (ho : s.hp l = some ob) (hop : ob.e.open_ = false) (hoe : yX ob.e ob.xs 0 = some (.o t' 0 (.mix xs))) (hof : ofO (.mix xs) = some (.mix xs)) (hk : ((Θ.look t).known && (Θ.look t).isAgg && Nat.beq (xK xs) (Θ.look t).size) = true) : rvA s (.cell a t) = .mix xs ∧ aKc Θ s (.cell a t) := by
 have hr : rvA s (.cell a t) = .mix xs := by
  simp only [rvA, h1, ho, hop, hoe, cond_false, hof]; rfl
 simp only [Bool.and_eq_true] at hk
 exact ⟨hr, hk.1.1, by rw [hr]; exact hk.1.2.symm, by rw [hr]; exact Nat.eq_of_beq_eq_true hk.2, .inl ⟨l, ob, _, h1, ho, .inr ⟨hop, _, _, hoe, hof⟩⟩⟩
theorem aCl {a t l : Nat} {ob : OB} {x : AV} (h1 : s.sl a = .optr l 0 [] 0) (ho : s.hp l = some ob) (hx : ob.xs[0]? = some x) (hk : ((Θ.look t).known && (Bool.xor (zW x) (Θ.look t).isAgg).not && Nat.beq (asz x) (Θ.look t).size) = true) (hop : ob.e.open_ = true) : rvA s (.cell a t) = x ∧ aKc Θ s (.cell a t) := by
 have hr : rvA s (.cell a t) = x := by
  simp only [rvA, h1, ho, hop, hx, cond_true, Option.getD_some]
 simp only [Bool.and_eq_true] at hk
 exact ⟨hr, hk.1.1, by rw [hr]; exact xor_not hk.1.2, by rw [hr]; exact Nat.eq_of_beq_eq_true hk.2, .inl ⟨l, ob, x, h1, ho, .inl ⟨hop, hx⟩⟩⟩
theorem aMw {t1 a t l : Nat} {ob : OB} {x y : AV} (hy : aAg s [] (s.sl t1) y) (h1 : s.sl a = .optr l 0 [] 0) (ho : s.hp l = some ob) (hx : ob.xs[0]? = some x) (hk : ((Θ.look t).known && (Bool.xor (zW x) (Θ.look t).isAgg).not && Nat.beq (asz x) (Θ.look t).size) = true) (hd : aF3 x) (hop : ob.e.open_ = true := by rfl) :
 vg Θ [.tmp t1, .cell a t] ⟨.tup [y, x], []⟩ .ret s := by
 obtain ⟨c1, c2⟩ := aCl (Θ := Θ) h1 ho hx hk hop
 exact ⟨trivial, [], by simp, trivial, ⟨trivial, c2, trivial⟩, ⟨_, rfl⟩, ⟨hy, by rw [c1]; exact aAh hd, trivial⟩⟩
theorem aKU {t1 t2 a t l : Nat} {ob : OB} {x y z : AV} (hy : aAg s [] (s.sl t1) y) (hz : aAg s [] (s.sl t2) z) (h1 : s.sl a = .optr l 0 [] 0) (ho : s.hp l = some ob) (hx : ob.xs[0]? = some x) (hk : ((Θ.look t).known && (Bool.xor (zW x) (Θ.look t).isAgg).not && Nat.beq (asz x) (Θ.look t).size) = true) (hd : aF3 x) (hop : ob.e.open_ = true := by rfl) :
 vg Θ [.tmp t1, .tmp t2, .cell a t] ⟨.tup [y, z, x], []⟩ .ret s := by
 obtain ⟨c1, c2⟩ := aCl (Θ := Θ) h1 ho hx hk hop
 exact ⟨trivial, [], by simp, trivial, ⟨trivial, trivial, c2, trivial⟩, ⟨_, rfl⟩, ⟨hy, hz, by rw [c1]; exact aAh hd, trivial⟩⟩
theorem aTy {a t l b u m : Nat} {ob o2 : OB} {t' : Option Nat} {xs : List AV} {y x : AV} (h1 : s.sl a = .optr l 0 [] 0) (ho : s.hp l = some ob) (hoe : yX ob.e ob.xs 0 = some (.o t' 0 (.mix xs))) (hd : xM s (.mix xs) = true) (hy : s.dat (.mix xs) = y) (hw : ((yP (.mix xs)).all fun l => okL l && !([] : List Nat).contains l) = true) (h2 : s.sl b = .optr m 0 [] 0) (ho2 : s.hp m = some o2) (hx : o2.xs[0]? = some x) (hk2 : ((Θ.look u).known && (Bool.xor (zW x) (Θ.look u).isAgg).not && Nat.beq (asz x) (Θ.look u).size) = true) (hdx : aF3 x) (hop2 : o2.e.open_ = true := by rfl) (hof : ofO (.mix xs) = some (.mix xs) := by rfl) (hk : ((Θ.look t).known && (Θ.look t).isAgg && Nat.beq (xK xs) (Θ.look t).size) = true := by rfl) (hop : ob.e.open_ = false := by rfl) :
 vg Θ [.cell a t, .cell b u] ⟨.tup [y, x], []⟩ .ret s := by
 obtain ⟨c1, c2⟩ := aNf (Θ := Θ) (t := t) h1 ho hop hoe hof hk
 obtain ⟨d1, d2⟩ := aCl (Θ := Θ) h2 ho2 hx hk2 hop2
 exact ⟨trivial, [], by simp, trivial, ⟨c2, d2, trivial⟩, ⟨_, rfl⟩, ⟨by rw [c1]; exact .inr ⟨hd, hw, hy.symm⟩, by rw [d1]; exact aAh hdx, trivial⟩⟩
theorem kT {a t l b u m : Nat} {ob o2 : OB} {y x : AV} (h1 : s.sl a = .optr l 0 [] 0) (ho : s.hp l = some ob) (hy : ob.xs[0]? = some y) (hk : ((Θ.look t).known && (Bool.xor (zW y) (Θ.look t).isAgg).not && Nat.beq (asz y) (Θ.look t).size) = true) (hdy : aF3 y) (h2 : s.sl b = .optr m 0 [] 0) (ho2 : s.hp m = some o2) (hx : o2.xs[0]? = some x) (hk2 : ((Θ.look u).known && (Bool.xor (zW x) (Θ.look u).isAgg).not && Nat.beq (asz x) (Θ.look u).size) = true) (hdx : aF3 x) (hop : ob.e.open_ = true := by rfl) (hop2 : o2.e.open_ = true := by rfl) :
 vg Θ [.cell a t, .cell b u] ⟨.tup [y, x], []⟩ .ret s := by
 obtain ⟨c1, c2⟩ := aCl (Θ := Θ) h1 ho hy hk hop
 obtain ⟨d1, d2⟩ := aCl (Θ := Θ) h2 ho2 hx hk2 hop2
 exact ⟨trivial, [], by simp, trivial, ⟨c2, d2, trivial⟩, ⟨_, rfl⟩, ⟨by rw [c1]; exact aAh hdy, by rw [d1]; exact aAh hdx, trivial⟩⟩
end
section
variable {P : Program} {Θ : Tab} {s : St} {ty : TypeId} {pos : String} {after : Array Edge} {g : Option (Nat × Bool)}
theorem aOs {d : Nat} {t : TypeId} {x : Operand} {el sz b : Nat} {z : AV} {ys : List AV} (hf : s.hp (d + 1) = none) (ht : Θ.look t = .slice el sz b z) (hx : s.ev x = .agg ys) (hz : Nat.beq (asz (.agg ys)) (asz z) = true) (hsz : Nat.ble sz 65536 = true) (hok : okL (d + 1) = true := by rfl) :
 Sft P Θ ⟨some d, .buildSlice t 1 #[(0, x)], ty, pos, after, g⟩ s (.own (d + 1)) [] [(d + 1, some ⟨.s el, sz, [.agg ys]⟩)] := by
 refine ⟨fun s' h1 h2 => ⟨⟨.own (d + 1), some fun s'' => s''.set (d + 1) (some ⟨.s el, sz, [.agg ys]⟩)⟩, ?_, fun K hK => .done ?_⟩, fun l ob h => ?_, fun l hl => (by cases hl), fun l hl => .inl ?_, fun l ⟨o, hl⟩ => .inl ?_, fun l ob ⟨o, hl⟩ ho => ?_⟩
 · exact aBz ((h2 _ (.inl (in1 _ _))).1.trans hf) ht ((h1 x (by simp [Op.operands])).trans hx) rfl hz hsz hok
 · rw [zQ, j6]; exact hK
 · obtain ⟨_, e⟩ := nu1 h; cases e; rfl
 · simp only [AV.names] at hl; rw [← Nat.eq_of_beq_eq_true hl]; exact in1 _ _
 · obtain ⟨rfl, _⟩ := nu1 hl; exact ⟨d, rfl, rfl⟩
 · obtain ⟨rfl, _⟩ := nu1 hl; rw [hf] at ho; cases ho
theorem aOq {d : Option Tmp} {tx ty' : Tmp} {t el sz b l l' : Nat} {e0 e' : ET} {z : AV} {xs ys : List AV} (hx : s.sl tx = .own l) (hy : s.sl ty' = .own l') (ho : s.hp l = some ⟨e0, sz, xs⟩) (ho' : s.hp l' = some ⟨e', sz, ys⟩) (hn : Nat.beq l' l = false) (ht : Θ.look t = .slice el sz b z) (hb : (xs.length + ys.length) * b ≤ 140737488355328) (hb1 : Nat.ble 1 b = true) (he : (e0 = .s el ∨ e0 = .z el) := by first | exact .inl rfl | exact .inr rfl) (he' : e'.open_ = true := by rfl) (hok : okL l = true := by rfl) :
 Sft P Θ ⟨d, .call ⟨.builtin .append, #[.tmp tx, .tmp ty'], #[t, t]⟩, ty, pos, after, g⟩ s (.own l) [l] [(l, some ⟨.s el, sz, xs ++ ys⟩)] := by
 have hb1' := Nat.le_of_ble_eq_true hb1
 have hm : xs.length + ys.length ≤ maxLen := by
  have : (xs.length + ys.length) * 1 ≤ (xs.length + ys.length) * b := Nat.mul_le_mul_left _ hb1'
  unfold maxLen; omega
 have hne : l' ≠ l := fun e => by rw [e] at hn; simp at hn
 have m1 : tx ∈ tmpsOf (⟨d, .call ⟨.builtin .append, #[.tmp tx, .tmp ty'], #[t, t]⟩, ty, pos, after, g⟩ : Oper) := y7 (by simp [Op.operands, Call.operands])
 have m2 : ty' ∈ tmpsOf (⟨d, .call ⟨.builtin .append, #[.tmp tx, .tmp ty'], #[t, t]⟩, ty, pos, after, g⟩ : Oper) := y7 (by simp [Op.operands, Call.operands])
 have n1 : yg s (⟨d, .call ⟨.builtin .append, #[.tmp tx, .tmp ty'], #[t, t]⟩, ty, pos, after, g⟩ : Oper) l := ⟨tx, m1, by rw [hx]; simp [AV.names]⟩
 have n2 : yg s (⟨d, .call ⟨.builtin .append, #[.tmp tx, .tmp ty'], #[t, t]⟩, ty, pos, after, g⟩ : Oper) l' := ⟨ty', m2, by rw [hy]; simp [AV.names]⟩
 refine ⟨fun s' h1 h2 => ⟨⟨.own l, some fun s'' => (s''.kill l).set l (some ⟨.s el, sz, xs ++ ys⟩)⟩, ?_, fun K hK => .done ?_⟩, fun m ob h => ?_, fun m hl => ?_, fun m hl => .inl ?_, fun m ⟨o, hl⟩ => .inr ?_, fun m ob ⟨o, hl⟩ hob => ?_⟩
 · have e1 : s'.ev (.tmp tx) = .own l := (h1 _ (by simp [Op.operands, Call.operands])).trans hx
   have e2 : s'.ev (.tmp ty') = .own l' := (h1 _ (by simp [Op.operands, Call.operands])).trans hy
   exact ⟨.tmp tx, .tmp ty', t, el, sz, b, z, l, _, ys, rfl, rfl, ht, e1, (h2 _ (.inl (in1 _ _))).1.trans ho, hok, rfl, hb, hm, .inl ⟨el, he, rfl, .inr ⟨l', _, e2, hne, (h2 _ (.inr n2)).1.trans ho', he', rfl, rfl⟩, rfl⟩⟩
 · rw [zQ, aMD]; exact hK
 · obtain ⟨_, e⟩ := nu1 h; cases e; rfl
 · rw [List.mem_singleton] at hl; subst hl; exact in1 _ _
 · simp only [AV.names] at hl; rw [← Nat.eq_of_beq_eq_true hl]; exact in1 _ _
 · obtain ⟨rfl, _⟩ := nu1 hl; exact n1
 · obtain ⟨rfl, _⟩ := nu1 hl
   rw [ho] at hob; cases hob
   rcases he with rfl | rfl <;> rfl
end
abbrev kY (c : Int) (ks : AV) : AV := .agg [.v (.int .i64 c), zI, zI, ks, .lst 2 []]
abbrev aJ5 (p : Int) : AV := .agg [zI, .v (.int .i64 p), zI, .lst 1 [], .lst 2 []]
theorem Good.told {m : List Ent} (h : Good m) (c : List ByteArray) : Good (aAY m c).1 := by
 unfold aAY
 split
 · exact Good.nil
 · split
   · exact Good.nil
   · exact h
attribute [local irreducible] xI xO xQ xX yG Pre ACG
theorem jf {c : Int} : AC Tryz.prog 111 [.v (.int .i64 c), aAM] ⟨kY c aAM, []⟩ := by
 refine qrf Tryz.func111 Tryz.ntmps111 Tryz.results111 ?_; conv => whnf
 repeat ((first | refine qz ?_ | refine qst ?_); conv => whnf)
 exact aEs (x := kY c aAM) rfl rfl rfl rfl trivial
theorem aCN {c : Int} {ks : List AV} : AC Tryz.prog 111 [.v (.int .i64 c), .lst 1 ks] ⟨kY c (.lst 1 ks), []⟩ := by
 refine qrf Tryz.func111 Tryz.ntmps111 Tryz.results111 ?_; conv => whnf
 repeat ((first | refine qz ?_ | refine qst ?_); conv => whnf)
 exact aEs (x := kY c (.lst 1 ks)) rfl rfl rfl rfl trivial
section
variable {st : List Cmt} {f h : Nat} {es : List Edt}
set_option maxHeartbeats 2000000 in
theorem aJW (hg : GoodS st) (hle : st.length ≤ 60) (hf : f < st.length) (hh : h < st.length) (hx : jC es) (he : es.length ≤ 6) :
 ∃ (m : List Ent) (c : Int) (ks : List AV), Good m ∧ AC Tryz.prog 137 [.lst 2 (st.map xS), .v (.int .i64 ((f : Int) + 1)), .v (.int .i64 ((h : Int) + 1)), .lst 3 (es.map uf)] ⟨.tup [.lst 2 (m.map yB), kY c (.lst 1 ks)], []⟩ := by
 have hb := hg.sto hle
 have gf := (hg.maps _ (List.getElem_mem hf)).1
 have gh := (hg.maps _ (List.getElem_mem hh)).1
 have ga := gf.applyE hx
 have hl : (yR (st[f]).2 es).length ≤ 12 := by have := ga.len; omega
 have gm := ((gf.mrg ga gh).told (aBJ (st[f]).2 (yR (st[f]).2 es) (st[h]).2))
 have mf := AM.mapOK_le (aB6 hb hf)
 have mh := AM.mapOK_le (aB6 hb hh)
 have h1 := aC3 (es := (st[f]).2) (xs := es) (by omega)
 have h2 := aC4 (base := (st[f]).2) (a := yR (st[f]).2 es) (b := (st[h]).2) (by omega) (by omega) (by omega)
 have g1 := aFT (st[f]).2 (yR (st[f]).2 es) (st[h]).2
 have g2 := aFK (st[f]).2 (yR (st[f]).2 es) (st[h]).2
 have h3 := aGB (m := qX (st[f]).2 (yR (st[f]).2 es) (st[h]).2) (c := aBJ (st[f]).2 (yR (st[f]).2 es) (st[h]).2) (by omega) (by omega)
 have hbd := aKl (qX (st[f]).2 (yR (st[f]).2 es) (st[h]).2) (c := aBJ (st[f]).2 (yR (st[f]).2 es) (st[h]).2) (by omega)
 generalize aAY (qX (st[f]).2 (yR (st[f]).2 es) (st[h]).2) (aBJ (st[f]).2 (yR (st[f]).2 es) (st[h]).2) = r at h3 hbd gm
 by_cases hc : r.2.2 = 0
 · have h4 := aMP (es := r.1) (es' := (st[h]).2) (by unfold maxLen; omega) (by unfold maxLen; omega)
   cases hq : decide (r.1 = (st[h]).2) with
   | true =>
    rw [hq] at h4
    refine ⟨r.1, 18, r.2.1.map qA, gm, ?_⟩
    have h5 := aCN (c := 18) (ks := r.2.1.map qA)
    refine qrf Tryz.func137 Tryz.ntmps137 Tryz.results137 ?_; conv => whnf
    repeat ((first | refine qp (xC (yU (c := (f : Int)) (by omega) (by omega) (by omega)) rfl rfl rfl) ?_ | refine qp (xC (yU (c := (h : Int)) (by omega) (by omega) (by omega)) rfl rfl rfl) ?_ | refine qz ?_ | refine qc (h1) ?_ | refine qc (h2) ?_ | refine qf (h3) ?_ | refine qc (h4) ?_ | refine qc (h5) ?_ | refine qst ?_ | refine qdr ?_); conv => whnf)
    exact aMw (.inl ⟨rfl, rfl⟩) rfl rfl rfl rfl trivial
   | false =>
    rw [hq] at h4
    refine ⟨r.1, r.2.2, r.2.1.map qA, gm, ?_⟩
    have h5 := aCN (c := r.2.2) (ks := r.2.1.map qA)
    refine qrf Tryz.func137 Tryz.ntmps137 Tryz.results137 ?_; conv => whnf
    repeat ((first | refine qp (xC (yU (c := (f : Int)) (by omega) (by omega) (by omega)) rfl rfl rfl) ?_ | refine qp (xC (yU (c := (h : Int)) (by omega) (by omega) (by omega)) rfl rfl rfl) ?_ | refine qz ?_ | refine qc (h1) ?_ | refine qc (h2) ?_ | refine qf (h3) ?_ | refine qc (h4) ?_ | refine qc (h5) ?_ | refine qst ?_ | refine qdr ?_); conv => whnf)
    exact aMw (.inl ⟨rfl, rfl⟩) rfl rfl rfl rfl trivial
 · refine ⟨r.1, r.2.2, r.2.1.map qA, gm, ?_⟩
   have h5 := aCN (c := r.2.2) (ks := r.2.1.map qA)
   refine qrf Tryz.func137 Tryz.ntmps137 Tryz.results137 ?_; conv => whnf
   repeat ((first | refine qp (xC (yU (c := (f : Int)) (by omega) (by omega) (by omega)) rfl rfl rfl) ?_ | refine qp (xC (yU (c := (h : Int)) (by omega) (by omega) (by omega)) rfl rfl rfl) ?_ | refine qz ?_ | refine qc (h1) ?_ | refine qc (h2) ?_ | refine qf (h3) ?_ | refine qc (h5) ?_ | refine qst ?_ | refine qdr ?_); conv => whnf)
   exact aMw (.inl ⟨rfl, rfl⟩) rfl rfl rfl rfl trivial
theorem aPD (hg : GoodS st) (hle : st.length ≤ 60) (hf : f < st.length) (hh : h < st.length) :
 ∃ (fast : Bool) (m : List Ent) (c : Int) (ks : AV), Good m ∧ (ks = aAM ∨ ∃ l, ks = .lst 1 l) ∧ (c = 0 → fast = false → f ≠ h) ∧ AC Tryz.prog 139 [.lst 2 (st.map xS), .v (.int .i64 ((h : Int) + 1)), .v (.int .i64 ((f : Int) + 1))] ⟨.tup [.v (.bool fast), .lst 2 (m.map yB), kY c ks], []⟩ := by
 have hb := hg.sto hle
 have hB := aGC (a := h + 1) (b := f + 1) hb (by omega) (by omega) (by omega) (by omega)
 obtain ⟨n1, n2, n3⟩ := aJ1 hb (a := h + 1) (b := f + 1) (by omega) (by omega) (by omega) (by omega)
 obtain ⟨b, hbn⟩ : ∃ b : Nat, kX st (h + 1) (f + 1) = b + 1 := ⟨kX st (h + 1) (f + 1) - 1, by omega⟩
 rw [hbn] at hB n2 n3
 have hbl : b < st.length := by omega
 have hB' : AC Tryz.prog 64 [.lst 2 (st.map xS), .v (.int .i64 ((h : Int) + 1)), .v (.int .i64 ((f : Int) + 1))] ⟨.v (.int .i64 ((b : Int) + 1)), []⟩ := by simpa using hB
 have hne : b ≠ f → f ≠ h := fun q e => by
  subst e
  have := aN6 hb (a := f + 1) (b := f + 1) (j := f + 1) (by omega) (by omega) (aBa.2 .refl) (aBa.2 .refl)
  omega
 clear hB n1 hbn
 by_cases hbf : b = f
 · refine ⟨false, [], 18, aAM, Good.nil, .inl rfl, (fun h => by cases h), ?_⟩
   have h2 := jf (c := 18)
   refine qrf Tryz.func139 Tryz.ntmps139 Tryz.results139 ?_; conv => whnf
   repeat ((first | refine qz ?_ | refine qc (hB') ?_ | refine qc (h2) ?_ | refine qst ?_ | refine qdr ?_); conv => whnf)
   exact aKU (.inl ⟨rfl, rfl⟩) (aCd rfl rfl) rfl rfl rfl rfl trivial
 by_cases hbh : b = h
 · refine ⟨true, [], 0, .lst 1 [], Good.nil, .inr ⟨_, rfl⟩, (fun _ h => by cases h), ?_⟩
   refine qrf Tryz.func139 Tryz.ntmps139 Tryz.results139 ?_; conv => whnf
   repeat ((first | refine qz ?_ | refine qc (hB') ?_ | refine qst ?_ | refine qdr ?_); conv => whnf)
   exact aKU (.inl ⟨rfl, rfl⟩) (aCd rfl rfl) rfl rfl rfl rfl trivial
 have gm := (((hg.maps _ (List.getElem_mem hbl)).1.mrg (hg.maps _ (List.getElem_mem hh)).1 (hg.maps _ (List.getElem_mem hf)).1).told (aBJ (st[b]).2 (st[h]).2 (st[f]).2))
 have mf := AM.mapOK_le (aB6 hb hf)
 have mh := AM.mapOK_le (aB6 hb hh)
 have mb := AM.mapOK_le (aB6 hb hbl)
 have h2 := aC4 (base := (st[b]).2) (a := (st[h]).2) (b := (st[f]).2) (by omega) (by omega) (by omega)
 have g1 := aFT (st[b]).2 (st[h]).2 (st[f]).2
 have g2 := aFK (st[b]).2 (st[h]).2 (st[f]).2
 have h3 := aGB (m := qX (st[b]).2 (st[h]).2 (st[f]).2) (c := aBJ (st[b]).2 (st[h]).2 (st[f]).2) (by omega) (by omega)
 have hbd := aKl (qX (st[b]).2 (st[h]).2 (st[f]).2) (c := aBJ (st[b]).2 (st[h]).2 (st[f]).2) (by omega)
 generalize aAY (qX (st[b]).2 (st[h]).2 (st[f]).2) (aBJ (st[b]).2 (st[h]).2 (st[f]).2) = r at h3 hbd gm
 refine ⟨false, r.1, r.2.2, .lst 1 (r.2.1.map qA), gm, .inr ⟨_, rfl⟩, fun _ _ => hne hbf, ?_⟩
 have h5 := aCN (c := r.2.2) (ks := r.2.1.map qA)
 refine qrf Tryz.func139 Tryz.ntmps139 Tryz.results139 ?_; conv => whnf
 repeat ((first | refine qp (xC (yU (c := (b : Int)) (by omega) (by omega) (by omega)) rfl rfl rfl) ?_ | refine qp (xC (yU (c := (h : Int)) (by omega) (by omega) (by omega)) rfl rfl rfl) ?_ | refine qp (xC (yU (c := (f : Int)) (by omega) (by omega) (by omega)) rfl rfl rfl) ?_ | refine qz ?_ | refine qc (hB') ?_ | refine qc (h2) ?_ | refine qf (h3) ?_ | refine qc (h5) ?_ | refine qst ?_ | refine qdr ?_); conv => whnf)
 exact aKU (.inl ⟨rfl, rfl⟩) (.inl ⟨rfl, rfl⟩) rfl rfl rfl rfl trivial
end
set_option maxHeartbeats 2000000 in
theorem aQ8 {B : Bas} {j : Nat} {c : Cmt} (hB : GoodB B) (hj : j < B.refs.length) (hf : B.store.length = 60 ∨ B.refs[j].ver = 1000000) : AC Tryz.prog 138 [yA B, .v (.int .i64 (j : Int)), xS c] ⟨.tup [yA B, kY 7 aAM], []⟩ := by
 have h2 := jf (c := 7)
 have hlen := hB.len
 refine xL (rs := [.cell 6 41, .cell 7 121]) xH (by kernel_rfl) Tryz.func138 rfl Tryz.ntmps138 (by rw [Tryz.results138]) (by kernel_rfl) (by simp) rfl rfl (xA _ _ _ ?_)
 conv => whnf
 by_cases h60 : B.store.length = 60
 · repeat ((first | refine qz ?_ | refine qc (h2) ?_ | refine qst ?_ | refine qdr ?_); conv => whnf)
   exact kT rfl rfl rfl rfl trivial rfl rfl rfl rfl trivial
 · have hv : B.refs[j].ver = 1000000 := by rcases hf with h | h; exact absurd h h60; exact h
   repeat ((first | refine qz ?_ | refine qc (h2) ?_ | refine qst ?_ | refine qdr ?_); conv => whnf)
   exact kT rfl rfl rfl rfl trivial rfl rfl rfl rfl trivial
set_option maxHeartbeats 2000000 in
theorem aQ9 {B : Bas} {j : Nat} {c : Cmt} (hB : GoodB B) (hj : j < B.refs.length) (h60 : ¬ B.store.length = 60) (hv : ¬ B.refs[j].ver = 1000000) : AC Tryz.prog 138 [yA B, .v (.int .i64 (j : Int)), xS c] ⟨.tup [yA ⟨B.store ++ [c], aAV B.refs j ((B.store.length : Int) + 1) false⟩, aJ5 ((B.store.length : Int) + 1)], []⟩ := by
 have hlen := hB.len
 obtain ⟨v0, v1⟩ := aGx hB.rf hj
 have h8 := (zH hB.rf).1
 have hs := aCO (h := (B.store.length : Int) + 1) (g := false) hj (by omega) (by omega) v1
 have e5 : yA ⟨B.store ++ [c], aAV B.refs j ((B.store.length : Int) + 1) false⟩ = .agg [.lst 2 (([] ++ B.store.map xS) ++ [xS c]), .lst 4 ((aAV B.refs j ((B.store.length : Int) + 1) false).map yL)] := by simp [yA]
 rw [e5]
 refine xL (rs := [.cell 6 41, .cell 7 121]) xH (by kernel_rfl) Tryz.func138 rfl Tryz.ntmps138 (by rw [Tryz.results138]) (by kernel_rfl) (by simp) rfl rfl (xA _ _ _ ?_)
 conv => whnf
 repeat ((first | refine qp (xC (zN (c := (B.store.length : Int) + 1) rfl (by omega) (by omega)) rfl rfl rfl) ?_ | refine qz ?_); conv => whnf)
 refine .inr ⟨by kernel_rfl, vv (by kernel_rfl), ?_⟩
 refine xU (aDf rfl rfl) vz rfl rfl (by kernel_rfl) ?_
 refine xJ (uG rfl rfl rfl) rfl rfl rfl (.inl rfl) (by kernel_rfl) ?_
 refine xJ (zO rfl rfl rfl rfl rfl rfl rfl) rfl rfl rfl (.inr rfl) (by kernel_rfl) ?_
 refine xU (aDe rfl rfl rfl rfl (by simp; omega) rfl) vz rfl rfl (by kernel_rfl) ?_
 refine xJ (zO rfl rfl rfl rfl rfl rfl rfl) rfl rfl rfl (.inr rfl) (by kernel_rfl) ?_
 refine xU (aOs rfl rfl rfl rfl rfl) vz rfl rfl (by kernel_rfl) ?_
 refine xU (aOq rfl rfl rfl rfl rfl rfl (by simp; omega) rfl) vz rfl rfl (by kernel_rfl) ?_
 refine xU (aOr rfl) (fun l hl => by cases hl) rfl rfl (by kernel_rfl) ?_
 refine jo ?_
 conv => whnf
 repeat ((first | refine qz ?_ | refine qdr ?_ | refine qc (hs) ?_ | refine qst ?_ | refine qr (uo rfl ⟨⟨_, _, rfl, rfl, rfl⟩, ⟨_, _, rfl, rfl, rfl⟩, trivial⟩ rfl) ?_ | refine qr (yJ rfl rfl rfl rfl rfl rfl) ?_ | refine qst ?_); conv => whnf)
 exact aTy rfl rfl rfl rfl rfl rfl rfl rfl rfl rfl trivial
end Go.Proofs.YtfomjajdfaoogaaGreatDoor.AM
namespace Go.Proofs.YtfomjajdfaoogaaGreatDoor.AM
open Go Go.RowKit
theorem aQc {P : Program} {f : FuncId} {args : List AV} {t sz : Nat} {xs : List AV} (h : AC P f args ⟨.own 0, [⟨.s t, sz, xs⟩]⟩) : AC P f args ⟨.lst sz xs, []⟩ := by
 refine ⟨h.1, fun w S0 B0 V0 T0 vs hS hg hr hv => (h.2 w S0 B0 V0 T0 vs hS hg hr hv).mono ?_⟩
 rintro e w' ⟨v, S, B, V, T, T1, he, hg, hS1, hS2, hrv, hro, hri, hd⟩
 have h0 := hro.ro 0 _ rfl
 have hme := fun g => hro.me 0 _ g rfl
 unfold RV at hrv
 obtain ⟨_, rfl⟩ := hrv
 obtain ⟨t', cs, _, hk, ha, hz, how, _⟩ := h0
 refine ⟨_, fun b => S b ∨ (V 0).ownBlock = some b, B, V, fun _ => Fa, T1, he, hg, fun b hb => .inl (hS1 b hb), fun b hb => ?_, ?_, wK j4, wK (fun _ => rfl), fun l l' ob ob' g e => by rw [j4] at e; cases e⟩
 · rcases hb with hb | hb
   · exact hS2 b hb
   · obtain ⟨_, h2, h3⟩ := hme b (.inl hb)
     exact ⟨h2, h3.elim (fun h => .inr (.inl h)) (fun h => .inr (.inr h))⟩
 · unfold RV
   exact aH5 how ha hz (RL.mono (fun b hb => .inl hb) (fun b _ => rfl) _ _ hk) (fun g hg => .inr hg)
def IsR (R : AV) : Prop := ∃ (c p v : Int) (ks : AV) (ms : List AV), (ks = aAM ∨ ∃ l, ks = .lst 1 l) ∧ R = .agg [.v (.int .i64 c), .v (.int .i64 p), .v (.int .i64 v), ks, .lst 2 ms]
theorem jM {c : Int} {ks : AV} (h : ks = aAM ∨ ∃ l, ks = .lst 1 l) : IsR (kY c ks) := ⟨c, 0, 0, ks, [], h, rfl⟩
theorem aEg {p : Int} : IsR (aJ5 p) := ⟨0, p, 0, .lst 1 [], [], .inr ⟨_, rfl⟩, rfl⟩
attribute [local irreducible] xI xO xQ xX yG Pre ACG
theorem aHL {B : Bas} {j : Nat} {c : Cmt} (hB : GoodB B) (hj : j < B.refs.length) (hc : u6 B.store.length c = true) (hg : Good c.2) (hp : c.1.length ≤ 2) : ∃ B' R, GoodB B' ∧ B'.store.length ≤ B.store.length + 1 ∧ IsR R ∧ AC Tryz.prog 138 [yA B, .v (.int .i64 (j : Int)), xS c] ⟨.tup [yA B', R], []⟩ := by
 have hv := (hB.ref hj).2.1
 have hl := hB.len
 by_cases hf : B.store.length = 60 ∨ B.refs[j].ver = 1000000
 · exact ⟨B, _, hB, by omega, jM (.inl rfl), aQ8 hB hj hf⟩
 · have h1 : ¬ B.store.length = 60 := fun e => hf (.inl e)
   have h2 : ¬ B.refs[j].ver = 1000000 := fun e => hf (.inr e)
   exact ⟨_, _, hB.adv (by omega) hj (by omega) hc hg hp, by simp, aEg, aQ9 hB hj h1 h2⟩
set_option maxHeartbeats 2000000 in
theorem aML {B : Bas} {j : Nat} {o : Opr} (hB : GoodB B) (hj : j < B.refs.length) (hg : B.refs[j].gone = false) (hx : jC o.edits) (he : o.edits.length ≤ 6) (h0 : 0 ≤ o.frm) (h1 : o.frm ≤ B.store.length) : ∃ B' R, GoodB B' ∧ B'.store.length ≤ B.store.length + 1 ∧ IsR R ∧ AC Tryz.prog 115 [yA B, .v (.int .i64 (j : Int)), aH4 o] ⟨.tup [yA B', R], []⟩ := by
 obtain ⟨h, hh, hlt⟩ := hB.head hj hg
 by_cases hz : o.frm = 0
 · obtain ⟨m, c, ks, gm, c1⟩ := aJW hB.st hB.len hlt hlt hx he
   rw [← hh] at c1
   by_cases hc : c = 0
   · subst hc
     obtain ⟨B', R, g1, g2, g3, c2⟩ := aHL (c := ([B.refs[j].head], m)) hB hj (by rw [hh]; exact aDN (p := h + 1) (by omega) (by omega) gm) gm (by simp)
     refine ⟨B', R, g1, g2, g3, ?_⟩
     obtain ⟨rc, rp, rv, rk, rm, (rfl | ⟨l, rfl⟩), rfl⟩ := g3
     all_goals
      refine xL (rs := [.cell 6 41, .cell 7 121]) xH (by kernel_rfl) Tryz.func115 rfl Tryz.ntmps115 (by rw [Tryz.results115]) (by kernel_rfl) (by simp) rfl rfl (xA _ _ _ ?_)
      conv => whnf
      repeat ((first | refine qz ?_ | refine qc (c1) ?_ | refine qf (c2) ?_ | refine qst ?_ | refine qdr ?_ | refine qr (uo rfl ⟨⟨_, _, rfl, rfl, rfl⟩, ⟨_, _, rfl, rfl, rfl⟩, trivial⟩ rfl) ?_); conv => whnf)
      exact kT rfl rfl rfl rfl trivial rfl rfl rfl rfl trivial
   · refine ⟨B, kY c (.lst 1 ks), hB, by omega, jM (.inr ⟨ks, rfl⟩), ?_⟩
     refine xL (rs := [.cell 6 41, .cell 7 121]) xH (by kernel_rfl) Tryz.func115 rfl Tryz.ntmps115 (by rw [Tryz.results115]) (by kernel_rfl) (by simp) rfl rfl (xA _ _ _ ?_)
     conv => whnf
     repeat (first | (refine qz ?_; conv => whnf) | (refine qc (c1) ?_; conv => whnf) | (refine vS (y8 rfl rfl rfl rfl rfl (by conv => lhs; whnf) rfl) rfl rfl (fun _ => .inr (.inr (jR (by kernel_rfl) (by kernel_rfl)))) ?_; conv => whnf) | (refine qst ?_; conv => whnf) | (refine qdr ?_; conv => whnf))
     exact kT rfl rfl rfl rfl trivial rfl rfl rfl rfl trivial
 · obtain ⟨f, hf⟩ : ∃ f : Nat, o.frm = (f : Int) + 1 := ⟨(o.frm - 1).toNat, by omega⟩
   obtain ⟨m, c, ks, gm, c1⟩ := aJW hB.st hB.len (f := f) (by omega) hlt hx he
   rw [← hh, ← hf] at c1
   by_cases hc : c = 0
   · subst hc
     obtain ⟨B', R, g1, g2, g3, c2⟩ := aHL (c := ([B.refs[j].head], m)) hB hj (by rw [hh]; exact aDN (p := h + 1) (by omega) (by omega) gm) gm (by simp)
     refine ⟨B', R, g1, g2, g3, ?_⟩
     obtain ⟨rc, rp, rv, rk, rm, (rfl | ⟨l, rfl⟩), rfl⟩ := g3
     all_goals
      refine xL (rs := [.cell 6 41, .cell 7 121]) xH (by kernel_rfl) Tryz.func115 rfl Tryz.ntmps115 (by rw [Tryz.results115]) (by kernel_rfl) (by simp) rfl rfl (xA _ _ _ ?_)
      conv => whnf
      repeat ((first | refine qz ?_ | refine qc (c1) ?_ | refine qf (c2) ?_ | refine qst ?_ | refine qdr ?_ | refine qr (uo rfl ⟨⟨_, _, rfl, rfl, rfl⟩, ⟨_, _, rfl, rfl, rfl⟩, trivial⟩ rfl) ?_); conv => whnf)
      exact kT rfl rfl rfl rfl trivial rfl rfl rfl rfl trivial
   · refine ⟨B, kY c (.lst 1 ks), hB, by omega, jM (.inr ⟨ks, rfl⟩), ?_⟩
     refine xL (rs := [.cell 6 41, .cell 7 121]) xH (by kernel_rfl) Tryz.func115 rfl Tryz.ntmps115 (by rw [Tryz.results115]) (by kernel_rfl) (by simp) rfl rfl (xA _ _ _ ?_)
     conv => whnf
     repeat (first | (refine qz ?_; conv => whnf) | (refine qc (c1) ?_; conv => whnf) | (refine vS (y8 rfl rfl rfl rfl rfl (by conv => lhs; whnf) rfl) rfl rfl (fun _ => .inr (.inr (jR (by kernel_rfl) (by kernel_rfl)))) ?_; conv => whnf) | (refine qst ?_; conv => whnf) | (refine qdr ?_; conv => whnf))
     exact kT rfl rfl rfl rfl trivial rfl rfl rfl rfl trivial
set_option maxHeartbeats 2000000 in
theorem aNU {B : Bas} {j : Nat} {o : Opr} (hB : GoodB B) (hj : j < B.refs.length) (hg : B.refs[j].gone = false) (h0 : 1 ≤ o.frm) (h1 : o.frm ≤ B.store.length) : ∃ B' R, GoodB B' ∧ B'.store.length ≤ B.store.length + 1 ∧ IsR R ∧ AC Tryz.prog 116 [yA B, .v (.int .i64 (j : Int)), aH4 o] ⟨.tup [yA B', R], []⟩ := by
 obtain ⟨h, hh, hlt⟩ := hB.head hj hg
 obtain ⟨f, hf⟩ : ∃ f : Nat, o.frm = (f : Int) + 1 := ⟨(o.frm - 1).toNat, by omega⟩
 obtain ⟨fast, m, c, ks, gm, hks, hne, c1⟩ := aPD hB.st hB.len (f := f) (by omega) hlt
 rw [← hh, ← hf] at c1
 by_cases hc : c = 0
 case neg =>
  refine ⟨B, kY c ks, hB, by omega, jM hks, ?_⟩
  obtain (rfl | ⟨l, rfl⟩) := hks
  all_goals
   refine xL (rs := [.cell 6 41, .cell 7 121]) xH (by kernel_rfl) Tryz.func116 rfl Tryz.ntmps116 (by rw [Tryz.results116]) (by kernel_rfl) (by simp) rfl rfl (xA _ _ _ ?_)
   conv => whnf
   repeat (first | (refine qz ?_; conv => whnf) | (refine qc (c1) ?_; conv => whnf) | (refine vS (y8 rfl rfl rfl rfl rfl (by conv => lhs; whnf) rfl) rfl rfl (fun _ => .inr (.inr (jR (by kernel_rfl) (by kernel_rfl)))) ?_; conv => whnf) | (refine qst ?_; conv => whnf) | (refine qdr ?_; conv => whnf))
   exact kT rfl rfl rfl rfl trivial rfl rfl rfl rfl trivial
 subst hc
 cases fast
 case false =>
  have hne := hne rfl rfl
  obtain ⟨B', R, g1, g2, g3, c2⟩ := aHL (c := ([B.refs[j].head, o.frm], m)) hB hj (by rw [hh, hf]; exact aJ6 (p := h + 1) (q := f + 1) (by omega) (by omega) (by omega) (by omega) (by omega) gm) gm (by simp)
  refine ⟨B', R, g1, g2, g3, ?_⟩
  obtain ⟨rc, rp, rv, rk, rm, (rfl | ⟨l, rfl⟩), rfl⟩ := g3
  all_goals
   obtain (rfl | ⟨l, rfl⟩) := hks
   all_goals
    refine xL (rs := [.cell 6 41, .cell 7 121]) xH (by kernel_rfl) Tryz.func116 rfl Tryz.ntmps116 (by rw [Tryz.results116]) (by kernel_rfl) (by simp) rfl rfl (xA _ _ _ ?_)
    conv => whnf
    repeat ((first | refine qz ?_ | refine qc (c1) ?_ | refine qf (c2) ?_ | refine qst ?_ | refine qdr ?_ | refine qr (uo rfl ⟨⟨_, _, rfl, rfl, rfl⟩, ⟨_, _, rfl, rfl, rfl⟩, trivial⟩ rfl) ?_); conv => whnf)
    exact kT rfl rfl rfl rfl trivial rfl rfl rfl rfl trivial
 case true =>
  obtain ⟨v0, v1⟩ := aGx hB.rf hj
  have h8 := (zH hB.rf).1
  have h2 := jf (c := 7)
  by_cases hv : B.refs[j].ver = 1000000
  · refine ⟨B, kY 7 aAM, hB, by omega, jM (.inl rfl), ?_⟩
    obtain (rfl | ⟨l, rfl⟩) := hks
    all_goals
     refine xL (rs := [.cell 6 41, .cell 7 121]) xH (by kernel_rfl) Tryz.func116 rfl Tryz.ntmps116 (by rw [Tryz.results116]) (by kernel_rfl) (by simp) rfl rfl (xA _ _ _ ?_)
     conv => whnf
     repeat ((first | refine qz ?_ | refine qc (c1) ?_ | refine qc (h2) ?_ | refine qst ?_ | refine qdr ?_); conv => whnf)
     exact kT rfl rfl rfl rfl trivial rfl rfl rfl rfl trivial
  · have hs := aQc (aCO (h := o.frm) (g := false) hj (by omega) (by omega) v1)
    refine ⟨⟨B.store, aAV B.refs j o.frm false⟩, aJ5 o.frm, hB.set hj (by omega) (by simp; omega), by simp, aEg, ?_⟩
    obtain (rfl | ⟨l, rfl⟩) := hks
    all_goals
     refine xL (rs := [.cell 6 41, .cell 7 121]) xH (by kernel_rfl) Tryz.func116 rfl Tryz.ntmps116 (by rw [Tryz.results116]) (by kernel_rfl) (by simp) rfl rfl (xA _ _ _ ?_)
     conv => whnf
     repeat ((first | refine qz ?_ | refine qc (c1) ?_ | refine qst ?_); conv => whnf)
     refine .inr ⟨by kernel_rfl, vv (by kernel_rfl), ?_⟩
     refine xJ (uG rfl rfl rfl) rfl rfl rfl (.inl rfl) (by kernel_rfl) ?_
     refine xJ (zO rfl rfl rfl rfl rfl rfl rfl) rfl rfl rfl (.inr rfl) (by kernel_rfl) ?_
     refine xJ (uG rfl rfl rfl) rfl rfl rfl (.inl rfl) (by kernel_rfl) ?_
     refine xJ (zO rfl rfl rfl rfl rfl rfl rfl) rfl rfl rfl (.inr rfl) (by kernel_rfl) ?_
     refine xJ (wT rfl) rfl rfl rfl (.inl rfl) (by kernel_rfl) ?_
     refine xJ (uG rfl rfl rfl) rfl rfl rfl (.inl rfl) (by kernel_rfl) ?_
     refine xJ (zO rfl rfl rfl rfl rfl rfl rfl) rfl rfl rfl (.inr rfl) (by kernel_rfl) ?_
     refine xU (aCI hs rfl rfl rfl trivial rfl rfl rfl) aDX rfl rfl (by kernel_rfl) ?_
     refine xU (qm rfl ⟨⟨_, rfl, rfl⟩, rfl, ⟨_, rfl, rfl⟩, rfl, trivial⟩ rfl rfl rfl) ul rfl rfl (by kernel_rfl) ?_
     refine xJ (uG rfl rfl rfl) rfl rfl rfl (.inl rfl) (by kernel_rfl) ?_
     refine xJ (zO rfl rfl rfl rfl rfl rfl rfl) rfl rfl rfl (.inr rfl) (by kernel_rfl) ?_
     refine xU (qm rfl ⟨⟨_, rfl, rfl⟩, rfl, trivial⟩ rfl rfl rfl) ul rfl rfl (by kernel_rfl) ?_
     refine xU (aAl rfl rfl rfl rfl rfl rfl rfl) vz rfl rfl (by kernel_rfl) ?_
     refine xU (aAl rfl rfl rfl rfl rfl rfl rfl) vz rfl rfl (by kernel_rfl) ?_
     refine jo ?_
     conv => whnf
     exact kT rfl rfl rfl rfl trivial rfl rfl rfl rfl trivial
end Go.Proofs.YtfomjajdfaoogaaGreatDoor.AM
