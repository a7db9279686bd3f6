/- Texts of the machine over data, folded. -/
import Derived.Test.YtfomjajdfaoogaaGreatDoorKa5
import Derived.Test.YtfomjajdfaoogaaGreatDoorKa11
import Derived.Test.YtfomjajdfaoogaaGreatDoorKa10
import Derived.Test.YtfomjajdfaoogaaGreatDoorKa7
set_option linter.unusedVariables false
set_option linter.unusedSimpArgs false
set_option maxRecDepth 100000
namespace Go.Proofs.YtfomjajdfaoogaaGreatDoor.AM
open Go Go.RowKit
section
variable {P : Program} {t : TypeId} {x y : Operand} {a b : ByteArray}
end
attribute [local irreducible] xI xO xQ xX yG Pre ACG
theorem aPa {es : List Ent} {k : ByteArray} {i : Nat} (h : i < es.length) (hb : ∀ j, (hj : j < i) → es[j].1 ≠ k) : (∀ j, (hj : j < i + 1) → es[j].1 ≠ k) ↔ es[i].1 ≠ k :=
 ⟨fun h' => h' i (by omega), fun h' j hj => by
  rcases Nat.lt_or_ge j i with q | q
  · exact hb j q
  · have : j = i := by omega
    subst this; exact h'⟩
theorem aPE {es : List Ent} {k : ByteArray} (hm : es.length ≤ maxLen) : AC Tryz.prog 141 [.lst 2 (es.map yB), .v (.string k)] ⟨.v (.int .i64 (atI es k)), []⟩ := by
 unfold maxLen at hm
 refine qrf Tryz.func141 Tryz.ntmps141 Tryz.results141 ?_; conv => whnf
 refine xZ (ι := { i : Nat // ∃ h : i ≤ es.length, ∀ j, (hj : j < i) → es[j].1 ≠ k }) (fun i => ⟨[(0, .lst 2 (es.map yB)), (1, .v (.string k)), (5, .v (.int .i64 (i.1 : Int)))], []⟩) (fun i => es.length - i.1) ⟨0, Nat.zero_le _, fun j hj => absurd hj (by omega)⟩ (by exact qle) ?_
 rintro ⟨i, hi, hf⟩
 dsimp only
 conv => whnf
 by_cases hlt : i < es.length
 · by_cases hk : es[i].1 = k
   · have e : atI es k = (i : Int) := by unfold atI; rw [aPc hlt hk hf]
     rw [e]
     repeat ((first | refine qz ?_ | refine qp (xC (aE9 hk) rfl rfl rfl) ?_); conv => whnf)
     exact xD rfl trivial
   · repeat ((first | refine qz ?_ | refine qp (xC (aE8 hk) rfl rfl rfl) ?_); conv => whnf)
     exact ⟨⟨i + 1, hlt, (aPa hlt hf).2 hk⟩, by exact qle, by simp; omega⟩
 · have e : atI es k = -1 := by
    unfold atI; rw [aPb fun j hj => hf j (by omega)]
   rw [e]
   repeat ((refine qz ?_; conv => whnf))
   exact xD rfl trivial
theorem aNS {es : List Ent} {k : ByteArray} (hm : es.length ≤ maxLen) (hk : ∀ e ∈ es, e.1.size ≤ maxLen) (hx : k.size ≤ maxLen) : AC Tryz.prog 140 [.lst 2 (es.map yB), .v (.string k)] ⟨.v (.int .i64 (aA6 es k)), []⟩ := by
 unfold aA6
 have hm' := hm
 have hx' := hx
 unfold maxLen at hm' hx'
 by_cases h1 : 4096 < es.length
 · rw [if_pos (.inl h1)]
   refine qrf Tryz.func140 Tryz.ntmps140 Tryz.results140 ?_; conv => whnf
   repeat ((refine qz ?_; conv => whnf))
   exact xD rfl trivial
 by_cases h2 : 65536 < k.size
 · rw [if_pos (.inr h2)]
   refine qrf Tryz.func140 Tryz.ntmps140 Tryz.results140 ?_; conv => whnf
   repeat ((refine qz ?_; conv => whnf))
   exact xD rfl trivial
 rw [if_neg (by omega)]
 cases ha : yV es with
 | false =>
  rw [if_neg (by simp)]
  have c1 := wJ ha hm hk
  refine qrf Tryz.func140 Tryz.ntmps140 Tryz.results140 ?_; conv => whnf
  repeat ((first | refine qz ?_ | refine qc (c1) ?_); conv => whnf)
  exact xD rfl trivial
 | true =>
  have c1 := wJ ha hm hk
  cases hw : nm k with
  | false =>
   rw [if_neg (by simp)]
   have c2 := wB (b := false) hx hw
   refine qrf Tryz.func140 Tryz.ntmps140 Tryz.results140 ?_; conv => whnf
   repeat ((first | refine qz ?_ | refine qc (c1) ?_ | refine qc (c2) ?_); conv => whnf)
   exact xD rfl trivial
  | true =>
   rw [if_pos (by simp)]
   have c2 := wB (b := true) hx hw
   refine qrf Tryz.func140 Tryz.ntmps140 Tryz.results140 ?_; conv => whnf
   repeat ((first | refine qz ?_ | refine qc (c1) ?_ | refine qc (c2) ?_); conv => whnf)
   exact xD rfl trivial
theorem aSu {es : List Ent} {k : ByteArray} {i : Nat} (h : fnd es k = some i) : i < es.length := by
 unfold fnd at h
 exact (List.findIdx?_eq_some_iff_getElem.1 h).1
theorem aQf {es : List Ent} {k : ByteArray} (hm : es.length ≤ maxLen) (hk : ∀ e ∈ es, e.1.size ≤ maxLen) (hx : k.size ≤ maxLen) : AC Tryz.prog 117 [.lst 2 (es.map yB), .v (.string k)] ⟨.tup [.v (.int .i64 (getM es k).1), .v (.int .i64 (getM es k).2)], []⟩ := by
 have hm' := hm
 have hx' := hx
 unfold maxLen at hm' hx'
 have c1 := aNS hm hk hx
 have c2 := aPE (k := k) hm
 unfold getM
 by_cases h1 : 4096 < es.length ∨ 65536 < k.size
 · have hc : aA6 es k = 2 := by unfold aA6; rw [if_pos h1]
   rw [hc, if_neg (by omega)]
   rcases h1 with h1 | h1
   · refine qrf Tryz.func117 Tryz.ntmps117 Tryz.results117 ?_; conv => whnf
     repeat ((refine qz ?_; conv => whnf))
     exact zR rfl rfl
   · by_cases h0 : 4096 < es.length
     · refine qrf Tryz.func117 Tryz.ntmps117 Tryz.results117 ?_; conv => whnf
       repeat ((refine qz ?_; conv => whnf))
       exact zR rfl rfl
     · refine qrf Tryz.func117 Tryz.ntmps117 Tryz.results117 ?_; conv => whnf
       repeat ((refine qz ?_; conv => whnf))
       exact zR rfl rfl
 by_cases hc : aA6 es k = 0
 · rw [hc] at c1
   rw [if_pos hc]
   cases hf : fnd es k with
   | none =>
    have e : atI es k = -1 := by unfold atI; rw [hf]
    rw [e] at c2
    refine qrf Tryz.func117 Tryz.ntmps117 Tryz.results117 ?_; conv => whnf
    repeat ((first | refine qz ?_ | refine qc (c1) ?_ | refine qc (c2) ?_); conv => whnf)
    exact zR rfl rfl
   | some i =>
    have hi := aSu hf
    have e : atI es k = (i : Int) := by unfold atI; rw [hf]
    rw [e] at c2
    refine qrf Tryz.func117 Tryz.ntmps117 Tryz.results117 ?_; conv => whnf
    repeat ((first | refine qz ?_ | refine qc (c1) ?_ | refine qc (c2) ?_); conv => whnf)
    exact zR (by show AV.v (.int .i64 (es[i]).2) = _; simp [hi]) rfl
 · rw [if_neg hc]
   refine qrf Tryz.func117 Tryz.ntmps117 Tryz.results117 ?_; conv => whnf
   repeat ((first | refine qz ?_ | refine qc (c1) ?_); conv => whnf)
   exact zR rfl rfl
end Go.Proofs.YtfomjajdfaoogaaGreatDoor.AM
namespace Go.Proofs.YtfomjajdfaoogaaGreatDoor.AM
open Go Go.RowKit
structure GoodO (o : Opr) (n : Nat) : Prop where
 nm : okN o.name = true ∧ o.name.size ≤ 12
 key : o.key.size ≤ 12
 kind : 1 ≤ o.kind ∧ o.kind ≤ 6
 edits : jC o.edits ∧ o.edits.length ≤ 6
 frm : (o.kind = 1 ∨ o.kind = 4 → 1 ≤ o.frm ∧ o.frm ≤ n) ∧ (o.kind = 3 → 0 ≤ o.frm ∧ o.frm ≤ n)
attribute [local irreducible] xI xO xQ xX yG Pre ACG
attribute [local irreducible] IsR
set_option maxHeartbeats 4000000 in
theorem aSP {B : Bas} {kind frm : Int} {nme key : ByteArray} {edits : List Edt} (hB : GoodB B) (hn : okN nme = true) (f1 : 1 ≤ frm) (f2 : frm ≤ B.store.length) : ∃ B' R, GoodB B' ∧ B'.store.length ≤ B.store.length + 1 ∧ IsR R ∧ AC Tryz.prog 79 [yA B, .agg [.v (.int .i64 1), .v (.int .i64 frm), .v (.string nme), .v (.string key), .lst 3 (edits.map uf)]] ⟨.tup [yA B', R], []⟩ := by
 have h8 := (zH hB.rf).1
 have hlen := hB.len
 have c1 := aJQ (l := B.refs) (x := nme) (h := frm) (by omega) hB.rf
 have gB := hB.create hn f1 f2
 by_cases hc : (mkR B.refs nme frm).2 = 0
 · refine ⟨⟨B.store, (mkR B.refs nme frm).1⟩, aJ5 frm, gB, by simp, aEg, ?_⟩
   rw [hc] at c1
   generalize (mkR B.refs nme frm).1 = l' at c1
   refine xL (rs := [.cell 4 41, .cell 5 121]) xH (by kernel_rfl) Tryz.func79 rfl Tryz.ntmps79 (by rw [Tryz.results79]) (by kernel_rfl) (by simp) rfl rfl (xA _ _ _ ?_)
   conv => whnf
   repeat ((first | refine qz ?_ | refine qc (c1) ?_); conv => whnf)
   refine .inr ⟨by kernel_rfl, vv (by kernel_rfl), ?_⟩
   repeat (first | refine xJ (wT rfl) rfl rfl rfl (.inl rfl) (by kernel_rfl) ?_ | refine xJ (uG rfl rfl rfl) rfl rfl rfl (.inl rfl) (by kernel_rfl) ?_ | refine xJ (aJA rfl rfl rfl rfl rfl) rfl rfl rfl (.inl rfl) (by kernel_rfl) ?_ | refine xJ (zO rfl rfl rfl rfl rfl rfl rfl) rfl rfl rfl (.inr rfl) (by kernel_rfl) ?_ | refine xJ (aMp rfl rfl rfl rfl) rfl rfl rfl (.inr rfl) (by kernel_rfl) ?_ | refine xU (qm rfl ⟨⟨_, rfl, rfl⟩, rfl, ⟨_, rfl, rfl⟩, rfl, trivial⟩ rfl rfl rfl) ul rfl rfl (by kernel_rfl) ?_ | refine xU (qm rfl ⟨⟨_, rfl, rfl⟩, rfl, trivial⟩ rfl rfl rfl) ul rfl rfl (by kernel_rfl) ?_ | refine xU (aAl rfl rfl rfl rfl rfl rfl rfl) vz rfl rfl (by kernel_rfl) ?_)
   refine jo ?_
   conv => whnf
   exact kT rfl rfl rfl rfl trivial rfl rfl rfl rfl trivial
 · have h2 := jf (c := (mkR B.refs nme frm).2)
   refine ⟨B, kY (mkR B.refs nme frm).2 aAM, hB, by omega, jM (.inl rfl), ?_⟩
   generalize mkR B.refs nme frm = r at c1 hc h2
   refine xL (rs := [.cell 4 41, .cell 5 121]) xH (by kernel_rfl) Tryz.func79 rfl Tryz.ntmps79 (by rw [Tryz.results79]) (by kernel_rfl) (by simp) rfl rfl (xA _ _ _ ?_)
   conv => whnf
   repeat ((first | refine qz ?_ | refine qc (c1) ?_ | refine qc (h2) ?_ | refine qst ?_ | refine qdr ?_); conv => whnf)
   exact kT rfl rfl rfl rfl trivial rfl rfl rfl rfl trivial
set_option maxHeartbeats 4000000 in
theorem aSQ {B : Bas} {kind frm : Int} {nme key : ByteArray} {edits : List Edt} (hB : GoodB B) (k1 : ¬ kind = 1) (hfl : kind = 3 ∨ kind = 4 → ¬ (B.store.length : Int) < frm) (e : wF B.refs nme = -1) : ∃ B' R, GoodB B' ∧ B'.store.length ≤ B.store.length + 1 ∧ IsR R ∧ AC Tryz.prog 79 [yA B, .agg [.v (.int .i64 kind), .v (.int .i64 frm), .v (.string nme), .v (.string key), .lst 3 (edits.map uf)]] ⟨.tup [yA B', R], []⟩ := by
 have h8 := (zH hB.rf).1
 have hlen := hB.len
 have c0 := jE (l := B.refs) (x := nme) (by unfold maxLen; omega)
 rw [e] at c0
 have h2 := jf (c := 10)
 refine ⟨B, kY 10 aAM, hB, by omega, jM (.inl rfl), ?_⟩
 by_cases k34 : kind = 3 ∨ kind = 4
 · have := hfl k34
   rcases k34 with rfl | rfl
   all_goals
    refine xL (rs := [.cell 4 41, .cell 5 121]) xH (by kernel_rfl) Tryz.func79 rfl Tryz.ntmps79 (by rw [Tryz.results79]) (by kernel_rfl) (by simp) rfl rfl (xA _ _ _ ?_)
    conv => whnf
    repeat ((first | refine qz ?_ | refine qc (c0) ?_ | refine qc (h2) ?_ | refine qst ?_ | refine qdr ?_); conv => whnf)
    exact kT rfl rfl rfl rfl trivial rfl rfl rfl rfl trivial
 · have k3 : ¬ kind = 3 := fun h => k34 (.inl h)
   have k4 : ¬ kind = 4 := fun h => k34 (.inr h)
   refine xL (rs := [.cell 4 41, .cell 5 121]) xH (by kernel_rfl) Tryz.func79 rfl Tryz.ntmps79 (by rw [Tryz.results79]) (by kernel_rfl) (by simp) rfl rfl (xA _ _ _ ?_)
   conv => whnf
   repeat ((first | refine qz ?_ | refine qc (c0) ?_ | refine qc (h2) ?_ | refine qst ?_ | refine qdr ?_); conv => whnf)
   exact kT rfl rfl rfl rfl trivial rfl rfl rfl rfl trivial
end Go.Proofs.YtfomjajdfaoogaaGreatDoor.AM
namespace Go.Proofs.YtfomjajdfaoogaaGreatDoor.AM
open Go Go.RowKit
section
variable {P : Program} {Θ : Tab} {s : St}
def mkO : Nat → List Operand → List (Nat × Operand)
 | _, [] => []
 | i, c :: r => (i, c) :: mkO (i + 1) r
theorem aLb : ∀ (xs : List Operand) (cs : List Value) (i : Nat), xs.map s.ev = cs.map .v → xq s ((mkO i xs).map (·.2)) = []
 | [], _, _, _ => by simp [mkO, xq, xY]
 | x :: xs, [], _, h => by cases h
 | x :: xs, c :: cs, i, h => by
  obtain ⟨h1, h2⟩ := List.cons.inj h
  have := aLb xs cs (i + 1) h2
  unfold xq at this ⊢
  simp only [mkO, List.map_cons, xY, h1, yP, List.nil_append]
  exact this
theorem aOH : ∀ (xs : List Operand) (cs : List Value) (i : Nat), xs.map s.ev = cs.map .v → (∀ c ∈ cs, c.oneCell' = true) → jI ((mkO i xs).map (·.2))
 | [], _, _, _, _ => by intro y hy; simp [mkO] at hy
 | x :: xs, [], _, h, _ => by cases h
 | x :: xs, c :: cs, i, h, hc => by
  obtain ⟨h1, h2⟩ := List.cons.inj h
  intro y hy v hv
  simp only [mkO, List.map_cons, List.mem_cons] at hy
  rcases hy with rfl | hy
  · subst hv
    have e : c = v := by have : AV.v v = AV.v c := h1; cases this; rfl
    subst e; exact hc _ (by simp)
  · exact aOH xs cs (i + 1) h2 (fun c hc' => hc c (by simp [hc'])) y hy v hv
theorem aOI : ∀ (xs : List Operand) (cs : List Value) (i : Nat) (zs : List AV), xs.map s.ev = cs.map .v → (∀ c ∈ cs, c.oneCell' = true) → i + cs.length = zs.length → (∀ z ∈ zs, asz z = 1) → vY s zs (mkO i xs) ∧ yT s zs (mkO i xs) = zs.take i ++ cs.map .v
 | [], [], i, zs, _, _, h, _ => by
  refine ⟨trivial, ?_⟩
  simp only [mkO, yT, List.map_nil, List.append_nil]
  rw [List.take_of_length_le (by simp at h; omega)]
 | [], c :: cs, _, _, h, _, _, _ => by cases h
 | x :: xs, [], _, _, h, _, _, _ => by cases h
 | x :: xs, c :: cs, i, zs, he, hc, h, hz => by
  obtain ⟨e1, e2⟩ := List.cons.inj he
  have hi : i < zs.length := by simp only [List.length_cons] at h; omega
  have h1 := aOI xs cs (i + 1) (zs.set i (.v c)) e2 (fun c hc' => hc c (by simp [hc'])) (by rw [List.length_set]; simp only [List.length_cons] at h; omega) (fun z hz' => by
   rcases List.mem_or_eq_of_mem_set hz' with q | q
   · exact hz z q
   · subst q; rfl)
  have hd : s.dat (s.ev x) = .v c := by rw [e1]; rfl
  refine ⟨⟨⟨zs[i], by simp [hi], by rw [hd, hz _ (List.getElem_mem hi)]; rfl⟩, by rw [e1]; exact hc c (by simp), by rw [hd]; exact h1.1⟩, ?_⟩
  simp only [mkO, yT, hd]
  rw [h1.2, List.take_succ_eq_append_getElem (by simpa using hi), List.getElem_set_self, List.take_set_of_le (Nat.le_refl _)]
  simp
theorem aOU {d : Nat} {ty : TypeId} {pos : String} {after : Array Edge} {g : Option (Nat × Bool)} {t el b m : Nat} {z : AV} {ps : Array (Nat × Operand)} (xs : List Operand) (cs : List Value) (hev : xs.map s.ev = cs.map .v) (hf : s.hp (d + 1) = none) (ht : Θ.look t = .slice el 1 b z) (hps : ps = (mkO 0 xs).toArray) (hm : m = cs.length) (hz : Nat.beq (asz z) 1 = true) (hl : Nat.ble cs.length 65536 = true) (hc : ∀ c ∈ cs, c.oneCell' = true) (hok : okL (d + 1) = true := by rfl) :
 Pre P Θ ⟨some d, .buildSlice t m ps, ty, pos, after, g⟩ s ⟨.own (d + 1), some fun s' => s'.set (d + 1) (some ⟨.s el, 1, cs.map .v⟩)⟩ := by
 subst hps hm
 have h1 := aOI (s := s) xs cs 0 (List.replicate cs.length z) hev hc (by simp) (fun y hy => by rw [List.eq_of_mem_replicate hy]; exact Nat.eq_of_beq_eq_true hz)
 have ho := aLb (s := s) xs cs 0 hev
 refine ⟨d, el, 1, b, z, rfl, hf, hok, ht, by have := Nat.le_of_ble_eq_true hl; omega, .inl ⟨h1.1, aOH xs cs 0 hev hc, ?_, ?_⟩⟩
 · show (xq s ((mkO 0 xs).map (·.2))).all okL = true
   rw [ho]; rfl
 · show _ = Eff.mk _ (qW (xq s ((mkO 0 xs).map (·.2))) fun s' => s'.set (d + 1) (some ⟨.s el, 1, yT s (List.replicate cs.length z) (mkO 0 xs)⟩))
   rw [ho, h1.2]; rfl
theorem aQA {d : Nat} {ty : TypeId} {pos : String} {after : Array Edge} {g : Option (Nat × Bool)} {t el b m : Nat} {z : AV} {ps : Array (Nat × Operand)} (xs : List Operand) (cs : List Value) (hev : xs.map s.ev = cs.map .v) (hf : s.hp (d + 1) = none) (ht : Θ.look t = .slice el 1 b z) (hps : ps = (mkO 0 xs).toArray) (hm : m = cs.length) (hz : Nat.beq (asz z) 1 = true) (hl : Nat.ble cs.length 65536 = true) (hc : ∀ c ∈ cs, c.oneCell' = true) (hok : okL (d + 1) = true := by rfl) :
 Sft P Θ ⟨some d, .buildSlice t m ps, ty, pos, after, g⟩ s (.own (d + 1)) [] [(d + 1, some ⟨.s el, 1, cs.map .v⟩)] := by
 have hmem : ∀ (ys : List Operand) (i : Nat) (x : Operand), x ∈ ys → ∃ j, (j, x) ∈ mkO i ys := by
  intro ys
  induction ys with
  | nil => intro i x h; cases h
  | cons y ys ih =>
   intro i x h
   rcases List.mem_cons.1 h with rfl | h
   · exact ⟨i, by simp [mkO]⟩
   · obtain ⟨j, hj⟩ := ih (i + 1) x h
     exact ⟨j, by simp [mkO, hj]⟩
 refine ⟨fun s' h1 h2 => ⟨⟨.own (d + 1), some fun s'' => s''.set (d + 1) (some ⟨.s el, 1, cs.map .v⟩)⟩, ?_, fun K hK => .done ?_⟩, fun l ob h => ?_, fun l hl => (by cases hl), fun l hl => .inl ?_, fun l ⟨o, hl⟩ => .inl ?_, fun l ob ⟨o, hl⟩ ho => ?_⟩
 · have hev' : xs.map s'.ev = cs.map .v := by
    rw [← hev]
    refine List.map_congr_left fun x hx => h1 x ?_
    obtain ⟨j, hj⟩ := hmem xs 0 x hx
    subst hps
    simp only [Op.operands, List.map_toArray, List.mem_toArray, List.mem_map]
    exact ⟨(j, x), hj, rfl⟩
   exact aOU xs cs hev' ((h2 _ (.inl (in1 _ _))).1.trans hf) ht hps hm hz hl hc hok
 · rw [zQ, j6]; exact hK
 · obtain ⟨_, e⟩ := nu1 h; cases e; rfl
 · simp only [AV.names] at hl; rw [← Nat.eq_of_beq_eq_true hl]; exact in1 _ _
 · obtain ⟨rfl, _⟩ := nu1 hl; exact ⟨d, rfl, rfl⟩
 · obtain ⟨rfl, _⟩ := nu1 hl; rw [hf] at ho; cases ho
end
section
variable {P : Program} {Θ : Tab} {s : St} {ty : TypeId} {pos : String} {after : Array Edge} {g : Option (Nat × Bool)}
theorem aFE {l : Nat} : ∀ o : OB, o.e.shut = true → wY [l] o = o := fun o h => by
 obtain ⟨e, sz, xs⟩ := o
 cases e <;> first | rfl | cases h
theorem aHH : ∀ o : OB, o.e.shut = true → ∀ p, uK p o.e = true := fun o h p => by
 obtain ⟨e, sz, xs⟩ := o
 cases e <;> first | rfl | cases h
theorem aHC {f : FuncId} {ts : Array TypeId} {t a l : Nat} {x : Operand} {c : Value} {y : AV} {ri ro : OB} (hac : ACG P f [.optr 0 0 [] 0, .v c] [ri] [ro] ⟨y, []⟩) (hx : s.sl a = .optr l 0 [] 0) (hxv : s.ev x = .v c) (ho : s.hp l = some ri) (hsz : ro.sz = ri.sz) (hri : ri.e.shut = true) (hro : ro.e.shut = true) (hc : c.oneCell' = true) (hcx : cOK x = true) (hy : y.within (fun _ => false) = true := by rfl) :
 Sft P Θ ⟨some t, .call ⟨.value (.func f), #[.tmp a, x], ts⟩, ty, pos, after, g⟩ s y [] [(l, some ro)] := by
 refine ⟨fun s' h1 h2 => ⟨⟨y, some fun s => yu (t + 1) 0 [] (yS [l] [l] [ro] s)⟩, ?_, fun K hK => .done ?_⟩, fun m o h => ?_, fun l hl => (by cases hl), fun m hl => (by have := uP (p := fun _ => false) y hy hl; cases this), fun m ⟨o, hl⟩ => ?_, fun m o ⟨o', hl⟩ hm => ?_⟩
 · have ea : s'.sl a = .optr l 0 [] 0 := (h1 (.tmp a) (by simp [Op.operands, Call.operands])).trans hx
   have ev : s'.ev x = .v c := (h1 x (by simp [Op.operands, Call.operands])).trans hxv
   have ho' : s'.hp l = some ri := (h2 l (.inl (in1 _ _))).1.trans ho
   have e2 : (([] : List AV) ++ [Operand.tmp a, x].map s'.ev ++ []) = [.optr l 0 [] 0, .v c] := by show [s'.sl a, s'.ev x] = _; rw [ea, ev]
   have hr : ren (t + 1) y = y := aMj y hy
   rw [← hr]
   refine wO (x := .func f) (xs := []) (ys := []) (out := ⟨y, []⟩) [l] hac rfl ?_ ⟨ho'.trans (congrArg some (aFE ri hri).symm), trivial⟩ rfl (by simp [hsz]) trivial ?_ ?_ ?_ (.inl ?_) (by simp [wQ, hcx, show cOK (Operand.tmp a) = true from rfl])
   · show s'.datHL [l] ([] ++ [Operand.tmp a, x].map s'.ev ++ []) = _
     rw [e2]
     simp [St.datHL, St.datH, aAu, wG, mapA, xk]
   · show vM s' [l] ([] ++ [Operand.tmp a, x].map s'.ev ++ []) = true
     rw [e2]; simp [vM, kg, xM, hc]
   · simp [zC, AV.within, xE]
   · simp [aHH ri hri, aHH ro hro]
   · show (zn [l] (xY ([] ++ [Operand.tmp a, x].map s'.ev ++ []))).isEmpty = true
     rw [e2]; simp [xY, yP, zn]
 · have e3 : yu (t + 1) 0 [] (yS [l] [l] [ro] s') = shp [] [(l, some ro)] s' := by
    show s'.set l (some (wY [l] ro)) = _
    rw [aFE ro hro]
    exact j6 _ _ _
   rw [zQ, e3]; exact hK
 · obtain ⟨_, e⟩ := nu1 h; cases e; exact hro
 · obtain ⟨rfl, _⟩ := nu1 hl
   exact .inr ⟨a, y7 (by simp [Op.operands, Call.operands]), by rw [hx]; simp [AV.names]⟩
 · obtain ⟨rfl, _⟩ := nu1 hl
   rw [ho] at hm; cases hm; exact hri
theorem aNI {f : FuncId} {ts : Array TypeId} {t a l : Nat} {x : Operand} {c v : Value} {ri ro : OB} (hac : ACG P f [.optr 0 0 [] 0, .v c] [ri] [ro] ⟨.v v, []⟩) (hx : s.sl a = .optr l 0 [] 0) (hxv : s.ev x = .v c) (ho : s.hp l = some ri) (hsz : ro.sz = ri.sz) (hri : ri.e.shut = true) (hro : ro.e.shut = true) (hc : c.oneCell' = true) (hcx : cOK x = true) :
 Sft P Θ ⟨some t, .call ⟨.value (.func f), #[.tmp a, x], ts⟩, ty, pos, after, g⟩ s (.v v) [] [(l, some ro)] := aHC hac hx hxv ho hsz hri hro hc hcx
theorem aLF {f : FuncId} {ts : Array TypeId} {t a l : Nat} {v : Value} {ri ro : OB} (hac : ACG P f [.optr 0 0 [] 0] [ri] [ro] ⟨.v v, []⟩) (hx : s.sl a = .optr l 0 [] 0) (ho : s.hp l = some ri) (hsz : ro.sz = ri.sz) (hri : ri.e.shut = true) (hro : ro.e.shut = true) :
 Sft P Θ ⟨some t, .call ⟨.value (.func f), #[.tmp a], ts⟩, ty, pos, after, g⟩ s (.v v) [] [(l, some ro)] := by
 refine ⟨fun s' h1 h2 => ⟨⟨.v v, some fun s => yu (t + 1) 0 [] (yS [l] [l] [ro] s)⟩, ?_, fun K hK => .done ?_⟩, fun m o h => ?_, fun l hl => (by cases hl), fun m hl => by simp [AV.names] at hl, fun m ⟨o, hl⟩ => ?_, fun m o ⟨o', hl⟩ hm => ?_⟩
 · have ea : s'.sl a = .optr l 0 [] 0 := (h1 (.tmp a) (by simp [Op.operands, Call.operands])).trans hx
   have ho' : s'.hp l = some ri := (h2 l (.inl (in1 _ _))).1.trans ho
   have e2 : (([] : List AV) ++ [Operand.tmp a].map s'.ev ++ []) = [.optr l 0 [] 0] := by show [s'.sl a] = _; rw [ea]
   refine wO (x := .func f) (xs := []) (ys := []) (out := ⟨.v v, []⟩) [l] hac rfl ?_ ⟨ho'.trans (congrArg some (aFE ri hri).symm), trivial⟩ rfl (by simp [hsz]) trivial ?_ ?_ ?_ (.inl ?_) (by simp [wQ, cOK])
   · show s'.datHL [l] ([] ++ [Operand.tmp a].map s'.ev ++ []) = _
     rw [e2]
     simp [St.datHL, St.datH, aAu, wG, mapA, xk]
   · show vM s' [l] ([] ++ [Operand.tmp a].map s'.ev ++ []) = true
     rw [e2]; simp [vM, kg, xM]
   · simp [zC, AV.within, xE]
   · simp [aHH ri hri, aHH ro hro]
   · show (zn [l] (xY ([] ++ [Operand.tmp a].map s'.ev ++ []))).isEmpty = true
     rw [e2]; simp [xY, yP, zn]
 · have e3 : yu (t + 1) 0 [] (yS [l] [l] [ro] s') = shp [] [(l, some ro)] s' := by
    show s'.set l (some (wY [l] ro)) = _
    rw [aFE ro hro]
    exact j6 _ _ _
   rw [zQ, e3]; exact hK
 · obtain ⟨_, e⟩ := nu1 h; cases e; exact hro
 · obtain ⟨rfl, _⟩ := nu1 hl
   exact .inr ⟨a, y7 (by simp [Op.operands, Call.operands]), by rw [hx]; simp [AV.names]⟩
 · obtain ⟨rfl, _⟩ := nu1 hl
   rw [ho] at hm; cases hm; exact hri
end
def jU : List Int := [1, 2, 3, 3, 3, 4, 4, 5, 6]
def aMg (c : List UInt8) (s : Src) : Int := jU.getD (xB c s 9).1 6
def aPj : ByteArray := ⟨#[111, 108, 100]⟩
def aKG (c : List UInt8) (s : Src) (n : Nat) (kd : Int) (nm : ByteArray) : Opr × Src :=
 if kd = 1 ∨ kd = 4 then (⟨kd, 1 + ((xB c s n).1 : Int), nm, ⟨#[]⟩, []⟩, (xB c s n).2)
 else if kd = 3 then (⟨kd, (if (xB c (xB c (edS c s).2 (n + 1)).2 3).1 = 2 then ((xB c (edS c s).2 (n + 1)).1 : Int) else 0), nm, ⟨#[]⟩, (edS c s).1⟩, (xB c (xB c (edS c s).2 (n + 1)).2 3).2)
 else if kd = 5 then (⟨kd, 0, nm, (uT c s).1, []⟩, (uT c s).2)
 else if kd = 2 then (⟨kd, 0, (if (xB c s 2).1 = 1 then aPj else nm), ⟨#[]⟩, []⟩, (xB c s 2).2)
 else (⟨kd, 0, nm, ⟨#[]⟩, []⟩, s)
def opS (c : List UInt8) (s : Src) (n : Nat) : Opr × Src := aKG c (wm c (xB c s 9).2 wS).2 n (aMg c s) (wm c (xB c s 9).2 wS).1
theorem aL7 {i : Nat} (h : i < 9) : 1 ≤ jU.getD i 6 ∧ jU.getD i 6 ≤ 6 := by
 have : ∀ i, i < 9 → 1 ≤ jU.getD i 6 ∧ jU.getD i 6 ≤ 6 := by decide
 exact this i h
theorem aR0 : Nam aPj := aIW (by simp [wS, aPj])
theorem aRQ {x : ByteArray} (h : x ∈ wD) : x.size ≤ 12 := by
 have h1 : (wD.all fun k => decide (k.size ≤ 12)) = true := by decide +kernel
 simpa using List.all_eq_true.1 h1 x h
theorem aR1 {c : List UInt8} {s : Src} {K n : Nat} {kd : Int} {nm : ByteArray} (h : s.ok K) (h0 : 1 ≤ n) (hk : 1 ≤ kd ∧ kd ≤ 6) (hn : Nam nm) : (aKG c s n kd nm).2.ok (K + 15) ∧ GoodO (aKG c s n kd nm).1 n := by
 have hN : ∀ {x : ByteArray}, Nam x → okN x = true ∧ x.size ≤ 12 := fun h => h
 have hE : jC [] := jC.nil
 unfold aKG
 split
 · rename_i hq
   obtain ⟨a, b⟩ := yC (c := c) (n := n) h (by omega)
   exact ⟨a.le (by omega), ⟨hn, by show (0 : Nat) ≤ 12; omega, hk, ⟨hE, by simp⟩, fun _ => by dsimp only; omega, fun q => by dsimp only at q; omega⟩⟩
 rename_i q1
 split
 · rename_i hq
   obtain ⟨a1, a2, a3⟩ := aGW (c := c) h
   obtain ⟨b1, b2⟩ := yC (c := c) (n := n + 1) a1 (by omega)
   obtain ⟨c1, c2⟩ := yC (c := c) (n := 3) b1 (by omega)
   refine ⟨c1.le (by omega), ⟨hn, by show (0 : Nat) ≤ 12; omega, hk, ⟨a2, by dsimp only; omega⟩, fun q => by dsimp only at q; omega, fun _ => ?_⟩⟩
   dsimp only
   split <;> omega
 rename_i q3
 split
 · rename_i hq
   obtain ⟨a, b⟩ := aEh (c := c) h
   exact ⟨a.le (by omega), ⟨hn, aRQ b, hk, ⟨hE, by simp⟩, fun q => by dsimp only at q; omega, fun q => by dsimp only at q; omega⟩⟩
 split
 · obtain ⟨a, b⟩ := yC (c := c) (n := 2) h (by omega)
   refine ⟨a.le (by omega), ⟨?_, by show (0 : Nat) ≤ 12; omega, hk, ⟨hE, by simp⟩, fun q => by dsimp only at q; omega, fun q => by dsimp only at q; omega⟩⟩
   dsimp only
   split
   · exact aR0
   · exact hn
 · exact ⟨h.le (by omega), ⟨hn, by show (0 : Nat) ≤ 12; omega, hk, ⟨hE, by simp⟩, fun q => by dsimp only at q; omega, fun q => by dsimp only at q; omega⟩⟩
theorem aOS {c : List UInt8} {s : Src} {K n : Nat} (h : s.ok K) (h0 : 1 ≤ n) : (opS c s n).2.ok (K + 17) ∧ GoodO (opS c s n).1 n := by
 obtain ⟨a1, a2⟩ := yC (c := c) (n := 9) h (by omega)
 obtain ⟨b1, b2⟩ := aKL (c := c) (l := wS) a1 (by decide)
 obtain ⟨c1, c2⟩ := aR1 (c := c) (n := n) (kd := aMg c s) b1 h0 (aL7 a2) (aIW b2)
 exact ⟨c1.le (by omega), c2⟩
section
variable {s : St} {Θ : Tab}
theorem qj {a t l : Nat} {ob o0 : OB} {x : AV} (h0 : s.hp 0 = some o0) (h1 : s.sl a = .optr l 0 [] 0) (ho : s.hp l = some ob) (hx : ob.xs[0]? = some x) (hk : ((Θ.look t).known && (Bool.xor (zW x) (Θ.look t).isAgg).not && Nat.beq (asz x) (Θ.look t).size) = true) (hd : aF3 x) (hop : ob.e.open_ = true := by rfl) :
 xX Θ [.cell a t] [o0] ⟨x, []⟩ .ret s := by
 obtain ⟨c1, c2⟩ := aCl (Θ := Θ) h1 ho hx hk hop
 exact ⟨⟨h0, trivial⟩, [], by simp, trivial, ⟨c2, trivial⟩, trivial, ⟨by rw [c1]; exact aAh hd, trivial⟩⟩
end
def aSx : List Operand := jU.map fun k => .const (.int .i64 k)
def aCq : List Value := jU.map fun k => .int .i64 k
attribute [local irreducible] xI xO xQ xX yG Pre ACG
set_option maxHeartbeats 4000000 in
theorem aT8 {c : List UInt8} {s : Src} {K n : Nat} (hc : c.length ≤ maxLen) (hs : s.ok K) (hK : K ≤ 800000000) (h0 : 1 ≤ n) (hn : n ≤ 100) :
 ACG Tryz.prog 80 [.optr 0 0 [] 0, .v (.int .i64 (n : Int))] [zu c s] [zu c (opS c s n).2] ⟨aH4 (opS c s n).1, []⟩ := by
 obtain ⟨a1, a2⟩ := yC (c := c) (n := 9) hs (by omega)
 obtain ⟨b1, b2⟩ := aKL (c := c) (l := wS) a1 (by decide)
 have c1 := vF (n := 9) hc hs (by omega) (by omega)
 have c2 := aNN hc a1 (by omega)
 have hk := aL7 a2
 unfold opS aMg
 have hl : (xB c s 9).1 < (aCq.map AV.v).length := by simpa [aCq, jU] using a2
 have hi : (aCq.map AV.v)[(xB c s 9).1]? = some (.v (.int .i64 (jU.getD (xB c s 9).1 6))) := by
  have : ∀ i, i < 9 → (aCq.map AV.v)[i]? = some (.v (.int .i64 (jU.getD i 6))) := by
   intro i hi
   have h9 : i < jU.length := hi
   simp only [aCq, List.map_map, List.getElem?_map, List.getElem?_eq_getElem h9, Option.map_some, Function.comp_apply, List.getD_eq_getElem?_getD, Option.getD_some]
  exact this _ a2
 generalize jU.getD (xB c s 9).1 6 = kd at *
 generalize (xB c s 9).1 = i at *
 generalize (xB c s 9).2 = s1 at *
 generalize (wm c s1 wS).1 = nm at *
 generalize (wm c s1 wS).2 = s2 at *
 unfold aKG
 refine xL (rs := [.cell 4 125]) xH (by kernel_rfl) Tryz.func80 rfl Tryz.ntmps80 (by rw [Tryz.results80]) (by kernel_rfl) (by simp) rfl rfl (xA _ _ _ ?_)
 conv => whnf
 refine .inr ⟨by kernel_rfl, vv (by kernel_rfl), ?_⟩
 refine xU (aQA aSx aCq rfl rfl rfl rfl rfl rfl rfl (fun c hc => by obtain ⟨k, _, rfl⟩ := List.mem_map.1 hc; rfl)) aAF rfl rfl (by kernel_rfl) ?_
 refine xJ (wT rfl) rfl rfl rfl (.inl rfl) (by kernel_rfl) ?_
 refine xU (aNI c1 rfl rfl rfl rfl rfl rfl rfl rfl) aAF rfl rfl (by kernel_rfl) ?_
 refine xU (aDF (zX hl rfl rfl rfl rfl rfl) rfl rfl) ul rfl rfl (by kernel_rfl) ?_
 refine xJ (zO rfl rfl hi rfl rfl rfl rfl) rfl rfl rfl (.inr rfl) (by kernel_rfl) ?_
 refine xJ (wT rfl) rfl rfl rfl (.inl rfl) (by kernel_rfl) ?_
 refine xU (aLF c2 rfl rfl rfl rfl rfl) aAF rfl rfl (by kernel_rfl) ?_
 refine xU (qm rfl ⟨⟨_, rfl, rfl⟩, rfl, ⟨_, rfl, rfl⟩, rfl, trivial⟩ rfl rfl rfl) ul rfl rfl (by kernel_rfl) ?_
 refine xU (aDd rfl rfl) aAF rfl rfl (by kernel_rfl) ?_
 refine qb (y8 rfl rfl rfl rfl rfl (by conv => lhs; whnf) rfl) rfl rfl (by kernel_rfl) ?_
 refine jo ?_
 conv => whnf
 clear hi hl c1 c2
 by_cases k1 : kd = 1
 · subst k1
   rw [if_pos (.inl rfl)]
   have d1 := vF (n := n) hc b1 (by omega) (by omega)
   have e1 := yC (c := c) (n := n) b1 (by omega)
   repeat ((first | refine qg [0] (d1) ?_ | refine qp (xC (zN (c := 1 + ((xB c s2 n).1 : Int)) (by omega) (by omega) (by omega)) rfl rfl rfl) ?_ | refine qz ?_ | refine qst ?_); conv => whnf)
   exact qj rfl rfl rfl rfl rfl trivial
 by_cases k4 : kd = 4
 · subst k4
   rw [if_pos (.inr rfl)]
   have d1 := vF (n := n) hc b1 (by omega) (by omega)
   have e1 := yC (c := c) (n := n) b1 (by omega)
   repeat ((first | refine qg [0] (d1) ?_ | refine qp (xC (zN (c := 1 + ((xB c s2 n).1 : Int)) (by omega) (by omega) (by omega)) rfl rfl rfl) ?_ | refine qz ?_ | refine qst ?_); conv => whnf)
   exact qj rfl rfl rfl rfl rfl trivial
 rw [if_neg (by omega)]
 by_cases k3 : kd = 3
 · subst k3
   rw [if_pos rfl]
   obtain ⟨f1, f2, f3⟩ := aGW (c := c) b1
   obtain ⟨g1, g2⟩ := yC (c := c) (n := n + 1) f1 (by omega)
   obtain ⟨m1, m2⟩ := yC (c := c) (n := 3) g1 (by omega)
   have d1 := aJI (c := c) hc b1 (by omega)
   have d2 := vF (n := n + 1) hc f1 (by omega) (by omega)
   have d3 := vF (n := 3) hc g1 (by omega) (by omega)
   have hi3 : ([.v (.int .i64 0), .v (.int .i64 0), .v (.int .i64 ((xB c (edS c s2).2 (n + 1)).1 : Int))] : List AV)[(xB c (xB c (edS c s2).2 (n + 1)).2 3).1]? = some (.v (.int .i64 (if (xB c (xB c (edS c s2).2 (n + 1)).2 3).1 = 2 then ((xB c (edS c s2).2 (n + 1)).1 : Int) else 0))) := by
    generalize (xB c (xB c (edS c s2).2 (n + 1)).2 3).1 = j at m2 ⊢
    match j, m2 with
    | 0, _ => rfl
    | 1, _ => rfl
    | 2, _ => rfl
   have hl3 : (xB c (xB c (edS c s2).2 (n + 1)).2 3).1 < ([.v (.int .i64 0), .v (.int .i64 0), .v (.int .i64 ((xB c (edS c s2).2 (n + 1)).1 : Int))] : List AV).length := by simpa using m2
   generalize (if (xB c (xB c (edS c s2).2 (n + 1)).2 3).1 = 2 then ((xB c (edS c s2).2 (n + 1)).1 : Int) else 0) = F at *
   repeat (first | (refine qg [0] (d1) ?_; conv => whnf) | (refine qg [0] (d2) ?_; conv => whnf) | (refine qg [0] (d3) ?_; conv => whnf) | (refine qp (xC (zN (c := ((n + 1 : Nat) : Int)) (by omega) (by omega) (by omega)) rfl rfl rfl) ?_; conv => whnf) | (refine qr (aOX rfl rfl rfl rfl rfl rfl rfl rfl) ?_; conv => whnf) | (refine qr (aOU [.const (.int .i64 0), .const (.int .i64 0), .tmp 32] [.int .i64 0, .int .i64 0, .int .i64 ((xB c (edS c s2).2 (n + 1)).1 : Int)] rfl rfl rfl rfl rfl rfl rfl (by simp [Value.oneCell'])) ?_; conv => whnf) | (refine qP (zX hl3 rfl rfl rfl rfl rfl) ?_; refine qp (zO rfl rfl hi3 rfl rfl rfl rfl) ?_; conv => whnf) | (refine qz ?_; conv => whnf) | (refine qst ?_; conv => whnf))
   exact qj rfl rfl rfl rfl rfl trivial
 rw [if_neg k3]
 by_cases k5 : kd = 5
 · subst k5
   rw [if_pos rfl]
   have d1 := aJM (c := c) hc b1 (by omega)
   repeat ((first | refine qg [0] (d1) ?_ | refine qz ?_ | refine qst ?_); conv => whnf)
   exact qj rfl rfl rfl rfl rfl trivial
 rw [if_neg k5]
 by_cases k2 : kd = 2
 · subst k2
   rw [if_pos rfl]
   have d1 := aDp (n := 2) hc b1 (by omega) (by omega) (by omega)
   by_cases h2 : (xB c s2 2).1 = 1
   · rw [if_pos h2]
     rw [decide_eq_true (by omega)] at d1
     repeat ((first | refine qg [0] (d1) ?_ | refine qz ?_ | refine qst ?_); conv => whnf)
     exact qj rfl rfl rfl rfl rfl trivial
   · rw [if_neg h2]
     rw [decide_eq_false (by omega)] at d1
     repeat ((first | refine qg [0] (d1) ?_ | refine qz ?_ | refine qst ?_); conv => whnf)
     exact qj rfl rfl rfl rfl rfl trivial
 rw [if_neg k2]
 repeat ((first | refine qz ?_ | refine qst ?_); conv => whnf)
 exact qj rfl rfl rfl rfl rfl trivial
attribute [local irreducible] IsR
set_option maxHeartbeats 4000000 in
theorem aSR {B : Bas} {kind frm : Int} {nme key : ByteArray} {edits : List Edt} (hB : GoodB B) {j : Nat} (hj : j < B.refs.length) (e : wF B.refs nme = (j : Int)) (hg : B.refs[j].gone = false) : ∃ B' R, GoodB B' ∧ B'.store.length ≤ B.store.length + 1 ∧ IsR R ∧ AC Tryz.prog 79 [yA B, .agg [.v (.int .i64 2), .v (.int .i64 frm), .v (.string nme), .v (.string key), .lst 3 (edits.map uf)]] ⟨.tup [yA B', R], []⟩ := by
 have h8 := (zH hB.rf).1
 have hlen := hB.len
 have c0 := jE (l := B.refs) (x := nme) (by unfold maxLen; omega)
 rw [e] at c0
 obtain ⟨h, hh, hlt⟩ := hB.head hj hg
 have c1 := aJR (l := B.refs) (x := nme) (by omega) hB.rf
 have gB := hB.delete (x := nme)
 by_cases hc : (dlR B.refs nme).2 = 0
 · refine ⟨⟨B.store, (dlR B.refs nme).1⟩, aJ5 B.refs[j].head, gB, by simp, aEg, ?_⟩
   rw [hc] at c1
   generalize (dlR B.refs nme).1 = l' at c1
   refine xL (rs := [.cell 4 41, .cell 5 121]) xH (by kernel_rfl) Tryz.func79 rfl Tryz.ntmps79 (by rw [Tryz.results79]) (by kernel_rfl) (by simp) rfl rfl (xA _ _ _ ?_)
   conv => whnf
   repeat ((first | refine qz ?_ | refine qc (c0) ?_ | refine qc (c1) ?_ | refine qst ?_ | refine qdr ?_); conv => whnf)
   exact kT rfl rfl rfl rfl trivial rfl rfl rfl rfl trivial
 · have h2 := jf (c := (dlR B.refs nme).2)
   refine ⟨B, kY (dlR B.refs nme).2 aAM, hB, by omega, jM (.inl rfl), ?_⟩
   generalize dlR B.refs nme = r at c1 hc h2
   refine xL (rs := [.cell 4 41, .cell 5 121]) xH (by kernel_rfl) Tryz.func79 rfl Tryz.ntmps79 (by rw [Tryz.results79]) (by kernel_rfl) (by simp) rfl rfl (xA _ _ _ ?_)
   conv => whnf
   repeat ((first | refine qz ?_ | refine qc (c0) ?_ | refine qc (c1) ?_ | refine qc (h2) ?_ | refine qst ?_ | refine qdr ?_); conv => whnf)
   exact kT rfl rfl rfl rfl trivial rfl rfl rfl rfl trivial
set_option maxHeartbeats 4000000 in
theorem aSN {B : Bas} {kind frm : Int} {nme key : ByteArray} {edits : List Edt} (hB : GoodB B) {j : Nat} (hj : j < B.refs.length) (e : wF B.refs nme = (j : Int)) (hg : B.refs[j].gone = false) (hk : key.size ≤ 12) : ∃ B' R, GoodB B' ∧ B'.store.length ≤ B.store.length + 1 ∧ IsR R ∧ AC Tryz.prog 79 [yA B, .agg [.v (.int .i64 5), .v (.int .i64 frm), .v (.string nme), .v (.string key), .lst 3 (edits.map uf)]] ⟨.tup [yA B', R], []⟩ := by
 have h8 := (zH hB.rf).1
 have hlen := hB.len
 have c0 := jE (l := B.refs) (x := nme) (by unfold maxLen; omega)
 rw [e] at c0
 obtain ⟨h, hh, hlt⟩ := hB.head hj hg
 have gm := hB.map hlt
 have gl := gm.len
 have c1 := aQf (es := (B.store[h]).2) (k := key) (by unfold maxLen; omega) gm.small (by unfold maxLen; omega)
 by_cases hc : (getM (B.store[h]).2 key).2 = 0
 · rw [hc] at c1
   generalize (getM (B.store[h]).2 key).1 = v at c1
   refine ⟨B, .agg [zI, .v (.int .i64 B.refs[j].head), .v (.int .i64 v), .lst 1 [], .lst 2 []], hB, by omega, (by unfold IsR; exact ⟨0, _, _, _, [], .inr ⟨_, rfl⟩, rfl⟩), ?_⟩
   refine xL (rs := [.cell 4 41, .cell 5 121]) xH (by kernel_rfl) Tryz.func79 rfl Tryz.ntmps79 (by rw [Tryz.results79]) (by kernel_rfl) (by simp) rfl rfl (xA _ _ _ ?_)
   conv => whnf
   repeat ((first | refine qp (xC (yU (c := (h : Int)) (by omega) (by omega) (by omega)) rfl rfl rfl) ?_ | refine qz ?_ | refine qc (c0) ?_ | refine qc (c1) ?_ | refine qst ?_ | refine qdr ?_); conv => whnf)
   exact kT rfl rfl rfl rfl trivial rfl rfl rfl rfl trivial
 · have h2 := jf (c := (getM (B.store[h]).2 key).2)
   refine ⟨B, kY (getM (B.store[h]).2 key).2 aAM, hB, by omega, jM (.inl rfl), ?_⟩
   generalize getM (B.store[h]).2 key = r at c1 hc h2
   refine xL (rs := [.cell 4 41, .cell 5 121]) xH (by kernel_rfl) Tryz.func79 rfl Tryz.ntmps79 (by rw [Tryz.results79]) (by kernel_rfl) (by simp) rfl rfl (xA _ _ _ ?_)
   conv => whnf
   repeat ((first | refine qp (xC (yU (c := (h : Int)) (by omega) (by omega) (by omega)) rfl rfl rfl) ?_ | refine qz ?_ | refine qc (c0) ?_ | refine qc (c1) ?_ | refine qc (h2) ?_ | refine qst ?_ | refine qdr ?_); conv => whnf)
   exact kT rfl rfl rfl rfl trivial rfl rfl rfl rfl trivial
set_option maxHeartbeats 4000000 in
theorem aSO {B : Bas} {kind frm : Int} {nme key : ByteArray} {edits : List Edt} (hB : GoodB B) {j : Nat} (hj : j < B.refs.length) (e : wF B.refs nme = (j : Int)) (hg : B.refs[j].gone = false) : ∃ B' R, GoodB B' ∧ B'.store.length ≤ B.store.length + 1 ∧ IsR R ∧ AC Tryz.prog 79 [yA B, .agg [.v (.int .i64 6), .v (.int .i64 frm), .v (.string nme), .v (.string key), .lst 3 (edits.map uf)]] ⟨.tup [yA B', R], []⟩ := by
 have h8 := (zH hB.rf).1
 have hlen := hB.len
 have c0 := jE (l := B.refs) (x := nme) (by unfold maxLen; omega)
 rw [e] at c0
 obtain ⟨h, hh, hlt⟩ := hB.head hj hg
 have gm := hB.map hlt
 have gl := gm.len
 refine ⟨B, .agg [zI, .v (.int .i64 B.refs[j].head), zI, .lst 1 [], .lst 2 ((B.store[h]).2.map yB)], hB, by omega, (by unfold IsR; exact ⟨0, _, 0, _, _, .inr ⟨_, rfl⟩, rfl⟩), ?_⟩
 refine xL (rs := [.cell 4 41, .cell 5 121]) xH (by kernel_rfl) Tryz.func79 rfl Tryz.ntmps79 (by rw [Tryz.results79]) (by kernel_rfl) (by simp) rfl rfl (xA _ _ _ ?_)
 conv => whnf
 repeat ((first | refine qz ?_ | refine qc (c0) ?_); conv => whnf)
 refine .inr ⟨by kernel_rfl, vv (by kernel_rfl), ?_⟩
 repeat (first | refine xJ (wT rfl) rfl rfl rfl (.inl rfl) (by kernel_rfl) ?_ | refine xJ (xC (yU (c := (h : Int)) (by omega) (by omega) (by omega)) rfl rfl rfl) rfl rfl rfl (.inl rfl) (by kernel_rfl) ?_ | refine xJ (aAO (jl _ hlt) rfl rfl rfl) rfl rfl rfl (.inr rfl) (by kernel_rfl) ?_ | refine xJ (uG rfl rfl rfl) rfl rfl rfl (.inl rfl) (by kernel_rfl) ?_ | refine xJ (aJA rfl rfl rfl rfl rfl) rfl rfl rfl (.inl rfl) (by kernel_rfl) ?_ | refine xJ (zO rfl rfl rfl rfl rfl rfl rfl) rfl rfl rfl (.inr rfl) (by kernel_rfl) ?_ | refine xJ (aMp rfl rfl rfl rfl) rfl rfl rfl (.inr rfl) (by kernel_rfl) ?_ | refine xU (qm rfl ⟨⟨_, rfl, rfl⟩, rfl, ⟨_, rfl, rfl⟩, rfl, trivial⟩ rfl rfl rfl) ul rfl rfl (by kernel_rfl) ?_ | refine xU (qm rfl ⟨⟨_, rfl, rfl⟩, rfl, trivial⟩ rfl rfl rfl) ul rfl rfl (by kernel_rfl) ?_ | refine xU (aAl rfl rfl rfl rfl rfl rfl rfl) vz rfl rfl (by kernel_rfl) ?_)
 refine jo ?_
 conv => whnf
 exact kT rfl rfl rfl rfl trivial rfl rfl rfl rfl trivial
set_option maxHeartbeats 4000000 in
theorem aSL {B : Bas} {kind frm : Int} {nme key : ByteArray} {edits : List Edt} (hB : GoodB B) {j : Nat} (hj : j < B.refs.length) (e : wF B.refs nme = (j : Int)) (hg : B.refs[j].gone = false) (he : jC edits) (hel : edits.length ≤ 6) (f0 : 0 ≤ frm) (f2 : frm ≤ B.store.length) : ∃ B' R, GoodB B' ∧ B'.store.length ≤ B.store.length + 1 ∧ IsR R ∧ AC Tryz.prog 79 [yA B, .agg [.v (.int .i64 3), .v (.int .i64 frm), .v (.string nme), .v (.string key), .lst 3 (edits.map uf)]] ⟨.tup [yA B', R], []⟩ := by
 have h8 := (zH hB.rf).1
 have hlen := hB.len
 have c0 := jE (l := B.refs) (x := nme) (by unfold maxLen; omega)
 have hfl : ¬ (B.store.length : Int) < frm := by omega
 rw [e] at c0
 obtain ⟨h, hh, hlt⟩ := hB.head hj hg
 have := hfl
 obtain ⟨B', R, g1, g2, g3, c1⟩ := aML (o := ⟨3, frm, nme, key, edits⟩) hB hj hg he hel f0 f2
 change AC _ _ [_, _, .agg [.v (.int .i64 3), .v (.int .i64 frm), .v (.string nme), .v (.string key), .lst 3 (edits.map uf)]] _ at c1
 refine ⟨B', R, g1, g2, g3, ?_⟩
 unfold IsR at g3
 obtain ⟨rc, rp, rv, rk, rm, (rfl | ⟨l, rfl⟩), rfl⟩ := g3
 all_goals
  refine xL (rs := [.cell 4 41, .cell 5 121]) xH (by kernel_rfl) Tryz.func79 rfl Tryz.ntmps79 (by rw [Tryz.results79]) (by kernel_rfl) (by simp) rfl rfl (xA _ _ _ ?_)
  conv => whnf
  repeat ((first | refine qz ?_ | refine qc (c0) ?_ | refine qc (c1) ?_ | refine qst ?_ | refine qdr ?_); conv => whnf)
  exact kT rfl rfl rfl rfl trivial rfl rfl rfl rfl trivial
set_option maxHeartbeats 4000000 in
theorem aSM {B : Bas} {kind frm : Int} {nme key : ByteArray} {edits : List Edt} (hB : GoodB B) {j : Nat} (hj : j < B.refs.length) (e : wF B.refs nme = (j : Int)) (hg : B.refs[j].gone = false) (f0 : 1 ≤ frm) (f2 : frm ≤ B.store.length) : ∃ B' R, GoodB B' ∧ B'.store.length ≤ B.store.length + 1 ∧ IsR R ∧ AC Tryz.prog 79 [yA B, .agg [.v (.int .i64 4), .v (.int .i64 frm), .v (.string nme), .v (.string key), .lst 3 (edits.map uf)]] ⟨.tup [yA B', R], []⟩ := by
 have h8 := (zH hB.rf).1
 have hlen := hB.len
 have c0 := jE (l := B.refs) (x := nme) (by unfold maxLen; omega)
 have hfl : ¬ (B.store.length : Int) < frm := by omega
 rw [e] at c0
 obtain ⟨h, hh, hlt⟩ := hB.head hj hg
 have := hfl
 obtain ⟨B', R, g1, g2, g3, c1⟩ := aNU (o := ⟨4, frm, nme, key, edits⟩) hB hj hg f0 f2
 change AC _ _ [_, _, .agg [.v (.int .i64 4), .v (.int .i64 frm), .v (.string nme), .v (.string key), .lst 3 (edits.map uf)]] _ at c1
 refine ⟨B', R, g1, g2, g3, ?_⟩
 unfold IsR at g3
 obtain ⟨rc, rp, rv, rk, rm, (rfl | ⟨l, rfl⟩), rfl⟩ := g3
 all_goals
  refine xL (rs := [.cell 4 41, .cell 5 121]) xH (by kernel_rfl) Tryz.func79 rfl Tryz.ntmps79 (by rw [Tryz.results79]) (by kernel_rfl) (by simp) rfl rfl (xA _ _ _ ?_)
  conv => whnf
  repeat ((first | refine qz ?_ | refine qc (c0) ?_ | refine qc (c1) ?_ | refine qst ?_ | refine qdr ?_); conv => whnf)
  exact kT rfl rfl rfl rfl trivial rfl rfl rfl rfl trivial
theorem aNP {B : Bas} {o : Opr} (hB : GoodB B) (ho : GoodO o B.store.length) : ∃ B' R, GoodB B' ∧ B'.store.length ≤ B.store.length + 1 ∧ IsR R ∧ AC Tryz.prog 79 [yA B, aH4 o] ⟨.tup [yA B', R], []⟩ := by
 obtain ⟨kind, frm, nme, key, edits⟩ := o
 obtain ⟨⟨hn, hns⟩, hk, hkd, ⟨he, hel⟩, hf1, hf3⟩ := ho
 dsimp only at hn hns hk hkd he hel hf1 hf3
 change ∃ B' R, GoodB B' ∧ B'.store.length ≤ B.store.length + 1 ∧ IsR R ∧ AC Tryz.prog 79 [yA B, .agg [.v (.int .i64 kind), .v (.int .i64 frm), .v (.string nme), .v (.string key), .lst 3 (edits.map uf)]] ⟨.tup [yA B', R], []⟩
 by_cases k1 : kind = 1
 · subst k1
   obtain ⟨f1, f2⟩ := hf1 (.inl rfl)
   exact aSP (kind := 1) hB hn f1 f2
 have hfl : kind = 3 ∨ kind = 4 → ¬ (B.store.length : Int) < frm := fun h => by
  rcases h with h | h
  · have := hf3 h; omega
  · have := hf1 (.inr h); omega
 rcases aD0 B.refs nme with e | ⟨j, hj, e, _, hg⟩
 · exact aSQ hB k1 hfl e
 by_cases k2 : kind = 2
 · subst k2; exact aSR (kind := 2) hB hj e hg
 by_cases k3 : kind = 3
 · subst k3; exact aSL (kind := 3) hB hj e hg he hel (hf3 rfl).1 (hf3 rfl).2
 by_cases k4 : kind = 4
 · subst k4; exact aSM (kind := 4) hB hj e hg (hf1 (.inr rfl)).1 (hf1 (.inr rfl)).2
 by_cases k5 : kind = 5
 · subst k5; exact aSN (kind := 5) hB hj e hg hk
 have k6 : kind = 6 := by omega
 subst k6
 exact aSO (kind := 6) hB hj e hg
end Go.Proofs.YtfomjajdfaoogaaGreatDoor.AM
namespace Go.Proofs.YtfomjajdfaoogaaGreatDoor.AM
open Go Go.RowKit
noncomputable def doB (B : Bas) (o : Opr) : Bas := by
 classical exact if h : GoodB B ∧ GoodO o B.store.length then Classical.choose (aNP h.1 h.2) else B
theorem aNn {B : Bas} {o : Opr} (hB : GoodB B) (ho : GoodO o B.store.length) : GoodB (doB B o) ∧ (doB B o).store.length ≤ B.store.length + 1 ∧ ∃ R, IsR R ∧ AC Tryz.prog 79 [yA B, aH4 o] ⟨.tup [yA (doB B o), R], []⟩ := by
 unfold doB
 rw [dif_pos ⟨hB, ho⟩]
 obtain ⟨R, h1, h2, h3, h4⟩ := Classical.choose_spec (aNP hB ho)
 exact ⟨h1, h2, R, h3, h4⟩
noncomputable def aC7 (c : List UInt8) : Nat → Src → Bas → Bas × Src
 | 0, s, B => (B, s)
 | n + 1, s, B => aC7 c n (opS c s B.store.length).2 (doB B (opS c s B.store.length).1)
theorem aLS {c : List UInt8} : ∀ (n : Nat) (s : Src) (B : Bas) (K : Nat), s.ok K → GoodB B → (aC7 c n s B).2.ok (K + 17 * n) ∧ GoodB (aC7 c n s B).1 ∧ (aC7 c n s B).1.store.length ≤ B.store.length + n
 | 0, s, B, K, h, hB => ⟨h, hB, Nat.le_refl _⟩
 | n + 1, s, B, K, h, hB => by
  obtain ⟨a1, a2⟩ := aOS (c := c) (n := B.store.length) h hB.st.pos
  obtain ⟨b1, b2, _⟩ := aNn hB a2
  obtain ⟨c1, c2, c3⟩ := aLS (c := c) n _ _ _ a1 b1
  exact ⟨c1.le (by omega), c2, by show (aC7 c n _ _).1.store.length ≤ _; omega⟩
noncomputable def aDM (c : List UInt8) (s : Src) : Bas × Src := aC7 c (xB c (uS c s).2 (uF c 10 + 3)).1 (xB c (uS c s).2 (uF c 10 + 3)).2 ⟨[([], (uS c s).1)], [aBR]⟩
theorem aQv {c : List UInt8} {s : Src} {K : Nat} (h : s.ok K) : (aDM c s).2.ok (K + 300) ∧ GoodB (aDM c s).1 ∧ (aDM c s).1.store.length ≤ 13 := by
 have hr : uF c 10 ≤ 10 := Nat.min_le_right _ _
 obtain ⟨e1, e2, e3⟩ := aEc (c := c) h
 obtain ⟨n1, n2⟩ := yC (c := c) (n := uF c 10 + 3) e1 (by omega)
 obtain ⟨c1, c2, c3⟩ := aLS (c := c) (xB c (uS c s).2 (uF c 10 + 3)).1 _ _ _ n1 (GoodB.new e2)
 exact ⟨c1.le (by omega), c2, by unfold aDM; simp only [List.length_cons, List.length_nil] at c3; omega⟩
section
variable {s : St} {Θ : Tab}
theorem aKS {a t l : Nat} {ob : OB} {t' : Option Nat} {xs : List AV} {y : AV} (h1 : s.sl a = .optr l 0 [] 0) (ho : s.hp l = some ob) (hoe : yX ob.e ob.xs 0 = some (.o t' 0 (.mix xs))) (hd : xM s (.mix xs) = true) (hy : s.dat (.mix xs) = y) (hw : ((yP (.mix xs)).all fun l => okL l && !([] : List Nat).contains l) = true) (hof : ofO (.mix xs) = some (.mix xs) := by rfl) (hk : ((Θ.look t).known && (Θ.look t).isAgg && Nat.beq (xK xs) (Θ.look t).size) = true := by rfl) (hop : ob.e.open_ = false := by rfl) :
 vg Θ [.cell a t] ⟨y, []⟩ .ret s := by
 obtain ⟨c1, c2⟩ := aNf (Θ := Θ) (t := t) h1 ho hop hoe hof hk
 exact ⟨trivial, [], by simp, trivial, ⟨c2, trivial⟩, trivial, ⟨by rw [c1]; exact .inr ⟨hd, hw, hy.symm⟩, trivial⟩⟩
end
attribute [local irreducible] xI xO xQ xX yG Pre ACG
theorem aMQ {es : List Ent} (hm : es.length ≤ 4096) : AC Tryz.prog 78 [.lst 2 (es.map yB)] ⟨yA ⟨[([], es)], [aBR]⟩, []⟩ := by
 refine qrf Tryz.func78 Tryz.ntmps78 Tryz.results78 ?_; conv => whnf
 repeat ((refine qz ?_; conv => whnf))
 refine qr (aGm (xs := []) (ys := es) (f := yB) (by simp; omega) rfl rfl rfl rfl rfl rfl) ?_
 conv => whnf
 refine qr (uo rfl ⟨⟨_, _, rfl, rfl, rfl⟩, ⟨_, _, rfl, rfl, rfl⟩, trivial⟩ rfl) ?_
 conv => whnf
 refine jv (aKI rfl rfl rfl rfl rfl) rfl rfl (fun e => by cases e) (Gh.s2d 4 rfl (by simp) (Gh.s2d 5 rfl aCs (Gh.fold 9 4 [0] rfl rfl rfl rfl rfl rfl (Gh.fold 9 5 [1] rfl rfl rfl rfl rfl rfl (Gh.shut 9 (z := .agg [.lst 1 [], .lst 2 []]) (y' := xS ([], es)) rfl rfl (Gh.done ?_))))))
 conv => whnf
 repeat ((refine qz ?_; conv => whnf))
 refine qr (uo rfl ⟨⟨_, _, rfl, rfl, rfl⟩, ⟨_, _, rfl, rfl, rfl⟩, trivial⟩ rfl) ?_
 conv => whnf
 repeat ((first | refine qz ?_ | refine qr (yJ rfl rfl rfl rfl rfl rfl) ?_); conv => whnf)
 exact aKS rfl rfl rfl rfl rfl rfl
theorem aMR {B : Bas} (hm : B.store.length ≤ 1048576) (hc : ∀ c ∈ B.store, c.1.length ≤ 1048576 ∧ c.2.length ≤ 1048576) (hr : B.refs.length ≤ 1048576) : AC Tryz.prog 38 [yA B] ⟨yA B, []⟩ := by
 refine qrf Tryz.func38 Tryz.ntmps38 Tryz.results38 ?_; conv => whnf
 repeat ((refine qz ?_; conv => whnf))
 refine .inr ⟨by kernel_rfl, vv (by kernel_rfl), ?_⟩
 refine xJ (uG rfl rfl rfl) rfl rfl rfl (.inl rfl) (by kernel_rfl) ?_
 refine xJ (zO rfl rfl rfl rfl rfl rfl rfl) rfl rfl rfl (.inr rfl) (by kernel_rfl) ?_
 refine xU (aCI (aGD (l := B.store) (by omega) hc) rfl rfl rfl ⟨⟨rfl, rfl, rfl⟩, trivial⟩ rfl rfl rfl) aDX rfl rfl (by kernel_rfl) ?_
 refine xU (aDf rfl rfl) vz rfl rfl (by kernel_rfl) ?_
 refine xJ (uG rfl rfl rfl) rfl rfl rfl (.inl rfl) (by kernel_rfl) ?_
 refine xJ (zO rfl rfl rfl rfl rfl rfl rfl) rfl rfl rfl (.inr rfl) (by kernel_rfl) ?_
 refine xU (aDe rfl rfl rfl rfl (by simp; omega) rfl) vz rfl rfl (by kernel_rfl) ?_
 refine qb (uo rfl ⟨⟨_, _, rfl, rfl, rfl⟩, ⟨_, _, rfl, rfl, rfl⟩, trivial⟩ rfl) rfl rfl (by kernel_rfl) ?_
 refine qb (yJ rfl rfl rfl rfl rfl rfl) rfl rfl (by kernel_rfl) ?_
 refine jo ?_
 conv => whnf
 exact aKS rfl rfl rfl rfl rfl rfl
set_option maxHeartbeats 4000000 in
theorem aQa {c : List UInt8} {s : Src} {K : Nat} (hc : c.length ≤ maxLen) (hs : s.ok K) (hK : K ≤ 700000000) : ACG Tryz.prog 39 [.optr 0 0 [] 0] [zu c s] [zu c (aDM c s).2] ⟨yA (aDM c s).1, []⟩ := by
 have hr : uF c 10 ≤ 10 := Nat.min_le_right _ _
 obtain ⟨e1, e2, e3⟩ := aEc (c := c) hs
 obtain ⟨n1, n2⟩ := yC (c := c) (n := uF c 10 + 3) e1 (by omega)
 have h1 := aFx (c := c) hc hs (by omega)
 have h2 := aLM (c := c) (s := (uS c s).2) hc
 have h3 := vF (n := uF c 10 + 3) hc e1 (by omega) (by omega)
 have h4 := aMQ (es := (uS c s).1) (by omega)
 have g1 := GoodB.new e2
 refine xL (rs := [.cell 2 41]) xH (by kernel_rfl) Tryz.func39 rfl Tryz.ntmps39 (by rw [Tryz.results39]) (by kernel_rfl) (by simp) rfl rfl (xA _ _ _ ?_)
 conv => whnf
 repeat ((first | refine qg [0] (h1) ?_ | refine qf (h4) ?_ | refine qg [0] (h2) ?_ | refine qg [0] (h3) ?_ | refine qp (xC (zN (c := ((uF c 10 + 3 : Nat) : Int)) (by omega) (by omega) (by omega)) rfl rfl rfl) ?_ | refine qz ?_ | refine qst ?_); conv => whnf)
 have hS : aDM c s = aC7 c (xB c (uS c s).2 (uF c 10 + 3)).1 (xB c (uS c s).2 (uF c 10 + 3)).2 ⟨[([], (uS c s).1)], [aBR]⟩ := rfl
 generalize aDM c s = Z at hS ⊢
 generalize (uS c s).1 = es at *
 generalize (xB c (uS c s).2 (uF c 10 + 3)).2 = s1 at *
 generalize (xB c (uS c s).2 (uF c 10 + 3)).1 = n0 at *
 refine xZ (ι := { p : Nat × Src × Bas // p.2.1.ok (K + 12 + 17 * (12 - p.1)) ∧ p.1 ≤ 12 ∧ GoodB p.2.2 ∧ p.2.2.store.length + p.1 ≤ 13 ∧ Z = aC7 c p.1 p.2.1 p.2.2 }) (fun p => ⟨[(0, .optr 0 0 [] 0), (2, .optr 3 0 [] 0), (3, .optr 4 0 [] 0), (4, .v (.int .i64 (p.1.1 : Int)))], [(0, zu c p.1.2.1), (3, ⟨.z 41, 2, [yA ⟨[], []⟩]⟩), (4, ⟨.s 41, 2, [yA p.1.2.2]⟩)]⟩) (fun p => p.1.1) ⟨(n0, s1, ⟨[([], es)], [aBR]⟩), n1.le (by omega), by omega, g1, by simp; omega, hS⟩ (by exact qle) ?_
 rintro ⟨⟨n, s2, B⟩, h1, h2, h3, h4, h5⟩
 dsimp only at h1 h2 h3 h4 h5 ⊢
 conv => whnf
 cases n with
 | zero =>
  have h6 : Z = (B, s2) := h5
  subst h6
  repeat ((first | refine qz ?_ | refine qst ?_); conv => whnf)
  exact qj rfl rfl rfl rfl rfl trivial
 | succ n =>
  obtain ⟨a1, a2⟩ := aOS (c := c) (n := B.store.length) h1 h3.st.pos
  obtain ⟨b1, b2, R, b3, b4⟩ := aNn h3 a2
  have hst : aC7 c (n + 1) s2 B = aC7 c n (opS c s2 B.store.length).2 (doB B (opS c s2 B.store.length).1) := rfl
  rw [hst] at h5
  have d1 : ACG Tryz.prog 80 [.optr 0 0 [] 0, .v (.int .i64 (((B.store.map xS).length : Nat) : Int))] [zu c s2] [zu c (opS c s2 B.store.length).2] ⟨aH4 (opS c s2 B.store.length).1, []⟩ := by
   rw [List.length_map]; exact aT8 hc h1 (by omega) h3.st.pos (by omega)
  generalize (opS c s2 B.store.length).2 = s3 at *
  generalize (opS c s2 B.store.length).1 = o at *
  generalize doB B o = B' at *
  unfold IsR at b3
  obtain ⟨rc, rp, rv, rk, rm, hrk, rfl⟩ := b3
  repeat ((refine qz ?_; conv => whnf))
  have fin : ∀ {rk : AV}, (rk = aAM ∨ ∃ l, rk = .lst 1 l) → True := fun _ => trivial
  rcases hrk with rfl | ⟨l, rfl⟩
  all_goals
   refine .inr ⟨by kernel_rfl, vv (by kernel_rfl), ?_⟩
   refine xJ (zO rfl rfl rfl rfl rfl rfl rfl) rfl rfl rfl (.inr rfl) (by kernel_rfl) ?_
   refine xJ (wT rfl) rfl rfl rfl (.inl rfl) (by kernel_rfl) ?_
   refine xJ (uG rfl rfl rfl) rfl rfl rfl (.inl rfl) (by kernel_rfl) ?_
   refine xJ (zO rfl rfl rfl rfl rfl rfl rfl) rfl rfl rfl (.inr rfl) (by kernel_rfl) ?_
   refine xU (aRv rfl ⟨_, _, _, _, rfl⟩) ul rfl rfl (by kernel_rfl) ?_
   refine xU (aHC d1 rfl rfl rfl rfl rfl rfl rfl rfl) aAF rfl rfl (by kernel_rfl) ?_
   refine xU (aCI b4 rfl rfl rfl trivial rfl rfl rfl) aDX rfl rfl (by kernel_rfl) ?_
   refine xJ (wT rfl) rfl rfl rfl (.inl rfl) (by kernel_rfl) ?_
   refine xJ (aEr rfl rfl) rfl rfl rfl (.inl rfl) (by kernel_rfl) ?_
   refine xJ (aEr rfl rfl) rfl rfl rfl (.inl rfl) (by kernel_rfl) ?_
   refine xU (aDd rfl rfl) aAF rfl rfl (by kernel_rfl) ?_
   refine xU (aDd rfl rfl) aAF rfl rfl (by kernel_rfl) ?_
   refine xU (aAl rfl rfl rfl rfl rfl rfl rfl) vz rfl rfl (by kernel_rfl) ?_
   refine xU (aAl rfl rfl rfl rfl rfl rfl rfl) vz rfl rfl (by kernel_rfl) ?_
   refine jo ?_
   conv => whnf
   repeat ((first | refine qp (xC (yU (c := (n : Int)) (by omega) (by omega) (by omega)) rfl rfl rfl) ?_ | refine qz ?_ | refine qst ?_); conv => whnf)
   exact ⟨⟨(n, s3, B'), a1.le (by omega), by omega, b1, by dsimp only; omega, h5⟩, by exact qle, by simp⟩
noncomputable def aHR (c : List UInt8) : Bas := (aDM c (aHm c)).1
theorem aLR (c : List UInt8) : GoodB (aHR c) ∧ (aHR c).store.length ≤ 13 := (aQv (aFC c)).2
theorem aJF {c : List UInt8} (hc : c.length ≤ maxLen) : AC Tryz.prog 14 [.lst 1 (c.map uM)] ⟨yA (aHR c), []⟩ := by
 obtain ⟨g1, g2⟩ := aLR c
 have h1 := aHu hc
 have h2 := aQa hc (aFC c) (by omega)
 have h8 := (zH g1.rf).1
 have h3 := aMR (B := aHR c) (by omega) (fun x hx => by obtain ⟨a1, a2, _⟩ := g1.st.comOK x hx; exact ⟨by omega, by omega⟩) (by omega)
 unfold aHR at *
 refine qrf Tryz.func14 Tryz.ntmps14 Tryz.results14 ?_; conv => whnf
 repeat ((first | refine qz ?_ | refine qf (h1) ?_); conv => whnf)
 (refine qg [5] (h2) ?_; conv => whnf)
 repeat ((first | refine qz ?_ | refine qf (h3) ?_ | refine qc (h3) ?_ | refine qst ?_); conv => whnf)
 exact aEs rfl rfl rfl rfl trivial
end Go.Proofs.YtfomjajdfaoogaaGreatDoor.AM
namespace Go.Proofs.YtfomjajdfaoogaaGreatDoor.AM
open Go Go.RowKit
def ACP (P : Program) (f : FuncId) (args : List AV) (rin : List OB) (pv : Value) : Prop :=
 (∀ vs w, (callFunc f vs).run P w = .ok (.enter f vs) w) ∧
 ∀ (w : World) (S0 : Nat → Prop) (B0 : Nat → Nat) (V0 : Nat → Value) (T0 : Nat → Nat → Prop) (vs : List Value), (∀ b, S0 b → b < w.heap.size) → (∀ g y, GT g = some y → RA S0 w (.ptr y) [.pointer (some ⟨g, 0, none⟩)]) →
  Rows S0 w (xE 0 rin) (fun _ => none) B0 V0 T0 (fun _ => True) → RVs S0 w (xE 0 rin) B0 V0 args vs →
  Calls P f vs.toArray w fun e w' => e = .panicked [{ v := pv, recovered := false }] ∧ Grown w w' (HB (xE 0 rin) V0 T0)
def ACL (P : Program) (f : FuncId) (args : List AV) (rin : List OB) (v : Value) : Prop :=
 (∀ vs w, (callFunc f vs).run P w = .ok (.enter f vs) w) ∧
 ∀ (w : World) (S0 : Nat → Prop) (B0 : Nat → Nat) (V0 : Nat → Value) (T0 : Nat → Nat → Prop) (vs : List Value), (∀ b, S0 b → b < w.heap.size) → (∀ g y, GT g = some y → RA S0 w (.ptr y) [.pointer (some ⟨g, 0, none⟩)]) →
  Rows S0 w (xE 0 rin) (fun _ => none) B0 V0 T0 (fun _ => True) → RVs S0 w (xE 0 rin) B0 V0 args vs →
  Calls P f vs.toArray w fun e w' => e = .returned v ∧ Grown w w' (HB (xE 0 rin) V0 T0)
structure HandC (s : St) (A args : List AV) (rin : List OB) (Ls : List Nat) : Prop where
 dat : s.datHL Ls A = aAu Ls args
 hd : handed s Ls Ls rin
 nd : Ls.Nodup
 ok : vM s Ls A = true
 wi : zC (fun l => (xE 0 rin l).isSome) args = true
 we : (rin.all fun ob => uK (fun l => (xE 0 rin l).isSome) ob.e) = true
 rd : zn Ls (xY A) = []
def qD (P : Program) (s : St) (pv : Value) (o : Oper) : Prop :=
 match o.op with
 | .call c => match c.callee with
  | .value g => ∃ f xs ys args rin Ls, s.ev g = .fn f xs ys ∧ jI c.args.toList ∧ ACP P f args rin pv ∧ HandC s (xs ++ c.args.toList.map s.ev ++ ys) args rin Ls
  | _ => False
 | _ => False
section
variable {P : Program} {Θ : Tab} {W : World} {M : Hand} {S0 : Nat → Prop} {n : Nat} {s : St} {a : Act} {w : World} {S : Nat → Prop} {B : Nat → Nat} {V : Nat → Value} {T : Nat → Nat → Prop} {tmps : Array Value} {pv : Value} {ops : Array Oper}
theorem aIG (h : SimW W M S0 s a.tmps w S B V T) {A args : List AV} {rin : List OB} {Ls : List Nat} {VS : List Value} (hA : RVs S w s.hp B V A VS) (hc : HandC s A args rin Ls) :
 Rows S w (xE 0 rin) (fun _ => none) (fun l => B (xk 0 Ls l)) (fun l => V (xk 0 Ls l)) (fun l => T (xk 0 Ls l)) (fun _ => True) ∧ RVs S w (xE 0 rin) (fun l => B (xk 0 Ls l)) (fun l => V (xk 0 Ls l)) args VS ∧ ∀ l ob, xE 0 rin l = some ob → xk 0 Ls l ∈ Ls ∧ s.hp (xk 0 Ls l) = some (wY Ls ob) := by
 obtain ⟨hrows, hmem⟩ := aL4 h hc.hd hc.nd (fun ob ho => List.all_eq_true.1 hc.we ob ho) (fun _ h => h) (fun l _ ob g ho hg => (h.rows.me l ob g ho hg).1)
 have hdat := aAz h (Ls := Ls) (fun _ h => h) A VS (fun l hl => by rw [hc.rd] at hl; simp at hl) hc.ok hA
 rw [hc.dat] at hdat
 refine ⟨hrows, (RVs.map (S := S) (w := w) (hp := xE 0 rin) (hp' := s.hp) (B := fun l => B (xk 0 Ls l)) (B' := B) (V := fun l => V (xk 0 Ls l)) (V' := V) (ρ := xk 0 Ls) args VS (fun l hl => ?_)).2 hdat, hmem⟩
 have := vB args hc.wi hl
 obtain ⟨o, ho⟩ := Option.isSome_iff_exists.1 this
 exact ⟨o, wY Ls o, ho, (hmem l o ho).2, rfl, rfl, rfl⟩
theorem aHy (hs : Sim W M S0 n s a w) {o : Oper} (h : qD P s pv o) {K : Act → World → Prop} {Q : Exit → Act → World → Prop} (hQ : ∀ w', Grown W w' M.bl → Q (.panic [{ v := pv, recovered := false }]) a w') : o.wp P a w K Q := by
 obtain ⟨hn, hdf, S, B, V, T, hw⟩ := hs
 obtain ⟨dst, op, ty, pos, after, guard⟩ := o
 unfold qD at h
 split at h
 · rename_i c hop
   subst hop
   obtain ⟨callee, ags, ts⟩ := c
   split at h
   · rename_i g hcal
     dsimp only at hcal h
     subst hcal
     obtain ⟨f, xs, ys, args, rin, Ls, hg, hcs, hac, hc⟩ := h
     have hgv := zV hw hg (fun c => by simp)
     unfold RV at hgv
     obtain ⟨us, vs, eg, r1, r2⟩ := hgv
     obtain ⟨hrows, hargs, hmem⟩ := aIG hw (RVs.app (RVs.app r1 (aBp hw _ hcs)) r2) hc
     unfold Oper.wp
     rw [aEW eg hac.1]
     show Calls P f _ w _
     refine (hac.2 w S _ _ _ _ (fun b hb => (hw.slt b hb).1) (fun g y hg => hw.glob (fun _ h => h) hg) hrows hargs).mono ?_
     rintro e w' ⟨rfl, hgr⟩
     refine hQ w' (hw.below.trans hgr (fun g hg hlt => ?_))
     obtain ⟨l, ob, ho, hb⟩ := hg
     obtain ⟨_, ho2⟩ := hmem l ob ho
     exact ((hw.rows.me _ _ g ho2 hb).2.2).resolve_left (by omega)
   · exact h.elim
 · exact h.elim
def kQ (P : Program) (Θ : Tab) (n : Nat) (ops : Array Oper) (pv : Value) : List Oper → St → Prop
 | [], _ => False
 | o :: r, s => inN n o.dst = true ∧
  match xV ops s o with
  | some true => qD P s pv o ∨ ∃ e, Pre P Θ o s e ∧ kQ P Θ n ops pv r (s.app o.dst e)
  | some false => kQ P Θ n ops pv r (s.put o.dst (.tup []))
  | none => False
def DAny (P : Program) (Θ : Tab) (n : Nat) (ops : Array Oper) (pv : Value) : Nat → Array Bool → St → Prop
 | 0, _, _ => False
 | fuel + 1, listed, s => Region.ready .any ops listed ≠ [] ∧ ∀ i ∈ Region.ready .any ops listed, ∃ o, ops[i]? = some o ∧
  ((inN n o.dst = true ∧ xV ops s o = some true ∧ qD P s pv o) ∨ ∃ v, kZ P Θ n ops o s v ∧ DAny P Θ n ops pv fuel (listed.setIfInBounds i true) (s.put o.dst v))
def vC (P : Program) (Θ : Tab) (n : Nat) (ops : Array Oper) (pv : Value) : Nat → List Oper → St → Prop
 | _, [], _ => False
 | k, o :: r, s => inN n o.dst = true ∧
  match xV ops s o with
  | some true => (tied ops k = true ∧ qD P s pv o) ∨ ∃ v, Pre P Θ o s ⟨v, none⟩ ∧ vC P Θ n ops pv (k + 1) r (s.put o.dst v)
  | some false => vC P Θ n ops pv (k + 1) r (s.put o.dst (.tup []))
  | none => False
theorem HandC.of_hp {s s' : St} (hh : s.hp = s'.hp) {A args : List AV} {rin : List OB} {Ls : List Nat} (h : HandC s A args rin Ls) : HandC s' A args rin Ls :=
 ⟨by rw [← qL hh]; exact h.dat, (aBr hh Ls _ _).1 h.hd, h.nd, by rw [← qJ hh]; exact h.ok, h.wi, h.we, h.rd⟩
theorem aKy {s s' : St} (hh : s.hp = s'.hp) {o : Oper} (he : ∀ x ∈ o.op.operands, s.ev x = s'.ev x) (h : qD P s pv o) : qD P s' pv o := by
 obtain ⟨dst, op, ty, pos, after, guard⟩ := o
 unfold qD at h ⊢
 split at h
 · rename_i c hop
   dsimp only at hop
   subst hop
   try dsimp only
   obtain ⟨callee, ags, ts⟩ := c
   split at h
   · rename_i g hcal
     dsimp only at hcal h
     subst hcal
     obtain ⟨f, xs, ys, args, rin, Ls, hg, hcs, hac, hc⟩ := h
     have hgm : g ∈ (Op.call ⟨.value g, ags, ts⟩).operands := by simp [Op.operands, Call.operands]
     have ham : ∀ x ∈ ags.toList, x ∈ (Op.call ⟨.value g, ags, ts⟩).operands := fun x hx => by simp [Op.operands, Call.operands]; first | exact .inr (by simpa using hx) | exact .inl (by simpa using hx)
     have e1 : ags.toList.map s.ev = ags.toList.map s'.ev := List.map_congr_left fun x hx => he x (ham x hx)
     refine ⟨f, xs, ys, args, rin, Ls, by rw [← he g hgm]; exact hg, hcs, hac, ?_⟩
     try dsimp only
     rw [← e1]
     exact hc.of_hp hh
   · exact h.elim
 · exact h.elim
theorem aNi {d : Option Tmp} {v : AV} {o : Oper} (h : ∀ t, d = some t → t ∉ o.looksAt ops) (hd : qD P (s.put d v) pv o) : qD P s pv o := by
 have hev : ∀ x ∈ o.op.operands, (s.put d v).ev x = s.ev x := fun x hx => aNs fun t ht hxt => h t ht (by
  subst hxt
  exact List.mem_append_left _ (List.mem_filterMap.2 ⟨.tmp t, by simpa using hx, rfl⟩))
 exact aKy aBC hev hd
theorem aFv {i : Nat} {oi : Oper} {v : AV} (hi : ops[i]? = some oi) : ∀ (fuel : Nat) (listed : Array Bool) (s : St),
 Closed ops listed → (∀ j oj, ops[j]? = some oj → j ≠ i → listed.getD j true = false → (∀ e ∈ oj.after, Region.binds .any e = true → e.on ≠ i) → oi.apart ops oj = true) →
 i ∈ Region.ready .any ops listed → kZ P Θ n ops oi s v → DAny P Θ n ops pv fuel (listed.setIfInBounds i true) (s.put oi.dst v) → DAny P Θ n ops pv (fuel + 1) listed s := by
 intro fuel
 induction fuel with
 | zero => intro listed s hcl _ hr hy H; exact H.elim
 | succ fuel ih =>
  intro listed s hcl hfree hr hy H
  refine ⟨fun h => (by rw [h] at hr; cases hr), fun j hj => ?_⟩
  by_cases hji : j = i
  · subst hji; exact ⟨oi, hi, .inr ⟨v, hy, H⟩⟩
  · obtain ⟨oj', hoj', h1⟩ := H.2 j (ready_mono hj hji)
    obtain ⟨hjun, oj, hoj, hall⟩ := mem_ready.1 hj
    obtain rfl : oj = oj' := by rw [hoj] at hoj'; exact Option.some.inj hoj'
    have hnot : ∀ e ∈ oj.after, Region.binds .any e = true → e.on ≠ i := fun e he hb heq => by
     have h1 := hall e he hb
     have h0 := (mem_ready.1 hr).1
     rw [heq] at h1
     rcases Nat.lt_or_ge i listed.size with h' | h'
     · simp [h'] at h0 h1; rw [h0] at h1; cases h1
     · simp [Array.getElem?_eq_none h'] at h1
    obtain ⟨a1, a2, a3⟩ := Oper.apart_spec (hfree j oj hoj hji hjun hnot)
    have hfree' : ∀ k ok, ops[k]? = some ok → k ≠ i → (listed.setIfInBounds j true).getD k true = false →
     (∀ e ∈ ok.after, Region.binds .any e = true → e.on ≠ i) → oi.apart ops ok = true := fun k ok hk hki hun hno => by
     refine hfree k ok hk hki ?_ hno
     by_cases hjk : j = k
     · subst hjk; exact hjun
     · rw [getD_set_ne true hjk] at hun; exact hun
    have hcomm : (listed.setIfInBounds i true).setIfInBounds j true = (listed.setIfInBounds j true).setIfInBounds i true := Array.setIfInBounds_comm _ _ (Ne.symm hji)
    refine ⟨oj, hoj, ?_⟩
    rcases h1 with ⟨q1, q2, q3⟩ | ⟨u, q1, q2⟩
    · exact .inl ⟨q1, by rw [aAE a1] at q2; exact q2, aNi a1 q3⟩
    · have hyj : kZ P Θ n ops oj s u := by
       refine ⟨q1.1, ?_⟩
       have := q1.2
       rw [aAE a1, aCw a1] at this
       exact this
      refine .inr ⟨u, hyj, ih (listed.setIfInBounds j true) (s.put oj.dst u) (hcl.list hj) hfree' (ready_mono hr (Ne.symm hji)) (hy.put a3) ?_⟩
      rw [← hcomm, put_comm s u v (fun d h1 h2 => a2 d h2 h1)]
      exact q2
theorem aJE : ∀ (l : List Oper) (k : Nat) (listed : Array Bool) (s : St), Closed ops listed → (∀ m, listed.getD m false = Nat.blt m k) → (∀ j, l[j]? = ops[k + j]?) → Region.lexFrom .any ops l.length k listed = true → vC P Θ n ops pv k l s → DAny P Θ n ops pv l.length listed s
 | [], _, _, _, _, _, _, hB, h => h.elim
 | o :: l, k, listed, s, hcl, hls, hl, hB, h => by
  have h0 : ops[k]? = some o := by simpa using (hl 0).symm
  simp only [List.length_cons, Region.lexFrom, Bool.and_eq_true] at hB
  obtain ⟨⟨hr, hf⟩, hB'⟩ := hB
  have hr' : k ∈ Region.ready .any ops listed := by simpa using hr
  have hrest : ∀ s', vC P Θ n ops pv (k + 1) l s' → DAny P Θ n ops pv l.length (listed.setIfInBounds k true) s' := fun s' h' =>
   aJE l (k + 1) _ s' (hcl.list hr') (fun m => by
    have hsz : k < listed.size := by
     have := (mem_ready.1 hr').1
     rcases Nat.lt_or_ge k listed.size with h' | h'
     · exact h'
     · simp [Array.getElem?_eq_none h'] at this
    by_cases hmk : k = m
    · subst hmk
      have h1 : (listed.setIfInBounds k true).getD k false = true := by simp [hsz]
      rw [h1]; simp
    · rw [getD_set_ne false hmk, hls]
      rw [aBY, aBY, decide_eq_decide]; omega) (fun j => by have := hl (j + 1); simpa [Nat.add_assoc, Nat.add_comm 1 j] using this) hB' h'
  unfold vC at h
  obtain ⟨hin, h⟩ := h
  cases hg : xV ops s o with
  | none => rw [hg] at h; exact h.elim
  | some b =>
   cases b with
   | true =>
    rw [hg] at h
    rcases h with ⟨ht, hd⟩ | ⟨v, hp, h⟩
    · refine ⟨fun h => (by rw [h] at hr'; cases hr'), fun j hj => ?_⟩
      have := kP hcl hr' hj ht
      subst this
      exact ⟨o, h0, .inl ⟨hin, hg, hd⟩⟩
    · exact aFv h0 l.length listed s hcl (Region.free_spec h0 hf) hr' ⟨hin, .inl ⟨hg, hp⟩⟩ (hrest _ h)
   | false =>
    rw [hg] at h
    exact aFv h0 l.length listed s hcl (Region.free_spec h0 hf) hr' ⟨hin, .inr ⟨hg, rfl⟩⟩ (hrest _ h)
theorem aDR (hΘ : yY P Θ) {Q : Exit → Act → World → Prop} (hQ : ∀ a w', a.defers = [] → Grown W w' M.bl → Q (.panic [{ v := pv, recovered := false }]) a w') : ∀ (l : List Oper) (s : St) (a : Act) (w : World), Sim W M S0 n s a w → kQ P Θ n ops pv l s → wpList P ops Q l a w
 | [], s, a, w, hs, h => h.elim
 | o :: l, s, a, w, hs, h => by
  unfold kQ at h
  obtain ⟨hin, h⟩ := h
  unfold wpList
  cases hg : xV ops s o with
  | none => rw [hg] at h; exact h.elim
  | some b =>
   rw [hg] at h
   rw [uN hs hg]
   cases b with
   | true =>
    rw [if_pos rfl]
    rcases h with h | ⟨e, hp, h⟩
    · exact .inl (aHy hs h fun w' hw => hQ a w' hs.2.1 hw)
    · exact .inl (jr hΘ hs hp hin fun a' w' hs' => aDR hΘ hQ l _ _ _ hs' h)
   | false =>
    rw [if_neg (by simp)]
    exact aDR hΘ hQ l _ _ _ (aCJ hs hin) h
theorem aDO (hΘ : yY P Θ) {Q : Exit → Act → World → Prop} (hQ : ∀ a w', a.defers = [] → Grown W w' M.bl → Q (.panic [{ v := pv, recovered := false }]) a w') : ∀ (fuel : Nat) (listed : Array Bool) (s : St) (a : Act) (w : World), Sim W M S0 n s a w → DAny P Θ n ops pv fuel listed s → ∀ m, fuel ≤ m → wpAny P .any ops Q m listed a w
 | 0, listed, s, a, w, hs, h, m, hm => h.elim
 | fuel + 1, listed, s, a, w, hs, h, m, hm => by
  obtain ⟨k, rfl⟩ : ∃ k, m = k + 1 := ⟨m - 1, by omega⟩
  refine ⟨fun hr => absurd hr h.1, fun i hi => ?_⟩
  obtain ⟨o, ho, h1⟩ := h.2 i hi
  unfold wpOp
  simp only [ho]
  rcases h1 with ⟨hin, hg, hd⟩ | ⟨v, ⟨hin, hy⟩, h2⟩
  · rw [uN hs hg, if_pos rfl]
    exact .inl (aHy hs hd fun w' hw => hQ a w' hs.2.1 hw)
  · rcases hy with ⟨hg, hp⟩ | ⟨hg, rfl⟩
    · rw [uN hs hg, if_pos rfl]
      exact .inl (jr hΘ hs hp hin fun a' w' hs' => aDO hΘ hQ fuel _ _ _ _ hs' h2 k (by omega))
    · rw [uN hs hg, if_neg (by simp)]
      exact aDO hΘ hQ fuel _ _ _ _ (aCJ hs hin) h2 k (by omega)
def yt (P : Program) (Θ : Tab) (n : Nat) (pv : Value) : Code → St → Prop
 | .region id ops draw, s => (draw = false ∧ kQ P Θ n ops pv ops.toList s) ∨ (draw = true ∧ Region.lexB .any ops = true ∧ vC P Θ n ops pv 0 ops.toList s)
 | .seq a b, s => yt P Θ n pv a s ∨ xI P Θ n a (AEx.then (yt P Θ n pv b) (fun _ _ => False)) s
 | .cond c x y, s => ∃ b, s.ev c = .v (.bool b) ∧ (match b with | true => yt P Θ n pv x s | false => yt P Θ n pv y s)
 | .block _ c, s => yt P Θ n pv c s
 | .loop c, s => ∃ (ι : Type) (I : ι → InvM) (μ : ι → Nat), (∃ i, s.leM (I i)) ∧ ∀ i, yt P Θ n pv c (I i).st ∨ xI P Θ n c (AEx.then (fun s' => ∃ j, s'.leM (I j) ∧ μ j < μ i) (fun _ _ => False)) (I i).st
 | _, _ => False
def aQI (W : World) (M : Hand) (pv : Value) (e : Exit) (a : Act) (w : World) : Prop := e = .panic [{ v := pv, recovered := false }] ∧ a.defers = [] ∧ Grown W w M.bl
theorem aJZ (hΘ : yY P Θ) (hm : P.follows .mixedOrders = true) : ∀ (c : Code) (s : St) (a : Act) (w : World), Sim W M S0 n s a w → yt P Θ n pv c s → WpN P c (aQI W M pv) a w := by
 intro c
 induction c with
 | region id ops draw =>
  intro s a w hs h
  rcases h with ⟨rfl, h⟩ | ⟨rfl, hB, h⟩
  · exact .of <| wp_region_list (aDR hΘ (fun a w' hd hw => ⟨rfl, hd, hw⟩) _ _ _ _ hs h)
  · refine .of (wp_region_any hm ?_)
    have hs' : Sim W M S0 n s a { w with drawn := w.drawn + 1 } := by
     obtain ⟨hn, hdf, S, B, V, T, h⟩ := hs
     exact ⟨hn, hdf, S, B, V, T, h.world ((Below.refl _ _).drew)⟩
    simp only [Region.lexB, Bool.and_eq_true] at hB
    have hcl : Closed ops (Array.replicate ops.size false) := fun j o ho hl => by
     have : (Array.replicate ops.size false).getD j false = false := by simp [Array.getD_eq_getD_getElem?, Array.getElem?_replicate]; split <;> rfl
     rw [this] at hl; cases hl
    have := aJE (P := P) (Θ := Θ) (n := n) ops.toList 0 (Array.replicate ops.size false) s hcl (fun m => by
     have : (Array.replicate ops.size false).getD m false = false := by simp [Array.getD_eq_getD_getElem?, Array.getElem?_replicate]; split <;> rfl
     rw [this]; rfl) (by simp) (by simpa using hB.2) h
    exact aDO hΘ (fun a w' hd hw => ⟨rfl, hd, hw⟩) _ _ _ _ _ hs' this _ (by simp)
 | seq x y ihx ihy =>
  intro s a w hs h
  rcases h with h | h
  · refine WpN.seq ?_
    intro b hb k cs
    obtain ⟨e, a', w', ⟨rfl, h2, h3⟩, harr⟩ := ihx s a w hs h b hb k cs
    exact ⟨.panic [{ v := pv, recovered := false }], a', w', ⟨rfl, h2, h3⟩, harr⟩
  · refine WpN.seq (aC5 hΘ hm x (AEx.then (yt P Θ n pv y) (fun _ _ => False)) _ s a w hs (fun e s a w hs he => ?_) h)
    cases e with
    | normal => exact ihy s a w hs he
    | exit id => exact False.elim he
    | ret => exact False.elim he
 | cond c x y ihx ihy =>
  intro s a w hs h
  obtain ⟨b, hc, h⟩ := h
  have hev : a.eval c = .bool b := by
   obtain ⟨_, _, S, B, V, _, h1⟩ := hs
   exact kI h1 hc
  cases b with
  | true => exact WpN.cond hev (ihx s a w hs h)
  | false => exact WpN.cond hev (ihy s a w hs h)
 | block id c ih =>
  intro s a w hs h
  refine WpN.block ?_
  intro b hb k cs
  obtain ⟨e, a', w', ⟨rfl, h2, h3⟩, harr⟩ := ih s a w hs h b hb k cs
  exact ⟨.panic [{ v := pv, recovered := false }], a', w', ⟨rfl, h2, h3⟩, harr⟩
 | loop c ih =>
  intro s a w hs h
  obtain ⟨ι, I, μ, ⟨i0, h0⟩, hround⟩ := h
  have key : ∀ m i a w, μ i = m → Sim W M S0 n (I i).st a w → ∀ (b : Frame), b.kind = .normal → ∀ (k : List Item) (cs : List Frame),
   ∃ e a' w', aQI W M pv e a' w' ∧ Arrives P (lone (b.at a (.code c :: .inLoop c :: k)) cs w) b k cs e a' w' := by
   intro m
   induction m using Nat.strongRecOn with
   | _ m ihm =>
    intro i a w hmi hsi b hbk k cs
    rcases hround i with hd | hr
    · obtain ⟨e, a₁, w₁, ⟨rfl, h2, h3⟩, harr⟩ := ih (I i).st a w hsi hd b hbk (.inLoop c :: k) cs
      exact ⟨_, a₁, w₁, ⟨rfl, h2, h3⟩, .pass (x := .inLoop c) rfl (fun _ _ => .inl (by simp)) harr⟩
    · obtain ⟨e, a₁, w₁, hq1, harr⟩ := aC5 hΘ hm c (AEx.then (fun s' => ∃ j, s'.leM (I j) ∧ μ j < μ i) (fun _ _ => False)) (fun e a' w' => e = .normal ∧ ∃ j, Sim W M S0 n (I j).st a' w' ∧ μ j < μ i) (I i).st a w hsi (fun e s a w hs he => by
       cases e with
       | normal => obtain ⟨j, hl, hlt⟩ := he; exact ⟨rfl, j, aEM hs hl, hlt⟩
       | exit id => exact False.elim he
       | ret => exact False.elim he) hr b hbk (.inLoop c :: k) cs
      obtain ⟨rfl, j, hsj, hlt⟩ := hq1
      obtain ⟨e₂, a₂, w₂, hq₂, harr₂⟩ := ihm (μ j) (hmi ▸ hlt) j a₁ w₁ rfl hsj b hbk k cs
      exact ⟨e₂, a₂, w₂, hq₂, .of_steps (Steps.trans harr (.one step_inLoop)) harr₂⟩
  intro b hbk k cs
  obtain ⟨e, a', w', hq', harr⟩ := key _ i0 a w rfl (aEM hs h0) b hbk k cs
  exact ⟨e, a', w', hq', .of_steps (.one step_loop) harr⟩
 | skip => intro s a w hs h; exact h.elim
 | label _ => intro s a w hs h; exact h.elim
 | exit id => intro s a w hs h; exact h.elim
 | ret => intro s a w hs h; exact h.elim
 | rangeFunc _ _ _ _ => intro s a w hs h; exact h.elim
 | scope _ => intro s a w hs h; exact h.elim
 | goto _ => intro s a w hs h; exact h.elim
 | refuse _ => intro s a w hs h; exact h.elim
theorem kE (hΘ : yY P Θ) (hm : P.follows .mixedOrders = true) {f : FuncId} {fn : Func} {c : Code} {n : Nat} (hf : P.funcs[f]? = some fn) (hb : fn.body = some c) (hnt : fn.ntmps = n) (hnm : (fn.name == "runtime.NumGoroutine") = false)
 {args : List AV} {rin : List OB} (hlen : args.length ≤ n) (h : yt P Θ n pv c (St.initG rin args)) : ACP P f args rin pv := by
 refine ⟨fun vs w => by simp only [callFunc, Sem.run_bind, run_program, Result.andThen_ok, hf, hnm, hb]; rfl, fun w S0 B0 V0 T0 vs hS0 hG hrows hargs => ?_⟩
 have hvl := RVs.len _ _ hargs
 let M : Hand := ⟨HB (xE 0 rin) V0 T0, fun l => (xE 0 rin l).map fun _ => (B0 l, V0 l)⟩
 have hsim : Sim w M S0 n (St.initG rin args) { tmps := vs.toArray ++ Array.replicate (fn.ntmps - vs.toArray.size) undef, defers := [] } w := by
  refine ⟨by simp; omega, rfl, S0, B0, V0, T0, ⟨Grown.refl _ _, fun _ h => h, fun b hb => ⟨hS0 b hb, .inl hb⟩, fun t => ?_, ⟨hrows.ro, fun l ob g ho hg => ⟨(hrows.me l ob g ho hg).1, (hrows.me l ob g ho hg).2.1, .inr ⟨l, ob, ho, hg⟩⟩, hrows.nd, hrows.ds, fun l es e => by cases e⟩, fun l b u e => ?_, ⟨fun b hb => ⟨fun ⟨l, ob, ho, hb'⟩ => (hrows.me l ob b ho hb').1 hb, hS0 b hb⟩, hG⟩⟩⟩
  · rw [aJk]; exact RVs.get args vs t hargs
  · obtain ⟨ob, ho, e⟩ := Option.map_eq_some_iff.1 e
    cases e
    exact ⟨aG4 ho, rfl, rfl⟩
 refine aEB hf hb ?_
 intro b hb k cs
 obtain ⟨e, a', w', ⟨rfl, h2, h3⟩, harr⟩ := aJZ (M := M) (W := w) (S0 := S0) hΘ hm c _ _ _ hsim h b hb k cs
 exact ⟨.panic [{ v := pv, recovered := false }], a', w', ⟨h2, rfl, h3⟩, harr⟩
end
end Go.Proofs.YtfomjajdfaoogaaGreatDoor.AM
