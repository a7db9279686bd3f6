/- The machine over data: each operation's step is sound (all but calls). -/
import Derived.Test.YtciacgmdeaihlaaAm5
namespace Go.Proofs.Ytciacgmdeaihlaa.AM
open Go Go.RowKit

section
variable {P : Program} {Θ : Tab} {W : World} {M : Option Value} {S0 : Nat → Prop} {n : Nat} {s : St} {a : Act} {w : World} {S : Nat → Prop} {B : Nat → Nat} {V : Nat → Value} {tmps : Array Value}
variable {K : Act → World → Prop} {Q : Exit → Act → World → Prop}

theorem run_pick (c x y : Value) (t : Bool) (hc : c = .bool t) : (do pure (Next.value (if ← asBool c then x else y)) : Sem Next).run P w = .ok (.value (if t then x else y)) w := by
  subst hc; cases t <;> rfl

theorem one_list {x : Value} (h : x.oneCell' = true) : RV S w s.hp B V (.v x) x := by unfold RV; exact ⟨rfl, h⟩

theorem offs_at {P : Program} : ∀ (fields : List Field) (fs : List (Nat × Nat)) (k : Nat), offsOK P k fields fs → ∀ (i o z : Nat), fs[i]? = some (o, z) → ∃ f, fields[i]? = some f ∧ f.offset = o ∧ 0 < z ∧ (P.info? f.type).map (·.size) = some z ∧ o = k + sizes (fs.take i)
  | [], [], _, _, i, o, z, h => by simp at h
  | [], _ :: _, _, h, _, _, _, _ => by simp [offsOK] at h
  | _ :: _, [], _, h, _, _, _, _ => by simp [offsOK] at h
  | f :: fields, (o', z') :: fs, k, h, 0, o, z, hi => by
    obtain ⟨h1, h2, h3, h4, _⟩ := h
    simp at hi
    obtain ⟨rfl, rfl⟩ := hi
    exact ⟨f, rfl, h1, h3, h4, by simp [sizes, h2]⟩
  | f :: fields, (o', z') :: fs, k, h, i + 1, o, z, hi => by
    obtain ⟨h1, h2, h3, h4, h5⟩ := h
    simp at hi
    obtain ⟨f', k1, k2, k3, k4, k5⟩ := offs_at fields fs _ h5 i o z hi
    exact ⟨f', by simpa using k1, k2, k3, k4, by rw [k5, List.take_succ_cons, sizes]; omega⟩

theorem run_fieldAt {t : TypeId} {fs : List (Nat × Nat)} {z : List AV} (hT : TIok P t (.struct fs z)) {f o_ z_ : Nat} (hf : fs[f]? = some (o_, z_)) (b off : Nat) :
    (Instr.fieldAt t (.pointer (some ⟨b, off, none⟩)) f).run P w = .ok (.pointer (some ⟨b, off + o_, none⟩)) w := by
  obtain ⟨fields, i, cs, hu, ho, _⟩ := hT
  obtain ⟨fl, h1, h2, h3, h4, _⟩ := offs_at _ _ _ ho f o_ z_ hf
  have h1' : fields[f]? = some fl := by rw [← Array.getElem?_toList]; exact h1
  cases hi : P.info? fl.type with
  | none => rw [hi] at h4; simp at h4
  | some j =>
    rw [hi] at h4
    simp at h4
    have hz : ¬ j.size = 0 := by omega
    simp [Instr.fieldAt, run_underlying hu, h1', Instr.sureAddr, fieldPlace, sizeOf, typeInfo, hi, hz, add_off, h2]

theorem run_indexAt {t e : TypeId} {sz b : Nat} {z : AV} (hT : TIok P t (.slice e sz b z)) {k : IntKind} {A : Addr} {m c j : Nat} (hj : j < m) :
    (Instr.indexAt t (.slice (some A) m c) (.int k (j : Int))).run P w = .ok (.pointer (some (A.add (j * sz)))) w := by
  obtain ⟨hu, _, i, zv, hi, _, hs, _⟩ := hT
  have h1 : (0 : Int) ≤ (j : Int) ∧ (j : Int) < (m : Int) := by omega
  simp [Instr.indexAt, asIntOf, run_underlying hu, h1, sizeOf, typeInfo, hi, hs]
  intro hge; omega

theorem size_of_cells {u : Value} {m : Nat} (h : u.cells.toList.length = m) : u.cells.size = m := by simpa using h

theorem run_alloc {t : TypeId} {zv : Value} {i : TypeInfo} (hi : P.info? t = some i) (hz : i.zero = some zv) : (Instr.alloc t true (.tuple #[])).run P w = .ok (.pointer (some ⟨w.heap.size, 0, none⟩)) (w.alloc (.cells zv.cells t)) := by
  simp [Instr.alloc, zeroValue, typeInfo, hi, hz, newVar, newRow]
theorem run_box {t : TypeId} {x : Value} : (Instr.box t x).run P w = .ok (.pointer (some ⟨w.heap.size, 0, none⟩)) (w.alloc (.cells x.cells t)) := by
  simp [Instr.box, newVar, newRow]

theorem run_build_gen {t : TypeId} {fs : List (Nat × Nat)} {z : List AV} (hT : TIok P t (.struct fs z)) {S : Nat → Prop} {a : Act} {s : St} (ps : Array (Nat × Operand)) (hall : ∀ x ∈ ps.toList, isDataA (s.dat (s.ev x.2)) = true → RA S w (s.dat (s.ev x.2)) (a.eval x.2).cells.toList) (hp : partsOK s z ps.toList) :
    ∃ cs, (Instr.build t (ps.map fun (i, x) => (i, a.eval x))).run P w = .ok (.agg cs) w ∧ RL S w (setParts s z ps.toList) cs.toList := by
  obtain ⟨fields, i, cs, hu, ho, hi, hs, hpos, hm, hz, hr⟩ := hT
  have hplaces : ∀ (l : List Field) (f2 : List (Nat × Nat)) (k : Nat), offsOK P k l f2 → (l.mapM (fun f => do pure (f.offset, ← sizeOf f.type) : Field → Sem (Nat × Nat))).run P w = .ok f2 w := by
    intro l
    induction l with
    | nil => intro f2 k h; cases f2 with
      | nil => simp
      | cons _ _ => simp [offsOK] at h
    | cons f l ih =>
      intro f2 k h
      cases f2 with
      | nil => simp [offsOK] at h
      | cons q f2 =>
        obtain ⟨o', z'⟩ := q
        obtain ⟨h1, h2, h3, h4, h5⟩ := h
        cases hj : P.info? f.type with
        | none => rw [hj] at h4; simp at h4
        | some j =>
          rw [hj] at h4
          simp at h4
          have hsz : (sizeOf f.type).run P w = .ok z' w := by simp [sizeOf, typeInfo, hj, h4]
          simp only [List.mapM_cons, Sem.run_bind, Sem.run_pure, Result.andThen_ok, hsz, ih f2 _ h5, h1]
  have hpl := hplaces _ _ _ ho
  have hzr : RL S w z cs.toList := RL.mono (fun _ h => h.elim) (fun _ h => h.elim) _ _ (hr w)
  have hplace : ∀ i y, z[i]? = some y → (fs.toArray)[i]? = some (aszs (z.take i), asz y) := fun i y hy => by
    have e := congrArg (fun l => l[i]?) hm
    simp only [List.getElem?_map, hy, Option.map_some] at e
    cases hq : fs[i]? with
    | none => rw [hq] at e; simp at e
    | some q =>
      obtain ⟨o', z'⟩ := q
      rw [hq] at e
      simp at e
      obtain ⟨_, _, _, _, _, k5⟩ := offs_at _ _ _ ho i o' z' hq
      have ht : aszs (z.take i) = sizes (fs.take i) := aszs_sizes _ _ (by rw [List.map_take, List.map_take, hm])
      simp [hq, k5, ht, e]
  obtain ⟨cells', h1, h2⟩ := fill_sound (place := fun i => fs.toArray[i]?) ps.toList z cs hall hzr hp hplace
  refine ⟨cells', ?_, h2⟩
  have hmap : (ps.map fun (i, x) => (i, a.eval x)).toList = ps.toList.map fun x => (x.1, a.eval x.2) := by simp
  have hmp : (fields.mapM (fun f => do pure (f.offset, ← sizeOf f.type) : Field → Sem (Nat × Nat))).run P w = .ok fs.toArray w := by
    rw [Array.mapM_eq_mapM_toList]
    simp only [Sem.run_map, hpl, Result.andThen_ok]
  simp only [Instr.build, zeroValue, typeInfo, Sem.run_bind, run_program, Result.andThen_ok, hi, Sem.run_pure, hz, run_underlying hu, Value.cells, hmp, hmap]
  simp only [h1, Sem.run_pure]

theorem take_splice2 {α : Type} (L vs : List α) (i m : Nat) (h : i + vs.length ≤ m) (hm : m ≤ L.length) : (L.take i ++ vs ++ L.drop (i + vs.length)).take m = (L.take m).take i ++ vs ++ (L.take m).drop (i + vs.length) := by
  rw [List.take_append, List.drop_take, List.take_take, Nat.min_eq_left (by omega)]
  have hl : (L.take i ++ vs).length = i + vs.length := by simp; omega
  rw [hl, List.take_of_length_le (by omega)]
/-- a store into a row that is owned -/
theorem store_sim (h : SimW W M S0 s tmps w S B V) {l : Nat} {ob : OB} (ho : s.hp l = some ob) {i c : Nat} {p : List Nat} {q z y : AV} {vs : List Value} {t : TypeId} {ti : TypeInfo} {val : Value} (hx : ob.xs[i]? = some q) (hg : getP q p 0 = some (z, c)) (hy : RA S w y vs) (hz : asz y = asz z) (hv : val.cells.toList = vs) (hti : P.info? t = some ti) (hsz : ti.size = asz z) :
    ∃ w1, (Instr.storeAt t (.pointer (some ⟨B l, i * ob.sz + c, none⟩)) val).run P w = .ok () w1 ∧ SimW W M S0 (s.set l (some ⟨ob.e, ob.sz, ob.xs.set i (setP q p y)⟩)) tmps w1 S B V := by
  have hro := h.hp l ob ho
  have hne : ob.xs ≠ [] := fun e => by rw [e] at hx; simp at hx
  obtain ⟨cs, cap, cur, hr, ha, hV, hb, hns, hheap, hc, hm, hs, ht⟩ := hro.block hne
  obtain ⟨qs, k1, k2, k3, k4⟩ := RL.at i hr hx
  have hilt : i < ob.xs.length := (List.getElem?_eq_some_iff.1 hx).1
  have hpre : aszs (ob.xs.take i) = i * ob.sz := by rw [aszs_const (fun x hx' => ha x (List.mem_of_mem_take hx')), List.length_take, Nat.min_eq_left (by omega)]
  have eq1 := RA.size _ _ k1
  rw [ha q (List.mem_of_getElem? hx)] at eq1
  obtain ⟨ws, m1, m2, m3, _⟩ := getP_at p q qs 0 c z k1 hg
  have e2 := RA.size _ _ m2
  have e3 := RA.size _ _ hy
  obtain ⟨s1, s2⟩ := setP_at p q qs 0 c z y vs k1 hg hy hz
  simp only [Nat.sub_zero] at s1 m3
  have hset := RL.set i hr hx s1 s2
  have hlr := RL.size _ _ hr
  rw [aszs_const ha] at hlr
  have hcurlen : cs.length ≤ cur.size := by rw [← ht]; simp; omega
  have hi1 : i * ob.sz + ob.sz ≤ cs.length := by
    have : (i + 1) * ob.sz ≤ ob.xs.length * ob.sz := Nat.mul_le_mul_right _ (by omega)
    rw [Nat.add_mul, Nat.one_mul] at this; omega
  have h1c : ∀ u ∈ vs, u.oneCell' = true := RA.one _ _ hy
  have hst := run_storeCells_at P (B l) (i * ob.sz + c) ob.e vs 0 cur w hheap (by omega) h1c
  simp only [Nat.add_zero] at hst
  have hvs : val.cells.size = ti.size := by rw [← Array.length_toList, hv, hsz]; omega
  refine ⟨w.setRow (B l) (cur.toList.take (i * ob.sz + c) ++ vs ++ cur.toList.drop (i * ob.sz + c + vs.length)).toArray, ?_, ?_⟩
  · simp [Instr.storeAt, Instr.sureAddr, storeVar, sizeOf, typeInfo, hti, hvs, hv, hst]
  · have hnew := setRow_heap w (B l) cur (cur.toList.take (i * ob.sz + c) ++ vs ++ cur.toList.drop (i * ob.sz + c + vs.length)).toArray ob.e (0, 0) hheap
    have hoth : ∀ b, b ≠ B l → (w.setRow (B l) (cur.toList.take (i * ob.sz + c) ++ vs ++ cur.toList.drop (i * ob.sz + c + vs.length)).toArray).heap[b]? = w.heap[b]? := fun b hb => setRow_other w (B l) b _ (fun e => hb e)
    generalize hw1 : w.setRow (B l) (cur.toList.take (i * ob.sz + c) ++ vs ++ cur.toList.drop (i * ob.sz + c + vs.length)).toArray = w1 at *
    have hSw : ∀ b, S b → w1.heap[b]? = w.heap[b]? := fun b hb => hoth b (fun e => hns (e ▸ hb))
    have hbel : w.grownBy w1 (some (B l)) := by
      rw [← hw1]
      exact ⟨rfl, rfl, rfl, by simp [World.setRow], fun k _ hk => by rw [hw1]; exact hoth k (fun e => hk (by rw [e]))⟩
    have hVl : (V l).ownBlock = some (B l) := by rw [hV]; rfl
    refine ⟨grown_trans h.below hbel (fun g e hlt => by cases e; exact (h.mine l ob _ ho hVl).resolve_left (by omega)), h.s0, fun b hb' => ⟨Nat.lt_of_lt_of_le (h.slt b hb').1 hbel.size, (h.slt b hb').2⟩, fun t => ?_, fun l' ob' ho' => ?_, fun l1 l2 o1 o2 g h1 h2 => ?_, fun l1 o1 g h1 => ?_, h.pin⟩
    · refine RV.carry (fun _ h => h) hSw _ _ (fun l' ob' _ ho' => ?_) (h.sl t)
      by_cases e : l' = l
      · subst e
        rw [ho] at ho'; cases ho'
        exact ⟨⟨ob.e, ob.sz, ob.xs.set i (setP q p y)⟩, by simp [St.set], rfl, rfl, rfl⟩
      · exact ⟨ob', by simp [St.set, nbne e, ho'], rfl, rfl, rfl⟩
    · by_cases e : l' = l
      · subst e
        have : ob' = ⟨ob.e, ob.sz, ob.xs.set i (setP q p y)⟩ := by simpa [St.set] using ho'.symm
        subst this
        have hmid := take_splice cs vs (i * ob.sz) c qs.length (by omega)
        refine ⟨cs.take (i * ob.sz + c) ++ vs ++ cs.drop (i * ob.sz + c + vs.length), ?_, fun x hx' => ?_, ?_, ⟨?_, .inr ⟨B l', cap, _, by rw [hV]; simp, hb, hnew, by simpa using hc, hm, ?_, ?_⟩⟩, fun g hg' => by rw [hVl] at hg'; cases hg'; exact ⟨rfl, hns⟩⟩
        · refine RL.mono (fun _ h => h) hSw _ _ ?_
          have hq : qs = (cs.drop (i * ob.sz)).take qs.length := by rw [← hpre]; exact k3.symm
          rw [hpre] at hset
          have hle : (qs.take c ++ vs ++ qs.drop (c + vs.length)).length = qs.length := by simp; omega
          rw [hle] at hset
          obtain ⟨L, hL⟩ : ∃ L, L = qs.length := ⟨_, rfl⟩
          rw [← hL] at hset hq hmid
          rw [hq, hmid] at hset
          exact hset
        · rcases List.mem_or_eq_of_mem_set hx' with hx' | hx'
          · exact ha x hx'
          · subst hx'; rw [s2]; exact ha q (List.mem_of_getElem? hx)
        · have := hro; obtain ⟨_, _, _, h0, _⟩ := this; exact h0
        · simp only [List.length_append, List.length_take, List.length_drop, List.length_set]; omega
        · simp only [List.size_toArray, List.length_append, List.length_take, List.length_drop, Array.length_toList]; omega
        · simp only [List.length_set]
          rw [← ht]
          exact take_splice2 _ _ _ _ (by omega) (by simp; omega)
      · have ho2 : s.hp l' = some ob' := by simpa [St.set, nbne e] using ho'
        refine (h.hp l' ob' ho2).carry (fun _ h => h) hSw (fun g hg' => ⟨hoth g (fun e' => ?_), id⟩)
        subst e'
        exact e (h.dist l' l ob' ob _ ho2 ho hg' hVl)
    · have q1 : ∃ o, s.hp l1 = some o := by
        by_cases e : l1 = l
        · subst e; exact ⟨ob, ho⟩
        · exact ⟨o1, by simpa [St.set, nbne e] using h1⟩
      have q2 : ∃ o, s.hp l2 = some o := by
        by_cases e : l2 = l
        · subst e; exact ⟨ob, ho⟩
        · exact ⟨o2, by simpa [St.set, nbne e] using h2⟩
      obtain ⟨p1, q1⟩ := q1
      obtain ⟨p2, q2⟩ := q2
      exact h.dist l1 l2 p1 p2 g q1 q2
    · by_cases e : l1 = l
      · subst e; exact h.mine l1 ob g ho
      · exact h.mine l1 o1 g (by simpa [St.set, nbne e] using h1)
end
end Go.Proofs.Ytciacgmdeaihlaa.AM
