/- The machine over data, second make (N7): each operation's step is sound (all but maps and calls). -/
import Derived.Test.YtmafbodblpgcjaaN6
namespace Go.Proofs.Ytmafbodblpgcjaa.AM
open Go Go.RowKit
set_option linter.unusedVariables false
set_option linter.unusedSimpArgs false

section
variable {P : Program} {Θ : Tab} {W : World} {M : Hand} {S0 : Nat → Prop} {n : Nat} {s : St} {a : Act} {w : World} {S : Nat → Prop} {B : Nat → Nat} {V : Nat → Value} {T : Nat → Nat → Prop} {tmps : Array Value}
variable {K : Act → World → Prop} {Q : Exit → Act → World → Prop}

theorem run_pick (c x y : Value) (t : Bool) (hc : c = .bool t) : (do pure (Next.value (if ← asBool c then x else y)) : Sem Next).run P w = .ok (.value (if t then x else y)) w := by
  subst hc; cases t <;> rfl
theorem one_list {x : Value} (h : x.oneCell' = true) : RV S w s.hp B V (.v x) x := by unfold RV; exact ⟨rfl, h⟩

theorem offs_at {P : Program} : ∀ (fields : List Field) (fs : List (Nat × Nat)) (k : Nat), offsOK P k fields fs → ∀ (i o z : Nat), fs[i]? = some (o, z) → ∃ f, fields[i]? = some f ∧ f.offset = o ∧ 0 < z ∧ (P.info? f.type).map (·.size) = some z ∧ o = k + sizes (fs.take i)
  | [], [], _, _, i, o, z, h => by simp at h
  | [], _ :: _, _, h, _, _, _, _ => by simp [offsOK] at h
  | _ :: _, [], _, h, _, _, _, _ => by simp [offsOK] at h
  | f :: fields, (o', z') :: fs, k, h, 0, o, z, hi => by
    obtain ⟨h1, h2, h3, h4, _⟩ := h
    simp at hi
    obtain ⟨rfl, rfl⟩ := hi
    exact ⟨f, rfl, h1, h3, h4, by simp [sizes, h2]⟩
  | f :: fields, (o', z') :: fs, k, h, i + 1, o, z, hi => by
    obtain ⟨h1, h2, h3, h4, h5⟩ := h
    simp at hi
    obtain ⟨f', k1, k2, k3, k4, k5⟩ := offs_at fields fs _ h5 i o z hi
    exact ⟨f', by simpa using k1, k2, k3, k4, by rw [k5, List.take_succ_cons, sizes]; omega⟩
theorem run_fieldAt {t : TypeId} {fs : List (Nat × Nat)} {z : List AV} (hT : TIok P t (.struct fs z)) {f o_ z_ : Nat} (hf : fs[f]? = some (o_, z_)) (b off : Nat) :
    (Instr.fieldAt t (.pointer (some ⟨b, off, none⟩)) f).run P w = .ok (.pointer (some ⟨b, off + o_, none⟩)) w := by
  obtain ⟨fields, i, cs, hu, ho, _⟩ := hT
  obtain ⟨fl, h1, h2, h3, h4, _⟩ := offs_at _ _ _ ho f o_ z_ hf
  have h1' : fields[f]? = some fl := by rw [← Array.getElem?_toList]; exact h1
  cases hi : P.info? fl.type with
  | none => rw [hi] at h4; simp at h4
  | some j =>
    rw [hi] at h4
    simp at h4
    have hz : ¬ j.size = 0 := by omega
    simp [Instr.fieldAt, run_underlying hu, h1', Instr.sureAddr, fieldPlace, sizeOf, typeInfo, hi, hz, add_off, h2]
theorem run_indexAt {t e : TypeId} {sz b : Nat} {z : AV} (hT : TIok P t (.slice e sz b z)) {k : IntKind} {A : Addr} {m c j : Nat} (hj : j < m) :
    (Instr.indexAt t (.slice (some A) m c) (.int k (j : Int))).run P w = .ok (.pointer (some (A.add (j * sz)))) w := by
  obtain ⟨hu, _, i, zv, hi, _, hs, _⟩ := hT
  have h1 : (0 : Int) ≤ (j : Int) ∧ (j : Int) < (m : Int) := by omega
  simp [Instr.indexAt, asIntOf, run_underlying hu, h1, sizeOf, typeInfo, hi, hs]
  intro hge; omega
theorem run_indexArr {t e : TypeId} {m sz : Nat} {z : AV} (hT : TIok P t (.arr e m sz z)) {k : IntKind} {A : Addr} {j : Nat} (hj : j < m) :
    (Instr.indexAt t (.pointer (some A)) (.int k (j : Int))).run P w = .ok (.pointer (some (A.add (j * sz)))) w := by
  obtain ⟨hu, _, _, _, _, i, hi, hs⟩ := hT
  have h1 : (0 : Int) ≤ (j : Int) ∧ (j : Int) < (m : Int) := by omega
  simp [Instr.indexAt, Instr.sureAddr, asIntOf, run_underlying hu, h1, sizeOf, typeInfo, hi, hs]
  intro hge; omega
theorem run_alloc {t : TypeId} {zv : Value} {i : TypeInfo} (hi : P.info? t = some i) (hz : i.zero = some zv) : (Instr.alloc t true (.tuple #[])).run P w = .ok (.pointer (some ⟨w.heap.size, 0, none⟩)) (w.alloc (.cells zv.cells t)) := by
  simp [Instr.alloc, zeroValue, typeInfo, hi, hz, newVar, newRow]
theorem run_box {t : TypeId} {x : Value} : (Instr.box t x).run P w = .ok (.pointer (some ⟨w.heap.size, 0, none⟩)) (w.alloc (.cells x.cells t)) := by
  simp [Instr.box, newVar, newRow]

/-- a new row's block -/
theorem newRow_sim (h : SimW W M S0 s tmps w S B V T) {d : Nat} (hok : okL d = true) (hf : s.hp d = none) {t : TypeId} {sz m : Nat} {xs : List AV} {cs : Array Value} {e : ET} (hty : ∀ t', e.typ = some t' → t = t') (hr : RK S w s.hp B V sz xs Fa cs.toList e) (ha : ∀ x ∈ xs, asz x = sz) (h0 : 0 < sz) (hm : xs.length = m) (hmax : m ≤ maxLen) :
    SimW W M S0 (s.set d (some ⟨e, sz, xs⟩)) tmps (w.alloc (.cells cs t)) S (upd B d w.heap.size) (upd V d (.slice (some ⟨w.heap.size, 0, none⟩) m m)) (upd T d Fa) := by
  have hb : Below w.heap.size w (w.alloc (.cells cs t)) := (Below.refl _ _).alloc (Nat.le_refl _) _
  have hl := hr.size ha
  rw [Array.length_toList, hm] at hl
  obtain ⟨hn1, hn2⟩ := fresh_names h hf
  have hlt : w.heap.size < (w.alloc (.cells cs t)).heap.size := (Array.getElem?_eq_some_iff.1 (heap_alloc_new w (.cells cs t))).1
  refine h.repl hok hn1 (fun j ob _ ho => hn2 j ob ho) (Grown.of hb _) ⟨t, cs.toList, hty, ?_, ha, h0, ⟨by simp only [Array.length_toList, hm, hl], .inr ⟨w.heap.size, m, cs, by simp [hm], Nat.zero_le _, heap_alloc_new w _, by simp [hm], hmax, hl, ?_⟩⟩, fun g hg => by simp [Value.ownBlock] at hg; exact hg.symm⟩ (fun g hg => ?_) (fun g _ hg => hg)
  · refine hr.carry (fun _ h => h) (fun b hs => hb.block b (h.slt b hs).1) (fun l _ ob ho => ?_) (fun g hg => hg.elim)
    have hne : l ≠ d := fun e => by rw [e, hf] at ho; cases ho
    exact ⟨ob, by rw [set_hpn hne]; exact ho, rfl, upd_ne hne, upd_ne hne⟩
  · simp only [hm]; rw [List.take_of_length_le (by simp only [Array.length_toList]; omega)]
  · rcases hg with hg | hg
    · simp [Value.ownBlock] at hg; subst hg; exact ⟨hlt, .inl (.inl (Nat.le_refl _))⟩
    · exact hg.elim

theorem kz_typ (t : Nat) (z : AV) : (kz t z).typ = some t := by unfold kz; cases noLst z <;> rfl
theorem kz_rk {hp : Nat → Option OB} {sz t : Nat} {z : AV} {xs : List AV} {cs : List Value} (h : RDL w xs Fa cs) : RK S w hp B V sz xs Fa cs (kz t z) := by
  unfold kz
  cases noLst z with
  | true => exact RDL.f_rl h
  | false => exact ⟨noF, h⟩
theorem RDL.sing {x : AV} {T : Nat → Prop} {cs : List Value} (h : RD w x T cs) : RDL w [x] T cs := by
  unfold RDL; exact ⟨cs, [], T, Fa, by simp, Split.r0 noF, h, by unfold RDL; exact ⟨rfl, noF⟩⟩
theorem asz_all {x : AV} {sz : Nat} (h : asz x = sz) : ∀ y ∈ [x], asz y = sz := fun y hy => by rw [List.mem_singleton] at hy; subst hy; exact h
theorem ro_sing {hp : Nat → Option OB} {sz : Nat} {y z : AV} {T : Nat → Prop} {cs : List Value} {t : Option Nat} (hz : asz y = sz) (h : RO1 S w hp B V y T cs) : RK S w hp B V sz [z] T cs (.o t 0 y) :=
  ⟨by simp, hz, [], cs, [], Fa, T, T, Fa, by simp, Split.l0 noF, Split.r0 noF, by simp only [List.take_zero]; unfold RDL; exact ⟨rfl, noF⟩, h, by simp only [List.drop_succ_cons, List.drop_nil]; unfold RDL; exact ⟨rfl, noF⟩⟩

theorem pre_alloc (hΘ : TabOK P Θ) (hn : a.tmps.size = n) (hdf : a.defers = []) (h : SimW W M S0 s a.tmps w S B V T) {dst : Option Tmp} {t : TypeId} {ty : TypeId} {pos : String} {after : Array Edge} {guard : Option (Nat × Bool)} {e : Eff}
    (hp : Pre P Θ ⟨dst, .alloc t, ty, pos, after, guard⟩ s e) (hin : inN n dst = true) (hK : ∀ a' w', Sim W M S0 n (s.app dst e) a' w' → K a' w') : (⟨dst, .alloc t, ty, pos, after, guard⟩ : Oper).wp P a w K Q := by
  simp only [Pre] at hp
  obtain ⟨d, rfl, hf, hok, hk, rfl⟩ := hp
  obtain ⟨i0, hi0, hs0, _, ⟨zv, hz, hzr⟩, hasz, hpos⟩ := ti_info (hΘ t) hk
  have hsim := newRow_sim h hok hf (t := t) (cs := zv.cells) (xs := [(Θ.look t).zero]) (e := kz t (Θ.look t).zero) (fun t' e => by rw [kz_typ] at e; cases e; rfl) (kz_rk (RDL.sing (hzr w))) (asz_all hasz) hpos rfl (by simp [maxLen])
  refine wp_value (v := .pointer (some ⟨w.heap.size, 0, none⟩)) (w1 := w.alloc (.cells zv.cells t)) (by simp only [execOp, Sem.run_bind, run_alloc hi0 hz, Result.andThen_ok, Sem.run_pure]) (hK _ _ ?_)
  refine Sim.put hn hdf hsim (some d) ?_ hin
  unfold RV
  exact ⟨_, set_hp, by rw [upd_same]; simp⟩
theorem frzT_eq {ls : List Nat} {f : St → St} {d : Option Tmp} {v : AV} : s.app d ⟨v, frzT ls f⟩ = (f (frzL ls s)).put d v := by cases ls <;> rfl
theorem frzU_eq {ls : List Nat} {d : Option Tmp} {v : AV} : s.app d ⟨v, frzU ls⟩ = (frzL ls s).put d v := by cases ls <;> rfl

theorem pre_box (hΘ : TabOK P Θ) (hn : a.tmps.size = n) (hdf : a.defers = []) (h : SimW W M S0 s a.tmps w S B V T) {dst : Option Tmp} {t : TypeId} {x : Operand} {ty : TypeId} {pos : String} {after : Array Edge} {guard : Option (Nat × Bool)} {e : Eff}
    (hp : Pre P Θ ⟨dst, .box t x, ty, pos, after, guard⟩ s e) (hin : inN n dst = true) (hK : ∀ a' w', Sim W M S0 n (s.app dst e) a' w' → K a' w') : (⟨dst, .box t x, ty, pos, after, guard⟩ : Oper).wp P a w K Q := by
  simp only [Pre] at hp
  obtain ⟨hc, d, rfl, hf, hok, hk, hp⟩ := hp
  obtain ⟨i0, hi0, hs0, _, _, _, hpos⟩ := ti_info (hΘ t) hk
  have hrv := ev_rv h x hc
  rcases hp with ⟨hsz, hd, hall, rfl⟩ | ⟨y, hy, hsz, rfl⟩
  · obtain ⟨S', mm, h', r, f, g⟩ := frzL_sim (ownsA (s.ev x)) hall h
    have hra := (dat_rv (hp' := s.hp) (B' := B) (V' := V) h mm (fun l hl ob ho hs => r l hl ob ho hs) hd hrv).2
    have hsim := newRow_sim h' hok (f (d + 1) hf) (t := t) (cs := (a.eval x).cells) (xs := [s.dat (s.ev x)]) (e := .s t) (fun t' e => by cases e; rfl) (RL.sing hra) (asz_all hsz) hpos rfl (by simp [maxLen])
    refine wp_value (v := .pointer (some ⟨w.heap.size, 0, none⟩)) (w1 := w.alloc (.cells (a.eval x).cells t)) (by simp only [execOp, Sem.run_bind, run_box, Result.andThen_ok, Sem.run_pure]) (hK _ _ ?_)
    rw [frzT_eq]
    refine Sim.put hn hdf hsim (some d) ?_ hin
    unfold RV
    exact ⟨_, set_hp, by rw [upd_same]; simp⟩
  · have hro := hrv.toO h.oneV hy
    have hsim := newRow_sim h hok hf (t := t) (cs := (a.eval x).cells) (xs := [y]) (e := .o (some t) 0 y) (fun t' e => by cases e; rfl) (ro_sing hsz hro) (asz_all hsz) hpos rfl (by simp [maxLen])
    refine wp_value (v := .pointer (some ⟨w.heap.size, 0, none⟩)) (w1 := w.alloc (.cells (a.eval x).cells t)) (by simp only [execOp, Sem.run_bind, run_box, Result.andThen_ok, Sem.run_pure]) (hK _ _ ?_)
    refine Sim.put hn hdf hsim (some d) ?_ hin
    unfold RV
    exact ⟨_, set_hp, by rw [upd_same]; simp⟩

theorem parts_asz : ∀ (ps : List (Nat × Operand)) (z : List AV) (sz : Nat), (∀ x ∈ z, asz x = sz) → partsOK s z ps → (∀ x ∈ setParts s z ps, asz x = sz) ∧ (setParts s z ps).length = z.length
  | [], z, sz, h, _ => ⟨h, rfl⟩
  | (i, x) :: ps, z, sz, h, hp => by
    obtain ⟨⟨y, hy, hsz⟩, hd, hp'⟩ := hp
    have := parts_asz ps (z.set i (s.dat (s.ev x))) sz (fun q hq => by
      rcases List.mem_or_eq_of_mem_set hq with hq | rfl
      · exact h q hq
      · rw [hsz]; exact h y (List.mem_of_getElem? hy)) hp'
    exact ⟨this.1, by rw [setParts, this.2]; simp⟩
theorem setParts_fold : ∀ (ps : List (Nat × Operand)) (z : List AV), setParts s z ps = ps.foldl (fun z x => z.set x.1 (s.dat (s.ev x.2))) z
  | [], z => rfl
  | (i, x) :: ps, z => by rw [setParts, setParts_fold ps, List.foldl_cons]
theorem partsOK_at : ∀ (ps : List (Nat × Operand)) (z : List AV), partsOK s z ps → (∀ x ∈ ps, isDataA s (s.ev x.2) = true) ∧ ∀ pre q post, ps = pre ++ q :: post → ∃ y, (pre.foldl (fun z x => z.set x.1 (s.dat (s.ev x.2))) z)[q.1]? = some y ∧ asz (s.dat (s.ev q.2)) = asz y
  | [], z, _ => ⟨by simp, fun pre q post e => by cases pre <;> simp at e⟩
  | (i, x) :: ps, z, hp => by
    obtain ⟨hy, hd, hp'⟩ := hp
    obtain ⟨k1, k2⟩ := partsOK_at ps _ hp'
    refine ⟨fun q hq => ?_, fun pre q post e => ?_⟩
    · rcases List.mem_cons.1 hq with rfl | hq
      · exact hd
      · exact k1 q hq
    · cases pre with
      | nil => simp at e; obtain ⟨rfl, _⟩ := e; exact hy
      | cons p pre => simp at e; obtain ⟨rfl, e⟩ := e; exact k2 pre q post e
theorem mixParts_fold : ∀ (ps : List (Nat × Operand)) (z : List AV), mixParts s z ps = ps.foldl (fun z x => z.set x.1 ((toO (s.ev x.2)).getD .any)) z
  | [], z => rfl
  | (i, x) :: ps, z => by rw [mixParts, mixParts_fold ps, List.foldl_cons]
theorem mixOK_at : ∀ (ps : List (Nat × Operand)) (z : List AV), mixOK s z ps → (∀ x ∈ ps, ∃ y, toO (s.ev x.2) = some y) ∧ ∀ pre q post, ps = pre ++ q :: post → ∃ y, (pre.foldl (fun z x => z.set x.1 ((toO (s.ev x.2)).getD .any)) z)[q.1]? = some y ∧ asz ((toO (s.ev q.2)).getD .any) = asz y
  | [], z, _ => ⟨by simp, fun pre q post e => by cases pre <;> simp at e⟩
  | (i, x) :: ps, z, hp => by
    obtain ⟨⟨y, y', hy, hy', hsz⟩, hp'⟩ := hp
    obtain ⟨k1, k2⟩ := mixOK_at ps _ hp'
    refine ⟨fun q hq => ?_, fun pre q post e => ?_⟩
    · rcases List.mem_cons.1 hq with rfl | hq
      · exact ⟨y', hy'⟩
      · exact k1 q hq
    · cases pre with
      | nil => simp at e; obtain ⟨rfl, _⟩ := e; exact ⟨y, hy, by rw [hy']; exact hsz⟩
      | cons p pre => simp at e; obtain ⟨rfl, e⟩ := e; exact k2 pre q post e
theorem ROs.setAt {hp : Nat → Option OB} (z : List AV) (cs : List Value) (i : Nat) (x y : AV) (us : List Value) (h : ROs S w hp B V z Fa cs) (hy : z[i]? = some y) (hx : RO1 S w hp B V x Fa us) (hz : asz x = asz y) :
    ROs S w hp B V (z.set i x) Fa (cs.take (aszs (z.take i)) ++ us ++ cs.drop (aszs (z.take i) + us.length)) ∧ us.length = asz x ∧ aszs (z.take i) + us.length ≤ cs.length := by
  obtain ⟨c1, c2, c3, T1, Tr, e, hl, k1, k2, k3⟩ := ROs.focus i h hy
  obtain ⟨n1, n2⟩ := k2.none noF
  have e1 := RO1.size _ _ _ hx
  have e2 := RO1.size _ _ _ k1
  have := k3 x us Fa Fa hx (by rw [n2.eq noF]; exact Split.l0 noF)
  refine ⟨?_, e1, by rw [e]; simp only [List.length_append]; omega⟩
  have e3 : cs.take (aszs (z.take i)) = c1 := by rw [e, ← hl, List.take_left]
  have e4 : cs.drop (aszs (z.take i) + us.length) = c3 := by
    rw [e, ← hl, ← List.drop_drop, List.drop_left, show us.length = c2.length from by omega, List.drop_left]
  rw [e3, e4, List.append_assoc]; exact this
theorem run_build_gen {t : TypeId} {fs : List (Nat × Nat)} {z : List AV} (hT : TIok P t (.struct fs z)) (R : List AV → List Value → Prop) (put : AV → List Value → Prop) (hset : ∀ (z : List AV) (cs : List Value) (i : Nat) (x y : AV) (us : List Value), R z cs → z[i]? = some y → put x us → asz x = asz y → R (z.set i x) (cs.take (aszs (z.take i)) ++ us ++ cs.drop (aszs (z.take i) + us.length)) ∧ us.length = asz x ∧ aszs (z.take i) + us.length ≤ cs.length)
    (zz : List AV) (hzz : zz.map asz = z.map asz) (hzr : ∀ cs, RDL w z Fa cs → R zz cs) (dat : Operand → AV) (ps : Array (Nat × Operand)) (hall : ∀ x ∈ ps.toList, put (dat x.2) (a.eval x.2).cells.toList) (hp : ∀ (pre : List (Nat × Operand)) (q : Nat × Operand) (post : List (Nat × Operand)), ps.toList = pre ++ q :: post → ∃ y, (pre.foldl (fun z x => z.set x.1 (dat x.2)) zz)[q.1]? = some y ∧ asz (dat q.2) = asz y) :
    ∃ cs, (Instr.build t (ps.map fun (i, x) => (i, a.eval x))).run P w = .ok (.agg cs) w ∧ R (ps.toList.foldl (fun z x => z.set x.1 (dat x.2)) zz) cs.toList := by
  obtain ⟨fields, i, cs, hu, ho, hi, hs, hpos, hm, hz, hr⟩ := hT
  have hplaces : ∀ (l : List Field) (f2 : List (Nat × Nat)) (k : Nat), offsOK P k l f2 → (l.mapM (fun f => do pure (f.offset, ← sizeOf f.type) : Field → Sem (Nat × Nat))).run P w = .ok f2 w := by
    intro l
    induction l with
    | nil => intro f2 k h; cases f2 with
      | nil => simp
      | cons _ _ => simp [offsOK] at h
    | cons f l ih =>
      intro f2 k h
      cases f2 with
      | nil => simp [offsOK] at h
      | cons q f2 =>
        obtain ⟨o', z'⟩ := q
        obtain ⟨h1, h2, h3, h4, h5⟩ := h
        cases hj : P.info? f.type with
        | none => rw [hj] at h4; simp at h4
        | some j =>
          rw [hj] at h4
          simp at h4
          have hsz : (sizeOf f.type).run P w = .ok z' w := by simp [sizeOf, typeInfo, hj, h4]
          simp only [List.mapM_cons, Sem.run_bind, Sem.run_pure, Result.andThen_ok, hsz, ih f2 _ h5, h1]
  have hpl := hplaces _ _ _ ho
  have hplace : ∀ i y, zz[i]? = some y → (fs.toArray)[i]? = some (aszs (zz.take i), asz y) := fun i y hy => by
    have e := congrArg (fun l => l[i]?) (hzz.trans hm)
    simp only [List.getElem?_map, hy, Option.map_some] at e
    cases hq : fs[i]? with
    | none => rw [hq] at e; simp at e
    | some q =>
      obtain ⟨o', z'⟩ := q
      rw [hq] at e
      simp at e
      obtain ⟨_, _, _, _, _, k5⟩ := offs_at _ _ _ ho i o' z' hq
      have ht : aszs (zz.take i) = sizes (fs.take i) := aszs_sizes _ _ (by rw [List.map_take, List.map_take, hzz, hm])
      simp [hq, k5, ht, e]
  obtain ⟨cells', h1, h2⟩ := fill_gen R put hset (place := fun i => fs.toArray[i]?) dat a.eval ps.toList zz cs hall (hzr _ (hr w)) hp hplace
  refine ⟨cells', ?_, h2⟩
  have hmap : (ps.map fun (i, x) => (i, a.eval x)).toList = ps.toList.map fun x => (x.1, a.eval x.2) := by simp
  have hmp : (fields.mapM (fun f => do pure (f.offset, ← sizeOf f.type) : Field → Sem (Nat × Nat))).run P w = .ok fs.toArray w := by
    rw [Array.mapM_eq_mapM_toList]
    simp only [Sem.run_map, hpl, Result.andThen_ok]
  simp only [Instr.build, zeroValue, typeInfo, Sem.run_bind, run_program, Result.andThen_ok, hi, Sem.run_pure, hz, run_underlying hu, Value.cells, hmp, hmap]
  simp only [h1, Sem.run_pure]
theorem RL.setAt {S : Nat → Prop} (z : List AV) (cs : List Value) (i : Nat) (x y : AV) (us : List Value) (h : RL S w z cs) (hy : z[i]? = some y) (hx : RA S w x us) (hz : asz x = asz y) :
    RL S w (z.set i x) (cs.take (aszs (z.take i)) ++ us ++ cs.drop (aszs (z.take i) + us.length)) ∧ us.length = asz x ∧ aszs (z.take i) + us.length ≤ cs.length := by
  have e1 := RA.size _ _ hx
  obtain ⟨qs, k1, k2, _⟩ := RL.at i h hy
  have e2 := RA.size _ _ k1
  exact ⟨RL.set i h hy hx hz, e1, by omega⟩
theorem nilL_asz : ∀ (z : List AV) (cs : List Value), RDL w z Fa cs → (nilL z).map asz = z.map asz
  | [], _, _ => rfl
  | x :: z, cs, h => by
    unfold RDL at h
    obtain ⟨c1, c2, T1, T2, e, hs, h1, h2⟩ := h
    obtain ⟨n1, n2⟩ := hs.none noF
    rw [n1.eq noF] at h1
    rw [n2.eq noF] at h2
    simp only [nilL, List.map_cons, nilL_asz z c2 h2, (nilA_ro (S := fun _ => False) (hp := fun _ => none) (B := fun _ => 0) (V := fun _ => undef) x c1 h1).2]

theorem pre_build (hΘ : TabOK P Θ) (hn : a.tmps.size = n) (hdf : a.defers = []) (h : SimW W M S0 s a.tmps w S B V T) {dst : Option Tmp} {t : TypeId} {ps : Array (Nat × Operand)} {ty : TypeId} {pos : String} {after : Array Edge} {guard : Option (Nat × Bool)} {e : Eff}
    (hp : Pre P Θ ⟨dst, .build t ps, ty, pos, after, guard⟩ s e) (hin : inN n dst = true) (hK : ∀ a' w', Sim W M S0 n (s.app dst e) a' w' → K a' w') : (⟨dst, .build t ps, ty, pos, after, guard⟩ : Oper).wp P a w K Q := by
  simp only [Pre] at hp
  obtain ⟨fs, z, ht, hp⟩ := hp
  have hT := hΘ t
  rw [ht] at hT
  rcases hp with ⟨hps, hcs, hall, rfl⟩ | ⟨hps, hcs, rfl⟩
  · obtain ⟨S', m, h', r, f, g⟩ := frzL_sim (ownsOf s (ps.toList.map (·.2))) hall h
    obtain ⟨q1, q2⟩ := partsOK_at _ _ hps
    obtain ⟨cs, hrun, hrl⟩ := run_build_gen (P := P) (w := w) (a := a) hT (RL S' w) (RA S' w) RL.setAt z rfl (fun cs h => RDL.f_rl h) (fun x => s.dat (s.ev x)) ps (fun x hx => (dat_rv (hp' := s.hp) (B' := B) (V' := V) h m (fun l hl ob ho hs => r l (mem_ownsAL (List.mem_map.2 ⟨x.2, List.mem_map.2 ⟨x, hx, rfl⟩, rfl⟩) hl) ob ho hs) (q1 x hx) (ev_rv h x.2 (fun c e => hcs x.2 (List.mem_map.2 ⟨x, hx, rfl⟩) c e))).2) q2
    rw [← setParts_fold] at hrl
    refine wp_value (v := .agg cs) (w1 := w) (by simp only [execOp, Sem.run_bind, hrun, Result.andThen_ok, Sem.run_pure]) (hK _ _ ?_)
    rw [frzU_eq]
    exact Sim.put hn hdf h' dst (by unfold RV; exact ⟨cs.toList, by simp, hrl⟩) hin
  · obtain ⟨q1, q2⟩ := mixOK_at _ _ hps
    obtain ⟨fields, i, zc, _, _, _, _, _, _, _, hzr⟩ := id hT
    obtain ⟨cs, hrun, hrl⟩ := run_build_gen (P := P) (w := w) (a := a) hT (fun z cs => ROs S w s.hp B V z Fa cs) (fun x us => RO1 S w s.hp B V x Fa us) ROs.setAt (nilL z) (nilL_asz z _ (hzr w)) (fun cs h => (nilL_ro z cs h).1) (fun x => (toO (s.ev x)).getD .any) ps (fun x hx => by
      obtain ⟨y, hy⟩ := q1 x hx
      simp only [hy, Option.getD_some]
      exact (ev_rv h x.2 (fun c e => hcs x.2 (List.mem_map.2 ⟨x, hx, rfl⟩) c e)).toO h.oneV hy) q2
    rw [← mixParts_fold] at hrl
    exact pure_step (x := .mix (mixParts s (nilL z) ps.toList)) (v := .agg cs) hn hdf h (by simp only [execOp, Sem.run_bind, hrun, Result.andThen_ok, Sem.run_pure]) (by unfold RV; exact ⟨cs.toList, by simp, hrl⟩) hin hK

theorem ownsAll {z : AV} {sz : Nat} {k : Nat} (h : asz z = sz) : ∀ x ∈ List.replicate k z, asz x = sz := fun x hx => by rw [(List.mem_replicate.1 hx).2]; exact h
theorem rep_place {z : AV} {sz m : Nat} (hasz : asz z = sz) : ∀ i y, (List.replicate m z)[i]? = some y → (fun i => some (i * sz, sz)) i = some (aszs ((List.replicate m z).take i), asz y) := fun i y hy => by
  have hy' := List.mem_of_getElem? hy
  simp only
  rw [ownsAll hasz y hy', aszs_const (sz := sz) (fun x hx => ownsAll hasz x (List.mem_of_mem_take hx)), List.length_take, Nat.min_eq_left (Nat.le_of_lt (List.getElem?_eq_some_iff.1 hy).1)]
theorem run_buildS {t el : TypeId} {sz b : Nat} {z : AV} (hT : TIok P t (.slice el sz b z)) {m : Nat} {ps : Array (Nat × Operand)} (hsmall : m * sz ≤ 65536) {cells' : Array Value} {zv : Value} {i : TypeInfo} (hi : P.info? el = some i) (hz : i.zero = some zv) (hfill : Instr.fill (fun i => some (i * sz, sz)) (madeCells zv.cells (m * sz)) (ps.toList.map fun x => (x.1, a.eval x.2)) = some cells') (hps : m = 0 → ps.toList = []) :
    (Instr.buildSlice t m (ps.map fun (i, x) => (i, a.eval x))).run P w = .ok (.slice (some ⟨w.heap.size, 0, none⟩) m m) (w.alloc (.cells cells' el)) := by
  obtain ⟨hu, _, i', zv', hi', hz', hs, hby, h0, hasz, hzr⟩ := hT
  rw [hi] at hi'; cases hi'
  rw [hz] at hz'; cases hz'
  have hmap : (ps.map fun (i, x) => (i, a.eval x)).toList = ps.toList.map fun x => (x.1, a.eval x.2) := by simp
  have hns : ¬ 2 ^ 24 < m * sz := by omega
  by_cases hm0 : m * sz = 0
  · have hm0' : m = 0 := by
      rcases Nat.eq_zero_or_pos m with e | e
      · exact e
      · have := Nat.mul_pos e h0; omega
    have hpe' : ps = #[] := by have := hps hm0'; cases ps; simp_all
    subst hpe'
    subst hm0'
    have hz0 : madeCells zv.cells (0 * sz) = #[] := by simp [madeCells]
    rw [hz0] at hfill
    simp [Instr.fill] at hfill
    subst hfill
    simp [Instr.buildSlice, run_underlying hu, sizeOf, typeInfo, hi, newRow, Instr.fill, Array.range_zero']
  · rw [← hs] at hfill hm0 hns
    exact run_buildSlice w t el m _ cells' i zv hu hi hz (by omega) hm0 (by rw [hmap]; exact hfill)
theorem pre_buildSlice (hΘ : TabOK P Θ) (hn : a.tmps.size = n) (hdf : a.defers = []) (h : SimW W M S0 s a.tmps w S B V T) {dst : Option Tmp} {t : TypeId} {m : Nat} {ps : Array (Nat × Operand)} {ty : TypeId} {pos : String} {after : Array Edge} {guard : Option (Nat × Bool)} {e : Eff}
    (hp : Pre P Θ ⟨dst, .buildSlice t m ps, ty, pos, after, guard⟩ s e) (hin : inN n dst = true) (hK : ∀ a' w', Sim W M S0 n (s.app dst e) a' w' → K a' w') : (⟨dst, .buildSlice t m ps, ty, pos, after, guard⟩ : Oper).wp P a w K Q := by
  simp only [Pre] at hp
  obtain ⟨d, el, sz, b, z, rfl, hf, hok, ht, hsmall, hp⟩ := hp
  have hT := hΘ t
  rw [ht] at hT
  obtain ⟨hu, _, i, zv, hi, hz, hs, hby, h0, hasz, hzr⟩ := id hT
  have hml : m ≤ maxLen := by
    have : m * 1 ≤ m * sz := Nat.mul_le_mul_left _ h0
    unfold maxLen; omega
  rcases hp with ⟨hps, hcs, hall, rfl⟩ | ⟨x, y, rfl, rfl, hc, hy, hsz, rfl⟩
  · obtain ⟨S', mm, h', r, f, g⟩ := frzL_sim (ownsOf s (ps.toList.map (·.2))) hall h
    obtain ⟨q1, q2⟩ := partsOK_at _ _ hps
    obtain ⟨cells', hfill, hrl⟩ := fill_gen (RL S' w) (RA S' w) RL.setAt (place := fun i => some (i * sz, sz)) (fun x => s.dat (s.ev x)) a.eval ps.toList (List.replicate m z) (madeCells zv.cells (m * sz)) (fun x hx => (dat_rv (hp' := s.hp) (B' := B) (V' := V) h mm (fun l hl ob ho hs => r l (mem_ownsAL (List.mem_map.2 ⟨x.2, List.mem_map.2 ⟨x, hx, rfl⟩, rfl⟩) hl) ob ho hs) (q1 x hx) (ev_rv h x.2 (fun c e => hcs x.2 (List.mem_map.2 ⟨x, hx, rfl⟩) c e))).2) (RDL.f_rl (made_sound (hzr w) hasz h0 m)) q2 (rep_place hasz)
    rw [← setParts_fold] at hrl
    have hrun := run_buildS (w := w) (a := a) hT hsmall hi hz hfill (fun hm0 => by
      cases hq : ps.toList with
      | nil => rfl
      | cons q r =>
        obtain ⟨i', x'⟩ := q
        rw [hq, hm0] at hps
        obtain ⟨⟨y, hy, _⟩, _⟩ := hps
        simp at hy)
    obtain ⟨hpa, hpl⟩ := parts_asz ps.toList (List.replicate m z) sz (ownsAll hasz) hps
    have hsim := newRow_sim h' hok (f (d + 1) hf) (t := el) (cs := cells') (e := .s el) (fun t' e => by cases e; rfl) hrl hpa h0 (by rw [hpl]; simp) hml
    refine wp_value (v := .slice (some ⟨w.heap.size, 0, none⟩) m m) (w1 := w.alloc (.cells cells' el)) (by show (do pure (Next.value (← Instr.buildSlice t m (ps.map fun (i, x) => (i, a.eval x)))) : Sem Next).run P w = _; rw [Sem.run_bind, hrun]; rfl) (hK _ _ ?_)
    rw [frzT_eq]
    refine Sim.put hn hdf hsim (some d) ?_ hin
    unfold RV
    exact ⟨⟨_, set_hp⟩, by rw [upd_same]⟩
  · have hro := (ev_rv h x hc).toO h.oneV hy
    obtain ⟨cells', hfill, hrl⟩ := fill_gen (fun z cs => ROs S w s.hp B V z Fa cs) (fun x us => RO1 S w s.hp B V x Fa us) ROs.setAt (place := fun i => some (i * sz, sz)) (fun (_ : Operand) => y) a.eval [(0, x)] (List.replicate 1 z) (madeCells zv.cells (1 * sz)) (fun q hq => by rw [List.mem_singleton] at hq; subst hq; exact hro) (RDL.toROs _ _ _ (made_sound (hzr w) hasz h0 1)) (fun pre q post e => by
      cases pre with
      | nil => simp at e; obtain ⟨rfl, _⟩ := e; exact ⟨z, by simp, by rw [hsz, hasz]⟩
      | cons p pre => simp at e) (rep_place hasz)
    have hrun := run_buildS (w := w) (a := a) (ps := #[(0, x)]) hT hsmall hi hz (by simpa using hfill) (fun hm0 => by cases hm0)
    have hrl' : ROs S w s.hp B V [y] Fa cells'.toList := by simpa using hrl
    unfold ROs at hrl'
    obtain ⟨c1, c2, T1, T2, e1, s1, k1, k2⟩ := hrl'
    unfold ROs at k2
    obtain ⟨rfl, _⟩ := k2
    rw [(s1.none noF).1.eq noF] at k1
    rw [List.append_nil] at e1
    have hsim := newRow_sim h hok hf (t := el) (cs := cells') (xs := [y]) (e := .o (some el) 0 y) (fun t' e => by cases e; rfl) (ro_sing hsz (by rw [e1]; exact k1)) (asz_all hsz) h0 rfl hml
    refine wp_value (v := .slice (some ⟨w.heap.size, 0, none⟩) 1 1) (w1 := w.alloc (.cells cells' el)) (by show (do pure (Next.value (← Instr.buildSlice t 1 ((#[(0, x)] : Array (Nat × Operand)).map fun (i, x) => (i, a.eval x)))) : Sem Next).run P w = _; rw [Sem.run_bind, hrun]; rfl) (hK _ _ ?_)
    refine Sim.put hn hdf hsim (some d) ?_ hin
    unfold RV
    exact ⟨⟨_, set_hp⟩, by rw [upd_same]; simp⟩

theorem pre_make (hΘ : TabOK P Θ) (hn : a.tmps.size = n) (hdf : a.defers = []) (h : SimW W M S0 s a.tmps w S B V T) {dst : Option Tmp} {t : TypeId} {l c : Operand} {ty : TypeId} {pos : String} {after : Array Edge} {guard : Option (Nat × Bool)} {e : Eff}
    (hp : Pre P Θ ⟨dst, .makeSlice t l c, ty, pos, after, guard⟩ s e) (hin : inN n dst = true) (hK : ∀ a' w', Sim W M S0 n (s.app dst e) a' w' → K a' w') : (⟨dst, .makeSlice t l c, ty, pos, after, guard⟩ : Oper).wp P a w K Q := by
  simp only [Pre] at hp
  obtain ⟨d, el, sz, b, z, m, k, k', rfl, hf, hok, ht, hl, hc, hb, h63, rfl⟩ := hp
  have hT := hΘ t
  rw [ht] at hT
  obtain ⟨hu, _, i, zv, hi, hz, hs, hby, h0, hasz, hzr⟩ := hT
  have hmade := made_sound (hzr w) hasz h0 m
  have hbi : (i.bytes : Int) * (m : Int) ≤ 281474976710656 := by
    have : ((i.bytes * m : Nat) : Int) ≤ 281474976710656 := by rw [hby]; omega
    rwa [Int.natCast_mul] at this
  have hrun := run_make (P := P) w t el i zv hu hi hz k k' m m (by omega) (by omega) hbi (by omega)
  simp only [Int.toNat_natCast, hs] at hrun
  have hsim := newRow_sim h hok hf (t := el) (cs := madeCells zv.cells (m * sz)) (e := kz el z) (fun t' e => by rw [kz_typ] at e; cases e; rfl) (kz_rk hmade) (ownsAll hasz) h0 (m := m) (by simp) (by unfold maxLen; omega)
  refine wp_value (v := .slice (some ⟨w.heap.size, 0, none⟩) m m) (w1 := w.alloc (.cells (madeCells zv.cells (m * sz)) el)) (by simp only [execOp, ev_int h hl, ev_int h hc, Sem.run_bind, hrun, Result.andThen_ok, Sem.run_pure]) (hK _ _ ?_)
  refine Sim.put hn hdf hsim (some d) ?_ hin
  unfold RV
  exact ⟨⟨_, set_hp⟩, by rw [upd_same]⟩
end
end Go.Proofs.Ytmafbodblpgcjaa.AM
