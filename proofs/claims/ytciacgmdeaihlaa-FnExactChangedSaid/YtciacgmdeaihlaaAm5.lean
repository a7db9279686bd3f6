/- The machine over data: what an operation does in memory is what it does to the data (all but calls and append). -/
import Derived.Test.YtciacgmdeaihlaaAm4
namespace Go.Proofs.Ytciacgmdeaihlaa.AM
open Go Go.RowKit

theorem RA.of_noS {x : AV} {cs : List Value} {S : Nat → Prop} {w w' : World} (h : RA NoS w x cs) : RA S w' x cs := h.mono (fun _ h => h.elim) (fun _ h => h.elim) x cs

theorem aszs_sizes : ∀ (z : List AV) (fs : List (Nat × Nat)), z.map asz = fs.map (·.2) → aszs z = sizes fs
  | [], [], _ => rfl
  | [], _ :: _, h => by simp at h
  | _ :: _, [], h => by simp at h
  | x :: z, (o, q) :: fs, h => by
    simp at h
    simp only [aszs, sizes, h.1, aszs_sizes z fs (by simpa using h.2)]
theorem ti_info {P : Program} {t : TypeId} {ti : TI} (h : TIok P t ti) (hk : ti.known = true) :
    ∃ i, P.info? t = some i ∧ i.size = ti.size ∧ (∀ w, (isAgg t).run P w = .ok ti.isAgg w) ∧ (∃ zv, i.zero = some zv ∧ ∀ w, RA NoS w ti.zero zv.cells.toList) ∧ asz ti.zero = ti.size ∧ 0 < ti.size := by
  cases ti with
  | non => simp [TI.known] at hk
  | str =>
    obtain ⟨hu, i, hi, hs, hz⟩ := h
    exact ⟨i, hi, hs, fun w => by simp [isAgg, run_underlying hu, TI.isAgg], ⟨_, hz, fun w => by simp [TI.zero, Value.cells]; unfold RA; exact ⟨rfl, rfl⟩⟩, rfl, by simp [TI.size]⟩
  | int k =>
    obtain ⟨hu, i, hi, hs, hz⟩ := h
    exact ⟨i, hi, hs, fun w => by simp [isAgg, run_underlying hu, TI.isAgg], ⟨_, hz, fun w => by simp [TI.zero, Value.cells]; unfold RA; exact ⟨rfl, rfl⟩⟩, rfl, by simp [TI.size]⟩
  | bool =>
    obtain ⟨hu, i, hi, hs, hz⟩ := h
    exact ⟨i, hi, hs, fun w => by simp [isAgg, run_underlying hu, TI.isAgg], ⟨_, hz, fun w => by simp [TI.zero, Value.cells]; unfold RA; exact ⟨rfl, rfl⟩⟩, rfl, by simp [TI.size]⟩
  | slice e sz b z =>
    obtain ⟨hu, ⟨j, hj, hs, hz⟩, i, zv, _, _, _, _, h0, _⟩ := h
    exact ⟨j, hj, hs, fun w => by simp [isAgg, run_underlying hu, TI.isAgg], ⟨_, hz, fun w => by
      simp [TI.zero, Value.cells]; unfold RA; exact ⟨none, 0, rfl, Nat.le_refl _, Nat.zero_le _, by simp, h0, .inl rfl⟩⟩, rfl, by simp [TI.size]⟩
  | struct fs z =>
    obtain ⟨fields, i, cs, hu, _, hi, hs, hpos, hm, hz, hr⟩ := h
    refine ⟨i, hi, hs, fun w => by simp [isAgg, run_underlying hu, TI.isAgg], ⟨_, hz, fun w => by simp [TI.zero, Value.cells]; unfold RA; exact hr w⟩, ?_, hpos⟩
    simp only [TI.zero, TI.size, asz]
    exact aszs_sizes z fs hm

section
variable {P : Program} {Θ : Tab} {W : World} {M : Option Value} {S0 : Nat → Prop} {n : Nat} {s : St} {a : Act} {w : World} {S : Nat → Prop} {B : Nat → Nat} {V : Nat → Value} {tmps : Array Value}

theorem wp_value {o : Oper} {K : Act → World → Prop} {Q : Exit → Act → World → Prop} {v : Value} {w1 : World} (h : (execOp a.eval o).run P w = .ok (.value v) w1) (hk : K (a.put o.dst v) w1) : o.wp P a w K Q := by
  unfold Oper.wp; rw [h]; exact hk
theorem wp_skipped {o : Oper} {K : Act → World → Prop} {Q : Exit → Act → World → Prop} {w1 : World} (h : (execOp a.eval o).run P w = .ok .skip w1) (hk : K (a.put o.dst undef) w1) : o.wp P a w K Q := by
  unfold Oper.wp; rw [h]; exact hk

theorem ev_rv (h : SimW W M S0 s a.tmps w S B V) (x : Operand) (hc : ∀ c, x = .const c → c.oneCell' = true) : RV S w s.hp B V (s.ev x) (a.eval x) := by
  cases x with
  | tmp t => exact h.sl t
  | const c => show RV S w s.hp B V (.v c) c; unfold RV; exact ⟨rfl, hc c rfl⟩
  | global g => show RV S w s.hp B V .any _; unfold RV; trivial
  | func f => show RV S w s.hp B V .any _; unfold RV; trivial
theorem concL_eq : ∀ {xs : List AV} {cs us : List Value}, conc.concL xs = some cs → RL S w xs us → us = cs
  | [], cs, us, h, k => by unfold RL at k; simp [conc.concL] at h; rw [k, h]
  | .v x :: r, cs, us, h, k => by
    unfold RL at k
    obtain ⟨c1, c2, e, h1, h2⟩ := k
    unfold RA at h1
    simp only [conc.concL, Option.map_eq_some_iff] at h
    obtain ⟨cs', h3, rfl⟩ := h
    rw [e, h1.1, concL_eq h3 h2]; rfl
  | .any :: r, cs, us, h, k => by simp [conc.concL] at h
  | .agg _ :: r, cs, us, h, k => by simp [conc.concL] at h
  | .lst _ _ :: r, cs, us, h, k => by simp [conc.concL] at h
  | .ptr _ :: r, cs, us, h, k => by simp [conc.concL] at h
  | .own _ :: r, cs, us, h, k => by simp [conc.concL] at h
  | .optr _ _ _ _ :: r, cs, us, h, k => by simp [conc.concL] at h
  | .tup _ :: r, cs, us, h, k => by simp [conc.concL] at h
theorem ev_conc (h : SimW W M S0 s a.tmps w S B V) {x : Operand} {b : Value} (hc : conc (s.ev x) = some b) : a.eval x = b := by
  cases x with
  | tmp t =>
    have ht := h.sl t
    simp only [St.ev] at hc
    show a.tmps.getD t undef = b
    cases hx : s.sl t with
    | v x => rw [hx] at hc ht; unfold RV at ht; simp [conc] at hc; rw [ht.1, hc]
    | agg xs =>
      rw [hx] at hc ht
      unfold RV at ht
      obtain ⟨cs, e, hr⟩ := ht
      simp only [conc, Option.map_eq_some_iff] at hc
      obtain ⟨cs', h1, rfl⟩ := hc
      rw [e, concL_eq h1 hr]
    | _ => rw [hx] at hc; simp [conc] at hc
  | const c => simp [St.ev, conc] at hc; exact hc
  | global g => simp [St.ev, conc] at hc
  | func f => simp [St.ev, conc] at hc
theorem ev_int (h : SimW W M S0 s a.tmps w S B V) {x : Operand} {b : Value} (hc : s.ev x = .v b) : a.eval x = b := ev_conc h (by rw [hc]; rfl)
theorem ev_tmp (h : SimW W M S0 s a.tmps w S B V) {x : Operand} {y : AV} (hy : s.ev x = y) (hn : ∀ c, y ≠ .v c) : RV S w s.hp B V y (a.eval x) := by
  have := ev_rv h x (fun c hc => by subst hc; exact absurd hy.symm (by simpa [St.ev] using hn c))
  rwa [hy] at this

/-- a run of an operation that leaves the world: the value in its slot -/
theorem pure_step (hn : a.tmps.size = n) (hdf : a.defers = []) (h : SimW W M S0 s a.tmps w S B V) {o : Oper} {K : Act → World → Prop} {Q : Exit → Act → World → Prop} {x : AV} {v : Value} (hr : (execOp a.eval o).run P w = .ok (.value v) w) (hx : RV S w s.hp B V x v) (hin : inN n o.dst = true)
    (hK : ∀ a' w', Sim W M S0 n (s.put o.dst x) a' w' → K a' w') : o.wp P a w K Q :=
  wp_value hr (hK _ _ (Sim.put hn hdf h o.dst hx hin))

theorem add_off (b o j : Nat) : (⟨b, o, none⟩ : Addr).add j = ⟨b, o + j, none⟩ := by unfold Addr.add; split <;> simp_all
theorem run_load_at (t : TypeId) {b off : Nat} {us : List Value} {i : TypeInfo} (hi : P.info? t = some i) (hs : i.size = us.length) (hc : ∀ j u, us[j]? = some u → w.cell? ⟨b, off + j, none⟩ = some u) {g : Bool} (hg : (isAgg t).run P w = .ok g w) (h1 : g = false → us.length = 1) :
    (Instr.loadAt t (.pointer (some ⟨b, off, none⟩))).run P w = .ok (if g then .agg us.toArray else us.headD undef) w := by
  simp only [Instr.loadAt, Instr.sureAddr, loadVar, Sem.run_bind, Sem.run_pure, Result.andThen_ok, hg]
  cases g with
  | true =>
    have := run_loadCells_list (P := P) w ⟨b, off, none⟩ us (fun j v hv => by rw [add_off]; exact hc j v hv)
    simp [sizeOf, typeInfo, hi, hs, this]
  | false =>
    have hl := h1 rfl
    match us, hl with
    | [u], _ =>
      have := hc 0 u rfl
      simp only [Nat.add_zero] at this
      simp [this]

theorem RO.block {ob : OB} {g : Nat} {v : Value} {base : Nat} (h : RO S w base ob g v) (hne : ob.xs ≠ []) : ∃ cs cap cur, RL S w ob.xs cs ∧ (∀ x ∈ ob.xs, asz x = ob.sz) ∧ v = .slice (some ⟨g, 0, none⟩) ob.xs.length cap ∧ base ≤ g ∧ ¬ S g ∧ w.heap[g]? = some (.cells cur ob.e (0, 0)) ∧ ob.xs.length ≤ cap ∧ cap ≤ maxLen ∧ cur.size = cap * ob.sz ∧ cur.toList.take (ob.xs.length * ob.sz) = cs := by
  obtain ⟨cs, h1, h2, _, h3, h4⟩ := h
  rcases h3.2 with ⟨_, hn⟩ | ⟨g', cap, cur, rfl, hb, hg, hc, hm, hs, ht⟩
  · exact absurd (List.eq_nil_of_length_eq_zero hn) hne
  · obtain ⟨rfl, hns⟩ := h4 g' rfl
    exact ⟨cs, cap, cur, h1, h2, rfl, hb, hns, hg, hc, hm, hs, ht⟩

/-- a new row's block -/
theorem newRow_sim (h : SimW W M S0 s tmps w S B V) {d : Nat} (hd0 : d ≠ 0) (hf : s.hp d = none) {t : TypeId} {sz m : Nat} {xs : List AV} {cs : Array Value} (hr : RL S w xs cs.toList) (ha : ∀ x ∈ xs, asz x = sz) (h0 : 0 < sz) (hm : xs.length = m) (hmax : m ≤ maxLen) :
    SimW W M S0 (s.set d (some ⟨t, sz, xs⟩)) tmps (w.alloc (.cells cs t)) S (upd B d w.heap.size) (upd V d (.slice (some ⟨w.heap.size, 0, none⟩) m m)) := by
  have hb : Below w.heap.size w (w.alloc (.cells cs t)) := (Below.refl _ _).alloc (Nat.le_refl _) _
  have hw : ∀ b, S b → (w.alloc (.cells cs t)).heap[b]? = w.heap[b]? := fun b hs => hb.block b (h.slt b hs).1
  have hl := RL.size _ _ hr
  rw [aszs_const ha, Array.length_toList, hm] at hl
  refine (h.world hb).row hd0 hf ?_ (fun g hg => .inl (by simp [Value.ownBlock] at hg; subst hg; exact h.below.size)) (fun l ob' g' ho' e1 e2 => ?_)
  · refine ⟨cs.toList, RL.mono (fun _ h => h) hw _ _ hr, ha, h0, ⟨by simp only [Array.length_toList, hm, hl], .inr ⟨w.heap.size, m, cs, by simp [hm], Nat.zero_le _, heap_alloc_new w _, by simp [hm], hmax, hl, ?_⟩⟩, fun g hg => ?_⟩
    · simp only [hm]; rw [List.take_of_length_le (by simp only [Array.length_toList]; omega)]
    · simp [Value.ownBlock] at hg
      subst hg
      exact ⟨rfl, fun hs => absurd (h.slt _ hs).1 (by omega)⟩
  · have := ((h.hp l ob' ho').lt g' e1).2
    simp [Value.ownBlock] at e2
    omega

theorem frzL_sim : ∀ (ls : List Nat) {s : St} {S : Nat → Prop}, SimW W M S0 s tmps w S B V → ∃ S', (∀ b, S b → S' b) ∧ SimW W M S0 (frzL ls s) tmps w S' B V ∧ (∀ l ∈ ls, ∀ ob, s.hp l = some ob → RA S' w (.lst ob.sz ob.xs) [V l]) ∧ (∀ d, s.hp d = none → (frzL ls s).hp d = none) ∧ (∀ d, d ∉ ls → (frzL ls s).hp d = s.hp d)
  | [], s, S, h => ⟨S, fun _ h => h, h, by simp, fun _ h => h, fun _ _ => rfl⟩
  | l :: ls, s, S, h => by
    obtain ⟨S1, m1, h1, r1⟩ := h.frz l
    obtain ⟨S2, m2, h2, r2, f2, g2⟩ := frzL_sim ls h1
    have hne : ∀ d, d ≠ l → (s.frz l).hp d = s.hp d := fun d hd => by
      unfold St.frz
      cases s.hp l with
      | none => rfl
      | some ob => simp [nbne hd]
    have hnone : ∀ d, s.hp d = none → (s.frz l).hp d = none := fun d hd => by
      by_cases e : d = l
      · unfold St.frz
        cases ho : s.hp l with
        | none => exact hd
        | some ob => simp [e]
      · rw [hne d e, hd]
    refine ⟨S2, fun b hb => m2 b (m1 b hb), h2, fun l' hl' ob ho => ?_, fun d hd => f2 d (hnone d hd), fun d hd => ?_⟩
    · by_cases e : l' = l
      · subst e; exact (r1 ob ho).mono m2 (fun _ _ => rfl) _ _
      · rcases List.mem_cons.1 hl' with e' | hm
        · exact absurd e' e
        · exact r2 l' hm ob (by rw [hne l' e]; exact ho)
    · simp at hd
      exact (g2 d hd.2).trans (hne d hd.1)
theorem mem_ownsOf : ∀ {xs : List Operand} {x : Operand} {l : Nat}, x ∈ xs → s.ev x = .own l → l ∈ ownsOf s xs
  | y :: xs, x, l, hx, he => by
    unfold ownsOf
    rcases List.mem_cons.1 hx with rfl | hm
    · rw [he]; simp
    · have := mem_ownsOf hm he
      cases hy : s.ev y <;> simp [this]

/-- what is stored, once its rows are given up, reads as its datum -/
theorem dat_ra (h : SimW W M S0 s a.tmps w S B V) {S' : Nat → Prop} (hm : ∀ b, S b → S' b) {xs : List Operand} (hr : ∀ l ∈ ownsOf s xs, ∀ ob, s.hp l = some ob → RA S' w (.lst ob.sz ob.xs) [V l]) {x : Operand} (hx : x ∈ xs) (hd : isDataA (s.dat (s.ev x)) = true) :
    RA S' w (s.dat (s.ev x)) (a.eval x).cells.toList := by
  have hmono : ∀ {y : AV} {u : Value}, RV S w s.hp B V y u → RV S' w s.hp B V y u := fun hy => RV.carry hm (fun _ _ => rfl) _ _ (fun l ob _ ho => ⟨ob, ho, rfl, rfl, rfl⟩) hy
  cases he : s.ev x with
  | v c =>
    rw [he] at hd
    have hev := ev_int h he
    rw [hev]
    have h1 : c.oneCell' = true := hd
    show RA S' w (.v c) _
    unfold RA
    refine ⟨?_, h1⟩
    cases c <;> first | rfl | simp [Value.oneCell'] at h1
  | agg ys => exact RA.ofRV (hmono (ev_tmp h he (fun c => by simp [St.dat]))) trivial
  | lst sz ys => exact RA.ofRV (hmono (ev_tmp h he (fun c => by simp [St.dat]))) trivial
  | own l =>
    have hv := ev_tmp h he (fun c => by simp)
    unfold RV at hv
    obtain ⟨⟨ob, ho⟩, e⟩ := hv
    have := hr l (mem_ownsOf hx he) ob ho
    show RA S' w (match s.hp l with | some ob => .lst ob.sz ob.xs | none => .any) _
    rw [ho, e]
    have hro := h.hp l ob ho
    obtain ⟨cs, _, _, _, h3, _⟩ := hro
    rcases h3.2 with ⟨hv0, _⟩ | ⟨g, cap, cur, hv0, _⟩
    · rw [hv0] at this ⊢; simpa [Value.cells] using this
    · rw [hv0] at this ⊢; simpa [Value.cells] using this
  | _ => rw [he] at hd; simp [St.dat, isDataA] at hd
end
end Go.Proofs.Ytciacgmdeaihlaa.AM
