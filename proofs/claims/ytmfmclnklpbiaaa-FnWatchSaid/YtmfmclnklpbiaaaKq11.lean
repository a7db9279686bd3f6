/- Texts of the machine over data, folded. -/
import Derived.Test.YtmfmclnklpbiaaaKq5
import Derived.Test.YtmfmclnklpbiaaaKq10
namespace Go.Proofs.Ytmfmclnklpbiaaa.AM
open Go Go.RowKit
set_option linter.unusedVariables false
set_option linter.unusedSimpArgs false
set_option maxRecDepth 100000
theorem newE_take {s : Int} {q : List Evt} {k : Nat} (h : k < q.length) : newE s (q.take (k + 1)) = if s < q[k].ver then newE s (q.take k) ++ [q[k]] else newE s (q.take k) := by
  unfold newE
  rw [List.take_succ_eq_append_getElem h, List.filter_append]
  by_cases c : s < q[k].ver <;> simp [List.filter_cons, c]
theorem WInv.fin_evs {start : Int} {w : Wat} {list : List Evt} {room : Bool} (h : WInv start w list room) : evsB (list ++ newE start w.queue) = true := h.evs
theorem WInv.fin_room {start : Int} {w : Wat} {list : List Evt} {room : Bool} (h : WInv start w list room) : room = true → ∀ k, (hk : k < (list ++ newE start w.queue).length) → (list ++ newE start w.queue)[k].ver = start + 1 + k ∧ (list ++ newE start w.queue)[k].lag = false := fun hr k hk => ⟨(h.room hr k hk).2, (h.room hr k hk).1⟩
theorem WInv.fin_last {start : Int} {w : Wat} {list : List Evt} {room : Bool} (h : WInv start w list room) : w.seen = start ∨ ∃ hp : 0 < (list ++ newE start w.queue).length, (list ++ newE start w.queue)[(list ++ newE start w.queue).length - 1].ver = w.seen := by
  rcases h.last with ⟨_, e⟩ | ⟨b, hb, e⟩
  · exact .inl e
  · rw [List.getLast?_eq_getElem?] at hb
    obtain ⟨hi, rfl⟩ := List.getElem?_eq_some_iff.1 hb
    exact .inr ⟨by omega, e⟩
theorem WInv.fin_len {start : Int} {w : Wat} {list : List Evt} {room : Bool} (h : WInv start w list room) : room = true → (((list ++ newE start w.queue).length : Nat) : Int) = w.seen - start := fun hr => by
  rcases h.last with ⟨e1, e⟩ | ⟨b, hb, e⟩
  · rw [e1, e]; simp
  · rw [List.getLast?_eq_getElem?] at hb
    obtain ⟨hi, hb2⟩ := List.getElem?_eq_some_iff.1 hb
    have := (h.room hr _ hi).2
    rw [hb2] at this
    omega
theorem verAt_bd {l : List Rf} (g : GoodR l) (hv : ∀ r ∈ l, r.ver ≤ 4) (x : ByteArray) : 0 ≤ verAt l x ∧ verAt l x ≤ 1000000 := by
  by_cases h : rAt l x 0 < 0
  · rw [verAt_no h]; omega
  · obtain ⟨j, hj, e, _⟩ := rAt_lt (by omega : 0 ≤ rAt l x 0)
    rw [verAt_at hj e]
    have := hv _ (List.getElem_mem hj)
    obtain ⟨v0, v1⟩ := rf_ver g.ok hj
    omega
attribute [local irreducible] ACode AOps AOps2 RetG RetM Pre ACG
theorem ac_sameEvents_t {xs : List Evt} (hm : xs.length ≤ 1048576) : AC Try.prog 25 [.lst 3 (xs.map evtA), .lst 3 (xs.map evtA)] ⟨.v (.bool true), []⟩ := by
  refine r_of Th_ok (by kernel_rfl) Try.func25 rfl Try.ntmps25 Try.results25 (by kernel_rfl) rfl ?_; conv => whnf
  repeat (((first | refine qb rfl rfl ?_ | refine qi (by assumption) rfl rfl ?_ | refine ql rfl ?_ | refine qo rfl rfl ?_ | refine qs rfl rfl ?_ | refine qn rfl rfl ?_); conv => whnf))
  refine r_loop (ι := { k : Nat // k ≤ xs.length }) (fun k => ⟨[(0, .lst 3 (xs.map evtA)), (1, .lst 3 (xs.map evtA)), (5, .v (.int .i64 (k.1 : Int)))], []⟩) (fun k => xs.length - k.1) ⟨0, Nat.zero_le _⟩ (by refine ⟨?_, ?_⟩ <;> (repeat (first | trivial | exact ⟨rfl, trivial⟩ | refine ⟨rfl, ?_⟩ | refine ⟨.inl ⟨rfl, rfl⟩, ?_⟩ | refine ⟨.inr ⟨_, _, rfl, rfl, rfl, rfl, rfl⟩, ?_⟩))) ?_
  rintro ⟨k, hk⟩
  dsimp only
  conv => whnf
  by_cases hlt : k < xs.length
  · repeat (((first | refine qb rfl rfl ?_ | refine qi (by assumption) rfl rfl ?_ | refine ql rfl ?_ | refine qo rfl rfl ?_ | refine qs rfl rfl ?_ | refine qn rfl rfl ?_); conv => whnf))
    refine .inl ⟨by kernel_rfl, ?_⟩
    conv => whnf
    repeat (first | ((first | refine qb rfl rfl ?_ | refine qi (by assumption) rfl rfl ?_ | refine ql rfl ?_ | refine qo rfl rfl ?_ | refine qs rfl rfl ?_ | refine qn rfl rfl ?_); conv => whnf) | (refine r_put (p_binA (b_evtne (a := xs[k]) (b := xs[k]) (r := false) (by simp)) rfl rfl rfl) rfl rfl ?_; conv => whnf))
    exact ⟨⟨k + 1, hlt⟩, by refine ⟨?_, ?_⟩ <;> (repeat (first | trivial | exact ⟨rfl, trivial⟩ | refine ⟨rfl, ?_⟩ | refine ⟨.inl ⟨rfl, rfl⟩, ?_⟩ | refine ⟨.inr ⟨_, _, rfl, rfl, rfl, rfl, rfl⟩, ?_⟩)), by simp; omega⟩
  · repeat (((first | refine qb rfl rfl ?_ | refine qi (by assumption) rfl rfl ?_ | refine ql rfl ?_ | refine qo rfl rfl ?_ | refine qs rfl rfl ?_ | refine qn rfl rfl ?_); conv => whnf))
    exact r_ret1 rfl trivial
set_option maxHeartbeats 16000000 in
theorem law_Watch {c m : List UInt8} (hc : c.length ≤ maxLen) (hm : m.length ≤ maxLen) : AC Try.prog 4 [.lst 1 (c.map bytA), .lst 1 (m.map bytA)] ⟨.v (.bool true), []⟩ := by
  have hc' := hc
  have hm' := hm
  unfold maxLen at hc' hm'
  by_cases l0 : 1048576 < c.length
  · refine r_of Th_ok (by kernel_rfl) Try.func4 rfl Try.ntmps4 Try.results4 (by kernel_rfl) rfl ?_; conv => whnf
    repeat (((first | refine qb rfl rfl ?_ | refine qi (by assumption) rfl rfl ?_ | refine ql rfl ?_ | refine qo rfl rfl ?_ | refine qs rfl rfl ?_ | refine qn rfl rfl ?_); conv => whnf))
    exact r_ret1 rfl trivial
  by_cases l1 : 1048576 < m.length
  · refine r_of Th_ok (by kernel_rfl) Try.func4 rfl Try.ntmps4 Try.results4 (by kernel_rfl) rfl ?_; conv => whnf
    repeat (((first | refine qb rfl rfl ?_ | refine qi (by assumption) rfl rfl ?_ | refine ql rfl ?_ | refine qo rfl rfl ?_ | refine qs rfl rfl ?_ | refine qn rfl rfl ?_); conv => whnf))
    exact r_ret1 rfl trivial
  have e1 := ac_WatchDrawn hc
  obtain ⟨hw0, hs0, hn0⟩ := watD_ok c
  generalize watD c = w0 at *
  have e0 := ac_at (i := 0) (n := 9) hm (by omega) (by omega)
  have hat := atS_lt (m := m) (i := 0) (n := 9) (by omega)
  obtain ⟨N, hN⟩ : ∃ N, N = 3 + atS m 0 9 := ⟨_, rfl⟩
  have hsr0 := ((watB_iff w0).1 hw0).2.1
  have hI0 := WInv.start hw0
  obtain ⟨start, hst⟩ : ∃ s : Int, s = w0.seen := ⟨_, rfl⟩
  rw [← hst] at hI0
  have hst0 : 0 ≤ start ∧ start ≤ 10 := by omega
  have e2 := ac_RefsDrawn hm
  obtain ⟨gl, ll⟩ := rfD_ok m
  generalize rfD m = refs at *
  have hver : ∀ r ∈ refs, r.ver ≤ 4 := fun r hr => (gl.small r hr).1
  have nl : refs.length ≤ maxLen := by unfold maxLen; omega
  have nk : nmOK maxLen refs := fun e he => by have := (gl.small e he).2; unfold maxLen; omega
  as_aux_lemma =>
    refine o_of Th_ok (by kernel_rfl) Try.func4 rfl Try.ntmps4 Try.results4 (by kernel_rfl) rfl ?_
    refine c_seq ?_
    refine runC_sound _ _ _ ?_
    conv => whnf
    repeat (first | ((first | refine qb rfl rfl ?_ | refine qi (by assumption) rfl rfl ?_ | refine ql rfl ?_ | refine qo rfl rfl ?_ | refine qs rfl rfl ?_ | refine qn rfl rfl ?_); conv => whnf))
    refine c_seq ?_
    refine runC_sound _ _ _ ?_
    conv => whnf
    repeat (first | ((first | refine qb rfl rfl ?_ | refine qi (by assumption) rfl rfl ?_ | refine ql rfl ?_ | refine qo rfl rfl ?_ | refine qs rfl rfl ?_ | refine qn rfl rfl ?_); conv => whnf))
    refine c_cut (ι := Unit) (fun _ => ⟨[(1, .lst 1 (m.map bytA)), (5, .optr 6 0 [] 0)], [(6, ⟨.s 26, 3, [watA (w0)]⟩)], []⟩) ?_ (fun _ => ?_)
    · refine runC_sound _ _ _ ?_
      conv => whnf
      repeat (first | (refine qc (e1) rfl ?_; conv => whnf) | ((first | refine qb rfl rfl ?_ | refine qi (by assumption) rfl rfl ?_ | refine ql rfl ?_ | refine qo rfl rfl ?_ | refine qs rfl rfl ?_ | refine qn rfl rfl ?_); conv => whnf))
      refine r_gh (p_ostoreo rfl rfl rfl rfl rfl rfl) rfl rfl (fun e => by cases e) (Gh.foldr 6 45 [2] rfl rfl rfl rfl rfl rfl (Gh.shuts 6 rfl rfl (Gh.done ?_)))
      conv => whnf
      exact ⟨(), ⟨by refine ⟨?_, ?_⟩ <;> (repeat (first | trivial | exact ⟨rfl, trivial⟩ | refine ⟨rfl, ?_⟩ | refine ⟨.inl ⟨rfl, rfl⟩, ?_⟩ | refine ⟨.inr ⟨_, _, rfl, rfl, rfl, rfl, rfl⟩, ?_⟩)), trivial⟩⟩
    refine c_seq ?_
    refine runC_sound _ _ _ ?_
    conv => whnf
    repeat (first | ((first | refine qb rfl rfl ?_ | refine qi (by assumption) rfl rfl ?_ | refine ql rfl ?_ | refine qo rfl rfl ?_ | refine qs rfl rfl ?_ | refine qn rfl rfl ?_); conv => whnf))
    refine c_seq ?_
    refine runC_sound _ _ _ ?_
    conv => whnf
    repeat (first | ((first | refine qb rfl rfl ?_ | refine qi (by assumption) rfl rfl ?_ | refine ql rfl ?_ | refine qo rfl rfl ?_ | refine qs rfl rfl ?_ | refine qn rfl rfl ?_); conv => whnf))
    refine c_cut (ι := Unit) (fun _ => ⟨[(1, .lst 1 (m.map bytA)), (5, .optr 6 0 [] 0), (6, .own 46), (7, .v (.bool (true))), (8, .v (.int .i64 (start)))], [(6, ⟨.s 26, 3, [watA (w0)]⟩), (46, evtO ([]))], []⟩) ?_ (fun _ => ?_)
    · refine runC_sound _ _ _ ?_
      conv => whnf
      repeat (first | ((first | refine qb rfl rfl ?_ | refine qi (by assumption) rfl rfl ?_ | refine ql rfl ?_ | refine qo rfl rfl ?_ | refine qs rfl rfl ?_ | refine qn rfl rfl ?_); conv => whnf))
      rw [hst]
      exact ⟨(), ⟨by refine ⟨?_, ?_⟩ <;> (repeat (first | trivial | exact ⟨rfl, trivial⟩ | refine ⟨rfl, ?_⟩ | refine ⟨.inl ⟨rfl, rfl⟩, ?_⟩ | refine ⟨.inr ⟨_, _, rfl, rfl, rfl, rfl, rfl⟩, ?_⟩)), trivial⟩⟩
    refine c_seq ?_
    refine c_seq ?_
    refine runC_sound _ _ _ ?_
    conv => whnf
    repeat (first | ((first | refine qb rfl rfl ?_ | refine qi (by assumption) rfl rfl ?_ | refine ql rfl ?_ | refine qo rfl rfl ?_ | refine qs rfl rfl ?_ | refine qn rfl rfl ?_); conv => whnf))
    repeat (first | refine c_block ?_ | refine q_then ?_)
    refine c_loop (fun p : { p : Nat × Wat × List Evt × Bool // p.1 ≤ N ∧ WInv start p.2.1 p.2.2.1 p.2.2.2 ∧ p.2.1.name = w0.name ∧ p.2.1.seen ≤ 10 + p.1 ∧ p.2.2.1.length ≤ p.1 } => ⟨[(1, .lst 1 (m.map bytA)), (5, .optr 6 0 [] 0), (6, .own 46), (7, .v (.bool (p.1.2.2.2))), (8, .v (.int .i64 (start))), (9, .v (.int .i64 (((p.1.1 : Nat) : Int))))], [(6, ⟨.s 26, 3, [watA (p.1.2.1)]⟩), (46, evtO (p.1.2.2.1))], []⟩) (fun p => N - p.1.1) ⟨(0, w0, [], true), by omega, hI0, rfl, by show w0.seen ≤ 10 + ((0 : Nat) : Int); omega, by simp⟩ ⟨by refine ⟨?_, ?_⟩ <;> (repeat (first | trivial | exact ⟨rfl, trivial⟩ | refine ⟨rfl, ?_⟩ | refine ⟨.inl ⟨rfl, rfl⟩, ?_⟩ | refine ⟨.inr ⟨_, _, rfl, rfl, rfl, rfl, rfl⟩, ?_⟩)), trivial⟩ ?_
    rintro ⟨⟨i, w, list, room⟩, hi, hI, hnm, hsn, hll⟩
    dsimp only at hi hI hnm hsn hll ⊢
    have hwB := hI.ok
    have hok : w.ok maxLen := ⟨by rw [hnm]; unfold maxLen; omega, by have := (watB_of hwB).2; unfold maxLen; omega⟩
    have hq4 := (watB_of hwB).2
    have hsr := ((watB_iff w).1 hwB).2.1
    by_cases hlt : i < N
    · have at1 := ac_at (i := i) (n := 3) hm (by omega) (by omega)
      have at2 := ac_at (i := i + 1) (n := 9) hm (by omega) (by omega)
      have hat2 := atS_lt (m := m) (i := i + 1) (n := 9) (by omega)
      refine c_seq ?_
      refine runC_sound _ _ _ ?_
      conv => whnf
      repeat (first | (refine qc (e0) rfl ?_; conv => whnf) | (refine r_put (p_bin (b_add (c := ((N : Nat) : Int)) (by omega) (by omega) (by omega)) rfl rfl rfl) rfl rfl ?_; conv => whnf) | ((first | refine qb rfl rfl ?_ | refine qi (by assumption) rfl rfl ?_ | refine ql rfl ?_ | refine qo rfl rfl ?_ | refine qs rfl rfl ?_ | refine qn rfl rfl ?_); conv => whnf))
      refine c_seq (c_block ?_)
      refine c_seq ?_
      refine c_seq ?_
      refine runC_sound _ _ _ ?_
      conv => whnf
      repeat (first | (refine qc (at1) rfl ?_; conv => whnf) | ((first | refine qb rfl rfl ?_ | refine qi (by assumption) rfl rfl ?_ | refine ql rfl ?_ | refine qo rfl rfl ?_ | refine qs rfl rfl ?_ | refine qn rfl rfl ?_); conv => whnf))
      by_cases h0 : atS m i 3 = 0
      · repeat (first | (refine r_put (p_bin (b_eq_t (by omega)) rfl rfl rfl) rfl rfl ?_; conv => whnf) | ((first | refine qb rfl rfl ?_ | refine qi (by assumption) rfl rfl ?_ | refine ql rfl ?_ | refine qo rfl rfl ?_ | refine qs rfl rfl ?_ | refine qn rfl rfl ?_); conv => whnf))
        have n1 := ac_iNext hok hwB
        have n2 := ac_sNext hok hwB
        have hkd : watB (nextR w).1 = true := watB_drop hwB
        have hok1 : (nextR w).1.ok maxLen := ⟨hok.1, by have := (watB_of hkd).2; unfold maxLen; omega⟩
        have n3 := ac_iSameWatch hok1 hok1
        have hsw : swtB (nextR w).1 (nextR w).1 = true := by unfold swtB; rw [hkd]; simp
        rw [hsw] at n3
        refine c_cond_t rfl ?_
        refine c_cut (ι := Unit) (fun _ => ⟨[(1, .lst 1 (m.map bytA)), (5, .optr 6 0 [] 0), (6, .own 46), (7, .v (.bool (room))), (8, .v (.int .i64 (start))), (9, .v (.int .i64 (((i : Nat) : Int)))), (10, .optr 11 0 [] 0), (11, .optr 12 0 [] 0), (12, .v (.int .i64 ((nextR w).2.2)))], [(6, ⟨.s 26, 3, [watA (w)]⟩), (46, evtO (list)), (11, ⟨.s 26, 3, [watA ((nextR w).1)]⟩), (12, ⟨.s 40, 3, [evtA ((nextR w).2.1)]⟩)], []⟩) ?_ (fun _ => ?_)
        · refine runC_sound _ _ _ ?_
          conv => whnf
          repeat (first | (refine qc (n1) rfl ?_; conv => whnf) | ((first | refine qb rfl rfl ?_ | refine qi (by assumption) rfl rfl ?_ | refine ql rfl ?_ | refine qo rfl rfl ?_ | refine qs rfl rfl ?_ | refine qn rfl rfl ?_); conv => whnf))
          refine r_gh (p_ostoreo rfl rfl rfl rfl rfl rfl) rfl rfl (fun e => by cases e) (Gh.foldr 11 62 [2] rfl rfl rfl rfl rfl rfl (Gh.shuts 11 rfl rfl (Gh.done ?_)))
          conv => whnf
          repeat (first | (refine r_step (p_ostore rfl rfl rfl rfl rfl (by conv => lhs; whnf) rfl) rfl rfl (fun e => by first | exact .inl rfl | contradiction | exact .inr (.inl (by kernel_rfl))) ?_; conv => whnf) | ((first | refine qb rfl rfl ?_ | refine qi (by assumption) rfl rfl ?_ | refine ql rfl ?_ | refine qo rfl rfl ?_ | refine qs rfl rfl ?_ | refine qn rfl rfl ?_); conv => whnf))
          exact ⟨(), ⟨by refine ⟨?_, ?_⟩ <;> (repeat (first | trivial | exact ⟨rfl, trivial⟩ | refine ⟨rfl, ?_⟩ | refine ⟨.inl ⟨rfl, rfl⟩, ?_⟩ | refine ⟨.inr ⟨_, _, rfl, rfl, rfl, rfl, rfl⟩, ?_⟩)), trivial⟩⟩
        refine c_cut (ι := Unit) (fun _ => ⟨[(1, .lst 1 (m.map bytA)), (5, .optr 6 0 [] 0), (6, .own 46), (7, .v (.bool (room))), (8, .v (.int .i64 (start))), (9, .v (.int .i64 (((i : Nat) : Int)))), (10, .optr 11 0 [] 0), (11, .optr 12 0 [] 0), (12, .v (.int .i64 ((nextR w).2.2))), (13, .optr 14 0 [] 0), (14, .optr 15 0 [] 0), (15, .v (.int .i64 ((nextR w).2.2)))], [(6, ⟨.s 26, 3, [watA (w)]⟩), (46, evtO (list)), (11, ⟨.s 26, 3, [watA ((nextR w).1)]⟩), (12, ⟨.s 40, 3, [evtA ((nextR w).2.1)]⟩), (14, ⟨.s 26, 3, [watA ((nextR w).1)]⟩), (15, ⟨.s 40, 3, [evtA ((nextR w).2.1)]⟩)], []⟩) ?_ (fun _ => ?_)
        · refine runC_sound _ _ _ ?_
          conv => whnf
          repeat (first | (refine qc (n2) rfl ?_; conv => whnf) | ((first | refine qb rfl rfl ?_ | refine qi (by assumption) rfl rfl ?_ | refine ql rfl ?_ | refine qo rfl rfl ?_ | refine qs rfl rfl ?_ | refine qn rfl rfl ?_); conv => whnf))
          refine r_gh (p_ostoreo rfl rfl rfl rfl rfl rfl) rfl rfl (fun e => by cases e) (Gh.foldr 14 68 [2] rfl rfl rfl rfl rfl rfl (Gh.shuts 14 rfl rfl (Gh.done ?_)))
          conv => whnf
          repeat (first | (refine r_step (p_ostore rfl rfl rfl rfl rfl (by conv => lhs; whnf) rfl) rfl rfl (fun e => by first | exact .inl rfl | contradiction | exact .inr (.inl (by kernel_rfl))) ?_; conv => whnf) | ((first | refine qb rfl rfl ?_ | refine qi (by assumption) rfl rfl ?_ | refine ql rfl ?_ | refine qo rfl rfl ?_ | refine qs rfl rfl ?_ | refine qn rfl rfl ?_); conv => whnf))
          exact ⟨(), ⟨by refine ⟨?_, ?_⟩ <;> (repeat (first | trivial | exact ⟨rfl, trivial⟩ | refine ⟨rfl, ?_⟩ | refine ⟨.inl ⟨rfl, rfl⟩, ?_⟩ | refine ⟨.inr ⟨_, _, rfl, rfl, rfl, rfl, rfl⟩, ?_⟩)), trivial⟩⟩
        refine c_cut (ι := Unit) (fun _ => ⟨[(1, .lst 1 (m.map bytA)), (5, .optr 6 0 [] 0), (6, .own 46), (7, .v (.bool (room))), (8, .v (.int .i64 (start))), (9, .v (.int .i64 (((i : Nat) : Int)))), (13, .optr 14 0 [] 0), (14, .optr 15 0 [] 0), (15, .v (.int .i64 ((nextR w).2.2)))], [(6, ⟨.s 26, 3, [watA (w)]⟩), (46, evtO (list)), (14, ⟨.s 26, 3, [watA ((nextR w).1)]⟩), (15, ⟨.s 40, 3, [evtA ((nextR w).2.1)]⟩)], []⟩) ?_ (fun _ => ?_)
        · refine runC_sound _ _ _ ?_
          conv => whnf
          repeat (first | (refine r_put (p_bin (b_ne_f rfl) rfl rfl rfl) rfl rfl ?_; conv => whnf) | (refine r_put (p_binA (b_evtne (a := (nextR w).2.1) (b := (nextR w).2.1) (r := false) (by simp)) rfl rfl rfl) rfl rfl ?_; conv => whnf) | (refine qc (n3) rfl ?_; conv => whnf) | ((first | refine qb rfl rfl ?_ | refine qi (by assumption) rfl rfl ?_ | refine ql rfl ?_ | refine qo rfl rfl ?_ | refine qs rfl rfl ?_ | refine qn rfl rfl ?_); conv => whnf))
          exact ⟨(), ⟨by refine ⟨?_, ?_⟩ <;> (repeat (first | trivial | exact ⟨rfl, trivial⟩ | refine ⟨rfl, ?_⟩ | refine ⟨.inl ⟨rfl, rfl⟩, ?_⟩ | refine ⟨.inr ⟨_, _, rfl, rfl, rfl, rfl, rfl⟩, ?_⟩)), trivial⟩⟩
        cases hqu : w.queue with
        | nil =>
          have hI2 := hI.empty hqu
          have hc5 : (nextR w).2.2 = 5 := by unfold nextR; rw [hqu]; rfl
          rw [hc5]
          refine c_cut (ι := Unit) (fun _ => ⟨[(1, .lst 1 (m.map bytA)), (5, .optr 6 0 [] 0), (6, .own 46), (7, .v (.bool (room))), (8, .v (.int .i64 (start))), (9, .v (.int .i64 (((i : Nat) : Int)))), (13, .optr 14 0 [] 0)], [(6, ⟨.s 26, 3, [watA (w)]⟩), (46, evtO (list)), (14, ⟨.s 26, 3, [watA ((nextR w).1)]⟩)], []⟩) ?_ (fun _ => ?_)
          · refine runC_sound _ _ _ ?_
            conv => whnf
            repeat (first | ((first | refine qb rfl rfl ?_ | refine qi (by assumption) rfl rfl ?_ | refine ql rfl ?_ | refine qo rfl rfl ?_ | refine qs rfl rfl ?_ | refine qn rfl rfl ?_); conv => whnf))
            exact ⟨(), ⟨by refine ⟨?_, ?_⟩ <;> (repeat (first | trivial | exact ⟨rfl, trivial⟩ | refine ⟨rfl, ?_⟩ | refine ⟨.inl ⟨rfl, rfl⟩, ?_⟩ | refine ⟨.inr ⟨_, _, rfl, rfl, rfl, rfl, rfl⟩, ?_⟩)), trivial⟩⟩

          refine runC_sound _ _ _ ?_
          conv => whnf
          repeat (first | (refine r_step (p_ostore rfl rfl rfl rfl rfl (by conv => lhs; whnf) rfl) rfl rfl (fun e => by first | exact .inl rfl | contradiction | exact .inr (.inl (by kernel_rfl))) ?_; conv => whnf) | ((first | refine qb rfl rfl ?_ | refine qi (by assumption) rfl rfl ?_ | refine ql rfl ?_ | refine qo rfl rfl ?_ | refine qs rfl rfl ?_ | refine qn rfl rfl ?_); conv => whnf))
          refine runC_sound _ _ _ ?_
          conv => whnf
          repeat (first | (refine r_put (p_bin (b_add (c := ((i + 1 : Nat) : Int)) (by omega) (by omega) (by omega)) rfl rfl rfl) rfl rfl ?_; conv => whnf) | ((first | refine qb rfl rfl ?_ | refine qi (by assumption) rfl rfl ?_ | refine ql rfl ?_ | refine qo rfl rfl ?_ | refine qs rfl rfl ?_ | refine qn rfl rfl ?_); conv => whnf))
          exact ⟨⟨(i + 1, (nextR w).1, list, room), by omega, hI2, hnm, by show w.seen ≤ 10 + ((i + 1 : Nat) : Int); omega, by show list.length ≤ i + 1; omega⟩, ⟨by refine ⟨?_, ?_⟩ <;> (repeat (first | trivial | exact ⟨rfl, trivial⟩ | refine ⟨rfl, ?_⟩ | refine ⟨.inl ⟨rfl, rfl⟩, ?_⟩ | refine ⟨.inr ⟨_, _, rfl, rfl, rfl, rfl, rfl⟩, ?_⟩)), trivial⟩, by simp; omega⟩
        | cons e q =>
          have hI2 := hI.next hqu
          have hc0 : (nextR w).2.2 = 0 := by unfold nextR; rw [hqu]; rfl
          have he : (nextR w).2.1 = e := by unfold nextR; rw [hqu]; rfl
          rw [hc0, he]
          by_cases hv : start < e.ver
          · rw [if_pos hv] at hI2
            refine c_cut (ι := Unit) (fun _ => ⟨[(1, .lst 1 (m.map bytA)), (5, .optr 6 0 [] 0), (6, .own 46), (7, .v (.bool (room))), (8, .v (.int .i64 (start))), (9, .v (.int .i64 (((i : Nat) : Int)))), (13, .optr 14 0 [] 0)], [(6, ⟨.s 26, 3, [watA (w)]⟩), (46, evtO (list ++ [e])), (14, ⟨.s 26, 3, [watA ((nextR w).1)]⟩)], []⟩) ?_ (fun _ => ?_)
            · refine runC_sound _ _ _ ?_
              conv => whnf
              repeat (first | ((first | refine qb rfl rfl ?_ | refine qi (by assumption) rfl rfl ?_ | refine ql rfl ?_ | refine qo rfl rfl ?_ | refine qs rfl rfl ?_ | refine qn rfl rfl ?_); conv => whnf))
              refine r_step (p_app1r (f := evtA) (xs := list) e (list ++ [e]) rfl (by omega) rfl rfl rfl rfl rfl rfl rfl) rfl rfl (fun e => by first | exact .inl rfl | contradiction | exact .inr (.inl (by kernel_rfl))) ?_
              conv => whnf
              exact ⟨(), ⟨by refine ⟨?_, ?_⟩ <;> (repeat (first | trivial | exact ⟨rfl, trivial⟩ | refine ⟨rfl, ?_⟩ | refine ⟨.inl ⟨rfl, rfl⟩, ?_⟩ | refine ⟨.inr ⟨_, _, rfl, rfl, rfl, rfl, rfl⟩, ?_⟩)), trivial⟩⟩

            refine runC_sound _ _ _ ?_
            conv => whnf
            repeat (first | (refine r_step (p_ostore rfl rfl rfl rfl rfl (by conv => lhs; whnf) rfl) rfl rfl (fun e => by first | exact .inl rfl | contradiction | exact .inr (.inl (by kernel_rfl))) ?_; conv => whnf) | ((first | refine qb rfl rfl ?_ | refine qi (by assumption) rfl rfl ?_ | refine ql rfl ?_ | refine qo rfl rfl ?_ | refine qs rfl rfl ?_ | refine qn rfl rfl ?_); conv => whnf))
            refine runC_sound _ _ _ ?_
            conv => whnf
            repeat (first | (refine r_put (p_bin (b_add (c := ((i + 1 : Nat) : Int)) (by omega) (by omega) (by omega)) rfl rfl rfl) rfl rfl ?_; conv => whnf) | ((first | refine qb rfl rfl ?_ | refine qi (by assumption) rfl rfl ?_ | refine ql rfl ?_ | refine qo rfl rfl ?_ | refine qs rfl rfl ?_ | refine qn rfl rfl ?_); conv => whnf))
            exact ⟨⟨(i + 1, (nextR w).1, list ++ [e], room), by omega, hI2, hnm, by show w.seen ≤ 10 + ((i + 1 : Nat) : Int); omega, by simp; omega⟩, ⟨by refine ⟨?_, ?_⟩ <;> (repeat (first | trivial | exact ⟨rfl, trivial⟩ | refine ⟨rfl, ?_⟩ | refine ⟨.inl ⟨rfl, rfl⟩, ?_⟩ | refine ⟨.inr ⟨_, _, rfl, rfl, rfl, rfl, rfl⟩, ?_⟩)), trivial⟩, by simp; omega⟩
          · rw [if_neg hv] at hI2
            refine c_cut (ι := Unit) (fun _ => ⟨[(1, .lst 1 (m.map bytA)), (5, .optr 6 0 [] 0), (6, .own 46), (7, .v (.bool (room))), (8, .v (.int .i64 (start))), (9, .v (.int .i64 (((i : Nat) : Int)))), (13, .optr 14 0 [] 0)], [(6, ⟨.s 26, 3, [watA (w)]⟩), (46, evtO (list)), (14, ⟨.s 26, 3, [watA ((nextR w).1)]⟩)], []⟩) ?_ (fun _ => ?_)
            · refine runC_sound _ _ _ ?_
              conv => whnf
              repeat (first | ((first | refine qb rfl rfl ?_ | refine qi (by assumption) rfl rfl ?_ | refine ql rfl ?_ | refine qo rfl rfl ?_ | refine qs rfl rfl ?_ | refine qn rfl rfl ?_); conv => whnf))
              exact ⟨(), ⟨by refine ⟨?_, ?_⟩ <;> (repeat (first | trivial | exact ⟨rfl, trivial⟩ | refine ⟨rfl, ?_⟩ | refine ⟨.inl ⟨rfl, rfl⟩, ?_⟩ | refine ⟨.inr ⟨_, _, rfl, rfl, rfl, rfl, rfl⟩, ?_⟩)), trivial⟩⟩

            refine runC_sound _ _ _ ?_
            conv => whnf
            repeat (first | (refine r_step (p_ostore rfl rfl rfl rfl rfl (by conv => lhs; whnf) rfl) rfl rfl (fun e => by first | exact .inl rfl | contradiction | exact .inr (.inl (by kernel_rfl))) ?_; conv => whnf) | ((first | refine qb rfl rfl ?_ | refine qi (by assumption) rfl rfl ?_ | refine ql rfl ?_ | refine qo rfl rfl ?_ | refine qs rfl rfl ?_ | refine qn rfl rfl ?_); conv => whnf))
            refine runC_sound _ _ _ ?_
            conv => whnf
            repeat (first | (refine r_put (p_bin (b_add (c := ((i + 1 : Nat) : Int)) (by omega) (by omega) (by omega)) rfl rfl rfl) rfl rfl ?_; conv => whnf) | ((first | refine qb rfl rfl ?_ | refine qi (by assumption) rfl rfl ?_ | refine ql rfl ?_ | refine qo rfl rfl ?_ | refine qs rfl rfl ?_ | refine qn rfl rfl ?_); conv => whnf))
            exact ⟨⟨(i + 1, (nextR w).1, list, room), by omega, hI2, hnm, by show w.seen ≤ 10 + ((i + 1 : Nat) : Int); omega, by show list.length ≤ i + 1; omega⟩, ⟨by refine ⟨?_, ?_⟩ <;> (repeat (first | trivial | exact ⟨rfl, trivial⟩ | refine ⟨rfl, ?_⟩ | refine ⟨.inl ⟨rfl, rfl⟩, ?_⟩ | refine ⟨.inr ⟨_, _, rfl, rfl, rfl, rfl, rfl⟩, ?_⟩)), trivial⟩, by simp; omega⟩

      · repeat (first | (refine r_put (p_bin (b_eq_f (by omega)) rfl rfl rfl) rfl rfl ?_; conv => whnf) | ((first | refine qb rfl rfl ?_ | refine qi (by assumption) rfl rfl ?_ | refine ql rfl ?_ | refine qo rfl rfl ?_ | refine qs rfl rfl ?_ | refine qn rfl rfl ?_); conv => whnf))
        obtain ⟨hd, hhd⟩ : ∃ hd : Int, hd = 1 + ((atS m (i + 1) 9 : Nat) : Int) := ⟨_, rfl⟩
        obtain ⟨r, hr⟩ : ∃ r : Rf, r = ⟨w.name, hd, w.seen + 1, false⟩ := ⟨_, rfl⟩
        have hrv : r.ver = w.seen + 1 := by rw [hr]
        have hrn : r.name = w.name := by rw [hr]
        have hrh : r.head = hd := by rw [hr]
        have hrB : refB r = true := by rw [hr, refB_iff]; exact ⟨((watB_iff w).1 hwB).1, ⟨by show 1 ≤ w.seen + 1; omega, by show w.seen + 1 ≤ 1000000; omega⟩, by simp; omega⟩
        have hI2 := hI.note hrv (by omega) (by omega) (by omega)
        have hrs : r.name.size ≤ maxLen := by rw [hrn]; exact hok.1
        have n1 := ac_iNote hok hrs hwB hrB
        have n2 := ac_sNote hok hrs hwB hrB
        have hnR : noteR w r = (noteW w r, 0) := by unfold noteR; rw [if_pos hrn, if_pos hrv]
        rw [hnR] at n1 n2
        dsimp only at n1 n2
        have hkd := hI2.ok
        have hok1 : (noteW w r).ok maxLen := ⟨hok.1, by have := (watB_of hkd).2; unfold maxLen; omega⟩
        have n3 := ac_iSameWatch hok1 hok1
        have hsw : swtB (noteW w r) (noteW w r) = true := by unfold swtB; rw [hkd]; simp
        rw [hsw] at n3
        have n4 := ac_iWatchOK hok1
        rw [hkd] at n4
        have hq5 := (watB_of hkd).2
        have hsn2 : (noteW w r).seen = w.seen + 1 := hrv
        have hnm2 : (noteW w r).name = w0.name := hnm
        refine c_cond_f rfl ?_
        refine c_skip ?_
        repeat (first | refine q_then ?_)
        refine c_cut (ι := Unit) (fun _ => ⟨[(1, .lst 1 (m.map bytA)), (5, .optr 6 0 [] 0), (6, .own 46), (7, .v (.bool (room))), (8, .v (.int .i64 (start))), (9, .v (.int .i64 (((i : Nat) : Int)))), (16, .optr 17 0 [] 0)], [(6, ⟨.s 26, 3, [watA (w)]⟩), (46, evtO (list)), (17, ⟨.s 44, 4, [refA r]⟩)], []⟩) ?_ (fun _ => ?_)
        · refine runC_sound _ _ _ ?_
          conv => whnf
          refine .inr ⟨by kernel_rfl, prodB_ok (by kernel_rfl), ?_⟩
          iterate 2 (refine o2_calm (p_ofld rfl rfl rfl) rfl rfl rfl (.inl rfl) (by kernel_rfl) ?_; refine o2_calm (p_old rfl rfl rfl rfl rfl rfl rfl) rfl rfl rfl (.inr rfl) (by kernel_rfl) ?_)
          refine o2_calm (p_bin (b_add (c := w.seen + 1) (by omega) (by omega) (by omega)) rfl rfl rfl) rfl rfl rfl (.inl rfl) (by kernel_rfl) ?_
          iterate 2 refine o2_calm (p_mv rfl) rfl rfl rfl (.inl rfl) (by kernel_rfl) ?_
          refine o2_calm (p_bin (b_add (c := ((i + 1 : Nat) : Int)) (by omega) (by omega) (by omega)) rfl rfl rfl) rfl rfl rfl (.inl rfl) (by kernel_rfl) ?_
          refine o2_sft (sft_call at2 rfl rfl rfl trivial rfl rfl rfl) in_nuO rfl rfl (by kernel_rfl) ?_
          refine o2_calm (p_bin (b_add (c := hd) (by omega) (by omega) (by omega)) rfl rfl rfl) rfl rfl rfl (.inl rfl) (by kernel_rfl) ?_
          refine o2_sft (sft_bld rfl ⟨⟨_, rfl, rfl⟩, rfl, ⟨_, rfl, rfl⟩, rfl, ⟨_, rfl, rfl⟩, rfl, trivial⟩ rfl rfl rfl) in_o0 rfl rfl (by kernel_rfl) ?_
          refine o2_sft (sft_allo rfl rfl) in_o1 rfl rfl (by kernel_rfl) ?_
          refine o2_tied (p_ostore rfl rfl rfl rfl rfl (by conv => lhs; whnf) rfl) rfl rfl (by kernel_rfl) ?_
          refine o2_nil ?_
          conv => whnf
          rw [hr]
          exact ⟨(), ⟨by refine ⟨?_, ?_⟩ <;> (repeat (first | trivial | exact ⟨rfl, trivial⟩ | refine ⟨rfl, ?_⟩ | refine ⟨.inl ⟨rfl, rfl⟩, ?_⟩ | refine ⟨.inr ⟨_, _, rfl, rfl, rfl, rfl, rfl⟩, ?_⟩)), trivial⟩⟩
        refine c_cut (ι := Unit) (fun _ => ⟨[(1, .lst 1 (m.map bytA)), (5, .optr 6 0 [] 0), (6, .own 46), (7, .v (.bool (room && decide (w.queue.length < 4)))), (8, .v (.int .i64 (start))), (9, .v (.int .i64 (((i : Nat) : Int)))), (16, .optr 17 0 [] 0)], [(6, ⟨.s 26, 3, [watA (w)]⟩), (46, evtO (list)), (17, ⟨.s 44, 4, [refA r]⟩)], []⟩) ?_ (fun _ => ?_)
        · cases room with
          | false =>
            refine runC_sound _ _ _ ?_
            conv => whnf
            repeat (first | ((first | refine qb rfl rfl ?_ | refine qi (by assumption) rfl rfl ?_ | refine ql rfl ?_ | refine qo rfl rfl ?_ | refine qs rfl rfl ?_ | refine qn rfl rfl ?_); conv => whnf))
            exact ⟨(), ⟨by refine ⟨?_, ?_⟩ <;> (repeat (first | trivial | exact ⟨rfl, trivial⟩ | refine ⟨rfl, ?_⟩ | refine ⟨.inl ⟨rfl, rfl⟩, ?_⟩ | refine ⟨.inr ⟨_, _, rfl, rfl, rfl, rfl, rfl⟩, ?_⟩)), trivial⟩⟩
          | true =>
            by_cases hl4 : w.queue.length < 4
            · rw [decide_eq_true hl4]
              refine runC_sound _ _ _ ?_
              conv => whnf
              repeat (first | ((first | refine qb rfl rfl ?_ | refine qi (by assumption) rfl rfl ?_ | refine ql rfl ?_ | refine qo rfl rfl ?_ | refine qs rfl rfl ?_ | refine qn rfl rfl ?_); conv => whnf))
              exact ⟨(), ⟨by refine ⟨?_, ?_⟩ <;> (repeat (first | trivial | exact ⟨rfl, trivial⟩ | refine ⟨rfl, ?_⟩ | refine ⟨.inl ⟨rfl, rfl⟩, ?_⟩ | refine ⟨.inr ⟨_, _, rfl, rfl, rfl, rfl, rfl⟩, ?_⟩)), trivial⟩⟩
            · rw [decide_eq_false hl4]
              refine runC_sound _ _ _ ?_
              conv => whnf
              repeat (first | ((first | refine qb rfl rfl ?_ | refine qi (by assumption) rfl rfl ?_ | refine ql rfl ?_ | refine qo rfl rfl ?_ | refine qs rfl rfl ?_ | refine qn rfl rfl ?_); conv => whnf))
              exact ⟨(), ⟨by refine ⟨?_, ?_⟩ <;> (repeat (first | trivial | exact ⟨rfl, trivial⟩ | refine ⟨rfl, ?_⟩ | refine ⟨.inl ⟨rfl, rfl⟩, ?_⟩ | refine ⟨.inr ⟨_, _, rfl, rfl, rfl, rfl, rfl⟩, ?_⟩)), trivial⟩⟩
        refine c_cut (ι := Unit) (fun _ => ⟨[(1, .lst 1 (m.map bytA)), (5, .optr 6 0 [] 0), (6, .own 46), (7, .v (.bool (room && decide (w.queue.length < 4)))), (8, .v (.int .i64 (start))), (9, .v (.int .i64 (((i : Nat) : Int)))), (16, .optr 17 0 [] 0), (17, .optr 18 0 [] 0), (18, .v (.int .i64 (0)))], [(6, ⟨.s 26, 3, [watA (w)]⟩), (46, evtO (list)), (17, ⟨.s 44, 4, [refA r]⟩), (18, ⟨.s 26, 3, [watA (noteW w r)]⟩)], []⟩) ?_ (fun _ => ?_)
        · refine runC_sound _ _ _ ?_
          conv => whnf
          repeat (first | (refine qc (n1) rfl ?_; conv => whnf) | ((first | refine qb rfl rfl ?_ | refine qi (by assumption) rfl rfl ?_ | refine ql rfl ?_ | refine qo rfl rfl ?_ | refine qs rfl rfl ?_ | refine qn rfl rfl ?_); conv => whnf))
          refine r_gh (p_ostoreo rfl rfl rfl rfl rfl rfl) rfl rfl (fun e => by cases e) (Gh.foldr 18 120 [2] rfl rfl rfl rfl rfl rfl (Gh.shuts 18 rfl rfl (Gh.done ?_)))
          conv => whnf
          repeat (first | (refine r_step (p_ostore rfl rfl rfl rfl rfl (by conv => lhs; whnf) rfl) rfl rfl (fun e => by first | exact .inl rfl | contradiction | exact .inr (.inl (by kernel_rfl))) ?_; conv => whnf) | ((first | refine qb rfl rfl ?_ | refine qi (by assumption) rfl rfl ?_ | refine ql rfl ?_ | refine qo rfl rfl ?_ | refine qs rfl rfl ?_ | refine qn rfl rfl ?_); conv => whnf))
          exact ⟨(), ⟨by refine ⟨?_, ?_⟩ <;> (repeat (first | trivial | exact ⟨rfl, trivial⟩ | refine ⟨rfl, ?_⟩ | refine ⟨.inl ⟨rfl, rfl⟩, ?_⟩ | refine ⟨.inr ⟨_, _, rfl, rfl, rfl, rfl, rfl⟩, ?_⟩)), trivial⟩⟩
        refine c_cut (ι := Unit) (fun _ => ⟨[(1, .lst 1 (m.map bytA)), (5, .optr 6 0 [] 0), (6, .own 46), (7, .v (.bool (room && decide (w.queue.length < 4)))), (8, .v (.int .i64 (start))), (9, .v (.int .i64 (((i : Nat) : Int)))), (16, .optr 17 0 [] 0), (17, .optr 18 0 [] 0), (18, .v (.int .i64 (0))), (19, .optr 20 0 [] 0), (20, .v (.int .i64 (0)))], [(6, ⟨.s 26, 3, [watA (w)]⟩), (46, evtO (list)), (17, ⟨.s 44, 4, [refA r]⟩), (18, ⟨.s 26, 3, [watA (noteW w r)]⟩), (20, ⟨.s 26, 3, [watA (noteW w r)]⟩)], []⟩) ?_ (fun _ => ?_)
        · refine runC_sound _ _ _ ?_
          conv => whnf
          repeat (first | (refine qc (n2) rfl ?_; conv => whnf) | ((first | refine qb rfl rfl ?_ | refine qi (by assumption) rfl rfl ?_ | refine ql rfl ?_ | refine qo rfl rfl ?_ | refine qs rfl rfl ?_ | refine qn rfl rfl ?_); conv => whnf))
          refine r_gh (p_ostoreo rfl rfl rfl rfl rfl rfl) rfl rfl (fun e => by cases e) (Gh.foldr 20 126 [2] rfl rfl rfl rfl rfl rfl (Gh.shuts 20 rfl rfl (Gh.done ?_)))
          conv => whnf
          repeat (first | (refine r_step (p_ostore rfl rfl rfl rfl rfl (by conv => lhs; whnf) rfl) rfl rfl (fun e => by first | exact .inl rfl | contradiction | exact .inr (.inl (by kernel_rfl))) ?_; conv => whnf) | ((first | refine qb rfl rfl ?_ | refine qi (by assumption) rfl rfl ?_ | refine ql rfl ?_ | refine qo rfl rfl ?_ | refine qs rfl rfl ?_ | refine qn rfl rfl ?_); conv => whnf))
          exact ⟨(), ⟨by refine ⟨?_, ?_⟩ <;> (repeat (first | trivial | exact ⟨rfl, trivial⟩ | refine ⟨rfl, ?_⟩ | refine ⟨.inl ⟨rfl, rfl⟩, ?_⟩ | refine ⟨.inr ⟨_, _, rfl, rfl, rfl, rfl, rfl⟩, ?_⟩)), trivial⟩⟩
        refine c_cut (ι := Unit) (fun _ => ⟨[(1, .lst 1 (m.map bytA)), (5, .optr 6 0 [] 0), (6, .own 46), (7, .v (.bool (room && decide (w.queue.length < 4)))), (8, .v (.int .i64 (start))), (9, .v (.int .i64 (((i : Nat) : Int)))), (19, .optr 20 0 [] 0)], [(6, ⟨.s 26, 3, [watA (w)]⟩), (46, evtO (list)), (20, ⟨.s 26, 3, [watA (noteW w r)]⟩)], []⟩) ?_ (fun _ => ?_)
        · refine runC_sound _ _ _ ?_
          conv => whnf
          repeat (first | (refine r_put (p_bin (b_ne_f rfl) rfl rfl rfl) rfl rfl ?_; conv => whnf) | (refine qc (n3) rfl ?_; conv => whnf) | (refine qc (n4) rfl ?_; conv => whnf) | ((first | refine qb rfl rfl ?_ | refine qi (by assumption) rfl rfl ?_ | refine ql rfl ?_ | refine qo rfl rfl ?_ | refine qs rfl rfl ?_ | refine qn rfl rfl ?_); conv => whnf))
          exact ⟨(), ⟨by refine ⟨?_, ?_⟩ <;> (repeat (first | trivial | exact ⟨rfl, trivial⟩ | refine ⟨rfl, ?_⟩ | refine ⟨.inl ⟨rfl, rfl⟩, ?_⟩ | refine ⟨.inr ⟨_, _, rfl, rfl, rfl, rfl, rfl⟩, ?_⟩)), trivial⟩⟩
        refine runC_sound _ _ _ ?_
        conv => whnf
        repeat (first | (refine r_step (p_ostore rfl rfl rfl rfl rfl (by conv => lhs; whnf) rfl) rfl rfl (fun e => by first | exact .inl rfl | contradiction | exact .inr (.inl (by kernel_rfl))) ?_; conv => whnf) | ((first | refine qb rfl rfl ?_ | refine qi (by assumption) rfl rfl ?_ | refine ql rfl ?_ | refine qo rfl rfl ?_ | refine qs rfl rfl ?_ | refine qn rfl rfl ?_); conv => whnf))
        refine runC_sound _ _ _ ?_
        conv => whnf
        repeat (first | (refine r_put (p_bin (b_add (c := ((i + 1 : Nat) : Int)) (by omega) (by omega) (by omega)) rfl rfl rfl) rfl rfl ?_; conv => whnf) | ((first | refine qb rfl rfl ?_ | refine qi (by assumption) rfl rfl ?_ | refine ql rfl ?_ | refine qo rfl rfl ?_ | refine qs rfl rfl ?_ | refine qn rfl rfl ?_); conv => whnf))
        exact ⟨⟨(i + 1, noteW w r, list, room && decide (w.queue.length < 4)), by omega, hI2, hnm2, by show (noteW w r).seen ≤ 10 + ((i + 1 : Nat) : Int); omega, by show list.length ≤ i + 1; omega⟩, ⟨by refine ⟨?_, ?_⟩ <;> (repeat (first | trivial | exact ⟨rfl, trivial⟩ | refine ⟨rfl, ?_⟩ | refine ⟨.inl ⟨rfl, rfl⟩, ?_⟩ | refine ⟨.inr ⟨_, _, rfl, rfl, rfl, rfl, rfl⟩, ?_⟩)), trivial⟩, by simp; omega⟩

    · have hkk : i = N := by omega
      have d1 := ac_iDrain hok hwB
      have d2 := ac_sDrain hok hwB
      have hwE : watB ⟨w.name, w.seen, []⟩ = true := watB_empty ((watB_iff w).1 hwB).1 hsr.1 hsr.2
      have hok2 : (⟨w.name, w.seen, []⟩ : Wat).ok maxLen := ⟨hok.1, by simp⟩
      have d3 := ac_iSameWatch hok2 hok2
      have hsw : swtB ⟨w.name, w.seen, []⟩ ⟨w.name, w.seen, []⟩ = true := by unfold swtB; rw [hwE]; simp
      rw [hsw] at d3
      have d4 := ac_sameEvents_t (xs := w.queue) (by omega)
      obtain ⟨X, hX⟩ : ∃ X, X = list ++ newE start w.queue := ⟨_, rfl⟩
      have hXl : X.length ≤ 100 := by rw [hX, List.length_append]; have : (newE start w.queue).length ≤ w.queue.length := List.length_filter_le _ _; omega
      have hfe : evsB X = true := by subst hX; exact hI.fin_evs
      have hfr : room = true → ∀ k, (hk : k < X.length) → X[k].ver = start + 1 + k ∧ X[k].lag = false := by subst hX; exact hI.fin_room
      have hfl : w.seen = start ∨ ∃ hp : 0 < X.length, X[X.length - 1].ver = w.seen := by subst hX; exact hI.fin_last
      have hfn : room = true → ((X.length : Nat) : Int) = w.seen - start := by subst hX; exact hI.fin_len
      have d5 := ac_iEventsOK (l := X) (by unfold maxLen; omega)
      have hlnX : lnB X = true := by unfold lnB; rw [hfe, decide_eq_true (by omega)]; rfl
      rw [hlnX] at d5
      have hzB : watB ⟨w.name, verAt refs w.name, []⟩ = true := watB_empty ((watB_iff w).1 hwB).1 (verAt_bd gl hver _).1 (verAt_bd gl hver _).2
      have hokz : (⟨w.name, verAt refs w.name, []⟩ : Wat).ok maxLen := ⟨hok.1, by simp⟩
      have hNm : okN w.name = true := ((watB_iff w).1 hwB).1
      have hask : askF refs w.name = 0 := askF_ok (by rw [hnm]; omega) gl.ok
      have z1 := ac_iNew nl nk hok.1 hask hNm
      have z2 := ac_sNew nl nk hok.1 hask hNm
      have z3 := ac_iSameWatch hokz hokz
      have hsz : swtB ⟨w.name, verAt refs w.name, []⟩ ⟨w.name, verAt refs w.name, []⟩ = true := by unfold swtB; rw [hzB]; simp
      rw [hsz] at z3
      refine runC_sound _ _ _ ?_
      conv => whnf
      repeat (first | (refine qc (e0) rfl ?_; conv => whnf) | (refine r_put (p_bin (b_add (c := ((i : Nat) : Int)) (by omega) (by omega) (by omega)) rfl rfl rfl) rfl rfl ?_; conv => whnf) | ((first | refine qb rfl rfl ?_ | refine qi (by assumption) rfl rfl ?_ | refine ql rfl ?_ | refine qo rfl rfl ?_ | refine qs rfl rfl ?_ | refine qn rfl rfl ?_); conv => whnf))
      refine c_cut (ι := Unit) (fun _ => ⟨[(1, .lst 1 (m.map bytA)), (5, .optr 6 0 [] 0), (6, .own 46), (7, .v (.bool (room))), (8, .v (.int .i64 (start))), (21, .v (.int .i64 (w.seen)))], [(6, ⟨.s 26, 3, [watA (w)]⟩), (46, evtO (list))], []⟩) ?_ (fun _ => ?_)
      · refine runC_sound _ _ _ ?_
        conv => whnf
        repeat (first | ((first | refine qb rfl rfl ?_ | refine qi (by assumption) rfl rfl ?_ | refine ql rfl ?_ | refine qo rfl rfl ?_ | refine qs rfl rfl ?_ | refine qn rfl rfl ?_); conv => whnf))
        exact ⟨(), ⟨by refine ⟨?_, ?_⟩ <;> (repeat (first | trivial | exact ⟨rfl, trivial⟩ | refine ⟨rfl, ?_⟩ | refine ⟨.inl ⟨rfl, rfl⟩, ?_⟩ | refine ⟨.inr ⟨_, _, rfl, rfl, rfl, rfl, rfl⟩, ?_⟩)), trivial⟩⟩
      refine c_cut (ι := Unit) (fun _ => ⟨[(1, .lst 1 (m.map bytA)), (5, .optr 6 0 [] 0), (6, .own 46), (7, .v (.bool (room))), (8, .v (.int .i64 (start))), (21, .v (.int .i64 (w.seen))), (22, .optr 23 0 [] 0), (23, .lst 3 ((w.queue).map evtA)), (24, .v (.int .i64 (0)))], [(6, ⟨.s 26, 3, [watA (w)]⟩), (46, evtO (list)), (23, ⟨.s 26, 3, [watA (⟨w.name, w.seen, []⟩)]⟩)], []⟩) ?_ (fun _ => ?_)
      · refine runC_sound _ _ _ ?_
        conv => whnf
        repeat (first | (refine qc (d1) rfl ?_; conv => whnf) | (refine r_step (p_ostore rfl rfl rfl rfl rfl (by conv => lhs; whnf) rfl) rfl rfl (fun e => by first | exact .inl rfl | contradiction | exact .inr (.inl (by kernel_rfl))) ?_; conv => whnf) | ((first | refine qb rfl rfl ?_ | refine qi (by assumption) rfl rfl ?_ | refine ql rfl ?_ | refine qo rfl rfl ?_ | refine qs rfl rfl ?_ | refine qn rfl rfl ?_); conv => whnf))
        exact ⟨(), ⟨by refine ⟨?_, ?_⟩ <;> (repeat (first | trivial | exact ⟨rfl, trivial⟩ | refine ⟨rfl, ?_⟩ | refine ⟨.inl ⟨rfl, rfl⟩, ?_⟩ | refine ⟨.inr ⟨_, _, rfl, rfl, rfl, rfl, rfl⟩, ?_⟩)), trivial⟩⟩
      refine c_cut (ι := Unit) (fun _ => ⟨[(1, .lst 1 (m.map bytA)), (5, .optr 6 0 [] 0), (6, .own 46), (7, .v (.bool (room))), (8, .v (.int .i64 (start))), (21, .v (.int .i64 (w.seen))), (22, .optr 23 0 [] 0), (23, .lst 3 ((w.queue).map evtA)), (24, .v (.int .i64 (0))), (25, .optr 26 0 [] 0), (26, .lst 3 ((w.queue).map evtA))], [(6, ⟨.s 26, 3, [watA (w)]⟩), (46, evtO (list)), (23, ⟨.s 26, 3, [watA (⟨w.name, w.seen, []⟩)]⟩), (26, ⟨.s 26, 3, [watA (⟨w.name, w.seen, []⟩)]⟩)], []⟩) ?_ (fun _ => ?_)
      · refine runC_sound _ _ _ ?_
        conv => whnf
        repeat (first | (refine qc (d2) rfl ?_; conv => whnf) | (refine r_step (p_ostore rfl rfl rfl rfl rfl (by conv => lhs; whnf) rfl) rfl rfl (fun e => by first | exact .inl rfl | contradiction | exact .inr (.inl (by kernel_rfl))) ?_; conv => whnf) | ((first | refine qb rfl rfl ?_ | refine qi (by assumption) rfl rfl ?_ | refine ql rfl ?_ | refine qo rfl rfl ?_ | refine qs rfl rfl ?_ | refine qn rfl rfl ?_); conv => whnf))
        exact ⟨(), ⟨by refine ⟨?_, ?_⟩ <;> (repeat (first | trivial | exact ⟨rfl, trivial⟩ | refine ⟨rfl, ?_⟩ | refine ⟨.inl ⟨rfl, rfl⟩, ?_⟩ | refine ⟨.inr ⟨_, _, rfl, rfl, rfl, rfl, rfl⟩, ?_⟩)), trivial⟩⟩
      refine c_cut (ι := Unit) (fun _ => ⟨[(1, .lst 1 (m.map bytA)), (5, .optr 6 0 [] 0), (6, .own 46), (7, .v (.bool (room))), (8, .v (.int .i64 (start))), (21, .v (.int .i64 (w.seen))), (26, .lst 3 ((w.queue).map evtA))], [(6, ⟨.s 26, 3, [watA (w)]⟩), (46, evtO (list))], []⟩) ?_ (fun _ => ?_)
      · refine runC_sound _ _ _ ?_
        conv => whnf
        repeat (first | (refine r_put (p_bin (b_ne_f rfl) rfl rfl rfl) rfl rfl ?_; conv => whnf) | (refine qc (d3) rfl ?_; conv => whnf) | (refine qc (d4) rfl ?_; conv => whnf) | ((first | refine qb rfl rfl ?_ | refine qi (by assumption) rfl rfl ?_ | refine ql rfl ?_ | refine qo rfl rfl ?_ | refine qs rfl rfl ?_ | refine qn rfl rfl ?_); conv => whnf))
        exact ⟨(), ⟨by refine ⟨?_, ?_⟩ <;> (repeat (first | trivial | exact ⟨rfl, trivial⟩ | refine ⟨rfl, ?_⟩ | refine ⟨.inl ⟨rfl, rfl⟩, ?_⟩ | refine ⟨.inr ⟨_, _, rfl, rfl, rfl, rfl, rfl⟩, ?_⟩)), trivial⟩⟩
      have h00 : list ++ newE start (w.queue.take 0) = list := by simp [newE]
      refine c_cut (ι := Unit) (fun _ => ⟨[(1, .lst 1 (m.map bytA)), (5, .optr 6 0 [] 0), (6, .lst 3 ((X).map evtA)), (7, .v (.bool (room))), (8, .v (.int .i64 (start))), (21, .v (.int .i64 (w.seen)))], [(6, ⟨.s 26, 3, [watA (w)]⟩)], []⟩) ?_ (fun _ => ?_)
      · refine c_seq ?_
        refine runC_sound _ _ _ ?_
        conv => whnf
        repeat (first | ((first | refine qb rfl rfl ?_ | refine qi (by assumption) rfl rfl ?_ | refine ql rfl ?_ | refine qo rfl rfl ?_ | refine qs rfl rfl ?_ | refine qn rfl rfl ?_); conv => whnf))
        repeat (first | refine c_block ?_ | refine q_then ?_)
        refine c_loop (fun k : { k : Nat // k ≤ w.queue.length } => ⟨[(1, .lst 1 (m.map bytA)), (5, .optr 6 0 [] 0), (6, .own 46), (7, .v (.bool (room))), (8, .v (.int .i64 (start))), (21, .v (.int .i64 (w.seen))), (26, .lst 3 ((w.queue).map evtA)), (28, .v (.int .i64 (((k.1 : Nat) : Int))))], [(6, ⟨.s 26, 3, [watA (w)]⟩), (46, evtO (list ++ newE start (w.queue.take k.1)))], []⟩) (fun k => w.queue.length - k.1) ⟨0, by omega⟩ ⟨by dsimp only; rw [h00]; refine ⟨?_, ?_⟩ <;> (repeat (first | trivial | exact ⟨rfl, trivial⟩ | refine ⟨rfl, ?_⟩ | refine ⟨.inl ⟨rfl, rfl⟩, ?_⟩ | refine ⟨.inr ⟨_, _, rfl, rfl, rfl, rfl, rfl⟩, ?_⟩)), trivial⟩ ?_
        rintro ⟨k, hk⟩
        dsimp only
        by_cases hkl : k < w.queue.length
        · have hne := newE_take (s := start) hkl
          have hi2 : (w.queue.map evtA)[k]? = some (evtA w.queue[k]) := by simp [hkl]
          refine c_seq ?_
          refine runC_sound _ _ _ ?_
          conv => whnf
          repeat (first | ((first | refine qb rfl rfl ?_ | refine qi (by assumption) rfl rfl ?_ | refine ql rfl ?_ | refine qo rfl rfl ?_ | refine qs rfl rfl ?_ | refine qn rfl rfl ?_); conv => whnf))
          refine c_seq (c_block ?_)
          have hnl : (newE start (w.queue.take k)).length ≤ k := Nat.le_trans (List.length_filter_le _ _) (by rw [List.length_take]; omega)
          by_cases hv : start < (w.queue[k]).ver
          · rw [if_pos hv] at hne
            have hys : (list ++ newE start (w.queue.take k)) ++ [w.queue[k]] = list ++ newE start (w.queue.take (k + 1)) := by rw [hne, List.append_assoc]
            refine runC_sound _ _ _ ?_
            conv => whnf
            repeat (first | ((first | refine qb rfl rfl ?_ | refine qi (by assumption) rfl rfl ?_ | refine ql rfl ?_ | refine qo rfl rfl ?_ | refine qs rfl rfl ?_ | refine qn rfl rfl ?_); conv => whnf))
            refine r_step (p_app1r (f := evtA) (xs := list ++ newE start (w.queue.take k)) w.queue[k] (list ++ newE start (w.queue.take (k + 1))) hys (by simp; omega) rfl rfl rfl rfl rfl rfl rfl) rfl rfl (fun e => by first | exact .inl rfl | contradiction | exact .inr (.inl (by kernel_rfl))) ?_
            conv => whnf
            refine runC_sound _ _ _ ?_
            conv => whnf
            repeat (first | (refine r_put (p_bin (b_add (c := ((k + 1 : Nat) : Int)) (by omega) (by omega) (by omega)) rfl rfl rfl) rfl rfl ?_; conv => whnf) | ((first | refine qb rfl rfl ?_ | refine qi (by assumption) rfl rfl ?_ | refine ql rfl ?_ | refine qo rfl rfl ?_ | refine qs rfl rfl ?_ | refine qn rfl rfl ?_); conv => whnf))
            exact ⟨⟨k + 1, hkl⟩, ⟨by refine ⟨?_, ?_⟩ <;> (repeat (first | trivial | exact ⟨rfl, trivial⟩ | refine ⟨rfl, ?_⟩ | refine ⟨.inl ⟨rfl, rfl⟩, ?_⟩ | refine ⟨.inr ⟨_, _, rfl, rfl, rfl, rfl, rfl⟩, ?_⟩)), trivial⟩, by simp; omega⟩
          · rw [if_neg hv] at hne
            refine runC_sound _ _ _ ?_
            conv => whnf
            repeat (first | ((first | refine qb rfl rfl ?_ | refine qi (by assumption) rfl rfl ?_ | refine ql rfl ?_ | refine qo rfl rfl ?_ | refine qs rfl rfl ?_ | refine qn rfl rfl ?_); conv => whnf))
            rw [← hne]
            refine runC_sound _ _ _ ?_
            conv => whnf
            repeat (first | (refine r_put (p_bin (b_add (c := ((k + 1 : Nat) : Int)) (by omega) (by omega) (by omega)) rfl rfl rfl) rfl rfl ?_; conv => whnf) | ((first | refine qb rfl rfl ?_ | refine qi (by assumption) rfl rfl ?_ | refine ql rfl ?_ | refine qo rfl rfl ?_ | refine qs rfl rfl ?_ | refine qn rfl rfl ?_); conv => whnf))
            exact ⟨⟨k + 1, hkl⟩, ⟨by refine ⟨?_, ?_⟩ <;> (repeat (first | trivial | exact ⟨rfl, trivial⟩ | refine ⟨rfl, ?_⟩ | refine ⟨.inl ⟨rfl, rfl⟩, ?_⟩ | refine ⟨.inr ⟨_, _, rfl, rfl, rfl, rfl, rfl⟩, ?_⟩)), trivial⟩, by simp; omega⟩
        · have hkk2 : k = w.queue.length := by omega
          subst hkk2
          rw [List.take_length, ← hX]
          refine runC_sound _ _ _ ?_
          conv => whnf
          repeat (first | ((first | refine qb rfl rfl ?_ | refine qi (by assumption) rfl rfl ?_ | refine ql rfl ?_ | refine qo rfl rfl ?_ | refine qs rfl rfl ?_ | refine qn rfl rfl ?_); conv => whnf))
          exact ⟨(), ⟨by refine ⟨?_, ?_⟩ <;> (repeat (first | trivial | exact ⟨rfl, trivial⟩ | refine ⟨rfl, ?_⟩ | refine ⟨.inl ⟨rfl, rfl⟩, ?_⟩ | refine ⟨.inr ⟨_, _, rfl, rfl, rfl, rfl, rfl⟩, ?_⟩)), trivial⟩⟩
      refine c_seq ?_
      refine runC_sound _ _ _ ?_
      conv => whnf
      repeat (first | (refine qc (d5) rfl ?_; conv => whnf) | ((first | refine qb rfl rfl ?_ | refine qi (by assumption) rfl rfl ?_ | refine ql rfl ?_ | refine qo rfl rfl ?_ | refine qs rfl rfl ?_ | refine qn rfl rfl ?_); conv => whnf))
      refine c_cut (ι := Unit) (fun _ => ⟨[(1, .lst 1 (m.map bytA)), (5, .optr 6 0 [] 0), (6, .lst 3 ((X).map evtA)), (7, .v (.bool (room))), (8, .v (.int .i64 (start))), (21, .v (.int .i64 (w.seen)))], [(6, ⟨.s 26, 3, [watA (w)]⟩)], []⟩) ?_ (fun _ => ?_)
      · refine c_seq ?_
        refine runC_sound _ _ _ ?_
        conv => whnf
        repeat (first | ((first | refine qb rfl rfl ?_ | refine qi (by assumption) rfl rfl ?_ | refine ql rfl ?_ | refine qo rfl rfl ?_ | refine qs rfl rfl ?_ | refine qn rfl rfl ?_); conv => whnf))
        repeat (first | refine c_block ?_ | refine q_then ?_)
        refine c_loop (fun k : { k : Nat // k ≤ X.length } => ⟨[(1, .lst 1 (m.map bytA)), (5, .optr 6 0 [] 0), (6, .lst 3 ((X).map evtA)), (7, .v (.bool (room))), (8, .v (.int .i64 (start))), (21, .v (.int .i64 (w.seen))), (29, .v (.int .i64 (((k.1 : Nat) : Int))))], [(6, ⟨.s 26, 3, [watA (w)]⟩)], []⟩) (fun k => X.length - k.1) ⟨0, by omega⟩ ⟨by refine ⟨?_, ?_⟩ <;> (repeat (first | trivial | exact ⟨rfl, trivial⟩ | refine ⟨rfl, ?_⟩ | refine ⟨.inl ⟨rfl, rfl⟩, ?_⟩ | refine ⟨.inr ⟨_, _, rfl, rfl, rfl, rfl, rfl⟩, ?_⟩)), trivial⟩ ?_
        rintro ⟨k, hk⟩
        dsimp only
        by_cases hkl : k < X.length
        · cases hroom : room with
          | false =>
            refine runC_sound _ _ _ ?_
            conv => whnf
            repeat (first | ((first | refine qb rfl rfl ?_ | refine qi (by assumption) rfl rfl ?_ | refine ql rfl ?_ | refine qo rfl rfl ?_ | refine qs rfl rfl ?_ | refine qn rfl rfl ?_); conv => whnf))
            exact ⟨(), ⟨by refine ⟨?_, ?_⟩ <;> (repeat (first | trivial | exact ⟨rfl, trivial⟩ | refine ⟨rfl, ?_⟩ | refine ⟨.inl ⟨rfl, rfl⟩, ?_⟩ | refine ⟨.inr ⟨_, _, rfl, rfl, rfl, rfl, rfl⟩, ?_⟩)), trivial⟩⟩
          | true =>
            obtain ⟨g1, g2⟩ := hfr hroom k hkl
            have hi2 : (X.map evtA)[k]? = some (.agg [.v (.int .i64 (start + 1 + k)), .v (.int .i64 X[k].head), .v (.bool false)]) := by rw [List.getElem?_map, List.getElem?_eq_getElem hkl]; show some (evtA X[k]) = _; unfold evtA; rw [g1, g2]
            refine c_seq ?_
            refine runC_sound _ _ _ ?_
            conv => whnf
            repeat (first | ((first | refine qb rfl rfl ?_ | refine qi (by assumption) rfl rfl ?_ | refine ql rfl ?_ | refine qo rfl rfl ?_ | refine qs rfl rfl ?_ | refine qn rfl rfl ?_); conv => whnf))
            refine c_seq (c_block ?_)
            refine runC_sound _ _ _ ?_
            conv => whnf
            repeat (first | (refine r_put (p_idx hi2 rfl rfl rfl) rfl rfl ?_; conv => whnf) | (refine r_put (p_bin (b_add (c := start + 1) (by omega) (by omega) (by omega)) rfl rfl rfl) rfl rfl ?_; conv => whnf) | (refine r_put (p_bin (b_add (c := start + 1 + ((k : Nat) : Int)) (by omega) (by omega) (by omega)) rfl rfl rfl) rfl rfl ?_; conv => whnf) | (refine r_put (p_bin (b_ne_f rfl) rfl rfl rfl) rfl rfl ?_; conv => whnf) | ((first | refine qb rfl rfl ?_ | refine qi (by assumption) rfl rfl ?_ | refine ql rfl ?_ | refine qo rfl rfl ?_ | refine qs rfl rfl ?_ | refine qn rfl rfl ?_); conv => whnf))
            refine runC_sound _ _ _ ?_
            conv => whnf
            repeat (first | (refine r_put (p_bin (b_add (c := ((k + 1 : Nat) : Int)) (by omega) (by omega) (by omega)) rfl rfl rfl) rfl rfl ?_; conv => whnf) | ((first | refine qb rfl rfl ?_ | refine qi (by assumption) rfl rfl ?_ | refine ql rfl ?_ | refine qo rfl rfl ?_ | refine qs rfl rfl ?_ | refine qn rfl rfl ?_); conv => whnf))
            exact ⟨⟨k + 1, hkl⟩, ⟨by refine ⟨?_, ?_⟩ <;> (repeat (first | trivial | exact ⟨rfl, trivial⟩ | refine ⟨rfl, ?_⟩ | refine ⟨.inl ⟨rfl, rfl⟩, ?_⟩ | refine ⟨.inr ⟨_, _, rfl, rfl, rfl, rfl, rfl⟩, ?_⟩)), trivial⟩, by simp; omega⟩
        · refine runC_sound _ _ _ ?_
          conv => whnf
          repeat (first | ((first | refine qb rfl rfl ?_ | refine qi (by assumption) rfl rfl ?_ | refine ql rfl ?_ | refine qo rfl rfl ?_ | refine qs rfl rfl ?_ | refine qn rfl rfl ?_); conv => whnf))
          exact ⟨(), ⟨by refine ⟨?_, ?_⟩ <;> (repeat (first | trivial | exact ⟨rfl, trivial⟩ | refine ⟨rfl, ?_⟩ | refine ⟨.inl ⟨rfl, rfl⟩, ?_⟩ | refine ⟨.inr ⟨_, _, rfl, rfl, rfl, rfl, rfl⟩, ?_⟩)), trivial⟩⟩
      refine c_cut (ι := Unit) (fun _ => ⟨[(1, .lst 1 (m.map bytA)), (5, .optr 6 0 [] 0), (6, .lst 3 ((X).map evtA)), (7, .v (.bool (room))), (8, .v (.int .i64 (start))), (21, .v (.int .i64 (w.seen))), (30, .lst 4 (refs.map refA))], [(6, ⟨.s 26, 3, [watA (w)]⟩)], []⟩) ?_ (fun _ => ?_)
      · refine runC_sound _ _ _ ?_
        conv => whnf
        repeat (first | (refine qf (e2) rfl ?_; conv => whnf) | ((first | refine qb rfl rfl ?_ | refine qi (by assumption) rfl rfl ?_ | refine ql rfl ?_ | refine qo rfl rfl ?_ | refine qs rfl rfl ?_ | refine qn rfl rfl ?_); conv => whnf))
        exact ⟨(), ⟨by refine ⟨?_, ?_⟩ <;> (repeat (first | trivial | exact ⟨rfl, trivial⟩ | refine ⟨rfl, ?_⟩ | refine ⟨.inl ⟨rfl, rfl⟩, ?_⟩ | refine ⟨.inr ⟨_, _, rfl, rfl, rfl, rfl, rfl⟩, ?_⟩)), trivial⟩⟩
      refine c_cut (ι := Unit) (fun _ => ⟨[(1, .lst 1 (m.map bytA)), (5, .optr 6 0 [] 0), (6, .lst 3 ((X).map evtA)), (7, .v (.bool (room))), (8, .v (.int .i64 (start))), (21, .v (.int .i64 (w.seen))), (30, .lst 4 (refs.map refA)), (31, .optr 32 0 [] 0), (32, .v (.int .i64 (0)))], [(6, ⟨.s 26, 3, [watA (w)]⟩), (32, ⟨.s 26, 3, [watA (⟨w.name, verAt refs w.name, []⟩)]⟩)], []⟩) ?_ (fun _ => ?_)
      · refine runC_sound _ _ _ ?_
        conv => whnf
        repeat (first | (refine qc (z1) rfl ?_; conv => whnf) | (refine r_step (p_ostore rfl rfl rfl rfl rfl (by conv => lhs; whnf) rfl) rfl rfl (fun e => by first | exact .inl rfl | contradiction | exact .inr (.inl (by kernel_rfl))) ?_; conv => whnf) | ((first | refine qb rfl rfl ?_ | refine qi (by assumption) rfl rfl ?_ | refine ql rfl ?_ | refine qo rfl rfl ?_ | refine qs rfl rfl ?_ | refine qn rfl rfl ?_); conv => whnf))
        exact ⟨(), ⟨by refine ⟨?_, ?_⟩ <;> (repeat (first | trivial | exact ⟨rfl, trivial⟩ | refine ⟨rfl, ?_⟩ | refine ⟨.inl ⟨rfl, rfl⟩, ?_⟩ | refine ⟨.inr ⟨_, _, rfl, rfl, rfl, rfl, rfl⟩, ?_⟩)), trivial⟩⟩
      refine c_cut (ι := Unit) (fun _ => ⟨[(1, .lst 1 (m.map bytA)), (5, .optr 6 0 [] 0), (6, .lst 3 ((X).map evtA)), (7, .v (.bool (room))), (8, .v (.int .i64 (start))), (21, .v (.int .i64 (w.seen))), (30, .lst 4 (refs.map refA)), (31, .optr 32 0 [] 0), (32, .v (.int .i64 (0))), (33, .optr 34 0 [] 0), (34, .v (.int .i64 (0)))], [(6, ⟨.s 26, 3, [watA (w)]⟩), (32, ⟨.s 26, 3, [watA (⟨w.name, verAt refs w.name, []⟩)]⟩), (34, ⟨.s 26, 3, [watA (⟨w.name, verAt refs w.name, []⟩)]⟩)], []⟩) ?_ (fun _ => ?_)
      · refine runC_sound _ _ _ ?_
        conv => whnf
        repeat (first | (refine qc (z2) rfl ?_; conv => whnf) | ((first | refine qb rfl rfl ?_ | refine qi (by assumption) rfl rfl ?_ | refine ql rfl ?_ | refine qo rfl rfl ?_ | refine qs rfl rfl ?_ | refine qn rfl rfl ?_); conv => whnf))
        refine r_gh (p_ostoreo rfl rfl rfl rfl rfl rfl) rfl rfl (fun e => by cases e) (Gh.foldr 34 244 [2] rfl rfl rfl rfl rfl rfl (Gh.shuts 34 rfl rfl (Gh.done ?_)))
        conv => whnf
        repeat (first | ((first | refine qb rfl rfl ?_ | refine qi (by assumption) rfl rfl ?_ | refine ql rfl ?_ | refine qo rfl rfl ?_ | refine qs rfl rfl ?_ | refine qn rfl rfl ?_); conv => whnf))
        exact ⟨(), ⟨by refine ⟨?_, ?_⟩ <;> (repeat (first | trivial | exact ⟨rfl, trivial⟩ | refine ⟨rfl, ?_⟩ | refine ⟨.inl ⟨rfl, rfl⟩, ?_⟩ | refine ⟨.inr ⟨_, _, rfl, rfl, rfl, rfl, rfl⟩, ?_⟩)), trivial⟩⟩
      rcases hfl with hs | ⟨hp, hs⟩
      · cases hroom : room with
        | false =>
          refine runC_sound _ _ _ ?_
          conv => whnf
          repeat (first | (refine r_put (p_bin (b_eq_t rfl) rfl rfl rfl) rfl rfl ?_; conv => whnf) | (refine qc (z3) rfl ?_; conv => whnf) | (refine r_put (p_bin (b_eq_t hs) rfl rfl rfl) rfl rfl ?_; conv => whnf) | ((first | refine qb rfl rfl ?_ | refine qi (by assumption) rfl rfl ?_ | refine ql rfl ?_ | refine qo rfl rfl ?_ | refine qs rfl rfl ?_ | refine qn rfl rfl ?_); conv => whnf))
          exact r_ret1 rfl trivial
        | true =>
          have hl0 := hfn hroom
          refine runC_sound _ _ _ ?_
          conv => whnf
          repeat (first | (refine r_put (p_bin (b_eq_t rfl) rfl rfl rfl) rfl rfl ?_; conv => whnf) | (refine qc (z3) rfl ?_; conv => whnf) | (refine r_put (p_bin (b_eq_t hs) rfl rfl rfl) rfl rfl ?_; conv => whnf) | (refine r_put (p_bin (b_sub (c := w.seen - start) (by omega) (by omega) (by omega)) rfl rfl rfl) rfl rfl ?_; conv => whnf) | (refine r_put (p_bin (b_eq_t hl0) rfl rfl rfl) rfl rfl ?_; conv => whnf) | ((first | refine qb rfl rfl ?_ | refine qi (by assumption) rfl rfl ?_ | refine ql rfl ?_ | refine qo rfl rfl ?_ | refine qs rfl rfl ?_ | refine qn rfl rfl ?_); conv => whnf))
          exact r_ret1 rfl trivial
      · have hi2 : (X.map evtA)[X.length - 1]? = some (.agg [.v (.int .i64 w.seen), .v (.int .i64 X[X.length - 1].head), .v (.bool X[X.length - 1].lag)]) := by rw [List.getElem?_map, List.getElem?_eq_getElem (by omega)]; show some (evtA X[X.length - 1]) = _; unfold evtA; rw [hs]
        by_cases hse : w.seen = start
        · cases hroom : room with
          | false =>
            refine runC_sound _ _ _ ?_
            conv => whnf
            repeat (first | (refine r_put (p_bin (b_eq_t rfl) rfl rfl rfl) rfl rfl ?_; conv => whnf) | (refine qc (z3) rfl ?_; conv => whnf) | (refine r_put (p_bin (b_eq_t hse) rfl rfl rfl) rfl rfl ?_; conv => whnf) | ((first | refine qb rfl rfl ?_ | refine qi (by assumption) rfl rfl ?_ | refine ql rfl ?_ | refine qo rfl rfl ?_ | refine qs rfl rfl ?_ | refine qn rfl rfl ?_); conv => whnf))
            exact r_ret1 rfl trivial
          | true =>
            have hl0 := hfn hroom
            refine runC_sound _ _ _ ?_
            conv => whnf
            repeat (first | (refine r_put (p_bin (b_eq_t rfl) rfl rfl rfl) rfl rfl ?_; conv => whnf) | (refine qc (z3) rfl ?_; conv => whnf) | (refine r_put (p_bin (b_eq_t hse) rfl rfl rfl) rfl rfl ?_; conv => whnf) | (refine r_put (p_bin (b_sub (c := w.seen - start) (by omega) (by omega) (by omega)) rfl rfl rfl) rfl rfl ?_; conv => whnf) | (refine r_put (p_bin (b_eq_t hl0) rfl rfl rfl) rfl rfl ?_; conv => whnf) | ((first | refine qb rfl rfl ?_ | refine qi (by assumption) rfl rfl ?_ | refine ql rfl ?_ | refine qo rfl rfl ?_ | refine qs rfl rfl ?_ | refine qn rfl rfl ?_); conv => whnf))
            exact r_ret1 rfl trivial
        · cases hroom : room with
          | false =>
            refine runC_sound _ _ _ ?_
            conv => whnf
            repeat (first | (refine r_put (p_bin (b_eq_t rfl) rfl rfl rfl) rfl rfl ?_; conv => whnf) | (refine qc (z3) rfl ?_; conv => whnf) | (refine r_put (p_bin (b_eq_f hse) rfl rfl rfl) rfl rfl ?_; conv => whnf) | (refine r_put (p_bin (b_sub (c := ((X.length - 1 : Nat) : Int)) (by omega) (by omega) (by omega)) rfl rfl rfl) rfl rfl ?_; conv => whnf) | (refine r_put (p_idx hi2 rfl rfl rfl) rfl rfl ?_; conv => whnf) | ((first | refine qb rfl rfl ?_ | refine qi (by assumption) rfl rfl ?_ | refine ql rfl ?_ | refine qo rfl rfl ?_ | refine qs rfl rfl ?_ | refine qn rfl rfl ?_); conv => whnf))
            exact r_ret1 rfl trivial
          | true =>
            have hl0 := hfn hroom
            refine runC_sound _ _ _ ?_
            conv => whnf
            repeat (first | (refine r_put (p_bin (b_eq_t rfl) rfl rfl rfl) rfl rfl ?_; conv => whnf) | (refine qc (z3) rfl ?_; conv => whnf) | (refine r_put (p_bin (b_eq_f hse) rfl rfl rfl) rfl rfl ?_; conv => whnf) | (refine r_put (p_bin (b_sub (c := ((X.length - 1 : Nat) : Int)) (by omega) (by omega) (by omega)) rfl rfl rfl) rfl rfl ?_; conv => whnf) | (refine r_put (p_idx hi2 rfl rfl rfl) rfl rfl ?_; conv => whnf) | (refine r_put (p_bin (b_sub (c := w.seen - start) (by omega) (by omega) (by omega)) rfl rfl rfl) rfl rfl ?_; conv => whnf) | (refine r_put (p_bin (b_eq_t hl0) rfl rfl rfl) rfl rfl ?_; conv => whnf) | ((first | refine qb rfl rfl ?_ | refine qi (by assumption) rfl rfl ?_ | refine ql rfl ?_ | refine qo rfl rfl ?_ | refine qs rfl rfl ?_ | refine qn rfl rfl ?_); conv => whnf))
            exact r_ret1 rfl trivial

end Go.Proofs.Ytmfmclnklpbiaaa.AM
