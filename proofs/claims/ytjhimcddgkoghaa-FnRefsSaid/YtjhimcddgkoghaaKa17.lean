/- Texts of the machine over data, folded. -/
import Derived.Test.YtjhimcddgkoghaaKa5
import Derived.Test.YtjhimcddgkoghaaKa16
import Derived.Test.YtjhimcddgkoghaaKa12
namespace Go.Proofs.Ytjhimcddgkoghaa.AM
open Go Go.RowKit
set_option linter.unusedVariables false
set_option linter.unusedSimpArgs false
set_option maxRecDepth 100000
theorem b_bneR {P : Program} {t : TypeId} {x y : Operand} {a b r : Bool} (h : P.underlying t = some .bool) (hr : (a != b) = r) : BinOK P .neq t x y (.bool a) (.bool b) (.bool r) := hr ▸ b_bne h
attribute [local irreducible] ACode AOps AOps2 RetG RetM Pre ACG
set_option maxHeartbeats 8000000 in
theorem law_Refs {c m : List UInt8} (hc : c.length ≤ maxLen) (hm : m.length ≤ maxLen) : AC Try.prog 15 [.lst 1 (c.map bytA), .lst 1 (m.map bytA)] ⟨.v (.bool true), []⟩ := by
  have hc' := hc
  have hm' := hm
  unfold maxLen at hc' hm'
  by_cases l0 : 1048576 < c.length
  · refine r_of Th_ok (by kernel_rfl) Try.func15 rfl Try.ntmps15 Try.results15 (by kernel_rfl) rfl ?_; conv => whnf
    repeat (((first | refine qb rfl rfl ?_ | refine qi (by assumption) rfl rfl ?_ | refine ql rfl ?_ | refine qo rfl rfl ?_ | refine qs rfl rfl ?_ | refine qn rfl rfl ?_); conv => whnf))
    exact r_ret1 rfl trivial
  by_cases l1 : 1048576 < m.length
  · refine r_of Th_ok (by kernel_rfl) Try.func15 rfl Try.ntmps15 Try.results15 (by kernel_rfl) rfl ?_; conv => whnf
    repeat (((first | refine qb rfl rfl ?_ | refine qi (by assumption) rfl rfl ?_ | refine ql rfl ?_ | refine qo rfl rfl ?_ | refine qs rfl rfl ?_ | refine qn rfl rfl ?_); conv => whnf))
    exact r_ret1 rfl trivial
  have e1 := ac_RefsDrawn hc
  have e2 := ac_BranchDrawn hm
  have e3 := ac_at (i := 0) (n := 9) hm (by omega) (by omega)
  obtain ⟨gl, ll⟩ := rfD_ok c
  obtain ⟨gx, lx⟩ := brD_ok m
  have hat := atS_lt (m := m) (i := 0) (n := 9) (by omega)
  generalize rfD c = l at *
  generalize brD m = x at *
  have hh1 : 1 ≤ 1 + (atS m 0 9 : Int) := by omega
  have hh2 : 1 + (atS m 0 9 : Int) ≤ 60 := by omega
  obtain ⟨h, hh⟩ : ∃ h : Int, h = 1 + (atS m 0 9 : Int) := ⟨_, rfl⟩
  rw [← hh] at hh1 hh2
  have nl : l.length ≤ maxLen := by unfold maxLen; omega
  have nk : nmOK maxLen l := fun e he => by have := (gl.small e he).2; unfold maxLen; omega
  have nx : x.size ≤ maxLen := by unfold maxLen; omega
  have ha : askF l x = 0 := askF_ok (by omega) gl.ok
  have a1 := ac_iLoadRef nl nk nx
  have a2 := ac_sLoadRef nl nk nx
  have a3 := ac_iLiveRefs nl nk
  have a4 := ac_sLiveRefs nl nk
  have hlv : (liveR l).2 = 0 := by unfold liveR; rw [if_pos (askF_ok (by have : ByteArray.empty.size = 0 := rfl; omega) gl.ok)]
  have hlc := liveR_le l
  have a5 := ac_iCreate (h := h) nl nk nx
  have a6 := ac_sCreate (h := h) nl nk nx
  have a7 := ac_iRefsOK nl nk
  rw [gl.ok] at a7
  have t1 := ac_sameTexts_t (xs := (liveR l).1) (by omega)
  rw [hlv] at a3 a4
  generalize (liveR l).1 = L at *
  have hver : ∀ r ∈ l, r.ver ≤ 4 := fun r hr => (gl.small r hr).1
  rcases live_cases l x with e | ⟨j, hj, e, er, hg⟩
  · have hcd := create_dead (h := h) ha gx hh1 hh2 e
    have hld := loadR_no ha e
    rw [hld] at a1 a2
    have hcl := createR_len l x h
    generalize createR l x h = C at *
    have t2 := ac_sameRefs_t (xs := C.1) (by omega)
    obtain ⟨X1, X2⟩ := C
    dsimp only at *
    clear hver nk ha e hld gl
    as_aux_lemma =>
      refine o_of Th_ok (by kernel_rfl) Try.func15 rfl Try.ntmps15 Try.results15 (by kernel_rfl) rfl ?_
      refine c_seq ?_
      refine runC_sound _ _ _ ?_
      conv => whnf
      repeat (first | ((first | refine qb rfl rfl ?_ | refine qi (by assumption) rfl rfl ?_ | refine ql rfl ?_ | refine qo rfl rfl ?_ | refine qs rfl rfl ?_ | refine qn rfl rfl ?_); conv => whnf))
      refine c_seq ?_
      refine runC_sound _ _ _ ?_
      conv => whnf
      repeat (first | ((first | refine qb rfl rfl ?_ | refine qi (by assumption) rfl rfl ?_ | refine ql rfl ?_ | refine qo rfl rfl ?_ | refine qs rfl rfl ?_ | refine qn rfl rfl ?_); conv => whnf))
      refine c_cut (ι := Unit) (fun _ => ⟨[(1, .lst 1 (m.map bytA)), (5, .lst 4 ((l).map refA))], [], []⟩) ?_ (fun _ => ?_)
      · refine runC_sound _ _ _ ?_
        conv => whnf
        repeat (first | (refine qf (e1) rfl ?_; conv => whnf) | ((first | refine qb rfl rfl ?_ | refine qi (by assumption) rfl rfl ?_ | refine ql rfl ?_ | refine qo rfl rfl ?_ | refine qs rfl rfl ?_ | refine qn rfl rfl ?_); conv => whnf))
        exact ⟨(), ⟨by refine ⟨?_, ?_⟩ <;> (repeat (first | trivial | exact ⟨rfl, trivial⟩ | refine ⟨rfl, ?_⟩ | refine ⟨.inl ⟨rfl, rfl⟩, ?_⟩ | refine ⟨.inr ⟨_, _, rfl, rfl, rfl, rfl, rfl⟩, ?_⟩)), trivial⟩⟩
      refine c_cut (ι := Unit) (fun _ => ⟨[(1, .lst 1 (m.map bytA)), (5, .lst 4 ((l).map refA)), (6, .v (.string x))], [], []⟩) ?_ (fun _ => ?_)
      · refine runC_sound _ _ _ ?_
        conv => whnf
        repeat (first | (refine qc (e2) rfl ?_; conv => whnf) | ((first | refine qb rfl rfl ?_ | refine qi (by assumption) rfl rfl ?_ | refine ql rfl ?_ | refine qo rfl rfl ?_ | refine qs rfl rfl ?_ | refine qn rfl rfl ?_); conv => whnf))
        exact ⟨(), ⟨by refine ⟨?_, ?_⟩ <;> (repeat (first | trivial | exact ⟨rfl, trivial⟩ | refine ⟨rfl, ?_⟩ | refine ⟨.inl ⟨rfl, rfl⟩, ?_⟩ | refine ⟨.inr ⟨_, _, rfl, rfl, rfl, rfl, rfl⟩, ?_⟩)), trivial⟩⟩
      refine c_cut (ι := Unit) (fun _ => ⟨[(5, .lst 4 ((l).map refA)), (6, .v (.string x)), (7, .v (.int .i64 (h)))], [], []⟩) ?_ (fun _ => ?_)
      · refine runC_sound _ _ _ ?_
        conv => whnf
        repeat (first | (refine qc (e3) rfl ?_; conv => whnf) | (refine r_put (p_bin (b_add (c := h) (by omega) (by omega) (by omega)) rfl rfl rfl) rfl rfl ?_; conv => whnf) | ((first | refine qb rfl rfl ?_ | refine qi (by assumption) rfl rfl ?_ | refine ql rfl ?_ | refine qo rfl rfl ?_ | refine qs rfl rfl ?_ | refine qn rfl rfl ?_); conv => whnf))
        exact ⟨(), ⟨by refine ⟨?_, ?_⟩ <;> (repeat (first | trivial | exact ⟨rfl, trivial⟩ | refine ⟨rfl, ?_⟩ | refine ⟨.inl ⟨rfl, rfl⟩, ?_⟩ | refine ⟨.inr ⟨_, _, rfl, rfl, rfl, rfl, rfl⟩, ?_⟩)), trivial⟩⟩
      refine c_seq ?_
      refine runC_sound _ _ _ ?_
      conv => whnf
      repeat (first | (refine qc (a1) rfl ?_; conv => whnf) | ((first | refine qb rfl rfl ?_ | refine qi (by assumption) rfl rfl ?_ | refine ql rfl ?_ | refine qo rfl rfl ?_ | refine qs rfl rfl ?_ | refine qn rfl rfl ?_); conv => whnf))
      refine c_cut (ι := Unit) (fun _ => ⟨[(5, .lst 4 ((l).map refA)), (6, .v (.string x)), (7, .v (.int .i64 (h))), (8, .v (.int .i64 (0))), (9, .v (.int .i64 (0))), (10, .v (.int .i64 (10))), (11, .v (.int .i64 (0))), (12, .v (.int .i64 (0))), (13, .v (.int .i64 (10)))], [], []⟩) ?_ (fun _ => ?_)
      · refine runC_sound _ _ _ ?_
        conv => whnf
        repeat (first | (refine qc (a2) rfl ?_; conv => whnf) | ((first | refine qb rfl rfl ?_ | refine qi (by assumption) rfl rfl ?_ | refine ql rfl ?_ | refine qo rfl rfl ?_ | refine qs rfl rfl ?_ | refine qn rfl rfl ?_); conv => whnf))
        exact ⟨(), ⟨by refine ⟨?_, ?_⟩ <;> (repeat (first | trivial | exact ⟨rfl, trivial⟩ | refine ⟨rfl, ?_⟩ | refine ⟨.inl ⟨rfl, rfl⟩, ?_⟩ | refine ⟨.inr ⟨_, _, rfl, rfl, rfl, rfl, rfl⟩, ?_⟩)), trivial⟩⟩
      refine c_seq ?_
      refine runC_sound _ _ _ ?_
      conv => whnf
      repeat (first | (refine qc (a3) rfl ?_; conv => whnf) | ((first | refine qb rfl rfl ?_ | refine qi (by assumption) rfl rfl ?_ | refine ql rfl ?_ | refine qo rfl rfl ?_ | refine qs rfl rfl ?_ | refine qn rfl rfl ?_); conv => whnf))
      refine c_cut (ι := Unit) (fun _ => ⟨[(5, .lst 4 ((l).map refA)), (6, .v (.string x)), (7, .v (.int .i64 (h))), (8, .v (.int .i64 (0))), (9, .v (.int .i64 (0))), (10, .v (.int .i64 (10))), (11, .v (.int .i64 (0))), (12, .v (.int .i64 (0))), (13, .v (.int .i64 (10))), (14, .lst 1 (L.map strA)), (15, .v (.int .i64 (0))), (16, .lst 1 (L.map strA))], [], []⟩) ?_ (fun _ => ?_)
      · refine runC_sound _ _ _ ?_
        conv => whnf
        repeat (first | (refine qc (a4) rfl ?_; conv => whnf) | ((first | refine qb rfl rfl ?_ | refine qi (by assumption) rfl rfl ?_ | refine ql rfl ?_ | refine qo rfl rfl ?_ | refine qs rfl rfl ?_ | refine qn rfl rfl ?_); conv => whnf))
        exact ⟨(), ⟨by refine ⟨?_, ?_⟩ <;> (repeat (first | trivial | exact ⟨rfl, trivial⟩ | refine ⟨rfl, ?_⟩ | refine ⟨.inl ⟨rfl, rfl⟩, ?_⟩ | refine ⟨.inr ⟨_, _, rfl, rfl, rfl, rfl, rfl⟩, ?_⟩)), trivial⟩⟩
      refine c_seq ?_
      refine runC_sound _ _ _ ?_
      conv => whnf
      repeat (first | (refine qc (a5) rfl ?_; conv => whnf) | ((first | refine qb rfl rfl ?_ | refine qi (by assumption) rfl rfl ?_ | refine ql rfl ?_ | refine qo rfl rfl ?_ | refine qs rfl rfl ?_ | refine qn rfl rfl ?_); conv => whnf))
      refine c_cut (ι := Unit) (fun _ => ⟨[(5, .lst 4 ((l).map refA)), (6, .v (.string x)), (7, .v (.int .i64 (h))), (8, .v (.int .i64 (0))), (9, .v (.int .i64 (0))), (10, .v (.int .i64 (10))), (11, .v (.int .i64 (0))), (12, .v (.int .i64 (0))), (13, .v (.int .i64 (10))), (14, .lst 1 (L.map strA)), (15, .v (.int .i64 (0))), (16, .lst 1 (L.map strA)), (18, .lst 4 ((X1).map refA)), (19, .v (.int .i64 (X2))), (20, .lst 4 ((X1).map refA)), (21, .v (.int .i64 (X2)))], [], []⟩) ?_ (fun _ => ?_)
      · refine runC_sound _ _ _ ?_
        conv => whnf
        repeat (first | (refine qc (a6) rfl ?_; conv => whnf) | ((first | refine qb rfl rfl ?_ | refine qi (by assumption) rfl rfl ?_ | refine ql rfl ?_ | refine qo rfl rfl ?_ | refine qs rfl rfl ?_ | refine qn rfl rfl ?_); conv => whnf))
        exact ⟨(), ⟨by refine ⟨?_, ?_⟩ <;> (repeat (first | trivial | exact ⟨rfl, trivial⟩ | refine ⟨rfl, ?_⟩ | refine ⟨.inl ⟨rfl, rfl⟩, ?_⟩ | refine ⟨.inr ⟨_, _, rfl, rfl, rfl, rfl, rfl⟩, ?_⟩)), trivial⟩⟩
      refine c_cut (ι := Unit) (fun _ => ⟨[(5, .lst 4 ((l).map refA)), (6, .v (.string x)), (7, .v (.int .i64 (h))), (9, .v (.int .i64 (0))), (11, .v (.int .i64 (0))), (12, .v (.int .i64 (0))), (13, .v (.int .i64 (10)))], [], []⟩) ?_ (fun _ => ?_)
      · refine runC_sound _ _ _ ?_
        conv => whnf
        repeat (first | (refine r_put (p_bin (b_ne_f rfl) rfl rfl rfl) rfl rfl ?_; conv => whnf) | (refine qc (t1) rfl ?_; conv => whnf) | (refine qc (t2) rfl ?_; conv => whnf) | (refine qc (a7) rfl ?_; conv => whnf) | (refine r_put (p_bin (b_bneR (r := false) Try.underlying4 (by rfl)) rfl rfl rfl) rfl rfl ?_; conv => whnf) | ((first | refine qb rfl rfl ?_ | refine qi (by assumption) rfl rfl ?_ | refine ql rfl ?_ | refine qo rfl rfl ?_ | refine qs rfl rfl ?_ | refine qn rfl rfl ?_); conv => whnf))
        exact ⟨(), ⟨by refine ⟨?_, ?_⟩ <;> (repeat (first | trivial | exact ⟨rfl, trivial⟩ | refine ⟨rfl, ?_⟩ | refine ⟨.inl ⟨rfl, rfl⟩, ?_⟩ | refine ⟨.inr ⟨_, _, rfl, rfl, rfl, rfl, rfl⟩, ?_⟩)), trivial⟩⟩
      refine runC_sound _ _ _ ?_
      conv => whnf
      repeat (first | (refine r_put (p_bin (b_ne_f rfl) rfl rfl rfl) rfl rfl ?_; conv => whnf) | ((first | refine qb rfl rfl ?_ | refine qi (by assumption) rfl rfl ?_ | refine ql rfl ?_ | refine qo rfl rfl ?_ | refine qs rfl rfl ?_ | refine qn rfl rfl ?_); conv => whnf))
      exact r_ret1 rfl trivial
  · have hcl := create_live (h := h) ha gx hh1 hh2 hj er hg
    rw [hcl] at a5 a6
    have hld := loadR_at ha hj e
    rw [hld] at a1 a2
    obtain ⟨f1, f2, f3, f4, f5, f6, f7⟩ := refs_facts ha hver hh1 hh2 hj e er hg
    have hm1 : (setR l j h false).length ≤ maxLen := by rw [setR_length]; exact nl
    have hm2 : (setR l j 0 true).length ≤ maxLen := by rw [setR_length]; exact nl
    have hm3 : (setR (setR l j 0 true) j l[j].head false).length ≤ maxLen := by rw [setR_length]; exact hm2
    have setk : ∀ (l' : List Rf) (hd : Int) (g : Bool), nmOK maxLen l' → nmOK maxLen (setR l' j hd g) := fun l' hd g hk e he => by
      unfold setR at he
      split at he
      · rename_i r hr
        rcases List.mem_or_eq_of_mem_set he with he | rfl
        · exact hk e he
        · exact hk r (List.mem_of_getElem? hr)
      · exact hk e he
    have hk1 := setk l h false nk
    have hk2 := setk l 0 true nk
    have hk3 := setk _ l[j].head false hk2
    have b1 := ac_iSwap (v := l[j].ver) (h := h) nl nk nx
    have b2 := ac_sSwap (v := l[j].ver) (h := h) nl nk nx
    have b3 := ac_iSwap (v := l[j].ver) (h := h) hm1 hk1 nx
    have b4 := ac_iDelete nl nk nx
    have b5 := ac_sDelete nl nk nx
    have b6 := ac_iCreate (h := l[j].head) hm2 hk2 nx
    have b7 := ac_iSwap (v := l[j].ver) (h := h) hm3 hk3 nx
    have b8 := ac_iLoadRef hm1 hk1 nx
    have b9 := ac_iLoadRef hm2 hk2 nx
    rw [f1] at b1 b2
    rw [f2] at b3
    rw [f3] at b4 b5
    rw [f4] at b6
    rw [f5] at b7
    rw [f6] at b8
    rw [f7] at b9
    obtain ⟨v0, v1⟩ := rf_ver gl.ok hj
    have hvj := hver _ (List.getElem_mem hj)
    generalize (swapR (setR l j h false) x l[j].ver h).1 = C3 at *
    generalize (swapR (setR (setR l j 0 true) j l[j].head false) x l[j].ver h).1 = C7 at *
    generalize setR (setR l j 0 true) j l[j].head false = C6 at *
    have q1 := ac_sameRefs_t (xs := setR l j h false) (by rw [setR_length]; omega)
    have q2 := ac_sameRefs_t (xs := setR l j 0 true) (by rw [setR_length]; omega)
    have q3 := ac_sameRefs_t (xs := l) (by omega)
    generalize setR l j h false = C1 at *
    generalize setR l j 0 true = C2 at *
    generalize l[j].ver = v at *
    generalize l[j].head = hd at *
    dsimp only at a1 a2 a5 a6 b1 b2 b3 b4 b5 b6 b7 b8 b9
    clear f1 f2 f3 f4 f5 f6 f7 hcl hld hk1 hk2 hk3 setk hm1 hm2 hm3 hver nk ha e gl
    as_aux_lemma =>
      refine o_of Th_ok (by kernel_rfl) Try.func15 rfl Try.ntmps15 Try.results15 (by kernel_rfl) rfl ?_
      refine c_seq ?_
      refine runC_sound _ _ _ ?_
      conv => whnf
      repeat (first | ((first | refine qb rfl rfl ?_ | refine qi (by assumption) rfl rfl ?_ | refine ql rfl ?_ | refine qo rfl rfl ?_ | refine qs rfl rfl ?_ | refine qn rfl rfl ?_); conv => whnf))
      refine c_seq ?_
      refine runC_sound _ _ _ ?_
      conv => whnf
      repeat (first | ((first | refine qb rfl rfl ?_ | refine qi (by assumption) rfl rfl ?_ | refine ql rfl ?_ | refine qo rfl rfl ?_ | refine qs rfl rfl ?_ | refine qn rfl rfl ?_); conv => whnf))
      refine c_cut (ι := Unit) (fun _ => ⟨[(1, .lst 1 (m.map bytA)), (5, .lst 4 ((l).map refA))], [], []⟩) ?_ (fun _ => ?_)
      · refine runC_sound _ _ _ ?_
        conv => whnf
        repeat (first | (refine qf (e1) rfl ?_; conv => whnf) | ((first | refine qb rfl rfl ?_ | refine qi (by assumption) rfl rfl ?_ | refine ql rfl ?_ | refine qo rfl rfl ?_ | refine qs rfl rfl ?_ | refine qn rfl rfl ?_); conv => whnf))
        exact ⟨(), ⟨by refine ⟨?_, ?_⟩ <;> (repeat (first | trivial | exact ⟨rfl, trivial⟩ | refine ⟨rfl, ?_⟩ | refine ⟨.inl ⟨rfl, rfl⟩, ?_⟩ | refine ⟨.inr ⟨_, _, rfl, rfl, rfl, rfl, rfl⟩, ?_⟩)), trivial⟩⟩
      refine c_cut (ι := Unit) (fun _ => ⟨[(1, .lst 1 (m.map bytA)), (5, .lst 4 ((l).map refA)), (6, .v (.string x))], [], []⟩) ?_ (fun _ => ?_)
      · refine runC_sound _ _ _ ?_
        conv => whnf
        repeat (first | (refine qc (e2) rfl ?_; conv => whnf) | ((first | refine qb rfl rfl ?_ | refine qi (by assumption) rfl rfl ?_ | refine ql rfl ?_ | refine qo rfl rfl ?_ | refine qs rfl rfl ?_ | refine qn rfl rfl ?_); conv => whnf))
        exact ⟨(), ⟨by refine ⟨?_, ?_⟩ <;> (repeat (first | trivial | exact ⟨rfl, trivial⟩ | refine ⟨rfl, ?_⟩ | refine ⟨.inl ⟨rfl, rfl⟩, ?_⟩ | refine ⟨.inr ⟨_, _, rfl, rfl, rfl, rfl, rfl⟩, ?_⟩)), trivial⟩⟩
      refine c_cut (ι := Unit) (fun _ => ⟨[(5, .lst 4 ((l).map refA)), (6, .v (.string x)), (7, .v (.int .i64 (h)))], [], []⟩) ?_ (fun _ => ?_)
      · refine runC_sound _ _ _ ?_
        conv => whnf
        repeat (first | (refine qc (e3) rfl ?_; conv => whnf) | (refine r_put (p_bin (b_add (c := h) (by omega) (by omega) (by omega)) rfl rfl rfl) rfl rfl ?_; conv => whnf) | ((first | refine qb rfl rfl ?_ | refine qi (by assumption) rfl rfl ?_ | refine ql rfl ?_ | refine qo rfl rfl ?_ | refine qs rfl rfl ?_ | refine qn rfl rfl ?_); conv => whnf))
        exact ⟨(), ⟨by refine ⟨?_, ?_⟩ <;> (repeat (first | trivial | exact ⟨rfl, trivial⟩ | refine ⟨rfl, ?_⟩ | refine ⟨.inl ⟨rfl, rfl⟩, ?_⟩ | refine ⟨.inr ⟨_, _, rfl, rfl, rfl, rfl, rfl⟩, ?_⟩)), trivial⟩⟩
      refine c_seq ?_
      refine runC_sound _ _ _ ?_
      conv => whnf
      repeat (first | (refine qc (a1) rfl ?_; conv => whnf) | ((first | refine qb rfl rfl ?_ | refine qi (by assumption) rfl rfl ?_ | refine ql rfl ?_ | refine qo rfl rfl ?_ | refine qs rfl rfl ?_ | refine qn rfl rfl ?_); conv => whnf))
      refine c_cut (ι := Unit) (fun _ => ⟨[(5, .lst 4 ((l).map refA)), (6, .v (.string x)), (7, .v (.int .i64 (h))), (8, .v (.int .i64 (hd))), (9, .v (.int .i64 (v))), (10, .v (.int .i64 (0))), (11, .v (.int .i64 (hd))), (12, .v (.int .i64 (v))), (13, .v (.int .i64 (0)))], [], []⟩) ?_ (fun _ => ?_)
      · refine runC_sound _ _ _ ?_
        conv => whnf
        repeat (first | (refine qc (a2) rfl ?_; conv => whnf) | ((first | refine qb rfl rfl ?_ | refine qi (by assumption) rfl rfl ?_ | refine ql rfl ?_ | refine qo rfl rfl ?_ | refine qs rfl rfl ?_ | refine qn rfl rfl ?_); conv => whnf))
        exact ⟨(), ⟨by refine ⟨?_, ?_⟩ <;> (repeat (first | trivial | exact ⟨rfl, trivial⟩ | refine ⟨rfl, ?_⟩ | refine ⟨.inl ⟨rfl, rfl⟩, ?_⟩ | refine ⟨.inr ⟨_, _, rfl, rfl, rfl, rfl, rfl⟩, ?_⟩)), trivial⟩⟩
      refine c_seq ?_
      refine runC_sound _ _ _ ?_
      conv => whnf
      repeat (first | (refine qc (a3) rfl ?_; conv => whnf) | ((first | refine qb rfl rfl ?_ | refine qi (by assumption) rfl rfl ?_ | refine ql rfl ?_ | refine qo rfl rfl ?_ | refine qs rfl rfl ?_ | refine qn rfl rfl ?_); conv => whnf))
      refine c_cut (ι := Unit) (fun _ => ⟨[(5, .lst 4 ((l).map refA)), (6, .v (.string x)), (7, .v (.int .i64 (h))), (8, .v (.int .i64 (hd))), (9, .v (.int .i64 (v))), (10, .v (.int .i64 (0))), (11, .v (.int .i64 (hd))), (12, .v (.int .i64 (v))), (13, .v (.int .i64 (0))), (14, .lst 1 (L.map strA)), (15, .v (.int .i64 (0))), (16, .lst 1 (L.map strA))], [], []⟩) ?_ (fun _ => ?_)
      · refine runC_sound _ _ _ ?_
        conv => whnf
        repeat (first | (refine qc (a4) rfl ?_; conv => whnf) | ((first | refine qb rfl rfl ?_ | refine qi (by assumption) rfl rfl ?_ | refine ql rfl ?_ | refine qo rfl rfl ?_ | refine qs rfl rfl ?_ | refine qn rfl rfl ?_); conv => whnf))
        exact ⟨(), ⟨by refine ⟨?_, ?_⟩ <;> (repeat (first | trivial | exact ⟨rfl, trivial⟩ | refine ⟨rfl, ?_⟩ | refine ⟨.inl ⟨rfl, rfl⟩, ?_⟩ | refine ⟨.inr ⟨_, _, rfl, rfl, rfl, rfl, rfl⟩, ?_⟩)), trivial⟩⟩
      refine c_seq ?_
      refine runC_sound _ _ _ ?_
      conv => whnf
      repeat (first | (refine qc (a5) rfl ?_; conv => whnf) | ((first | refine qb rfl rfl ?_ | refine qi (by assumption) rfl rfl ?_ | refine ql rfl ?_ | refine qo rfl rfl ?_ | refine qs rfl rfl ?_ | refine qn rfl rfl ?_); conv => whnf))
      refine c_cut (ι := Unit) (fun _ => ⟨[(5, .lst 4 ((l).map refA)), (6, .v (.string x)), (7, .v (.int .i64 (h))), (8, .v (.int .i64 (hd))), (9, .v (.int .i64 (v))), (10, .v (.int .i64 (0))), (11, .v (.int .i64 (hd))), (12, .v (.int .i64 (v))), (13, .v (.int .i64 (0))), (14, .lst 1 (L.map strA)), (15, .v (.int .i64 (0))), (16, .lst 1 (L.map strA)), (18, .lst 4 ((l).map refA)), (19, .v (.int .i64 (14))), (20, .lst 4 ((l).map refA)), (21, .v (.int .i64 (14)))], [], []⟩) ?_ (fun _ => ?_)
      · refine runC_sound _ _ _ ?_
        conv => whnf
        repeat (first | (refine qc (a6) rfl ?_; conv => whnf) | ((first | refine qb rfl rfl ?_ | refine qi (by assumption) rfl rfl ?_ | refine ql rfl ?_ | refine qo rfl rfl ?_ | refine qs rfl rfl ?_ | refine qn rfl rfl ?_); conv => whnf))
        exact ⟨(), ⟨by refine ⟨?_, ?_⟩ <;> (repeat (first | trivial | exact ⟨rfl, trivial⟩ | refine ⟨rfl, ?_⟩ | refine ⟨.inl ⟨rfl, rfl⟩, ?_⟩ | refine ⟨.inr ⟨_, _, rfl, rfl, rfl, rfl, rfl⟩, ?_⟩)), trivial⟩⟩
      refine c_cut (ι := Unit) (fun _ => ⟨[(5, .lst 4 ((l).map refA)), (6, .v (.string x)), (7, .v (.int .i64 (h))), (9, .v (.int .i64 (v))), (11, .v (.int .i64 (hd))), (12, .v (.int .i64 (v))), (13, .v (.int .i64 (0)))], [], []⟩) ?_ (fun _ => ?_)
      · refine runC_sound _ _ _ ?_
        conv => whnf
        repeat (first | (refine r_put (p_bin (b_ne_f rfl) rfl rfl rfl) rfl rfl ?_; conv => whnf) | (refine qc (t1) rfl ?_; conv => whnf) | (refine qc (q3) rfl ?_; conv => whnf) | (refine qc (a7) rfl ?_; conv => whnf) | (refine r_put (p_bin (b_bneR (r := false) Try.underlying4 (by rfl)) rfl rfl rfl) rfl rfl ?_; conv => whnf) | ((first | refine qb rfl rfl ?_ | refine qi (by assumption) rfl rfl ?_ | refine ql rfl ?_ | refine qo rfl rfl ?_ | refine qs rfl rfl ?_ | refine qn rfl rfl ?_); conv => whnf))
        exact ⟨(), ⟨by refine ⟨?_, ?_⟩ <;> (repeat (first | trivial | exact ⟨rfl, trivial⟩ | refine ⟨rfl, ?_⟩ | refine ⟨.inl ⟨rfl, rfl⟩, ?_⟩ | refine ⟨.inr ⟨_, _, rfl, rfl, rfl, rfl, rfl⟩, ?_⟩)), trivial⟩⟩
      refine c_seq ?_
      refine runC_sound _ _ _ ?_
      conv => whnf
      repeat (first | (refine r_put (p_bin (b_ne_f rfl) rfl rfl rfl) rfl rfl ?_; conv => whnf) | ((first | refine qb rfl rfl ?_ | refine qi (by assumption) rfl rfl ?_ | refine ql rfl ?_ | refine qo rfl rfl ?_ | refine qs rfl rfl ?_ | refine qn rfl rfl ?_); conv => whnf))
      refine c_seq ?_
      refine runC_sound _ _ _ ?_
      conv => whnf
      repeat (first | (refine qc (b1) rfl ?_; conv => whnf) | ((first | refine qb rfl rfl ?_ | refine qi (by assumption) rfl rfl ?_ | refine ql rfl ?_ | refine qo rfl rfl ?_ | refine qs rfl rfl ?_ | refine qn rfl rfl ?_); conv => whnf))
      refine c_cut (ι := Unit) (fun _ => ⟨[(5, .lst 4 ((l).map refA)), (6, .v (.string x)), (7, .v (.int .i64 (h))), (9, .v (.int .i64 (v))), (11, .v (.int .i64 (hd))), (12, .v (.int .i64 (v))), (22, .lst 4 ((C1).map refA)), (23, .v (.int .i64 (0))), (24, .lst 4 ((C1).map refA)), (25, .v (.int .i64 (0)))], [], []⟩) ?_ (fun _ => ?_)
      · refine runC_sound _ _ _ ?_
        conv => whnf
        repeat (first | (refine qc (b2) rfl ?_; conv => whnf) | ((first | refine qb rfl rfl ?_ | refine qi (by assumption) rfl rfl ?_ | refine ql rfl ?_ | refine qo rfl rfl ?_ | refine qs rfl rfl ?_ | refine qn rfl rfl ?_); conv => whnf))
        exact ⟨(), ⟨by refine ⟨?_, ?_⟩ <;> (repeat (first | trivial | exact ⟨rfl, trivial⟩ | refine ⟨rfl, ?_⟩ | refine ⟨.inl ⟨rfl, rfl⟩, ?_⟩ | refine ⟨.inr ⟨_, _, rfl, rfl, rfl, rfl, rfl⟩, ?_⟩)), trivial⟩⟩
      refine c_seq ?_
      refine runC_sound _ _ _ ?_
      conv => whnf
      repeat (first | (refine qc (b3) rfl ?_; conv => whnf) | ((first | refine qb rfl rfl ?_ | refine qi (by assumption) rfl rfl ?_ | refine ql rfl ?_ | refine qo rfl rfl ?_ | refine qs rfl rfl ?_ | refine qn rfl rfl ?_); conv => whnf))
      refine c_cut (ι := Unit) (fun _ => ⟨[(5, .lst 4 ((l).map refA)), (6, .v (.string x)), (7, .v (.int .i64 (h))), (9, .v (.int .i64 (v))), (11, .v (.int .i64 (hd))), (12, .v (.int .i64 (v))), (22, .lst 4 ((C1).map refA)), (23, .v (.int .i64 (0))), (24, .lst 4 ((C1).map refA)), (25, .v (.int .i64 (0))), (27, .v (.int .i64 (13))), (28, .lst 4 ((C2).map refA)), (29, .v (.int .i64 (0)))], [], []⟩) ?_ (fun _ => ?_)
      · refine runC_sound _ _ _ ?_
        conv => whnf
        repeat (first | (refine qc (b4) rfl ?_; conv => whnf) | ((first | refine qb rfl rfl ?_ | refine qi (by assumption) rfl rfl ?_ | refine ql rfl ?_ | refine qo rfl rfl ?_ | refine qs rfl rfl ?_ | refine qn rfl rfl ?_); conv => whnf))
        exact ⟨(), ⟨by refine ⟨?_, ?_⟩ <;> (repeat (first | trivial | exact ⟨rfl, trivial⟩ | refine ⟨rfl, ?_⟩ | refine ⟨.inl ⟨rfl, rfl⟩, ?_⟩ | refine ⟨.inr ⟨_, _, rfl, rfl, rfl, rfl, rfl⟩, ?_⟩)), trivial⟩⟩
      refine c_seq ?_
      refine runC_sound _ _ _ ?_
      conv => whnf
      repeat (first | (refine qc (b5) rfl ?_; conv => whnf) | ((first | refine qb rfl rfl ?_ | refine qi (by assumption) rfl rfl ?_ | refine ql rfl ?_ | refine qo rfl rfl ?_ | refine qs rfl rfl ?_ | refine qn rfl rfl ?_); conv => whnf))
      refine c_cut (ι := Unit) (fun _ => ⟨[(5, .lst 4 ((l).map refA)), (6, .v (.string x)), (7, .v (.int .i64 (h))), (9, .v (.int .i64 (v))), (11, .v (.int .i64 (hd))), (12, .v (.int .i64 (v))), (22, .lst 4 ((C1).map refA)), (23, .v (.int .i64 (0))), (24, .lst 4 ((C1).map refA)), (25, .v (.int .i64 (0))), (27, .v (.int .i64 (13))), (28, .lst 4 ((C2).map refA)), (29, .v (.int .i64 (0))), (30, .lst 4 ((C2).map refA)), (31, .v (.int .i64 (0))), (32, .lst 4 ((C6).map refA)), (33, .v (.int .i64 (0)))], [], []⟩) ?_ (fun _ => ?_)
      · refine runC_sound _ _ _ ?_
        conv => whnf
        repeat (first | (refine qc (b6) rfl ?_; conv => whnf) | ((first | refine qb rfl rfl ?_ | refine qi (by assumption) rfl rfl ?_ | refine ql rfl ?_ | refine qo rfl rfl ?_ | refine qs rfl rfl ?_ | refine qn rfl rfl ?_); conv => whnf))
        exact ⟨(), ⟨by refine ⟨?_, ?_⟩ <;> (repeat (first | trivial | exact ⟨rfl, trivial⟩ | refine ⟨rfl, ?_⟩ | refine ⟨.inl ⟨rfl, rfl⟩, ?_⟩ | refine ⟨.inr ⟨_, _, rfl, rfl, rfl, rfl, rfl⟩, ?_⟩)), trivial⟩⟩
      refine c_seq ?_
      refine runC_sound _ _ _ ?_
      conv => whnf
      repeat (first | (refine qc (b7) rfl ?_; conv => whnf) | ((first | refine qb rfl rfl ?_ | refine qi (by assumption) rfl rfl ?_ | refine ql rfl ?_ | refine qo rfl rfl ?_ | refine qs rfl rfl ?_ | refine qn rfl rfl ?_); conv => whnf))
      refine c_cut (ι := Unit) (fun _ => ⟨[(5, .lst 4 ((l).map refA)), (6, .v (.string x)), (7, .v (.int .i64 (h))), (9, .v (.int .i64 (v))), (11, .v (.int .i64 (hd))), (12, .v (.int .i64 (v))), (22, .lst 4 ((C1).map refA)), (23, .v (.int .i64 (0))), (24, .lst 4 ((C1).map refA)), (25, .v (.int .i64 (0))), (27, .v (.int .i64 (13))), (28, .lst 4 ((C2).map refA)), (29, .v (.int .i64 (0))), (30, .lst 4 ((C2).map refA)), (31, .v (.int .i64 (0))), (32, .lst 4 ((C6).map refA)), (33, .v (.int .i64 (0))), (35, .v (.int .i64 (13))), (36, .v (.int .i64 (h))), (37, .v (.int .i64 (v + 1))), (38, .v (.int .i64 (0)))], [], []⟩) ?_ (fun _ => ?_)
      · refine runC_sound _ _ _ ?_
        conv => whnf
        repeat (first | (refine qc (b8) rfl ?_; conv => whnf) | ((first | refine qb rfl rfl ?_ | refine qi (by assumption) rfl rfl ?_ | refine ql rfl ?_ | refine qo rfl rfl ?_ | refine qs rfl rfl ?_ | refine qn rfl rfl ?_); conv => whnf))
        exact ⟨(), ⟨by refine ⟨?_, ?_⟩ <;> (repeat (first | trivial | exact ⟨rfl, trivial⟩ | refine ⟨rfl, ?_⟩ | refine ⟨.inl ⟨rfl, rfl⟩, ?_⟩ | refine ⟨.inr ⟨_, _, rfl, rfl, rfl, rfl, rfl⟩, ?_⟩)), trivial⟩⟩
      refine c_cut (ι := Unit) (fun _ => ⟨[(5, .lst 4 ((l).map refA)), (6, .v (.string x)), (7, .v (.int .i64 (h))), (9, .v (.int .i64 (v))), (11, .v (.int .i64 (hd))), (12, .v (.int .i64 (v))), (22, .lst 4 ((C1).map refA)), (23, .v (.int .i64 (0))), (24, .lst 4 ((C1).map refA)), (25, .v (.int .i64 (0))), (27, .v (.int .i64 (13))), (28, .lst 4 ((C2).map refA)), (29, .v (.int .i64 (0))), (30, .lst 4 ((C2).map refA)), (31, .v (.int .i64 (0))), (32, .lst 4 ((C6).map refA)), (33, .v (.int .i64 (0))), (35, .v (.int .i64 (13))), (36, .v (.int .i64 (h))), (37, .v (.int .i64 (v + 1))), (38, .v (.int .i64 (0))), (40, .v (.int .i64 (0))), (41, .v (.int .i64 (10)))], [], []⟩) ?_ (fun _ => ?_)
      · refine runC_sound _ _ _ ?_
        conv => whnf
        repeat (first | (refine qc (b9) rfl ?_; conv => whnf) | ((first | refine qb rfl rfl ?_ | refine qi (by assumption) rfl rfl ?_ | refine ql rfl ?_ | refine qo rfl rfl ?_ | refine qs rfl rfl ?_ | refine qn rfl rfl ?_); conv => whnf))
        exact ⟨(), ⟨by refine ⟨?_, ?_⟩ <;> (repeat (first | trivial | exact ⟨rfl, trivial⟩ | refine ⟨rfl, ?_⟩ | refine ⟨.inl ⟨rfl, rfl⟩, ?_⟩ | refine ⟨.inr ⟨_, _, rfl, rfl, rfl, rfl, rfl⟩, ?_⟩)), trivial⟩⟩
      refine runC_sound _ _ _ ?_
      conv => whnf
      repeat (first | (refine r_put (p_bin (b_eq_t rfl) rfl rfl rfl) rfl rfl ?_; conv => whnf) | (refine qc (q1) rfl ?_; conv => whnf) | (refine qc (q2) rfl ?_; conv => whnf) | (refine r_put (p_bin (b_add (c := v + 1) (by omega) (by omega) (by omega)) rfl rfl rfl) rfl rfl ?_; conv => whnf) | ((first | refine qb rfl rfl ?_ | refine qi (by assumption) rfl rfl ?_ | refine ql rfl ?_ | refine qo rfl rfl ?_ | refine qs rfl rfl ?_ | refine qn rfl rfl ?_); conv => whnf))
      exact r_ret1 rfl trivial
end Go.Proofs.Ytjhimcddgkoghaa.AM
