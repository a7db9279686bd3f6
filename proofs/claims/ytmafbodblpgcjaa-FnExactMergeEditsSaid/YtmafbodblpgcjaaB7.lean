/- The program's comparison of two lists of changes: a map of strings. -/
import Derived.Test.YtmafbodblpgcjaaB6
namespace Go.Proofs.Ytmafbodblpgcjaa.AM
open Go Go.RowKit
set_option linter.unusedVariables false
set_option linter.unusedSimpArgs false
set_option maxRecDepth 100000
attribute [local irreducible] ACode AOps RetQ RetM Pre AC ACM
def mapOf (es : List Edt) : List (ByteArray × AV) := es.map fun e => (e.key, edtA e)
theorem mget_mapOf (q : ByteArray) : ∀ es : List Edt, mget (mapOf es) q = (fndE es q).map edtA
  | [] => rfl
  | e :: es => by
    show (if q = e.key then some (edtA e) else mget (mapOf es) q) = _
    rw [fndE, List.find?_cons]
    by_cases h : q = e.key
    · subst h; simp
    · have h' : ¬ e.key = q := fun x => h x.symm
      simp only [if_neg h, h', decide_false]
      exact mget_mapOf q es
theorem mput_new {q : ByteArray} {v : AV} : ∀ {m : List (ByteArray × AV)}, mget m q = none → mput m q v = m ++ [(q, v)]
  | [], _ => rfl
  | (k, y) :: m, h => by
    by_cases hk : q = k
    · simp [mget, hk] at h
    · simp only [mget, if_neg hk] at h
      simp only [mput, if_neg hk, List.cons_append, mput_new h]
theorem mdel_mapOf {q : ByteArray} : ∀ {es : List Edt}, SrtE es → mdel (mapOf es) q = mapOf (es.filter fun e => decide (e.key ≠ q))
  | [], _ => rfl
  | e :: es, h => by
    obtain ⟨p, hq⟩ := List.pairwise_cons.1 h
    show (if q = e.key then mapOf es else (e.key, edtA e) :: mdel (mapOf es) q) = _
    by_cases hk : q = e.key
    · subst hk
      rw [if_pos rfl, List.filter_cons_of_neg (by simp)]
      congr 1
      symm
      rw [List.filter_eq_self]
      intro x hx
      have := klt_ne (p x hx)
      simpa using fun e => this e.symm
    · rw [if_neg hk, List.filter_cons_of_pos (by simpa using fun e => hk e.symm), mdel_mapOf hq]
      rfl
theorem srt_todo {l r : List Edt} (hr : SrtE r) : SrtE (todoL l r) := List.Pairwise.filter _ hr
theorem isTodo_iff {l : List Edt} {e : Edt} : isTodo l e = true ↔ ∀ x ∈ l, x.key ≠ e.key := by
  unfold isTodo
  rw [Option.isNone_iff_eq_none]
  constructor
  · exact fndE_none
  · intro h; rw [fndE, List.find?_eq_none]; intro x hx; simpa using h x hx
theorem todo_step {l r : List Edt} {k : Nat} (hk : k < l.length) : todoL (l.take (k + 1)) r = (todoL (l.take k) r).filter fun e => decide (e.key ≠ l[k].key) := by
  unfold todoL
  rw [List.filter_filter]
  congr 1
  funext e
  rw [Bool.eq_iff_iff, Bool.and_eq_true, isTodo_iff, isTodo_iff, List.take_succ_eq_append_getElem hk]
  simp only [List.mem_append, List.mem_singleton, decide_eq_true_eq]
  constructor
  · intro h; exact ⟨fun e' => h _ (.inr rfl) e'.symm, fun x hx => h x (.inl hx)⟩
  · rintro ⟨h1, h2⟩ x (hx | rfl)
    · exact h2 x hx
    · exact fun e' => h1 e'.symm
theorem srt_notin {l : List Edt} (hl : SrtE l) {k : Nat} (hk : k < l.length) : ∀ x ∈ l.take k, x.key ≠ l[k].key := fun x hx => by
  obtain ⟨i, hi, rfl⟩ := List.mem_iff_getElem.1 hx
  rw [List.length_take] at hi
  rw [List.getElem_take]
  exact klt_ne (List.pairwise_iff_getElem.1 hl i k (by omega) hk (by omega))
theorem fnd_todo {l r : List Edt} (hr : SrtE r) {q : ByteArray} (hq : ∀ x ∈ l, x.key ≠ q) : fndE (todoL l r) q = fndE r q := by
  cases h : fndE r q with
  | none =>
    rw [fndE, List.find?_eq_none]
    intro x hx
    have := fndE_none h x (List.mem_filter.1 hx).1
    simpa using this
  | some x =>
    obtain ⟨h1, h2⟩ := fndE_mem h
    have hm : x ∈ todoL l r := List.mem_filter.2 ⟨h1, isTodo_iff.2 (fun y hy => by rw [h2]; exact hq y hy)⟩
    rw [← h2]; exact fndE_of (srt_todo hr) hm
theorem left_todo {l r : List Edt} (hr : SrtE r) {k : Nat} (hk : k < r.length) : (mget (mapOf (todoL l r)) r[k].key).isSome = isTodo l r[k] := by
  rw [mget_mapOf, Option.isSome_map]
  cases h : isTodo l r[k] with
  | true =>
    have hm : r[k] ∈ todoL l r := List.mem_filter.2 ⟨List.getElem_mem hk, h⟩
    rw [fndE_of (srt_todo hr) hm]; rfl
  | false =>
    cases hf : fndE (todoL l r) r[k].key with
    | none => rfl
    | some x =>
      obtain ⟨h1, h2⟩ := fndE_mem hf
      obtain ⟨h3, h4⟩ := List.mem_filter.1 h1
      have e1 := fndE_of hr h3
      have e2 := fndE_of hr (List.getElem_mem hk)
      rw [h2, e2] at e1
      cases e1
      rw [h] at h4; cases h4
theorem mapOf_snoc {r : List Edt} (hr : SrtE r) {k : Nat} (hk : k < r.length) : mput (mapOf (r.take k)) r[k].key (edtA r[k]) = mapOf (r.take (k + 1)) := by
  rw [mput_new]
  · unfold mapOf; rw [List.take_succ_eq_append_getElem hk, List.map_append]; rfl
  · rw [mget_mapOf]
    have : fndE (r.take k) r[k].key = none := by
      rw [fndE, List.find?_eq_none]; intro x hx; simpa using srt_notin hr hk x hx
    rw [this]; rfl
set_option maxHeartbeats 4000000 in
theorem cc_ok : CCok := by
  intro l r hl hr h1 h2
  rw [clash_comm hl hr]
  refine r_of Th_ok (by kernel_rfl) Try.func139 rfl Try.ntmps139 Try.results139 (by kernel_rfl) rfl ?_; conv => whnf
  repeat (first | first | (refine r_put (p_bin (by first | exact b_lt_t (by omega) | exact b_lt_f (by omega) | exact b_le_t (by omega) | exact b_le_f (by omega) | exact b_gt_t (by omega) | exact b_gt_f (by omega) | exact b_ge_t (by omega) | exact b_ge_f (by omega) | exact b_eq_t (by omega) | exact b_eq_f (by omega) | exact b_ne_t (by omega) | exact b_ne_f (by omega) | exact b_sub rfl (by omega) (by omega) | exact b_add rfl (by omega) (by omega)) rfl rfl rfl) rfl rfl ?_; conv => whnf) | (refine r_put (p_idx (getA _ (by assumption)) rfl rfl rfl) rfl rfl ?_; conv => whnf) | (refine r_put (p_lenm rfl ⟨_, _, _, _, rfl⟩) rfl rfl ?_; conv => whnf) | (refine r_put (p_lenom rfl rfl ⟨_, _, _, _, rfl⟩) rfl rfl ?_; conv => whnf) | (refine r_put (p_len (y := .v (.string _)) rfl rfl rfl) rfl rfl ?_; conv => whnf) | (refine r_put (p_len rfl rfl ⟨_, _, _, _, rfl⟩) rfl rfl ?_; conv => whnf) | (refine r_step (p_mkmap rfl rfl rfl) rfl rfl (fun e => by first | exact .inl rfl | contradiction | exact .inr (by kernel_rfl)) ?_; conv => whnf))
  refine r_loopm (ι := { k : Nat // k ≤ r.length }) (fun k => ⟨[(0, .lst 3 (l.map edtA)), (1, .lst 3 (r.map edtA)), (6, .mapv 22), (22, .lst 3 (r.map edtA)), (23, .v (.int .i64 (r.length : Int))), (24, .v (.int .i64 (k.1 : Int)))], [(22, ⟨164, 1, []⟩)], [(22, mapOf (r.take k.1))]⟩) (fun k => r.length - k.1) ⟨0, Nat.zero_le _⟩ ⟨by refine ⟨?_, ?_⟩ <;> (repeat (first | trivial | exact ⟨rfl, trivial⟩ | refine ⟨rfl, ?_⟩ | refine ⟨.inl ⟨rfl, rfl⟩, ?_⟩ | refine ⟨.inr ⟨_, _, rfl, rfl, rfl, rfl⟩, ?_⟩)), ⟨rfl, rfl⟩, trivial⟩ ?_
  rintro ⟨k, hk⟩
  dsimp only
  conv => whnf
  by_cases hlt : k < r.length
  · have hs := mapOf_snoc hr hlt
    repeat (first | first | (refine r_put (p_bin (by first | exact b_lt_t (by omega) | exact b_lt_f (by omega) | exact b_le_t (by omega) | exact b_le_f (by omega) | exact b_gt_t (by omega) | exact b_gt_f (by omega) | exact b_ge_t (by omega) | exact b_ge_f (by omega) | exact b_eq_t (by omega) | exact b_eq_f (by omega) | exact b_ne_t (by omega) | exact b_ne_f (by omega) | exact b_sub rfl (by omega) (by omega) | exact b_add rfl (by omega) (by omega)) rfl rfl rfl) rfl rfl ?_; conv => whnf) | (refine r_put (p_idx (getA _ (by assumption)) rfl rfl rfl) rfl rfl ?_; conv => whnf) | (refine r_put (p_lenm rfl ⟨_, _, _, _, rfl⟩) rfl rfl ?_; conv => whnf) | (refine r_put (p_lenom rfl rfl ⟨_, _, _, _, rfl⟩) rfl rfl ?_; conv => whnf) | (refine r_put (p_len (y := .v (.string _)) rfl rfl rfl) rfl rfl ?_; conv => whnf) | (refine r_put (p_len rfl rfl ⟨_, _, _, _, rfl⟩) rfl rfl ?_; conv => whnf) | (refine r_step (p_ostore rfl rfl rfl rfl rfl (by conv => lhs; whnf) rfl) rfl rfl (fun e => by first | exact .inl rfl | contradiction | exact .inr (by kernel_rfl)) ?_; conv => whnf) | (refine r_step (p_mapput (v := edtA r[k]) rfl rfl rfl rfl rfl rfl rfl hs) rfl rfl (fun e => by first | exact .inl rfl | contradiction | exact .inr (by kernel_rfl)) ?_; conv => whnf))
    exact ⟨⟨k + 1, hlt⟩, ⟨by refine ⟨?_, ?_⟩ <;> (repeat (first | trivial | exact ⟨rfl, trivial⟩ | refine ⟨rfl, ?_⟩ | refine ⟨.inl ⟨rfl, rfl⟩, ?_⟩ | refine ⟨.inr ⟨_, _, rfl, rfl, rfl, rfl⟩, ?_⟩)), ⟨rfl, rfl⟩, trivial⟩, by simp; omega⟩
  have hkk : k = r.length := by omega
  subst hkk
  rw [List.take_length]
  repeat (first | (refine r_put (p_bin (by first | exact b_lt_t (by omega) | exact b_lt_f (by omega) | exact b_le_t (by omega) | exact b_le_f (by omega) | exact b_gt_t (by omega) | exact b_gt_f (by omega) | exact b_ge_t (by omega) | exact b_ge_f (by omega) | exact b_eq_t (by omega) | exact b_eq_f (by omega) | exact b_ne_t (by omega) | exact b_ne_f (by omega) | exact b_sub rfl (by omega) (by omega) | exact b_add rfl (by omega) (by omega)) rfl rfl rfl) rfl rfl ?_; conv => whnf) | (refine r_put (p_idx (getA _ (by assumption)) rfl rfl rfl) rfl rfl ?_; conv => whnf) | (refine r_put (p_lenm rfl ⟨_, _, _, _, rfl⟩) rfl rfl ?_; conv => whnf) | (refine r_put (p_lenom rfl rfl ⟨_, _, _, _, rfl⟩) rfl rfl ?_; conv => whnf) | (refine r_put (p_len (y := .v (.string _)) rfl rfl rfl) rfl rfl ?_; conv => whnf) | (refine r_put (p_len rfl rfl ⟨_, _, _, _, rfl⟩) rfl rfl ?_; conv => whnf))
  refine r_loopm (ι := { k : Nat // k ≤ l.length }) (fun k => ⟨[(1, .lst 3 (r.map edtA)), (6, .mapv 22), (9, .own 10), (33, .lst 3 (l.map edtA)), (34, .v (.int .i64 (l.length : Int))), (35, .v (.int .i64 (k.1 : Int)))], [(22, ⟨164, 1, []⟩), (10, ⟨9, 1, (clashL r (l.take k.1)).map strA⟩)], [(22, mapOf (todoL (l.take k.1) r))]⟩) (fun k => l.length - k.1) ⟨0, Nat.zero_le _⟩ ⟨by refine ⟨?_, ?_⟩ <;> (repeat (first | trivial | exact ⟨rfl, trivial⟩ | refine ⟨rfl, ?_⟩ | refine ⟨.inl ⟨rfl, rfl⟩, ?_⟩ | refine ⟨.inr ⟨_, _, rfl, rfl, rfl, rfl⟩, ?_⟩)), ⟨congrArg (fun x => some (mapOf x)) (show r = todoL (l.take 0) r from (List.filter_eq_self.2 (fun x _ => rfl)).symm), rfl⟩, trivial⟩ ?_
  rintro ⟨k, hk⟩
  dsimp only
  conv => whnf
  by_cases hlt : k < l.length
  · have hfd := fnd_todo hr (srt_notin hl hlt)
    have hdel : mdel (mapOf (todoL (l.take k) r)) l[k].key = mapOf (todoL (l.take (k + 1)) r) := by rw [mdel_mapOf (srt_todo hr), todo_step hlt]
    have hcs := clashL_succ r l k hlt
    have lc := clashL_length r (l.take k)
    rw [List.length_take] at lc
    cases hf : fndE r l[k].key with
    | none =>
      rw [hf] at hfd
      have g1 : mget (mapOf (todoL (l.take k) r)) l[k].key = none := by rw [mget_mapOf, hfd]; rfl
      have c1 : isClash r l[k] = false := by unfold isClash; rw [hf]
      rw [c1, if_neg (by simp)] at hcs
      repeat (first | first | (refine r_put (p_bin (by first | exact b_lt_t (by omega) | exact b_lt_f (by omega) | exact b_le_t (by omega) | exact b_le_f (by omega) | exact b_gt_t (by omega) | exact b_gt_f (by omega) | exact b_ge_t (by omega) | exact b_ge_f (by omega) | exact b_eq_t (by omega) | exact b_eq_f (by omega) | exact b_ne_t (by omega) | exact b_ne_f (by omega) | exact b_sub rfl (by omega) (by omega) | exact b_add rfl (by omega) (by omega)) rfl rfl rfl) rfl rfl ?_; conv => whnf) | (refine r_put (p_idx (getA _ (by assumption)) rfl rfl rfl) rfl rfl ?_; conv => whnf) | (refine r_put (p_lenm rfl ⟨_, _, _, _, rfl⟩) rfl rfl ?_; conv => whnf) | (refine r_put (p_lenom rfl rfl ⟨_, _, _, _, rfl⟩) rfl rfl ?_; conv => whnf) | (refine r_put (p_len (y := .v (.string _)) rfl rfl rfl) rfl rfl ?_; conv => whnf) | (refine r_put (p_len rfl rfl ⟨_, _, _, _, rfl⟩) rfl rfl ?_; conv => whnf) | (refine r_put (p_mapget (y := edtA zE) (f := false) rfl rfl rfl rfl (by rw [g1]; rfl) (by rw [g1]; rfl)) rfl rfl ?_; conv => whnf) | (refine r_step (p_mapdel rfl rfl rfl rfl hdel) rfl rfl (fun e => by first | exact .inl rfl | contradiction | exact .inr (by kernel_rfl)) ?_; conv => whnf) | (refine r_step (p_ostore rfl rfl rfl rfl rfl (by conv => lhs; whnf) rfl) rfl rfl (fun e => by first | exact .inl rfl | contradiction | exact .inr (by kernel_rfl)) ?_; conv => whnf))
      rw [← hcs]
      exact ⟨⟨k + 1, hlt⟩, ⟨by refine ⟨?_, ?_⟩ <;> (repeat (first | trivial | exact ⟨rfl, trivial⟩ | refine ⟨rfl, ?_⟩ | refine ⟨.inl ⟨rfl, rfl⟩, ?_⟩ | refine ⟨.inr ⟨_, _, rfl, rfl, rfl, rfl⟩, ?_⟩)), ⟨rfl, rfl⟩, trivial⟩, by simp; omega⟩
    | some x =>
      rw [hf] at hfd
      have g1 : mget (mapOf (todoL (l.take k) r)) l[k].key = some (edtA x) := by rw [mget_mapOf, hfd]; rfl
      by_cases hx : x = l[k]
      · have c1 : isClash r l[k] = false := by unfold isClash; rw [hf]; simp [hx]
        rw [c1, if_neg (by simp)] at hcs
        repeat (first | first | (refine r_put (p_bin (by first | exact b_lt_t (by omega) | exact b_lt_f (by omega) | exact b_le_t (by omega) | exact b_le_f (by omega) | exact b_gt_t (by omega) | exact b_gt_f (by omega) | exact b_ge_t (by omega) | exact b_ge_f (by omega) | exact b_eq_t (by omega) | exact b_eq_f (by omega) | exact b_ne_t (by omega) | exact b_ne_f (by omega) | exact b_sub rfl (by omega) (by omega) | exact b_add rfl (by omega) (by omega)) rfl rfl rfl) rfl rfl ?_; conv => whnf) | (refine r_put (p_idx (getA _ (by assumption)) rfl rfl rfl) rfl rfl ?_; conv => whnf) | (refine r_put (p_lenm rfl ⟨_, _, _, _, rfl⟩) rfl rfl ?_; conv => whnf) | (refine r_put (p_lenom rfl rfl ⟨_, _, _, _, rfl⟩) rfl rfl ?_; conv => whnf) | (refine r_put (p_len (y := .v (.string _)) rfl rfl rfl) rfl rfl ?_; conv => whnf) | (refine r_put (p_len rfl rfl ⟨_, _, _, _, rfl⟩) rfl rfl ?_; conv => whnf) | (refine r_put (p_mapget (y := edtA x) (f := true) rfl rfl rfl rfl (by rw [g1]; rfl) (by rw [g1]; rfl)) rfl rfl ?_; conv => whnf) | (refine r_step (p_mapdel rfl rfl rfl rfl hdel) rfl rfl (fun e => by first | exact .inl rfl | contradiction | exact .inr (by kernel_rfl)) ?_; conv => whnf) | (refine r_step (p_ostore rfl rfl rfl rfl rfl (by conv => lhs; whnf) rfl) rfl rfl (fun e => by first | exact .inl rfl | contradiction | exact .inr (by kernel_rfl)) ?_; conv => whnf) | (refine r_put (p_binA (b_edtne (a := x) (b := l[k]) (r := false) (by simp [hx])) rfl rfl rfl) rfl rfl ?_; conv => whnf))
        rw [← hcs]
        exact ⟨⟨k + 1, hlt⟩, ⟨by refine ⟨?_, ?_⟩ <;> (repeat (first | trivial | exact ⟨rfl, trivial⟩ | refine ⟨rfl, ?_⟩ | refine ⟨.inl ⟨rfl, rfl⟩, ?_⟩ | refine ⟨.inr ⟨_, _, rfl, rfl, rfl, rfl⟩, ?_⟩)), ⟨rfl, rfl⟩, trivial⟩, by simp; omega⟩
      · have c1 : isClash r l[k] = true := by unfold isClash; rw [hf]; simp [hx]
        rw [if_pos c1] at hcs
        repeat (first | first | (refine r_put (p_bin (by first | exact b_lt_t (by omega) | exact b_lt_f (by omega) | exact b_le_t (by omega) | exact b_le_f (by omega) | exact b_gt_t (by omega) | exact b_gt_f (by omega) | exact b_ge_t (by omega) | exact b_ge_f (by omega) | exact b_eq_t (by omega) | exact b_eq_f (by omega) | exact b_ne_t (by omega) | exact b_ne_f (by omega) | exact b_sub rfl (by omega) (by omega) | exact b_add rfl (by omega) (by omega)) rfl rfl rfl) rfl rfl ?_; conv => whnf) | (refine r_put (p_idx (getA _ (by assumption)) rfl rfl rfl) rfl rfl ?_; conv => whnf) | (refine r_put (p_lenm rfl ⟨_, _, _, _, rfl⟩) rfl rfl ?_; conv => whnf) | (refine r_put (p_lenom rfl rfl ⟨_, _, _, _, rfl⟩) rfl rfl ?_; conv => whnf) | (refine r_put (p_len (y := .v (.string _)) rfl rfl rfl) rfl rfl ?_; conv => whnf) | (refine r_put (p_len rfl rfl ⟨_, _, _, _, rfl⟩) rfl rfl ?_; conv => whnf) | (refine r_put (p_mapget (y := edtA x) (f := true) rfl rfl rfl rfl (by rw [g1]; rfl) (by rw [g1]; rfl)) rfl rfl ?_; conv => whnf) | (refine r_step (p_mapdel rfl rfl rfl rfl hdel) rfl rfl (fun e => by first | exact .inl rfl | contradiction | exact .inr (by kernel_rfl)) ?_; conv => whnf) | (refine r_step (p_ostore rfl rfl rfl rfl rfl (by conv => lhs; whnf) rfl) rfl rfl (fun e => by first | exact .inl rfl | contradiction | exact .inr (by kernel_rfl)) ?_; conv => whnf) | (refine r_put (p_binA (b_edtne (a := x) (b := l[k]) (r := true) (by simp [hx])) rfl rfl rfl) rfl rfl ?_; conv => whnf) | (refine r_step (p_app1r _ _ hcs.symm (by omega) rfl rfl rfl rfl rfl rfl rfl) rfl rfl (fun e => by first | exact .inl rfl | contradiction | exact .inr (by kernel_rfl)) ?_; conv => whnf))
        exact ⟨⟨k + 1, hlt⟩, ⟨by refine ⟨?_, ?_⟩ <;> (repeat (first | trivial | exact ⟨rfl, trivial⟩ | refine ⟨rfl, ?_⟩ | refine ⟨.inl ⟨rfl, rfl⟩, ?_⟩ | refine ⟨.inr ⟨_, _, rfl, rfl, rfl, rfl⟩, ?_⟩)), ⟨rfl, rfl⟩, trivial⟩, by simp; omega⟩
  have hkk : k = l.length := by omega
  subst hkk
  rw [List.take_length]
  repeat (first | (refine r_put (p_bin (by first | exact b_lt_t (by omega) | exact b_lt_f (by omega) | exact b_le_t (by omega) | exact b_le_f (by omega) | exact b_gt_t (by omega) | exact b_gt_f (by omega) | exact b_ge_t (by omega) | exact b_ge_f (by omega) | exact b_eq_t (by omega) | exact b_eq_f (by omega) | exact b_ne_t (by omega) | exact b_ne_f (by omega) | exact b_sub rfl (by omega) (by omega) | exact b_add rfl (by omega) (by omega)) rfl rfl rfl) rfl rfl ?_; conv => whnf) | (refine r_put (p_idx (getA _ (by assumption)) rfl rfl rfl) rfl rfl ?_; conv => whnf) | (refine r_put (p_lenm rfl ⟨_, _, _, _, rfl⟩) rfl rfl ?_; conv => whnf) | (refine r_put (p_lenom rfl rfl ⟨_, _, _, _, rfl⟩) rfl rfl ?_; conv => whnf) | (refine r_put (p_len (y := .v (.string _)) rfl rfl rfl) rfl rfl ?_; conv => whnf) | (refine r_put (p_len rfl rfl ⟨_, _, _, _, rfl⟩) rfl rfl ?_; conv => whnf))
  refine r_loopm (ι := { k : Nat // k ≤ r.length }) (fun k => ⟨[(6, .mapv 22), (9, .own 10), (14, .own 15), (61, .lst 3 (r.map edtA)), (62, .v (.int .i64 (r.length : Int))), (63, .v (.int .i64 (k.1 : Int)))], [(22, ⟨164, 1, []⟩), (10, ⟨9, 1, (clashL r l).map strA⟩), (15, ⟨41, 3, (todoL l (r.take k.1)).map edtA⟩)], [(22, mapOf (todoL l r))]⟩) (fun k => r.length - k.1) ⟨0, Nat.zero_le _⟩ ⟨by refine ⟨?_, ?_⟩ <;> (repeat (first | trivial | exact ⟨rfl, trivial⟩ | refine ⟨rfl, ?_⟩ | refine ⟨.inl ⟨rfl, rfl⟩, ?_⟩ | refine ⟨.inr ⟨_, _, rfl, rfl, rfl, rfl⟩, ?_⟩)), ⟨rfl, rfl⟩, trivial⟩ ?_
  rintro ⟨k, hk⟩
  dsimp only
  conv => whnf
  by_cases hlt : k < r.length
  · have hleft := left_todo (l := l) hr hlt
    have hts := todoL_succ l r k hlt
    have lt := todoL_length l (r.take k)
    rw [List.length_take] at lt
    obtain ⟨y, hy⟩ : ∃ y, (mget (mapOf (todoL l r)) r[k].key).getD (edtA zE) = edtA y := by
      rw [mget_mapOf]
      cases fndE (todoL l r) r[k].key with
      | none => exact ⟨zE, rfl⟩
      | some x => exact ⟨x, rfl⟩
    cases ht : isTodo l r[k] with
    | true =>
      rw [ht] at hleft
      rw [if_pos ht] at hts
      repeat (first | first | (refine r_put (p_bin (by first | exact b_lt_t (by omega) | exact b_lt_f (by omega) | exact b_le_t (by omega) | exact b_le_f (by omega) | exact b_gt_t (by omega) | exact b_gt_f (by omega) | exact b_ge_t (by omega) | exact b_ge_f (by omega) | exact b_eq_t (by omega) | exact b_eq_f (by omega) | exact b_ne_t (by omega) | exact b_ne_f (by omega) | exact b_sub rfl (by omega) (by omega) | exact b_add rfl (by omega) (by omega)) rfl rfl rfl) rfl rfl ?_; conv => whnf) | (refine r_put (p_idx (getA _ (by assumption)) rfl rfl rfl) rfl rfl ?_; conv => whnf) | (refine r_put (p_lenm rfl ⟨_, _, _, _, rfl⟩) rfl rfl ?_; conv => whnf) | (refine r_put (p_lenom rfl rfl ⟨_, _, _, _, rfl⟩) rfl rfl ?_; conv => whnf) | (refine r_put (p_len (y := .v (.string _)) rfl rfl rfl) rfl rfl ?_; conv => whnf) | (refine r_put (p_len rfl rfl ⟨_, _, _, _, rfl⟩) rfl rfl ?_; conv => whnf) | (refine r_put (p_mapget (y := edtA y) (f := true) rfl rfl rfl rfl hy hleft) rfl rfl ?_; conv => whnf) | (refine r_step (p_ostore rfl rfl rfl rfl rfl (by conv => lhs; whnf) rfl) rfl rfl (fun e => by first | exact .inl rfl | contradiction | exact .inr (by kernel_rfl)) ?_; conv => whnf) | (refine r_step (p_app1r _ _ hts.symm (by omega) rfl rfl rfl rfl rfl rfl rfl) rfl rfl (fun e => by first | exact .inl rfl | contradiction | exact .inr (by kernel_rfl)) ?_; conv => whnf))
      exact ⟨⟨k + 1, hlt⟩, ⟨by refine ⟨?_, ?_⟩ <;> (repeat (first | trivial | exact ⟨rfl, trivial⟩ | refine ⟨rfl, ?_⟩ | refine ⟨.inl ⟨rfl, rfl⟩, ?_⟩ | refine ⟨.inr ⟨_, _, rfl, rfl, rfl, rfl⟩, ?_⟩)), ⟨rfl, rfl⟩, trivial⟩, by simp; omega⟩
    | false =>
      rw [ht] at hleft
      rw [ht, if_neg (by simp)] at hts
      repeat (first | first | (refine r_put (p_bin (by first | exact b_lt_t (by omega) | exact b_lt_f (by omega) | exact b_le_t (by omega) | exact b_le_f (by omega) | exact b_gt_t (by omega) | exact b_gt_f (by omega) | exact b_ge_t (by omega) | exact b_ge_f (by omega) | exact b_eq_t (by omega) | exact b_eq_f (by omega) | exact b_ne_t (by omega) | exact b_ne_f (by omega) | exact b_sub rfl (by omega) (by omega) | exact b_add rfl (by omega) (by omega)) rfl rfl rfl) rfl rfl ?_; conv => whnf) | (refine r_put (p_idx (getA _ (by assumption)) rfl rfl rfl) rfl rfl ?_; conv => whnf) | (refine r_put (p_lenm rfl ⟨_, _, _, _, rfl⟩) rfl rfl ?_; conv => whnf) | (refine r_put (p_lenom rfl rfl ⟨_, _, _, _, rfl⟩) rfl rfl ?_; conv => whnf) | (refine r_put (p_len (y := .v (.string _)) rfl rfl rfl) rfl rfl ?_; conv => whnf) | (refine r_put (p_len rfl rfl ⟨_, _, _, _, rfl⟩) rfl rfl ?_; conv => whnf) | (refine r_put (p_mapget (y := edtA y) (f := false) rfl rfl rfl rfl hy hleft) rfl rfl ?_; conv => whnf) | (refine r_step (p_ostore rfl rfl rfl rfl rfl (by conv => lhs; whnf) rfl) rfl rfl (fun e => by first | exact .inl rfl | contradiction | exact .inr (by kernel_rfl)) ?_; conv => whnf))
      rw [← hts]
      exact ⟨⟨k + 1, hlt⟩, ⟨by refine ⟨?_, ?_⟩ <;> (repeat (first | trivial | exact ⟨rfl, trivial⟩ | refine ⟨rfl, ?_⟩ | refine ⟨.inl ⟨rfl, rfl⟩, ?_⟩ | refine ⟨.inr ⟨_, _, rfl, rfl, rfl, rfl⟩, ?_⟩)), ⟨rfl, rfl⟩, trivial⟩, by simp; omega⟩
  have hkk : k = r.length := by omega
  subst hkk
  rw [List.take_length]
  repeat (first | (refine r_put (p_bin (by first | exact b_lt_t (by omega) | exact b_lt_f (by omega) | exact b_le_t (by omega) | exact b_le_f (by omega) | exact b_gt_t (by omega) | exact b_gt_f (by omega) | exact b_ge_t (by omega) | exact b_ge_f (by omega) | exact b_eq_t (by omega) | exact b_eq_f (by omega) | exact b_ne_t (by omega) | exact b_ne_f (by omega) | exact b_sub rfl (by omega) (by omega) | exact b_add rfl (by omega) (by omega)) rfl rfl rfl) rfl rfl ?_; conv => whnf) | (refine r_put (p_idx (getA _ (by assumption)) rfl rfl rfl) rfl rfl ?_; conv => whnf) | (refine r_put (p_lenm rfl ⟨_, _, _, _, rfl⟩) rfl rfl ?_; conv => whnf) | (refine r_put (p_lenom rfl rfl ⟨_, _, _, _, rfl⟩) rfl rfl ?_; conv => whnf) | (refine r_put (p_len (y := .v (.string _)) rfl rfl rfl) rfl rfl ?_; conv => whnf) | (refine r_put (p_len rfl rfl ⟨_, _, _, _, rfl⟩) rfl rfl ?_; conv => whnf))
  exact r_tupOO rfl rfl rfl rfl rfl
end Go.Proofs.Ytmafbodblpgcjaa.AM
