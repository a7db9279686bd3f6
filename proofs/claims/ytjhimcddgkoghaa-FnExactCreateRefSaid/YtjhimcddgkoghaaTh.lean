/- The machine over data: this seat's types. -/
import Derived.Test.YtjhimcddgkoghaaN16
namespace Go.Proofs.Ytjhimcddgkoghaa.AM
open Go Go.RowKit
set_option linter.unusedVariables false

theorem tab_nil {P : Program} : TabOK P [] := fun t => trivial
theorem tab_cons {P : Program} {t : Nat} {x : TI} {Θ : Tab} (h : TIok P t x) (r : TabOK P Θ) : TabOK P ((t, x) :: Θ) := fun u => by
  show TIok P u (bif Nat.beq t u then x else Tab.look Θ u)
  by_cases e : t = u
  · subst e; simpa using h
  · rw [nbne e]; exact r u
theorem ti_str {P : Program} {t b : Nat} (hu : P.underlying t = some .string) (hi : (P.info? t).map (fun i => (i.zero, i.size, i.bytes)) = some (some (.string ByteArray.empty), 1, b)) : TIok P t .str := by
  obtain ⟨i, h1, h2, h3, _⟩ := info_parts hi
  exact ⟨hu, i, h1, h3, h2⟩
theorem ti_int {P : Program} {t b : Nat} {k : IntKind} (hu : P.underlying t = some (.int k)) (hi : (P.info? t).map (fun i => (i.zero, i.size, i.bytes)) = some (some (.int k 0), 1, b)) : TIok P t (.int k) := by
  obtain ⟨i, h1, h2, h3, _⟩ := info_parts hi
  exact ⟨hu, i, h1, h3, h2⟩
theorem ti_bool {P : Program} {t b : Nat} (hu : P.underlying t = some .bool) (hi : (P.info? t).map (fun i => (i.zero, i.size, i.bytes)) = some (some (.bool false), 1, b)) : TIok P t .bool := by
  obtain ⟨i, h1, h2, h3, _⟩ := info_parts hi
  exact ⟨hu, i, h1, h3, h2⟩
theorem ti_slice {P : Program} {t e b sz by_ : Nat} {zv : Value} {z : AV} (hu : P.underlying t = some (.slice e)) (hj : (P.info? t).map (fun i => (i.zero, i.size, i.bytes)) = some (some (.slice none 0 0), 1, b)) (hi : (P.info? e).map (fun i => (i.zero, i.size, i.bytes)) = some (some zv, sz, by_))
    (h0 : 0 < sz) (hz : asz z = sz) (hr : ∀ w, RD w z Fa zv.cells.toList) : TIok P t (.slice e sz by_ z) := by
  obtain ⟨j, j1, j2, j3, _⟩ := info_parts hj
  obtain ⟨i, h1, h2, h3, h4⟩ := info_parts hi
  exact ⟨hu, ⟨j, j1, j3, j2⟩, i, zv, h1, h2, h3, h4, h0, hz, hr⟩
theorem ti_map {P : Program} {t kt vt b c : Nat} {zv : Value} {z : AV} (hu : P.underlying t = some (.map kt vt)) (hk : P.underlying kt = some .string) (hi : (P.info? vt).map (fun i => (i.zero, i.size, i.bytes)) = some (some zv, c, b)) (hz : ∀ S w hp B V, RV S w hp B V z zv) : TIok P t (.map kt vt z) := by
  obtain ⟨i, h1, h2, h3, h4⟩ := info_parts hi
  exact ⟨hu, hk, i, zv, h1, h2, hz⟩
def offsB (P : Program) : Nat → List Field → List (Nat × Nat) → Bool
  | _, [], [] => true
  | n, f :: fs, (o, z) :: r => Nat.beq f.offset o && (Nat.beq o n && (Nat.blt 0 z && ((match (P.info? f.type).map (·.size) with | some q => Nat.beq q z | none => false) && offsB P (n + z) fs r)))
  | _, _, _ => false
theorem offsB_ok {P : Program} : ∀ (fs : List Field) (r : List (Nat × Nat)) (n : Nat), offsB P n fs r = true → offsOK P n fs r
  | [], [], n, _ => trivial
  | [], _ :: _, n, h => by simp [offsB] at h
  | _ :: _, [], n, h => by simp [offsB] at h
  | f :: fs, (o, z) :: r, n, h => by
    simp only [offsB, Bool.and_eq_true] at h
    obtain ⟨h1, h2, h3, h4, h5⟩ := h
    refine ⟨Nat.eq_of_beq_eq_true h1, Nat.eq_of_beq_eq_true h2, by simpa using h3, ?_, offsB_ok fs r (n + z) h5⟩
    cases hq : (P.info? f.type).map (·.size) with
    | none => rw [hq] at h4; cases h4
    | some q => rw [hq] at h4; rw [Nat.eq_of_beq_eq_true h4]
theorem ti_struct {P : Program} {t b : Nat} {fs : List (Nat × Nat)} {z : List AV} {cs : Array Value} (hu : P.underlying t = some (.struct (P.fieldsOf t))) (hi : (P.info? t).map (fun i => (i.zero, i.size, i.bytes)) = some (some (.agg cs), sizes fs, b))
    (ho : offsB P 0 (P.fieldsOf t).toList fs = true) (hp : 0 < sizes fs) (hm : z.map asz = fs.map (·.2)) (hr : ∀ w, RDL w z Fa cs.toList) : TIok P t (.struct fs z) := by
  obtain ⟨i, h1, h2, h3, _⟩ := info_parts hi
  exact ⟨_, i, cs, hu, offsB_ok _ _ _ ho, h1, h3, hp, hm, h2, hr⟩
theorem rl_cons {S : Nat → Prop} {w : World} {x : AV} {xs : List AV} {c1 c2 : List Value} (h : RA S w x c1) (r : RL S w xs c2) : RL S w (x :: xs) (c1 ++ c2) := by unfold RL; exact ⟨c1, c2, rfl, h, r⟩
theorem rl_nil {S : Nat → Prop} {w : World} : RL S w [] [] := by unfold RL; rfl
theorem ra_v {S : Nat → Prop} {w : World} {x : Value} (h : x.oneCell' = true) : RA S w (.v x) [x] := by unfold RA; exact ⟨rfl, h⟩
theorem ra_nil {S : Nat → Prop} {w : World} {sz : Nat} (h : 0 < sz) : RA S w (.lst sz []) [.slice none 0 0] := by unfold RA; exact ⟨none, 0, rfl, Nat.le_refl _, Nat.zero_le _, by simp, h, .inl rfl⟩
theorem ra_agg {S : Nat → Prop} {w : World} {xs : List AV} {cs : List Value} (h : RL S w xs cs) : RA S w (.agg xs) cs := by unfold RA; exact h

theorem rd_v {w : World} {x : Value} (h : x.oneCell' = true) : RD w (.v x) Fa [x] := by unfold RD; exact ⟨noF, rfl, h⟩
theorem rd_nil {w : World} {sz : Nat} (h : 0 < sz) : RD w (.lst sz []) Fa [.slice none 0 0] := by
  unfold RD
  refine ⟨_, 0, [], Fa, rfl, World.ownsRow_nil _ _ _ _, by simp, h, by unfold RDL; exact ⟨rfl, noF⟩, fun g => ⟨fun h => h.elim, fun h => ?_⟩, fun g h => ?_⟩
  · rcases h with h | h
    · simp [Value.ownBlock] at h
    · exact h
  · simp [Value.ownBlock] at h
theorem rd_agg {w : World} {xs : List AV} {cs : List Value} (h : RDL w xs Fa cs) : RD w (.agg xs) Fa cs := by unfold RD; exact h
theorem rdl_nil {w : World} : RDL w [] Fa [] := by unfold RDL; exact ⟨rfl, noF⟩
theorem rdl_cons {w : World} {x : AV} {xs : List AV} {c1 c2 : List Value} (h : RD w x Fa c1) (r : RDL w xs Fa c2) : RDL w (x :: xs) Fa (c1 ++ c2) := by unfold RDL; exact ⟨c1, c2, Fa, Fa, rfl, Split.l0 noF, h, r⟩
theorem rdl_rep {w : World} {x : AV} {u : Value} (h : RD w x Fa [u]) : ∀ m, RDL w (List.replicate m x) Fa (List.replicate m u)
  | 0 => rdl_nil
  | m + 1 => by simp only [List.replicate_succ]; exact rdl_cons (c1 := [u]) h (rdl_rep h m)
theorem ti_ptr {P : Program} {t b e : Nat} (hu : P.underlying t = some (.pointer e)) (hi : (P.info? t).map (fun i => (i.zero, i.size, i.bytes)) = some (some (.pointer none), 1, b)) : TIok P t .ptr := by
  obtain ⟨i, h1, h2, h3, _⟩ := info_parts hi
  exact ⟨⟨e, hu⟩, i, h1, h3, h2⟩
def isFnT (P : Program) (t : TypeId) : Bool := match P.underlying t with | some (.func _ _ _) => true | _ => false
theorem ti_func {P : Program} {t b : Nat} (hu : isFnT P t = true) (hi : (P.info? t).map (fun i => (i.zero, i.size, i.bytes)) = some (some .nilFunc, 1, b)) : TIok P t .func := by
  obtain ⟨i, h1, h2, h3, _⟩ := info_parts hi
  refine ⟨?_, i, h1, h3, h2⟩
  unfold isFnT at hu
  split at hu
  · rename_i x y z h; exact ⟨x, y, z, h⟩
  · cases hu
theorem ti_arr {P : Program} {t b e m sz be : Nat} {z : AV} {cs : Array Value} {ze : Option Value} (hu : P.underlying t = some (.array m e)) (hi : (P.info? t).map (fun i => (i.zero, i.size, i.bytes)) = some (some (.agg cs), m * sz, b)) (he : (P.info? e).map (fun i => (i.zero, i.size, i.bytes)) = some (ze, sz, be))
    (hm : 0 < m) (h0 : 0 < sz) (hz : asz z = sz) (hr : ∀ w, RDL w (List.replicate m z) Fa cs.toList) : TIok P t (.arr e m sz z) := by
  obtain ⟨i, h1, h2, h3, _⟩ := info_parts hi
  refine ⟨hu, ⟨i, cs, h1, h3, h2, hr⟩, hm, h0, hz, ?_⟩
  cases hj : P.info? e with
  | none => rw [hj] at he; simp at he
  | some j => rw [hj] at he; simp at he; exact ⟨j, rfl, he.2.1⟩

abbrev zS : AV := .v (.string ByteArray.empty)
abbrev zI : AV := .v (.int .i64 0)
abbrev zB : AV := .v (.bool false)
def Th : Tab := [(9, .str), (3, .int .i64), (4, .bool), (5, .int .u8),
  (55, .slice 9 1 16 zS),
  (101, .slice 5 1 1 (.v (.int .u8 0))),
  (167, .struct [(0, 1), (1, 1)] [zS, zI]), (36, .slice 167 2 24 (.agg [zS, zI])),
  (237, .struct [(0, 1), (1, 1)] [zS, zI]), (47, .slice 237 2 24 (.agg [zS, zI])),
  (117, .struct [(0, 1), (1, 1), (2, 1)] [zS, zI, zB]), (27, .slice 117 3 32 (.agg [zS, zI, zB])),
  (230, .struct [(0, 1), (1, 1), (2, 1)] [zS, zI, zB]), (22, .slice 230 3 32 (.agg [zS, zI, zB])),
  (129, .slice 3 1 8 zI),
  (142, .struct [(0, 1), (1, 1)] [.lst 1 [], .lst 2 []]), (126, .slice 142 2 48 (.agg [.lst 1 [], .lst 2 []])),
  (216, .slice 4 1 1 zB),
  (221, .struct [(0, 1), (1, 1)] [zI, .lst 1 []]), (213, .ptr), (219, .slice 213 1 8 (.v (.pointer none))),
  (212, .arr 4 61 1 zB), (211, .arr 4 61 1 zB),
  (277, .func),
  (265, .struct [(0, 1), (1, 1), (2, 1)] [.lst 1 [], zI, zI]), (195, .ptr),
  (291, .map 9 117 (.agg [zS, zI, zB])),
  (83, .struct [(0, 1), (1, 1), (2, 1), (3, 1)] [zS, zI, zI, zB]), (90, .slice 83 4 40 (.agg [zS, zI, zI, zB])),
  (74, .struct [(0, 1), (1, 1), (2, 1), (3, 1)] [zS, zI, zI, zB]), (88, .slice 74 4 40 (.agg [zS, zI, zI, zB])),
  (63, .struct [(0, 1), (1, 1), (2, 1), (3, 1), (4, 1)] [zI, zI, zS, zS, .lst 3 []]),
  (54, .struct [(0, 1), (1, 1), (2, 1), (3, 1), (4, 1)] [zI, zI, zS, zS, .lst 3 []]),
  (65, .struct [(0, 1), (1, 1), (2, 1), (3, 1), (4, 1)] [zI, zI, zI, .lst 1 [], .lst 2 []]),
  (57, .struct [(0, 1), (1, 1), (2, 1), (3, 1), (4, 1)] [zI, zI, zI, .lst 1 [], .lst 2 []]),
  (185, .struct [(0, 1), (1, 1), (2, 1)] [zI, zI, zB]), (77, .slice 185 3 24 (.agg [zI, zI, zB])),
  (244, .struct [(0, 1), (1, 1), (2, 1)] [zI, zI, zB]), (70, .slice 244 3 24 (.agg [zI, zI, zB])),
  (79, .struct [(0, 1), (1, 1), (2, 1)] [zS, zI, .lst 3 []]),
  (72, .struct [(0, 1), (1, 1), (2, 1)] [zS, zI, .lst 3 []]),
  (29, .struct [(0, 1), (1, 1), (2, 1), (3, 1), (4, 1)] [zI, zS, zS, zS, .lst 3 []]),
  (35, .slice 29 5 80 (.agg [zI, zS, zS, zS, .lst 3 []])),
  (38, .struct [(0, 1), (1, 1), (2, 1), (3, 1), (4, 1), (5, 1), (6, 1), (7, 1), (8, 1)] [.lst 5 [], zI, zI, zI, zI, zI, zI, zI, .lst 2 []]),
  (67, .struct [(0, 1), (1, 1), (2, 1), (3, 5), (8, 5)] [zI, zI, zI, .agg [zI, zI, zS, zS, .lst 3 []], .agg [zI, zI, zI, .lst 1 [], .lst 2 []]]),
  (24, .struct [(0, 1), (1, 1), (2, 1), (3, 1), (4, 1)] [zI, zS, zS, zS, .lst 3 []]),
  (33, .slice 24 5 80 (.agg [zI, zS, zS, zS, .lst 3 []])),
  (49, .struct [(0, 1), (1, 1), (2, 1), (3, 1), (4, 1), (5, 1), (6, 1), (7, 1), (8, 1)] [.lst 5 [], zI, zI, zI, zI, zI, zI, zI, .lst 2 []]),
  (59, .struct [(0, 1), (1, 1), (2, 1), (3, 5), (8, 5)] [zI, zI, zI, .agg [zI, zI, zS, zS, .lst 3 []], .agg [zI, zI, zI, .lst 1 [], .lst 2 []]]),
  (252, .slice 262 1 8 (.v (.pointer none))),
  ]
theorem Th_ok : TabOK Try.prog Th := by
  unfold Th
  have e2 : ∀ w, RDL w [zS, zI] Fa [.string ByteArray.empty, .int .i64 0] := fun w => rdl_cons (c1 := [_]) (rd_v rfl) (rdl_cons (c1 := [_]) (rd_v rfl) rdl_nil)
  have e3 : ∀ w, RDL w [zS, zI, zB] Fa [.string ByteArray.empty, .int .i64 0, .bool false] := fun w => rdl_cons (c1 := [_]) (rd_v rfl) (rdl_cons (c1 := [_]) (rd_v rfl) (rdl_cons (c1 := [_]) (rd_v rfl) rdl_nil))
  have e4 : ∀ w, RDL w [zS, zI, zI, zB] Fa [.string ByteArray.empty, .int .i64 0, .int .i64 0, .bool false] := fun w => rdl_cons (c1 := [_]) (rd_v rfl) (rdl_cons (c1 := [_]) (rd_v rfl) (rdl_cons (c1 := [_]) (rd_v rfl) (rdl_cons (c1 := [_]) (rd_v rfl) rdl_nil)))
  have eC : ∀ w, RDL w [.lst 1 [], .lst 2 []] Fa [.slice none 0 0, .slice none 0 0] := fun w => rdl_cons (c1 := [_]) (rd_nil (by omega)) (rdl_cons (c1 := [_]) (rd_nil (by omega)) rdl_nil)
  have eN : ∀ w, RDL w [zI, .lst 1 []] Fa [.int .i64 0, .slice none 0 0] := fun w => rdl_cons (c1 := [_]) (rd_v rfl) (rdl_cons (c1 := [_]) (rd_nil (by omega)) rdl_nil)
  have eV : ∀ w, RDL w [zI, zI, zB] Fa [.int .i64 0, .int .i64 0, .bool false] := fun w => rdl_cons (c1 := [_]) (rd_v rfl) (rdl_cons (c1 := [_]) (rd_v rfl) (rdl_cons (c1 := [_]) (rd_v rfl) rdl_nil))
  have eW : ∀ w, RDL w [zS, zI, .lst 3 []] Fa [.string ByteArray.empty, .int .i64 0, .slice none 0 0] := fun w => rdl_cons (c1 := [_]) (rd_v rfl) (rdl_cons (c1 := [_]) (rd_v rfl) (rdl_cons (c1 := [_]) (rd_nil (by omega)) rdl_nil))
  have eB : ∀ w, RDL w [.lst 2 [], .lst 4 []] Fa [.slice none 0 0, .slice none 0 0] := fun w => rdl_cons (c1 := [_]) (rd_nil (by omega)) (rdl_cons (c1 := [_]) (rd_nil (by omega)) rdl_nil)
  have eO : ∀ w, RDL w [zI, zI, zS, zS, .lst 3 []] Fa [.int .i64 0, .int .i64 0, .string ByteArray.empty, .string ByteArray.empty, .slice none 0 0] := fun w => rdl_cons (c1 := [_]) (rd_v rfl) (rdl_cons (c1 := [_]) (rd_v rfl) (rdl_cons (c1 := [_]) (rd_v rfl) (rdl_cons (c1 := [_]) (rd_v rfl) (rdl_cons (c1 := [_]) (rd_nil (by omega)) rdl_nil))))
  have eR : ∀ w, RDL w [zI, zI, zI, .lst 1 [], .lst 2 []] Fa [.int .i64 0, .int .i64 0, .int .i64 0, .slice none 0 0, .slice none 0 0] := fun w => rdl_cons (c1 := [_]) (rd_v rfl) (rdl_cons (c1 := [_]) (rd_v rfl) (rdl_cons (c1 := [_]) (rd_v rfl) (rdl_cons (c1 := [_]) (rd_nil (by omega)) (rdl_cons (c1 := [_]) (rd_nil (by omega)) rdl_nil))))
  have eH : ∀ w, RDL w [zI, zS, zS, zS, .lst 3 []] Fa [.int .i64 0, .string ByteArray.empty, .string ByteArray.empty, .string ByteArray.empty, .slice none 0 0] := fun w => rdl_cons (c1 := [_]) (rd_v rfl) (rdl_cons (c1 := [_]) (rd_v rfl) (rdl_cons (c1 := [_]) (rd_v rfl) (rdl_cons (c1 := [_]) (rd_v rfl) (rdl_cons (c1 := [_]) (rd_nil (by omega)) (rdl_nil)))))
  have eK : ∀ w, RDL w [.lst 5 [], zI, zI, zI, zI, zI, zI, zI, .lst 2 []] Fa [.slice none 0 0, .int .i64 0, .int .i64 0, .int .i64 0, .int .i64 0, .int .i64 0, .int .i64 0, .int .i64 0, .slice none 0 0] := fun w => rdl_cons (c1 := [_]) (rd_nil (by omega)) (rdl_cons (c1 := [_]) (rd_v rfl) (rdl_cons (c1 := [_]) (rd_v rfl) (rdl_cons (c1 := [_]) (rd_v rfl) (rdl_cons (c1 := [_]) (rd_v rfl) (rdl_cons (c1 := [_]) (rd_v rfl) (rdl_cons (c1 := [_]) (rd_v rfl) (rdl_cons (c1 := [_]) (rd_v rfl) (rdl_cons (c1 := [_]) (rd_nil (by omega)) (rdl_nil)))))))))
  have eM : ∀ w, RDL w [zI, zI, zI, .agg [zI, zI, zS, zS, .lst 3 []], .agg [zI, zI, zI, .lst 1 [], .lst 2 []]] Fa [.int .i64 0, .int .i64 0, .int .i64 0, .int .i64 0, .int .i64 0, .string ByteArray.empty, .string ByteArray.empty, .slice none 0 0, .int .i64 0, .int .i64 0, .int .i64 0, .slice none 0 0, .slice none 0 0] := fun w => rdl_cons (c1 := [_]) (rd_v rfl) (rdl_cons (c1 := [_]) (rd_v rfl) (rdl_cons (c1 := [_]) (rd_v rfl) (rdl_cons (c1 := [_, _, _, _, _]) (rd_agg (eO w)) (rdl_cons (c1 := [_, _, _, _, _]) (rd_agg (eR w)) rdl_nil))))
  have eG : ∀ w, RDL w [.lst 1 [], zI, zI] Fa [.slice none 0 0, .int .i64 0, .int .i64 0] := fun w => rdl_cons (c1 := [_]) (rd_nil (by omega)) (rdl_cons (c1 := [_]) (rd_v rfl) (rdl_cons (c1 := [_]) (rd_v rfl) rdl_nil))
  refine tab_cons (ti_str (b := 16) (by kernel_rfl) (by kernel_rfl)) (tab_cons (ti_int (b := 8) (by kernel_rfl) (by kernel_rfl)) (tab_cons (ti_bool (b := 1) (by kernel_rfl) (by kernel_rfl)) (tab_cons (ti_int (b := 1) (by kernel_rfl) (by kernel_rfl)) ?_)))
  refine tab_cons (ti_slice (b := 24) (zv := .string ByteArray.empty) (by kernel_rfl) (by kernel_rfl) (by kernel_rfl) (by omega) rfl (fun w => rd_v rfl)) ?_
  refine tab_cons (ti_slice (b := 24) (zv := .int .u8 0) (by kernel_rfl) (by kernel_rfl) (by kernel_rfl) (by omega) rfl (fun w => rd_v rfl)) ?_
  refine tab_cons (ti_struct (b := 24) (cs := #[.string ByteArray.empty, .int .i64 0]) (by kernel_rfl) (by kernel_rfl) (by kernel_rfl) (by decide) rfl e2) (tab_cons (ti_slice (b := 24) (zv := .agg #[.string ByteArray.empty, .int .i64 0]) (by kernel_rfl) (by kernel_rfl) (by kernel_rfl) (by omega) rfl (fun w => rd_agg (e2 w))) ?_)
  refine tab_cons (ti_struct (b := 24) (cs := #[.string ByteArray.empty, .int .i64 0]) (by kernel_rfl) (by kernel_rfl) (by kernel_rfl) (by decide) rfl e2) (tab_cons (ti_slice (b := 24) (zv := .agg #[.string ByteArray.empty, .int .i64 0]) (by kernel_rfl) (by kernel_rfl) (by kernel_rfl) (by omega) rfl (fun w => rd_agg (e2 w))) ?_)
  refine tab_cons (ti_struct (b := 32) (cs := #[.string ByteArray.empty, .int .i64 0, .bool false]) (by kernel_rfl) (by kernel_rfl) (by kernel_rfl) (by decide) rfl e3) (tab_cons (ti_slice (b := 24) (zv := .agg #[.string ByteArray.empty, .int .i64 0, .bool false]) (by kernel_rfl) (by kernel_rfl) (by kernel_rfl) (by omega) rfl (fun w => rd_agg (e3 w))) ?_)
  refine tab_cons (ti_struct (b := 32) (cs := #[.string ByteArray.empty, .int .i64 0, .bool false]) (by kernel_rfl) (by kernel_rfl) (by kernel_rfl) (by decide) rfl e3) (tab_cons (ti_slice (b := 24) (zv := .agg #[.string ByteArray.empty, .int .i64 0, .bool false]) (by kernel_rfl) (by kernel_rfl) (by kernel_rfl) (by omega) rfl (fun w => rd_agg (e3 w))) ?_)
  refine tab_cons (ti_slice (b := 24) (zv := .int .i64 0) (by kernel_rfl) (by kernel_rfl) (by kernel_rfl) (by omega) rfl (fun w => rd_v rfl)) ?_
  refine tab_cons (ti_struct (b := 48) (cs := #[.slice none 0 0, .slice none 0 0]) (by kernel_rfl) (by kernel_rfl) (by kernel_rfl) (by decide) rfl eC) (tab_cons (ti_slice (b := 24) (zv := .agg #[.slice none 0 0, .slice none 0 0]) (by kernel_rfl) (by kernel_rfl) (by kernel_rfl) (by omega) rfl (fun w => rd_agg (eC w))) ?_)
  refine tab_cons (ti_slice (b := 24) (zv := .bool false) (by kernel_rfl) (by kernel_rfl) (by kernel_rfl) (by omega) rfl (fun w => rd_v rfl)) ?_
  refine tab_cons (ti_struct (b := 32) (cs := #[.int .i64 0, .slice none 0 0]) (by kernel_rfl) (by kernel_rfl) (by kernel_rfl) (by decide) rfl eN) (tab_cons (ti_ptr (b := 8) (e := 221) (by kernel_rfl) (by kernel_rfl)) (tab_cons (ti_slice (b := 24) (zv := .pointer none) (by kernel_rfl) (by kernel_rfl) (by kernel_rfl) (by omega) rfl (fun w => rd_v rfl)) ?_))
  refine tab_cons (ti_arr (b := 61) (be := 1) (ze := some (.bool false)) (cs := (List.replicate 61 (.bool false)).toArray) (by kernel_rfl) (by kernel_rfl) (by kernel_rfl) (by omega) (by omega) rfl (fun w => rdl_rep (rd_v rfl) 61)) (tab_cons (ti_arr (b := 61) (be := 1) (ze := some (.bool false)) (cs := (List.replicate 61 (.bool false)).toArray) (by kernel_rfl) (by kernel_rfl) (by kernel_rfl) (by omega) (by omega) rfl (fun w => rdl_rep (rd_v rfl) 61)) ?_)
  refine tab_cons (ti_func (b := 8) (by kernel_rfl) (by kernel_rfl)) ?_
  refine tab_cons (ti_struct (b := 40) (cs := #[.slice none 0 0, .int .i64 0, .int .i64 0]) (by kernel_rfl) (by kernel_rfl) (by kernel_rfl) (by decide) rfl eG) (tab_cons (ti_ptr (b := 8) (e := 265) (by kernel_rfl) (by kernel_rfl)) ?_)
  refine tab_cons (ti_map (b := 32) (c := 3) (zv := .agg #[.string ByteArray.empty, .int .i64 0, .bool false]) (by kernel_rfl) (by kernel_rfl) (by kernel_rfl) (fun S w hp B V => by unfold RV; exact ⟨[_, _, _], rfl, rl_cons (c1 := [_]) (ra_v rfl) (rl_cons (c1 := [_]) (ra_v rfl) (rl_cons (c1 := [_]) (ra_v rfl) rl_nil))⟩)) ?_
  refine tab_cons (ti_struct (b := 40) (cs := #[.string ByteArray.empty, .int .i64 0, .int .i64 0, .bool false]) (by kernel_rfl) (by kernel_rfl) (by kernel_rfl) (by decide) rfl e4) (tab_cons (ti_slice (b := 24) (zv := .agg #[.string ByteArray.empty, .int .i64 0, .int .i64 0, .bool false]) (by kernel_rfl) (by kernel_rfl) (by kernel_rfl) (by omega) rfl (fun w => rd_agg (e4 w))) ?_)
  refine tab_cons (ti_struct (b := 40) (cs := #[.string ByteArray.empty, .int .i64 0, .int .i64 0, .bool false]) (by kernel_rfl) (by kernel_rfl) (by kernel_rfl) (by decide) rfl e4) (tab_cons (ti_slice (b := 24) (zv := .agg #[.string ByteArray.empty, .int .i64 0, .int .i64 0, .bool false]) (by kernel_rfl) (by kernel_rfl) (by kernel_rfl) (by omega) rfl (fun w => rd_agg (e4 w))) ?_)
  refine tab_cons (ti_struct (b := 72) (cs := #[.int .i64 0, .int .i64 0, .string ByteArray.empty, .string ByteArray.empty, .slice none 0 0]) (by kernel_rfl) (by kernel_rfl) (by kernel_rfl) (by decide) rfl eO) ?_
  refine tab_cons (ti_struct (b := 72) (cs := #[.int .i64 0, .int .i64 0, .string ByteArray.empty, .string ByteArray.empty, .slice none 0 0]) (by kernel_rfl) (by kernel_rfl) (by kernel_rfl) (by decide) rfl eO) ?_
  refine tab_cons (ti_struct (b := 72) (cs := #[.int .i64 0, .int .i64 0, .int .i64 0, .slice none 0 0, .slice none 0 0]) (by kernel_rfl) (by kernel_rfl) (by kernel_rfl) (by decide) rfl eR) ?_
  refine tab_cons (ti_struct (b := 72) (cs := #[.int .i64 0, .int .i64 0, .int .i64 0, .slice none 0 0, .slice none 0 0]) (by kernel_rfl) (by kernel_rfl) (by kernel_rfl) (by decide) rfl eR) ?_
  refine tab_cons (ti_struct (b := 24) (cs := #[.int .i64 0, .int .i64 0, .bool false]) (by kernel_rfl) (by kernel_rfl) (by kernel_rfl) (by decide) rfl eV) (tab_cons (ti_slice (b := 24) (zv := .agg #[.int .i64 0, .int .i64 0, .bool false]) (by kernel_rfl) (by kernel_rfl) (by kernel_rfl) (by omega) rfl (fun w => rd_agg (eV w))) ?_)
  refine tab_cons (ti_struct (b := 24) (cs := #[.int .i64 0, .int .i64 0, .bool false]) (by kernel_rfl) (by kernel_rfl) (by kernel_rfl) (by decide) rfl eV) (tab_cons (ti_slice (b := 24) (zv := .agg #[.int .i64 0, .int .i64 0, .bool false]) (by kernel_rfl) (by kernel_rfl) (by kernel_rfl) (by omega) rfl (fun w => rd_agg (eV w))) ?_)
  refine tab_cons (ti_struct (b := 48) (cs := #[.string ByteArray.empty, .int .i64 0, .slice none 0 0]) (by kernel_rfl) (by kernel_rfl) (by kernel_rfl) (by decide) rfl eW) ?_
  refine tab_cons (ti_struct (b := 48) (cs := #[.string ByteArray.empty, .int .i64 0, .slice none 0 0]) (by kernel_rfl) (by kernel_rfl) (by kernel_rfl) (by decide) rfl eW) ?_
  refine tab_cons (ti_struct (b := 80) (cs := #[.int .i64 0, .string ByteArray.empty, .string ByteArray.empty, .string ByteArray.empty, .slice none 0 0]) (by kernel_rfl) (by kernel_rfl) (by kernel_rfl) (by decide) rfl eH) ?_
  refine tab_cons (ti_slice (b := 24) (zv := .agg #[.int .i64 0, .string ByteArray.empty, .string ByteArray.empty, .string ByteArray.empty, .slice none 0 0]) (by kernel_rfl) (by kernel_rfl) (by kernel_rfl) (by omega) rfl (fun w => rd_agg (eH w))) ?_
  refine tab_cons (ti_struct (b := 104) (cs := #[.slice none 0 0, .int .i64 0, .int .i64 0, .int .i64 0, .int .i64 0, .int .i64 0, .int .i64 0, .int .i64 0, .slice none 0 0]) (by kernel_rfl) (by kernel_rfl) (by kernel_rfl) (by decide) rfl eK) ?_
  refine tab_cons (ti_struct (b := 168) (cs := #[.int .i64 0, .int .i64 0, .int .i64 0, .int .i64 0, .int .i64 0, .string ByteArray.empty, .string ByteArray.empty, .slice none 0 0, .int .i64 0, .int .i64 0, .int .i64 0, .slice none 0 0, .slice none 0 0]) (by kernel_rfl) (by kernel_rfl) (by kernel_rfl) (by decide) rfl eM) ?_
  refine tab_cons (ti_struct (b := 80) (cs := #[.int .i64 0, .string ByteArray.empty, .string ByteArray.empty, .string ByteArray.empty, .slice none 0 0]) (by kernel_rfl) (by kernel_rfl) (by kernel_rfl) (by decide) rfl eH) ?_
  refine tab_cons (ti_slice (b := 24) (zv := .agg #[.int .i64 0, .string ByteArray.empty, .string ByteArray.empty, .string ByteArray.empty, .slice none 0 0]) (by kernel_rfl) (by kernel_rfl) (by kernel_rfl) (by omega) rfl (fun w => rd_agg (eH w))) ?_
  refine tab_cons (ti_struct (b := 104) (cs := #[.slice none 0 0, .int .i64 0, .int .i64 0, .int .i64 0, .int .i64 0, .int .i64 0, .int .i64 0, .int .i64 0, .slice none 0 0]) (by kernel_rfl) (by kernel_rfl) (by kernel_rfl) (by decide) rfl eK) ?_
  refine tab_cons (ti_struct (b := 168) (cs := #[.int .i64 0, .int .i64 0, .int .i64 0, .int .i64 0, .int .i64 0, .string ByteArray.empty, .string ByteArray.empty, .slice none 0 0, .int .i64 0, .int .i64 0, .int .i64 0, .slice none 0 0, .slice none 0 0]) (by kernel_rfl) (by kernel_rfl) (by kernel_rfl) (by decide) rfl eM) ?_
  refine tab_cons (ti_slice (b := 24) (zv := .agg #[.pointer none]) (by kernel_rfl) (by kernel_rfl) (by kernel_rfl) (by omega) rfl (fun w => rd_v rfl)) ?_
  exact tab_nil
end Go.Proofs.Ytjhimcddgkoghaa.AM
