/- Texts of the machine over data, folded. -/
import Derived.Test.YtmfmclnklpbiaaaGreatKp6
import Derived.Test.YtmfmclnklpbiaaaGreatKp1
namespace Go.Proofs.YtmfmclnklpbiaaaGreat.AM
open Go Go.RowKit
set_option linter.unusedVariables false

theorem tab_nil {P : Program} : TabOK P [] := fun t => trivial
theorem tab_cons {P : Program} {t : Nat} {x : TI} {Θ : Tab} (h : TIok P t x) (r : TabOK P Θ) : TabOK P ((t, x) :: Θ) := fun u => by
  show TIok P u (bif Nat.beq t u then x else Tab.look Θ u)
  by_cases e : t = u
  · subst e; simpa using h
  · rw [nbne e]; exact r u
theorem ti_str {P : Program} {t b : Nat} (hu : P.underlying t = some .string) (hi : (P.info? t).map (fun i => (i.zero, i.size, i.bytes)) = some (some (.string ByteArray.empty), 1, b)) : TIok P t .str := by
  obtain ⟨i, h1, h2, h3, _⟩ := info_parts hi
  exact ⟨hu, i, h1, h3, h2⟩
theorem ti_int {P : Program} {t b : Nat} {k : IntKind} (hu : P.underlying t = some (.int k)) (hi : (P.info? t).map (fun i => (i.zero, i.size, i.bytes)) = some (some (.int k 0), 1, b)) : TIok P t (.int k) := by
  obtain ⟨i, h1, h2, h3, _⟩ := info_parts hi
  exact ⟨hu, i, h1, h3, h2⟩
theorem ti_bool {P : Program} {t b : Nat} (hu : P.underlying t = some .bool) (hi : (P.info? t).map (fun i => (i.zero, i.size, i.bytes)) = some (some (.bool false), 1, b)) : TIok P t .bool := by
  obtain ⟨i, h1, h2, h3, _⟩ := info_parts hi
  exact ⟨hu, i, h1, h3, h2⟩
theorem ti_slice {P : Program} {t e b sz by_ : Nat} {zv : Value} {z : AV} (hu : P.underlying t = some (.slice e)) (hj : (P.info? t).map (fun i => (i.zero, i.size, i.bytes)) = some (some (.slice none 0 0), 1, b)) (hi : (P.info? e).map (fun i => (i.zero, i.size, i.bytes)) = some (some zv, sz, by_))
    (h0 : 0 < sz) (hz : asz z = sz) (hr : ∀ w, RD w z Fa zv.cells.toList) : TIok P t (.slice e sz by_ z) := by
  obtain ⟨j, j1, j2, j3, _⟩ := info_parts hj
  obtain ⟨i, h1, h2, h3, h4⟩ := info_parts hi
  exact ⟨hu, ⟨j, j1, j3, j2⟩, i, zv, h1, h2, h3, h4, h0, hz, hr⟩
def offsB (P : Program) : Nat → List Field → List (Nat × Nat) → Bool
  | _, [], [] => true
  | n, f :: fs, (o, z) :: r => Nat.beq f.offset o && (Nat.beq o n && (Nat.blt 0 z && ((match (P.info? f.type).map (·.size) with | some q => Nat.beq q z | none => false) && offsB P (n + z) fs r)))
  | _, _, _ => false
theorem offsB_ok {P : Program} : ∀ (fs : List Field) (r : List (Nat × Nat)) (n : Nat), offsB P n fs r = true → offsOK P n fs r
  | [], [], n, _ => trivial
  | [], _ :: _, n, h => by simp [offsB] at h
  | _ :: _, [], n, h => by simp [offsB] at h
  | f :: fs, (o, z) :: r, n, h => by
    simp only [offsB, Bool.and_eq_true] at h
    obtain ⟨h1, h2, h3, h4, h5⟩ := h
    refine ⟨Nat.eq_of_beq_eq_true h1, Nat.eq_of_beq_eq_true h2, by simpa using h3, ?_, offsB_ok fs r (n + z) h5⟩
    cases hq : (P.info? f.type).map (·.size) with
    | none => rw [hq] at h4; cases h4
    | some q => rw [hq] at h4; rw [Nat.eq_of_beq_eq_true h4]
theorem ti_struct {P : Program} {t b : Nat} {fs : List (Nat × Nat)} {z : List AV} {cs : Array Value} (hu : P.underlying t = some (.struct (P.fieldsOf t))) (hi : (P.info? t).map (fun i => (i.zero, i.size, i.bytes)) = some (some (.agg cs), sizes fs, b))
    (ho : offsB P 0 (P.fieldsOf t).toList fs = true) (hp : 0 < sizes fs) (hm : z.map asz = fs.map (·.2)) (hr : ∀ w, RDL w z Fa cs.toList) : TIok P t (.struct fs z) := by
  obtain ⟨i, h1, h2, h3, _⟩ := info_parts hi
  exact ⟨_, i, cs, hu, offsB_ok _ _ _ ho, h1, h3, hp, hm, h2, hr⟩
theorem rl_cons {S : Nat → Prop} {w : World} {x : AV} {xs : List AV} {c1 c2 : List Value} (h : RA S w x c1) (r : RL S w xs c2) : RL S w (x :: xs) (c1 ++ c2) := by unfold RL; exact ⟨c1, c2, rfl, h, r⟩
theorem rl_nil {S : Nat → Prop} {w : World} : RL S w [] [] := by unfold RL; rfl
theorem ra_v {S : Nat → Prop} {w : World} {x : Value} (h : x.oneCell' = true) : RA S w (.v x) [x] := by unfold RA; exact ⟨rfl, h⟩
theorem ra_nil {S : Nat → Prop} {w : World} {sz : Nat} (h : 0 < sz) : RA S w (.lst sz []) [.slice none 0 0] := by unfold RA; exact ⟨none, 0, rfl, Nat.le_refl _, Nat.zero_le _, by simp, h, .inl rfl⟩
theorem ra_agg {S : Nat → Prop} {w : World} {xs : List AV} {cs : List Value} (h : RL S w xs cs) : RA S w (.agg xs) cs := by unfold RA; exact h

theorem rd_v {w : World} {x : Value} (h : x.oneCell' = true) : RD w (.v x) Fa [x] := by unfold RD; exact ⟨noF, rfl, h⟩
theorem rd_nil {w : World} {sz : Nat} (h : 0 < sz) : RD w (.lst sz []) Fa [.slice none 0 0] := by
  unfold RD
  refine ⟨_, 0, [], Fa, rfl, World.ownsRow_nil _ _ _ _, by simp, h, by unfold RDL; exact ⟨rfl, noF⟩, fun g => ⟨fun h => h.elim, fun h => ?_⟩, fun g h => ?_⟩
  · rcases h with h | h
    · simp [Value.ownBlock] at h
    · exact h
  · simp [Value.ownBlock] at h
theorem rd_agg {w : World} {xs : List AV} {cs : List Value} (h : RDL w xs Fa cs) : RD w (.agg xs) Fa cs := by unfold RD; exact h
theorem rdl_nil {w : World} : RDL w [] Fa [] := by unfold RDL; exact ⟨rfl, noF⟩
theorem rdl_cons {w : World} {x : AV} {xs : List AV} {c1 c2 : List Value} (h : RD w x Fa c1) (r : RDL w xs Fa c2) : RDL w (x :: xs) Fa (c1 ++ c2) := by unfold RDL; exact ⟨c1, c2, Fa, Fa, rfl, Split.l0 noF, h, r⟩
abbrev zS : AV := .v (.string ByteArray.empty)
abbrev zI : AV := .v (.int .i64 0)
abbrev zB : AV := .v (.bool false)
def Th : Tab := [(9, .str), (3, .int .i64), (4, .bool), (5, .int .u8),
  (27, .slice 9 1 16 zS),
  (140, .slice 5 1 1 (.v (.int .u8 0))),
  (163, .struct [(0, 1), (1, 1)] [zS, zI]), (68, .slice 163 2 24 (.agg [zS, zI])),
  (167, .struct [(0, 1), (1, 1)] [zS, zI]), (93, .slice 167 2 24 (.agg [zS, zI])),
  (155, .struct [(0, 1), (1, 1), (2, 1)] [zS, zI, zB]), (107, .slice 155 3 32 (.agg [zS, zI, zB])),
  (169, .struct [(0, 1), (1, 1), (2, 1)] [zS, zI, zB]), (100, .slice 169 3 32 (.agg [zS, zI, zB])),
  (92, .slice 3 1 8 zI),
  (123, .struct [(0, 1), (1, 1)] [.lst 1 [], .lst 2 []]), (31, .slice 123 2 48 (.agg [.lst 1 [], .lst 2 []])),
  (95, .struct [(0, 1), (1, 1)] [.lst 1 [], .lst 2 []]), (22, .slice 95 2 48 (.agg [.lst 1 [], .lst 2 []])),
  (105, .struct [(0, 1), (1, 1), (2, 1), (3, 1)] [zS, zI, zI, zB]), (32, .slice 105 4 40 (.agg [zS, zI, zI, zB])),
  (98, .struct [(0, 1), (1, 1), (2, 1), (3, 1)] [zS, zI, zI, zB]), (23, .slice 98 4 40 (.agg [zS, zI, zI, zB])),
  (34, .struct [(0, 1), (1, 1)] [.lst 2 [], .lst 4 []]),
  (25, .struct [(0, 1), (1, 1)] [.lst 2 [], .lst 4 []]),
  (114, .struct [(0, 1), (1, 1), (2, 1), (3, 1), (4, 1)] [zI, zI, zS, zS, .lst 3 []]),
  (116, .struct [(0, 1), (1, 1), (2, 1), (3, 1), (4, 1)] [zI, zI, zI, .lst 1 [], .lst 2 []]),
  (165, .struct [(0, 1), (1, 1), (2, 1)] [zI, zI, zB]), (73, .slice 165 3 24 (.agg [zI, zI, zB])),
  (75, .struct [(0, 1), (1, 1), (2, 1)] [zS, zI, .lst 3 []]),
  (109, .struct [(0, 1), (1, 1), (2, 1), (3, 1), (4, 1)] [zI, zS, zS, zS, .lst 3 []]),
  (60, .slice 109 5 80 (.agg [zI, zS, zS, zS, .lst 3 []])),
  (70, .struct [(0, 1), (1, 1), (2, 1), (3, 1), (4, 1), (5, 1), (6, 1), (7, 1), (8, 1)] [.lst 5 [], zI, zI, zI, zI, zI, zI, zI, .lst 2 []]),
  (118, .struct [(0, 1), (1, 1), (2, 1), (3, 5), (8, 5)] [zI, zI, zI, .agg [zI, zI, zS, zS, .lst 3 []], .agg [zI, zI, zI, .lst 1 [], .lst 2 []]]),
  (102, .struct [(0, 1), (1, 1), (2, 1), (3, 1), (4, 1)] [zI, zS, zS, zS, .lst 3 []]),
  (57, .slice 102 5 80 (.agg [zI, zS, zS, zS, .lst 3 []])),
  (35, .slice 70 9 104 (.agg [.lst 5 [], zI, zI, zI, zI, zI, zI, zI, .lst 2 []])),
  (36, .slice 75 3 48 (.agg [zS, zI, .lst 3 []])),
  (37, .slice 118 13 168 (.agg [zI, zI, zI, .agg [zI, zI, zS, zS, .lst 3 []], .agg [zI, zI, zI, .lst 1 [], .lst 2 []]])),
  (43, .slice 60 1 24 (.lst 5 [])),
  (26, .slice 57 1 24 (.lst 5 [])),
  (39, .struct [(0, 2), (2, 1), (3, 1), (4, 1), (5, 1)] [.agg [.lst 2 [], .lst 4 []], .lst 9 [], .lst 3 [], .lst 13 [], zI]),
  ]
theorem Th_ok : TabOK Tryz.prog Th := by
  unfold Th
  have e2 : ∀ w, RDL w [zS, zI] Fa [.string ByteArray.empty, .int .i64 0] := fun w => rdl_cons (c1 := [_]) (rd_v rfl) (rdl_cons (c1 := [_]) (rd_v rfl) rdl_nil)
  have e3 : ∀ w, RDL w [zS, zI, zB] Fa [.string ByteArray.empty, .int .i64 0, .bool false] := fun w => rdl_cons (c1 := [_]) (rd_v rfl) (rdl_cons (c1 := [_]) (rd_v rfl) (rdl_cons (c1 := [_]) (rd_v rfl) rdl_nil))
  have e4 : ∀ w, RDL w [zS, zI, zI, zB] Fa [.string ByteArray.empty, .int .i64 0, .int .i64 0, .bool false] := fun w => rdl_cons (c1 := [_]) (rd_v rfl) (rdl_cons (c1 := [_]) (rd_v rfl) (rdl_cons (c1 := [_]) (rd_v rfl) (rdl_cons (c1 := [_]) (rd_v rfl) rdl_nil)))
  have eC : ∀ w, RDL w [.lst 1 [], .lst 2 []] Fa [.slice none 0 0, .slice none 0 0] := fun w => rdl_cons (c1 := [_]) (rd_nil (by omega)) (rdl_cons (c1 := [_]) (rd_nil (by omega)) rdl_nil)
  have eN : ∀ w, RDL w [zI, .lst 1 []] Fa [.int .i64 0, .slice none 0 0] := fun w => rdl_cons (c1 := [_]) (rd_v rfl) (rdl_cons (c1 := [_]) (rd_nil (by omega)) rdl_nil)
  have eV : ∀ w, RDL w [zI, zI, zB] Fa [.int .i64 0, .int .i64 0, .bool false] := fun w => rdl_cons (c1 := [_]) (rd_v rfl) (rdl_cons (c1 := [_]) (rd_v rfl) (rdl_cons (c1 := [_]) (rd_v rfl) rdl_nil))
  have eW : ∀ w, RDL w [zS, zI, .lst 3 []] Fa [.string ByteArray.empty, .int .i64 0, .slice none 0 0] := fun w => rdl_cons (c1 := [_]) (rd_v rfl) (rdl_cons (c1 := [_]) (rd_v rfl) (rdl_cons (c1 := [_]) (rd_nil (by omega)) rdl_nil))
  have eB : ∀ w, RDL w [.lst 2 [], .lst 4 []] Fa [.slice none 0 0, .slice none 0 0] := fun w => rdl_cons (c1 := [_]) (rd_nil (by omega)) (rdl_cons (c1 := [_]) (rd_nil (by omega)) rdl_nil)
  have eO : ∀ w, RDL w [zI, zI, zS, zS, .lst 3 []] Fa [.int .i64 0, .int .i64 0, .string ByteArray.empty, .string ByteArray.empty, .slice none 0 0] := fun w => rdl_cons (c1 := [_]) (rd_v rfl) (rdl_cons (c1 := [_]) (rd_v rfl) (rdl_cons (c1 := [_]) (rd_v rfl) (rdl_cons (c1 := [_]) (rd_v rfl) (rdl_cons (c1 := [_]) (rd_nil (by omega)) rdl_nil))))
  have eR : ∀ w, RDL w [zI, zI, zI, .lst 1 [], .lst 2 []] Fa [.int .i64 0, .int .i64 0, .int .i64 0, .slice none 0 0, .slice none 0 0] := fun w => rdl_cons (c1 := [_]) (rd_v rfl) (rdl_cons (c1 := [_]) (rd_v rfl) (rdl_cons (c1 := [_]) (rd_v rfl) (rdl_cons (c1 := [_]) (rd_nil (by omega)) (rdl_cons (c1 := [_]) (rd_nil (by omega)) rdl_nil))))
  have eH : ∀ w, RDL w [zI, zS, zS, zS, .lst 3 []] Fa [.int .i64 0, .string ByteArray.empty, .string ByteArray.empty, .string ByteArray.empty, .slice none 0 0] := fun w => rdl_cons (c1 := [_]) (rd_v rfl) (rdl_cons (c1 := [_]) (rd_v rfl) (rdl_cons (c1 := [_]) (rd_v rfl) (rdl_cons (c1 := [_]) (rd_v rfl) (rdl_cons (c1 := [_]) (rd_nil (by omega)) (rdl_nil)))))
  have eK : ∀ w, RDL w [.lst 5 [], zI, zI, zI, zI, zI, zI, zI, .lst 2 []] Fa [.slice none 0 0, .int .i64 0, .int .i64 0, .int .i64 0, .int .i64 0, .int .i64 0, .int .i64 0, .int .i64 0, .slice none 0 0] := fun w => rdl_cons (c1 := [_]) (rd_nil (by omega)) (rdl_cons (c1 := [_]) (rd_v rfl) (rdl_cons (c1 := [_]) (rd_v rfl) (rdl_cons (c1 := [_]) (rd_v rfl) (rdl_cons (c1 := [_]) (rd_v rfl) (rdl_cons (c1 := [_]) (rd_v rfl) (rdl_cons (c1 := [_]) (rd_v rfl) (rdl_cons (c1 := [_]) (rd_v rfl) (rdl_cons (c1 := [_]) (rd_nil (by omega)) (rdl_nil)))))))))
  have eM : ∀ w, RDL w [zI, zI, zI, .agg [zI, zI, zS, zS, .lst 3 []], .agg [zI, zI, zI, .lst 1 [], .lst 2 []]] Fa [.int .i64 0, .int .i64 0, .int .i64 0, .int .i64 0, .int .i64 0, .string ByteArray.empty, .string ByteArray.empty, .slice none 0 0, .int .i64 0, .int .i64 0, .int .i64 0, .slice none 0 0, .slice none 0 0] := fun w => rdl_cons (c1 := [_]) (rd_v rfl) (rdl_cons (c1 := [_]) (rd_v rfl) (rdl_cons (c1 := [_]) (rd_v rfl) (rdl_cons (c1 := [_, _, _, _, _]) (rd_agg (eO w)) (rdl_cons (c1 := [_, _, _, _, _]) (rd_agg (eR w)) rdl_nil))))
  have eG : ∀ w, RDL w [.lst 1 [], zI, zI] Fa [.slice none 0 0, .int .i64 0, .int .i64 0] := fun w => rdl_cons (c1 := [_]) (rd_nil (by omega)) (rdl_cons (c1 := [_]) (rd_v rfl) (rdl_cons (c1 := [_]) (rd_v rfl) rdl_nil))
  refine tab_cons (ti_str (b := 16) (by kernel_rfl) (by kernel_rfl)) (tab_cons (ti_int (b := 8) (by kernel_rfl) (by kernel_rfl)) (tab_cons (ti_bool (b := 1) (by kernel_rfl) (by kernel_rfl)) (tab_cons (ti_int (b := 1) (by kernel_rfl) (by kernel_rfl)) ?_)))
  refine tab_cons (ti_slice (b := 24) (zv := .string ByteArray.empty) (by kernel_rfl) (by kernel_rfl) (by kernel_rfl) (by omega) rfl (fun w => rd_v rfl)) ?_
  refine tab_cons (ti_slice (b := 24) (zv := .int .u8 0) (by kernel_rfl) (by kernel_rfl) (by kernel_rfl) (by omega) rfl (fun w => rd_v rfl)) ?_
  refine tab_cons (ti_struct (b := 24) (cs := #[.string ByteArray.empty, .int .i64 0]) (by kernel_rfl) (by kernel_rfl) (by kernel_rfl) (by decide) rfl e2) (tab_cons (ti_slice (b := 24) (zv := .agg #[.string ByteArray.empty, .int .i64 0]) (by kernel_rfl) (by kernel_rfl) (by kernel_rfl) (by omega) rfl (fun w => rd_agg (e2 w))) ?_)
  refine tab_cons (ti_struct (b := 24) (cs := #[.string ByteArray.empty, .int .i64 0]) (by kernel_rfl) (by kernel_rfl) (by kernel_rfl) (by decide) rfl e2) (tab_cons (ti_slice (b := 24) (zv := .agg #[.string ByteArray.empty, .int .i64 0]) (by kernel_rfl) (by kernel_rfl) (by kernel_rfl) (by omega) rfl (fun w => rd_agg (e2 w))) ?_)
  refine tab_cons (ti_struct (b := 32) (cs := #[.string ByteArray.empty, .int .i64 0, .bool false]) (by kernel_rfl) (by kernel_rfl) (by kernel_rfl) (by decide) rfl e3) (tab_cons (ti_slice (b := 24) (zv := .agg #[.string ByteArray.empty, .int .i64 0, .bool false]) (by kernel_rfl) (by kernel_rfl) (by kernel_rfl) (by omega) rfl (fun w => rd_agg (e3 w))) ?_)
  refine tab_cons (ti_struct (b := 32) (cs := #[.string ByteArray.empty, .int .i64 0, .bool false]) (by kernel_rfl) (by kernel_rfl) (by kernel_rfl) (by decide) rfl e3) (tab_cons (ti_slice (b := 24) (zv := .agg #[.string ByteArray.empty, .int .i64 0, .bool false]) (by kernel_rfl) (by kernel_rfl) (by kernel_rfl) (by omega) rfl (fun w => rd_agg (e3 w))) ?_)
  refine tab_cons (ti_slice (b := 24) (zv := .int .i64 0) (by kernel_rfl) (by kernel_rfl) (by kernel_rfl) (by omega) rfl (fun w => rd_v rfl)) ?_
  refine tab_cons (ti_struct (b := 48) (cs := #[.slice none 0 0, .slice none 0 0]) (by kernel_rfl) (by kernel_rfl) (by kernel_rfl) (by decide) rfl eC) (tab_cons (ti_slice (b := 24) (zv := .agg #[.slice none 0 0, .slice none 0 0]) (by kernel_rfl) (by kernel_rfl) (by kernel_rfl) (by omega) rfl (fun w => rd_agg (eC w))) ?_)
  refine tab_cons (ti_struct (b := 48) (cs := #[.slice none 0 0, .slice none 0 0]) (by kernel_rfl) (by kernel_rfl) (by kernel_rfl) (by decide) rfl eC) (tab_cons (ti_slice (b := 24) (zv := .agg #[.slice none 0 0, .slice none 0 0]) (by kernel_rfl) (by kernel_rfl) (by kernel_rfl) (by omega) rfl (fun w => rd_agg (eC w))) ?_)
  refine tab_cons (ti_struct (b := 40) (cs := #[.string ByteArray.empty, .int .i64 0, .int .i64 0, .bool false]) (by kernel_rfl) (by kernel_rfl) (by kernel_rfl) (by decide) rfl e4) (tab_cons (ti_slice (b := 24) (zv := .agg #[.string ByteArray.empty, .int .i64 0, .int .i64 0, .bool false]) (by kernel_rfl) (by kernel_rfl) (by kernel_rfl) (by omega) rfl (fun w => rd_agg (e4 w))) ?_)
  refine tab_cons (ti_struct (b := 40) (cs := #[.string ByteArray.empty, .int .i64 0, .int .i64 0, .bool false]) (by kernel_rfl) (by kernel_rfl) (by kernel_rfl) (by decide) rfl e4) (tab_cons (ti_slice (b := 24) (zv := .agg #[.string ByteArray.empty, .int .i64 0, .int .i64 0, .bool false]) (by kernel_rfl) (by kernel_rfl) (by kernel_rfl) (by omega) rfl (fun w => rd_agg (e4 w))) ?_)
  refine tab_cons (ti_struct (b := 48) (cs := #[.slice none 0 0, .slice none 0 0]) (by kernel_rfl) (by kernel_rfl) (by kernel_rfl) (by decide) rfl eB) ?_
  refine tab_cons (ti_struct (b := 48) (cs := #[.slice none 0 0, .slice none 0 0]) (by kernel_rfl) (by kernel_rfl) (by kernel_rfl) (by decide) rfl eB) ?_
  refine tab_cons (ti_struct (b := 72) (cs := #[.int .i64 0, .int .i64 0, .string ByteArray.empty, .string ByteArray.empty, .slice none 0 0]) (by kernel_rfl) (by kernel_rfl) (by kernel_rfl) (by decide) rfl eO) ?_
  refine tab_cons (ti_struct (b := 72) (cs := #[.int .i64 0, .int .i64 0, .int .i64 0, .slice none 0 0, .slice none 0 0]) (by kernel_rfl) (by kernel_rfl) (by kernel_rfl) (by decide) rfl eR) ?_
  refine tab_cons (ti_struct (b := 24) (cs := #[.int .i64 0, .int .i64 0, .bool false]) (by kernel_rfl) (by kernel_rfl) (by kernel_rfl) (by decide) rfl eV) (tab_cons (ti_slice (b := 24) (zv := .agg #[.int .i64 0, .int .i64 0, .bool false]) (by kernel_rfl) (by kernel_rfl) (by kernel_rfl) (by omega) rfl (fun w => rd_agg (eV w))) ?_)
  refine tab_cons (ti_struct (b := 48) (cs := #[.string ByteArray.empty, .int .i64 0, .slice none 0 0]) (by kernel_rfl) (by kernel_rfl) (by kernel_rfl) (by decide) rfl eW) ?_
  refine tab_cons (ti_struct (b := 80) (cs := #[.int .i64 0, .string ByteArray.empty, .string ByteArray.empty, .string ByteArray.empty, .slice none 0 0]) (by kernel_rfl) (by kernel_rfl) (by kernel_rfl) (by decide) rfl eH) ?_
  refine tab_cons (ti_slice (b := 24) (zv := .agg #[.int .i64 0, .string ByteArray.empty, .string ByteArray.empty, .string ByteArray.empty, .slice none 0 0]) (by kernel_rfl) (by kernel_rfl) (by kernel_rfl) (by omega) rfl (fun w => rd_agg (eH w))) ?_
  refine tab_cons (ti_struct (b := 104) (cs := #[.slice none 0 0, .int .i64 0, .int .i64 0, .int .i64 0, .int .i64 0, .int .i64 0, .int .i64 0, .int .i64 0, .slice none 0 0]) (by kernel_rfl) (by kernel_rfl) (by kernel_rfl) (by decide) rfl eK) ?_
  refine tab_cons (ti_struct (b := 168) (cs := #[.int .i64 0, .int .i64 0, .int .i64 0, .int .i64 0, .int .i64 0, .string ByteArray.empty, .string ByteArray.empty, .slice none 0 0, .int .i64 0, .int .i64 0, .int .i64 0, .slice none 0 0, .slice none 0 0]) (by kernel_rfl) (by kernel_rfl) (by kernel_rfl) (by decide) rfl eM) ?_
  refine tab_cons (ti_struct (b := 80) (cs := #[.int .i64 0, .string ByteArray.empty, .string ByteArray.empty, .string ByteArray.empty, .slice none 0 0]) (by kernel_rfl) (by kernel_rfl) (by kernel_rfl) (by decide) rfl eH) ?_
  refine tab_cons (ti_slice (b := 24) (zv := .agg #[.int .i64 0, .string ByteArray.empty, .string ByteArray.empty, .string ByteArray.empty, .slice none 0 0]) (by kernel_rfl) (by kernel_rfl) (by kernel_rfl) (by omega) rfl (fun w => rd_agg (eH w))) ?_
  refine tab_cons (ti_slice (b := 24) (zv := .agg #[.slice none 0 0, .int .i64 0, .int .i64 0, .int .i64 0, .int .i64 0, .int .i64 0, .int .i64 0, .int .i64 0, .slice none 0 0]) (by kernel_rfl) (by kernel_rfl) (by kernel_rfl) (by omega) rfl (fun w => rd_agg (eK w))) ?_
  refine tab_cons (ti_slice (b := 24) (zv := .agg #[.string ByteArray.empty, .int .i64 0, .slice none 0 0]) (by kernel_rfl) (by kernel_rfl) (by kernel_rfl) (by omega) rfl (fun w => rd_agg (eW w))) ?_
  refine tab_cons (ti_slice (b := 24) (zv := .agg #[.int .i64 0, .int .i64 0, .int .i64 0, .int .i64 0, .int .i64 0, .string ByteArray.empty, .string ByteArray.empty, .slice none 0 0, .int .i64 0, .int .i64 0, .int .i64 0, .slice none 0 0, .slice none 0 0]) (by kernel_rfl) (by kernel_rfl) (by kernel_rfl) (by omega) rfl (fun w => rd_agg (eM w))) ?_
  refine tab_cons (ti_slice (b := 24) (zv := .slice none 0 0) (by kernel_rfl) (by kernel_rfl) (by kernel_rfl) (by omega) rfl (fun w => rd_nil (by omega))) ?_
  refine tab_cons (ti_slice (b := 24) (zv := .slice none 0 0) (by kernel_rfl) (by kernel_rfl) (by kernel_rfl) (by omega) rfl (fun w => rd_nil (by omega))) ?_
  refine tab_cons (ti_struct (b := 128) (cs := #[.slice none 0 0, .slice none 0 0, .slice none 0 0, .slice none 0 0, .slice none 0 0, .int .i64 0]) (by kernel_rfl) (by kernel_rfl) (by kernel_rfl) (by decide) rfl (fun w => rdl_cons (c1 := [_, _]) (rd_agg (eB w)) (rdl_cons (c1 := [_]) (rd_nil (by omega)) (rdl_cons (c1 := [_]) (rd_nil (by omega)) (rdl_cons (c1 := [_]) (rd_nil (by omega)) (rdl_cons (c1 := [_]) (rd_v rfl) rdl_nil)))))) ?_
  exact tab_nil
end Go.Proofs.YtmfmclnklpbiaaaGreat.AM
namespace Go.Proofs.YtmfmclnklpbiaaaGreat
open Go.RowKit


namespace Nm
/-- a letter or the low line -/
def letter (c : Int) : Bool := (decide (97 ≤ c) && decide (c ≤ 122)) || (decide (65 ≤ c) && decide (c ≤ 90)) || decide (c = 95)
def digit (c : Int) : Bool := decide (48 ≤ c) && decide (c ≤ 57)
def lettersFrom (l : List UInt8) : Bool := l.all fun c => letter c.toNat || digit c.toNat
def nameOK (l : List UInt8) : Bool :=
  match l with
  | [] => false
  | c :: r => decide (r.length < 12) && letter c.toNat && lettersFrom r
theorem letter_not_digit (c : Int) (h : letter c = true) : digit c = false := by
  simp [letter, digit] at *; omega
end Nm

theorem isLetter_any (c : Int) (w : World) :
    Calls Tryz.prog 117 #[.int .u8 c] w fun e w' => e = .returned (.bool (Nm.letter c)) ∧ w = w' := by
  go_enter Tryz.func117, Tryz.ntmps117
  go_wp2
  all_goals (go_ret; exact ⟨ret_bool (by rw [Bool.eq_iff_iff]; simp [Nm.letter]; try omega), rfl⟩)

theorem isDigit_any (c : Int) (w : World) :
    Calls Tryz.prog 116 #[.int .u8 c] w fun e w' => e = .returned (.bool (Nm.digit c)) ∧ w = w' := by
  go_enter Tryz.func116, Tryz.ntmps116
  go_wp2
  all_goals (go_ret; exact ⟨ret_bool (by rw [Bool.eq_iff_iff]; simp [Nm.digit]; try omega), rfl⟩)

theorem l00Letter_any (c : Int) (w : World) :
    Calls Tryz.prog 59 #[.int .u8 c] w fun e w' => e = .returned (.bool (Nm.letter c)) ∧ w = w' := by
  go_enter Tryz.func59, Tryz.ntmps59
  go_wp2
  all_goals (go_ret; exact ⟨ret_bool (by rw [Bool.eq_iff_iff]; simp [Nm.letter]; try omega), rfl⟩)

theorem l00Digit_any (c : Int) (w : World) :
    Calls Tryz.prog 60 #[.int .u8 c] w fun e w' => e = .returned (.bool (Nm.digit c)) ∧ w = w' := by
  go_enter Tryz.func60, Tryz.ntmps60
  go_wp2
  all_goals (go_ret; exact ⟨ret_bool (by rw [Bool.eq_iff_iff]; simp [Nm.digit]; try omega), rfl⟩)


namespace Nm
def okc (c : UInt8) : Bool := letter c.toNat || digit c.toNat
theorem lettersFrom_take (l : List UInt8) (k : Nat) (h : k < l.length) : lettersFrom (l.take (k + 1)) = (lettersFrom (l.take k) && okc l[k]) := by
  unfold lettersFrom okc; rw [List.take_succ_eq_append_getElem h, List.all_append]; simp
theorem lettersFrom_bad (l : List UInt8) (k : Nat) (h : k < l.length) (hb : okc l[k] = false) : lettersFrom l = false := by
  rw [lettersFrom, List.all_eq_false]
  exact ⟨l[k], List.getElem_mem h, by simp only [okc] at hb; simp [hb]⟩
theorem nameOK_eq (l : List UInt8) (h0 : 0 < l.length) (h1 : l.length ≤ 12) : nameOK l = (letter l[0].toNat && lettersFrom l) := by
  match l, h0 with
  | c :: r, _ =>
    have : r.length < 12 := by simp at h1; omega
    simp [nameOK, this, lettersFrom]
    cases letter c.toNat <;> simp
theorem nameOK_nil : nameOK [] = false := rfl
theorem nameOK_long (l : List UInt8) (h : 12 < l.length) : nameOK l = false := by
  match l with
  | c :: r => 
    have : ¬ r.length < 12 := by simp at h; omega
    simp [nameOK, this]
theorem digit_not_letter (c : Int) (h : digit c = true) : letter c = false := by
  simp [letter, digit] at *; omega
theorem nameOK_digit (l : List UInt8) (h0 : 0 < l.length) (hd : digit l[0].toNat = true) : nameOK l = false := by
  match l, h0 with
  | c :: r, _ =>
    have hd' : letter c.toNat = false := digit_not_letter _ hd
    simp [nameOK, hd']
theorem nameOK_letters (l : List UInt8) (h0 : 0 < l.length) (h1 : l.length ≤ 12) (hd : digit l[0].toNat = false) : nameOK l = lettersFrom l := by
  rw [nameOK_eq l h0 h1]
  cases h : letter l[0].toNat with
  | true => rfl
  | false => exact (lettersFrom_bad l 0 h0 (by simp [okc, h, hd])).symm
end Nm

set_option maxHeartbeats 400000 in
theorem nameOK_any (s : ByteArray) (w : World) (hs : s.size ≤ maxLen) :
    Calls Tryz.prog 77 #[.string s] w fun e w' => e = .returned (.bool (Nm.nameOK s.data.toList)) ∧ w = w' := by
  unfold maxLen at hs
  have hl : s.data.toList.length = s.size := by simp
  by_cases h0 : s.size = 0
  · have : s = ByteArray.empty := by simpa using h0
    subst this
    go_enter Tryz.func77, Tryz.ntmps77
    go_wp2
    go_ret
    exact ⟨rfl, rfl⟩
  by_cases h1 : 12 < s.size
  · go_enter Tryz.func77, Tryz.ntmps77
    go_wp2
    go_ret
    exact ⟨ret_bool (Nm.nameOK_long _ (by omega)).symm, rfl⟩
  have e0 : ((s.size : Int) == 0) = false := beq_eq_false_iff_ne.2 (by omega)
  have e1 : decide ((12 : Int) < s.size) = false := decide_eq_false (by omega)
  have p0 : 0 < s.size := by omega
  cases hd : Nm.digit s[0].toNat with
  | true =>
    have hfin : Nm.nameOK s.data.toList = false := Nm.nameOK_digit _ (by rw [hl]; exact p0) hd
    have Hf := Lib.hid hfin; clear hfin
    go_enter Tryz.func77, Tryz.ntmps77
    go_wp2_with (first | (go_at_call 116; refine (isDigit_any _ _).mono ?_; rintro e w' ⟨rfl, rfl⟩) | (go_at_call 117; refine (isLetter_any _ _).mono ?_; rintro e w' ⟨rfl, rfl⟩))
    go_ret
    exact ⟨ret_bool Hf.out.symm, rfl⟩
  | false =>
    have hfin : Nm.nameOK s.data.toList = Nm.lettersFrom s.data.toList := Nm.nameOK_letters _ (by rw [hl]; exact p0) (by omega) hd
    have Hf := Lib.hid hfin; clear hfin
    have h1' : s.size ≤ 12 := by omega
    clear h1
    go_enter Tryz.func77, Tryz.ntmps77
    go_wp2_with (first | (go_at_call 116; refine (isDigit_any _ _).mono ?_; rintro e w' ⟨rfl, rfl⟩) | (go_at_call 117; refine (isLetter_any _ _).mono ?_; rintro e w' ⟨rfl, rfl⟩))
    go_loop [3] (fun i => ∃ k : Nat, k ≤ s.size ∧ i = .int .i64 k ∧ Nm.lettersFrom (s.data.toList.take k) = true) (fun i => s.size - (intOf i).toNat)
    case atStart => exact ⟨0, Nat.zero_le _, rfl, rfl⟩
    case round =>
      obtain ⟨k, hk, rfl, hr⟩ := hrel
      have Hr := Lib.hid hr; clear hr
      by_cases hlt : k < s.size
      · have hst : Hid (Nm.lettersFrom (s.data.toList.take (k + 1)) = (Nm.lettersFrom (s.data.toList.take k) && Nm.okc s[k])) := Nm.lettersFrom_take _ k (by omega)
        have hbad : Hid (Nm.okc s[k] = false → Nm.lettersFrom s.data.toList = false) := fun h => Nm.lettersFrom_bad _ k (by omega) h
        have hok : Nm.okc s[k] = (Nm.letter s[k].toNat || Nm.digit s[k].toNat) := rfl
        have Hok := Lib.hid hok; clear hok
        go_wp2_with (first | (go_at_call 116; refine (isDigit_any _ _).mono ?_; rintro e w' ⟨rfl, rfl⟩) | (go_at_call 117; refine (isLetter_any _ _).mono ?_; rintro e w' ⟨rfl, rfl⟩))
        · go_round
          case rel => exact ⟨k + 1, by omega, by go_num, by rw [hst.out, Hr.out, Hok.out]; simp [*]⟩
          case measure => simp [intOf]; omega
        · go_ret
          exact ⟨ret_bool (by rw [Hf.out, hbad.out]; rw [Hok.out]; simp_all), rfl⟩
        · go_round
          case rel => exact ⟨k + 1, by omega, by go_num, by rw [hst.out, Hr.out, Hok.out]; simp_all⟩
          case measure => simp [intOf]; omega
      · go_wp2
        go_ret
        exact ⟨ret_bool (by rw [Hf.out]; have := Hr.out; rw [List.take_of_length_le (by omega)] at this; exact this.symm), rfl⟩

set_option maxHeartbeats 400000 in
theorem l00Word_any (s : ByteArray) (w : World) (hs : s.size ≤ maxLen) :
    Calls Tryz.prog 26 #[.string s] w fun e w' => e = .returned (.bool (Nm.nameOK s.data.toList)) ∧ w = w' := by
  unfold maxLen at hs
  have hl : s.data.toList.length = s.size := by simp
  by_cases h0 : s.size = 0
  · have : s = ByteArray.empty := by simpa using h0
    subst this
    go_enter Tryz.func26, Tryz.ntmps26
    go_wp2
    go_ret
    exact ⟨rfl, rfl⟩
  have e2 : decide ((s.size : Int) < 1) = false := decide_eq_false (by omega)
  by_cases h1 : 12 < s.size
  · go_enter Tryz.func26, Tryz.ntmps26
    go_wp2
    go_ret
    exact ⟨ret_bool (Nm.nameOK_long _ (by omega)).symm, rfl⟩
  have e1 : decide ((12 : Int) < s.size) = false := decide_eq_false (by omega)
  have p0 : 0 < s.size := by omega
  cases hd : Nm.letter s[0].toNat with
  | false =>
    have hfin : Nm.nameOK s.data.toList = false := by
      rw [Nm.nameOK_eq _ (by rw [hl]; exact p0) (by omega)]
      have : Nm.letter s.data.toList[0].toNat = false := hd
      rw [this]; rfl
    have Hf := Lib.hid hfin; clear hfin
    go_enter Tryz.func26, Tryz.ntmps26
    go_wp2_with (go_at_call 59; refine (l00Letter_any _ _).mono ?_; rintro e w' ⟨rfl, rfl⟩)
    go_ret
    exact ⟨ret_bool Hf.out.symm, rfl⟩
  | true =>
    have hfin : Nm.nameOK s.data.toList = Nm.lettersFrom s.data.toList := by
      rw [Nm.nameOK_eq _ (by rw [hl]; exact p0) (by omega)]
      have : Nm.letter s.data.toList[0].toNat = true := hd
      rw [this]; rfl
    have Hf := Lib.hid hfin; clear hfin
    have hst1 : Hid (Nm.lettersFrom (s.data.toList.take 1) = true) := by
      have e : Nm.lettersFrom (s.data.toList.take (0 + 1)) = (Nm.lettersFrom (s.data.toList.take 0) && Nm.okc s[0]) := Nm.lettersFrom_take _ 0 (by rw [hl]; exact p0)
      show Nm.lettersFrom (s.data.toList.take (0 + 1)) = true
      rw [e, Nm.okc, hd]; rfl
    have h1' : s.size ≤ 12 := by omega
    clear h1
    go_enter Tryz.func26, Tryz.ntmps26
    go_wp2_with (go_at_call 59; refine (l00Letter_any _ _).mono ?_; rintro e w' ⟨rfl, rfl⟩)
    go_loop [3] (fun i => ∃ k : Nat, 1 ≤ k ∧ k ≤ s.size ∧ i = .int .i64 k ∧ Nm.lettersFrom (s.data.toList.take k) = true) (fun i => s.size - (intOf i).toNat)
    case atStart => exact ⟨1, Nat.le_refl _, p0, rfl, hst1.out⟩
    case round =>
      obtain ⟨k, hk0, hk, rfl, hr⟩ := hrel
      have Hr := Lib.hid hr; clear hr
      by_cases hlt : k < s.size
      · have hst : Hid (Nm.lettersFrom (s.data.toList.take (k + 1)) = (Nm.lettersFrom (s.data.toList.take k) && Nm.okc s[k])) := Nm.lettersFrom_take _ k (by omega)
        have hbad : Hid (Nm.okc s[k] = false → Nm.lettersFrom s.data.toList = false) := fun h => Nm.lettersFrom_bad _ k (by omega) h
        have hok : Nm.okc s[k] = (Nm.letter s[k].toNat || Nm.digit s[k].toNat) := rfl
        have Hok := Lib.hid hok; clear hok
        go_wp2_with (first | (go_at_call 59; refine (l00Letter_any _ _).mono ?_; rintro e w' ⟨rfl, rfl⟩) | (go_at_call 60; refine (l00Digit_any _ _).mono ?_; rintro e w' ⟨rfl, rfl⟩))
        · go_round
          case rel => exact ⟨k + 1, by omega, by omega, by go_num, by rw [hst.out, Hr.out, Hok.out]; simp [*]⟩
          case measure => simp [intOf]; omega
        · go_ret
          exact ⟨ret_bool (by rw [Hf.out, hbad.out]; rw [Hok.out]; simp_all), rfl⟩
        · go_round
          case rel => exact ⟨k + 1, by omega, by omega, by go_num, by rw [hst.out, Hr.out, Hok.out]; simp_all⟩
          case measure => simp [intOf]; omega
      · go_wp2
        go_ret
        exact ⟨ret_bool (by rw [Hf.out]; have := Hr.out; rw [List.take_of_length_le (by omega)] at this; exact this.symm), rfl⟩

end Go.Proofs.YtmfmclnklpbiaaaGreat
/- The plain side of chapter 2: keys in order, maps, edits, and what the functions return. Lists and numbers alone. -/
namespace Go.Proofs.YtmfmclnklpbiaaaGreat

/-! ### keys in order -/
theorem bytesLess_lt : ∀ (x y : List UInt8), Op.bytesLess x y = decide (x < y)
  | [], [] => by simp [Op.bytesLess]
  | [], _ :: _ => by simp [Op.bytesLess]
  | _ :: _, [] => by simp [Op.bytesLess]
  | a :: xs, b :: ys => by
    rw [Op.bytesLess, bytesLess_lt xs ys, Bool.eq_iff_iff]
    simp [List.cons_lt_cons_iff]
def klt (a b : ByteArray) : Bool := Op.bytesLess a.toList b.toList
theorem klt_iff (a b : ByteArray) : klt a b = true ↔ a.toList < b.toList := by simp [klt, bytesLess_lt]
theorem klt_irrefl (a : ByteArray) : klt a a = false := by
  cases h : klt a a with
  | false => rfl
  | true => exact absurd ((klt_iff _ _).1 h) (List.lt_irrefl _)
theorem klt_trans {a b c : ByteArray} (h : klt a b = true) (k : klt b c = true) : klt a c = true :=
  (klt_iff _ _).2 (List.lt_trans ((klt_iff _ _).1 h) ((klt_iff _ _).1 k))
theorem klt_asymm {a b : ByteArray} (h : klt a b = true) : klt b a = false := by
  cases k : klt b a with
  | false => rfl
  | true => have := klt_trans h k; rw [klt_irrefl] at this; cases this
theorem klt_tri {a b : ByteArray} (h : klt a b = false) (k : a ≠ b) : klt b a = true := by
  rw [klt_iff]
  have h' : ¬ a.toList < b.toList := fun x => by rw [(klt_iff _ _).2 x] at h; cases h
  rcases List.le_iff_lt_or_eq.1 (List.not_lt.1 h') with h2 | h2
  · exact h2
  · exact absurd (toList_inj h2.symm) k
/-- 'a <= b' in the walk's own words, with the sides turned -/
theorem kle_eq (a b : ByteArray) : (Op.bytesLess a.toList b.toList || a.toList == b.toList) = !klt b a := by
  have e : Op.bytesLess a.toList b.toList = klt a b := rfl
  rw [e, toList_beq]
  by_cases h : a = b
  · subst h; simp [klt_irrefl]
  · cases k : klt a b with
    | true => simp [klt_asymm k]
    | false => simp [klt_tri k h, h]

/-! ### maps -/
def nm (k : ByteArray) : Bool := Nm.nameOK k.data.toList
def valB (x : Int) : Bool := decide (-1000000 ≤ x) && decide (x ≤ 1000000)
def kAt (es : List Ent) (i : Nat) : ByteArray := (es.getD i (ByteArray.empty, 0)).1
def ordAt (es : List Ent) (i : Nat) : Bool := nm (kAt es i) && (decide (i = 0) || klt (kAt es (i - 1)) (kAt es i))
def valAt (es : List Ent) (i : Nat) : Bool := valB (es.getD i (ByteArray.empty, 0)).2
def ordM (es : List Ent) : Bool := (List.range es.length).all (ordAt es)
def valM (es : List Ent) : Bool := (List.range es.length).all (valAt es)
def mapOK (es : List Ent) : Bool := decide (es.length ≤ 12) && (ordM es && valM es)
theorem kAt_eq (es : List Ent) (i : Nat) (h : i < es.length) : kAt es i = es[i].1 := by simp [kAt, h]
theorem ordM_of {es : List Ent} (h : ∀ i, i < es.length → ordAt es i = true) : ordM es = true := by
  rw [ordM, List.all_eq_true]; intro i hi; exact h i (List.mem_range.1 hi)
theorem valM_of {es : List Ent} (h : ∀ i, i < es.length → valAt es i = true) : valM es = true := by
  rw [valM, List.all_eq_true]; intro i hi; exact h i (List.mem_range.1 hi)
theorem ordM_not {es : List Ent} {i : Nat} (hi : i < es.length) (h : ordAt es i = false) : ordM es = false := by
  rw [ordM, List.all_eq_false]; exact ⟨i, List.mem_range.2 hi, by rw [h]; simp⟩
theorem valM_not {es : List Ent} {i : Nat} (hi : i < es.length) (h : valAt es i = false) : valM es = false := by
  rw [valM, List.all_eq_false]; exact ⟨i, List.mem_range.2 hi, by rw [h]; simp⟩
theorem ordM_at {es : List Ent} (h : ordM es = true) {i : Nat} (hi : i < es.length) : ordAt es i = true := List.all_eq_true.1 h i (List.mem_range.2 hi)
theorem mapOK_of {es : List Ent} (h0 : es.length ≤ 12) (h : ∀ i, i < es.length → ordAt es i = true ∧ valAt es i = true) : mapOK es = true := by
  rw [mapOK, ordM_of fun i hi => (h i hi).1, valM_of fun i hi => (h i hi).2, decide_eq_true h0]; rfl
theorem mapOK_noOrd {es : List Ent} {i : Nat} (hi : i < es.length) (h : ordAt es i = false) : mapOK es = false := by
  rw [mapOK, ordM_not hi h]; simp
theorem mapOK_noVal {es : List Ent} {i : Nat} (hi : i < es.length) (h : valAt es i = false) : mapOK es = false := by
  rw [mapOK, valM_not hi h]; simp
theorem mapOK_long {es : List Ent} (h : 12 < es.length) : mapOK es = false := by
  rw [mapOK, decide_eq_false (by omega)]; rfl
theorem ordAt_pos {es : List Ent} {k : Nat} (h : 0 < k) (hk : k < es.length) (hn : nm (kAt es k) = true) : ordAt es k = klt (es[k - 1]'(by omega)).1 es[k].1 := by
  rw [ordAt, hn, decide_eq_false (by omega), kAt_eq es k hk, kAt_eq es (k - 1) (by omega)]; simp
theorem ordAt_zero {es : List Ent} (hn : nm (kAt es 0) = true) : ordAt es 0 = true := by rw [ordAt, hn]; rfl

end Go.Proofs.YtmfmclnklpbiaaaGreat
/- The plain side of Get, Put, Remove, Scan: what is found, put in, taken out, cut out; the program's way and the document's way agree on lists in order. -/
namespace Go.Proofs.YtmfmclnklpbiaaaGreat

def Srt (es : List Ent) : Prop := es.Pairwise fun a b => klt a.1 b.1 = true
/-! ### looking up -/
/-- where a key is or would be: 'place' -/
def IsPlc (es : List Ent) (k : ByteArray) (p : Nat) : Prop := p ≤ es.length ∧ (∀ j, (hj : j < es.length) → j < p → klt es[j].1 k = true) ∧ ((hp : p < es.length) → klt es[p].1 k = false)
theorem IsPlc.take {es : List Ent} {k : ByteArray} {p : Nat} (h : IsPlc es k p) : es.takeWhile (fun e => klt e.1 k) = es.take p ∧ es.dropWhile (fun e => klt e.1 k) = es.drop p := by
  induction es generalizing p with
  | nil => obtain ⟨h1, _⟩ := h; simp
  | cons e r ih =>
    obtain ⟨h1, h2, h3⟩ := h
    match p, h1, h2, h3 with
    | 0, _, _, h3 => have := h3 (by simp); simp at this; simp [this]
    | p + 1, h1, h2, h3 =>
      have he := h2 0 (by simp) (by omega)
      simp at he
      have := ih (p := p) ⟨by simpa using h1, fun j hj hjp => by have := h2 (j + 1) (by simp; omega) (by omega); simpa using this, fun hp => by have := h3 (by simp; omega); simpa using this⟩
      simp [he, this]
/-! ### putting in -/
/-- behind the place no key is the looked-for one but perhaps the first -/
theorem IsPlc.after {es : List Ent} {k : ByteArray} {p : Nat} (h : IsPlc es k p) (hs : Srt es) (j : Nat) (hj : j < es.length) (hpj : p < j) : klt k es[j].1 = true := by
  have h1 : klt es[p].1 es[j].1 = true := (List.pairwise_iff_getElem.1 hs) p j (by omega) hj hpj
  by_cases he : es[p].1 = k
  · rw [← he]; exact h1
  · exact klt_trans (klt_tri (h.2.2 (by omega)) he) h1
/-! ### cutting out -/
end Go.Proofs.YtmfmclnklpbiaaaGreat
/- The document's way of putting in, step by step, comes to 'putL'. -/
namespace Go.Proofs.YtmfmclnklpbiaaaGreat

end Go.Proofs.YtmfmclnklpbiaaaGreat
/- The law's helpers on entries: size, copy, equality. -/
namespace Go.Proofs.YtmfmclnklpbiaaaGreat
open Go.RowKit

theorem toEntry_any (key : ByteArray) (v : Int) (w : World) :
    Calls Tryz.prog 129 #[.agg #[.string key, .int .i64 v]] w fun e w' => e = .returned (.agg #[.string key, .int .i64 v]) ∧ Below w.heap.size w w' := by
  go_enter Tryz.func129, Tryz.ntmps129
  go_wp2
  exact bodyPost_ret (v := .agg #[.string key, .int .i64 v]) (by simp [results, Tryz.results129, go_sem]) rfl ⟨rfl, by
    refine ((((((((((Below.refl _ _).alloc (Nat.le_refl _) _).alloc (by simp) _).alloc (by simp; omega) _)))))))⟩

def EqE (a b : Ent) : Bool := decide (a.1 = b.1) && decide (a.2 = b.2)
theorem eqEntry_any (k1 k2 : ByteArray) (v1 v2 : Int) (w : World) :
    Calls Tryz.prog 140 #[.agg #[.string k1, .int .i64 v1], .agg #[.string k2, .int .i64 v2]] w fun e w' => e = .returned (.bool (EqE (k1, v1) (k2, v2))) ∧ Below w.heap.size w w' := by
  have hk := toList_beq k1 k2
  by_cases h1 : k1 = k2 <;> by_cases h2 : v1 = v2
  all_goals
    go_enter Tryz.func140, Tryz.ntmps140
    go_wp2
    go_ret
    exact ⟨ret_bool (by simp [EqE, h1, h2]), ((Below.refl _ _).alloc (Nat.le_refl _) _).alloc (by simp) _⟩

end Go.Proofs.YtmfmclnklpbiaaaGreat
namespace Go.Proofs.YtmfmclnklpbiaaaGreat
open Go.RowKit

def EqPost (b : Bool) (w : World) (e : Ending) (w' : World) : Prop := e = .returned (.bool b) ∧ Below w.heap.size w w'

set_option maxRecDepth 100000 in
theorem eqEntryS_any (A : Option Addr) (n c : Nat) (es : List Ent) (A' : Option Addr) (n' c' : Nat) (es' : List Ent) (w : World) (hr : Rd w 2 A n (entsC es)) (hr' : Rd w 2 A' n' (entsC es')) (hm : n ≤ maxLen) (hm' : n' ≤ maxLen) :
    Calls Tryz.prog 118 #[.slice A n c, .slice A' n' c'] w (EqPost (decide (es = es')) w) := by
  unfold maxLen at hm hm'
  have hlen := hr.len
  have hlen' := hr'.len
  have Hlen := Lib.hid hlen; clear hlen
  have Hlen' := Lib.hid hlen'; clear hlen'
  by_cases hne : n = n'
  case neg =>
    have hfin : Hid (decide (es = es') = false) := decide_eq_false (fun h => hne (by rw [← Hlen.out, ← Hlen'.out, h]))
    have hb : ((n : Int) != n') = true := by rw [bne_iff_ne]; omega
    go_enter Tryz.func118, Tryz.ntmps118
    go_wp2
    go_ret
    exact ⟨ret_bool hfin.out.symm, Below.refl _ _⟩
  subst hne
  go_enter Tryz.func118, Tryz.ntmps118
  go_wp2
  go_loopw [5] (fun i wr => ∃ k : Nat, k ≤ n ∧ i = .int .i64 k ∧ es.take k = es'.take k ∧ Below w.heap.size w wr) (fun i _ => n - (intOf i).toNat)
  case atStart => exact ⟨0, Nat.zero_le _, rfl, rfl, Below.refl _ _⟩
  case round =>
    obtain ⟨k, hk, rfl, heq, hb⟩ := hrel
    have Heq := Lib.hid heq; clear heq
    by_cases hlt : k < n
    · have hke : k < es.length := by rw [Hlen.out]; exact hlt
      have hke' : k < es'.length := by rw [Hlen'.out]; exact hlt
      obtain ⟨b, off, rfl, hbl, hbl2, hc1, hc2⟩ := hr.ent hb hke
      obtain ⟨b', off', rfl, hbl', hbl2', hc1', hc2'⟩ := hr'.ent hb hke'
      have hyes : Hid (EqE es[k] es'[k] = true → es.take (k + 1) = es'.take (k + 1)) := by
        intro h
        have h' : es[k] = es'[k] := by simp [EqE] at h; exact Prod.ext h.1 h.2
        rw [List.take_succ_eq_append_getElem hke, List.take_succ_eq_append_getElem hke', Heq.out, h']
      have hno : Hid (EqE es[k] es'[k] = false → decide (es = es') = false) := by
        intro h
        refine decide_eq_false (fun e => ?_)
        subst e
        simp [EqE] at h
      generalize es[k] = ek at *
      generalize es'[k] = ek' at *
      go_wp2
      go_still_tail 8, (by kernel_rfl)
      change wpList _ _ _ _ _ wr.drew
      generalize hw2 : wr.drew = w2
      have hb2 : Below w.heap.size w w2 := by rw [← hw2]; exact hb.drew
      clear hw2 hb
      go_wp2_with fail
      refine (eqEntry_any _ _ _ _ _).mono ?_
      rintro e w3 ⟨rfl, hb3⟩
      cases hE : EqE (ek.1, ek.2) (ek'.1, ek'.2) with
      | true =>
        have HE := Lib.hid hE; clear hE
        go_wp2
        go_roundw
        case rel => exact ⟨k + 1, by omega, by go_num, hyes.out HE.out, hb2.trans (hb3.mono hb2.size)⟩
        case measure => simp [intOf]; omega
      | false =>
        have HE := Lib.hid hE; clear hE
        go_wp2
        go_ret
        exact ⟨ret_bool (hno.out HE.out).symm, hb2.trans (hb3.mono hb2.size)⟩
    · have hfin : Hid (decide (es = es') = true) := by
        have h := Heq.out
        rw [List.take_of_length_le (by rw [Hlen.out]; omega), List.take_of_length_le (by rw [Hlen'.out]; omega)] at h
        exact decide_eq_true h
      go_wp2
      go_ret
      exact ⟨ret_bool hfin.out.symm, hb⟩

theorem info_Entry : (Tryz.prog.info? 163).map (fun i => (i.zero, i.size, i.bytes)) = some (some (.agg #[.string ByteArray.empty, .int .i64 0]), 2, 24) := by kernel_rfl

set_option maxRecDepth 100000 in
/-- the slice is a whole row of the call's own at block g -/
theorem toEntryS_any (A : Option Addr) (n c : Nat) (es : List Ent) (w : World) (hr : Rd w 2 A n (entsC es)) (hm : n ≤ 1048576) :
    Calls Tryz.prog 107 #[.slice A n c] w fun e w' => ∃ v, e = .returned v ∧ w'.ownsRow w.heap.size 163 2 v n (entsC es) ∧ Below w.heap.size w w' := by
  have hlen := hr.len
  have Hlen := Lib.hid hlen; clear hlen
  obtain ⟨i0, hi, hz0, hz1, hz2⟩ := info_parts info_Entry
  have hmk := fun W => run_make_rowN (P := Tryz.prog) 68 163 i0 _ Tryz.underlying68 hi hz0 .i64 .i64 n n (Nat.le_refl _) (by rw [hz2]; omega) (by omega) W
  rw [hz1] at hmk
  have hm' : n ≤ 9223372036854775807 := by omega
  have Hi := Lib.hid hi; clear hi
  clear hz0 hz1 hz2 hm
  go_enter Tryz.func107, Tryz.ntmps107
  go_wp2
  have hblk0 : Blk (w.alloc (.cells (madeCells (Value.agg #[Value.string ByteArray.empty, Value.int IntKind.i64 0]).cells (n * 2)) 163)) w.heap.size 163 (madeCells (Value.agg #[Value.string ByteArray.empty, Value.int IntKind.i64 0]).cells (n * 2)) := Blk.new _ _ _
  have HB0 := Lib.hid hblk0; clear hblk0
  have hb0 : Below w.heap.size w (w.alloc (.cells (madeCells (Value.agg #[Value.string ByteArray.empty, Value.int IntKind.i64 0]).cells (n * 2)) 163)) := (Below.refl _ _).alloc (Nat.le_refl _) _
  have HBel := Lib.hid hb0; clear hb0
  generalize hg0 : w.heap.size = g at *
  have Hg0 := Lib.hid hg0; clear hg0
  go_loopw [4] (fun i wr => ∃ (k : Nat) (cs : Array Value), k ≤ n ∧ i = .int .i64 k ∧ Blk wr g 163 cs ∧ cs.size = n * 2 ∧ cs.toList.take (k * 2) = entsC (es.take k) ∧ Below g w wr) (fun i _ => n - (intOf i).toNat)
  case atStart => exact ⟨0, _, Nat.zero_le _, rfl, HB0.out, by simp [size_madeCells], by simp [entsC], HBel.out⟩
  case round =>
    obtain ⟨k, cs, hk, rfl, hblk, hsz, htk, hb⟩ := hrel
    by_cases hlt : k < n
    · have hke : k < es.length := by rw [Hlen.out]; exact hlt
      obtain ⟨b, off, rfl, hbl, hbl2, hc1, hc2⟩ := hr.ent (by rw [Hg0.out]; exact hb) hke
      have hstep : Hid (entsC (es.take (k + 1)) = entsC (es.take k) ++ [.string es[k].1, .int .i64 es[k].2]) := by
        rw [List.take_succ_eq_append_getElem hke, entsC_append]; rfl
      have HT := Lib.hid htk; clear htk
      have HS := Lib.hid hsz; clear hsz
      have HB := Lib.hid hblk; clear hblk
      generalize es[k] = ek at *
      go_wp2_with fail
      refine (toEntry_any _ _ _).mono ?_
      rintro e w1 ⟨rfl, hb1⟩
      have hgl : g < wr.heap.size := HB.out.lt
      have hblk1 : Blk w1 g 163 cs := HB.out.kept hb1
      have hsz' := HS.out
      have hx0 : w1.cell? ⟨g, k * 2, none⟩ = some (cs[k * 2]'(by omega)) := by rw [hblk1.cell]; exact Array.getElem?_eq_getElem (by omega)
      have hx1 : w1.cell? ⟨g, k * 2 + 1, none⟩ = some (cs[k * 2 + 1]'(by omega)) := by rw [hblk1.cell]; exact Array.getElem?_eq_getElem (by omega)
      have hf0 := hblk1.frozen (k * 2)
      have hf1 := hblk1.frozen (k * 2 + 1)
      generalize cs[k * 2]'(by omega) = y0 at *
      generalize cs[k * 2 + 1]'(by omega) = y1 at *
      have HB1 := Lib.hid hblk1; clear hblk1 hsz'
      go_wp2
      go_roundw
      case rel => exact ⟨k + 1, _, by omega, by go_num, (HB1.out.set_ _ _).set_ _ _, by simpa using HS.out, by rw [take_set2 _ _ _ _ (by have := HS.out; omega), HT.out, hstep.out], ((hb.trans (hb1.mono (by omega))).setCell (Nat.le_refl g) _).setCell (Nat.le_refl g) _⟩
      case measure => simp [intOf]; omega
    · have HT := Lib.hid htk; clear htk
      have HS := Lib.hid hsz; clear hsz
      have HB := Lib.hid hblk; clear hblk
      have hkn : k = n := by omega
      have HKN := Lib.hid hkn; clear hkn
      go_wp2
      go_ret
      exact ⟨_, rfl, HB.out.own (Nat.le_of_eq Hg0.out) (Nat.le_refl _) (by unfold maxLen; omega) HS.out (by have h := HT.out; rw [HKN.out, List.take_of_length_le (l := es) (by rw [Hlen.out]; exact Nat.le_refl _)] at h; exact h), by rw [Hg0.out]; exact hb⟩

end Go.Proofs.YtmfmclnklpbiaaaGreat
namespace Go.Proofs.YtmfmclnklpbiaaaGreat
open Go.RowKit

theorem valueOK_any (x : Int) (w : World) :
    Calls Tryz.prog 148 #[.int .i64 x] w fun e w' => e = .returned (.bool (decide (-1000000 ≤ x) && decide (x ≤ 1000000))) ∧ w = w' := by
  go_enter Tryz.func148, Tryz.ntmps148
  go_wp2
  all_goals (go_ret; exact ⟨ret_bool (by rw [Bool.eq_iff_iff]; simp; try omega), rfl⟩)

theorem l01In_any (x a b : Int) (w : World) :
    Calls Tryz.prog 99 #[.int .i64 x, .int .i64 a, .int .i64 b] w fun e w' => e = .returned (.bool (decide (a ≤ x) && decide (x ≤ b))) ∧ w = w' := by
  go_enter Tryz.func99, Tryz.ntmps99
  go_wp2
  all_goals (go_ret; exact ⟨ret_bool (by rw [Bool.eq_iff_iff]; simp; try omega), rfl⟩)

theorem keyOf_any (key : ByteArray) (v : Int) (w : World) :
    Calls Tryz.prog 167 #[.agg #[.string key, .int .i64 v]] w fun e w' => e = .returned (.string key) ∧ Below w.heap.size w w' := by
  go_enter Tryz.func167, Tryz.ntmps167
  go_wp2
  go_ret
  exact ⟨rfl, (Below.refl _ _).alloc (Nat.le_refl _) _⟩

theorem l00Word_ent (es : List Ent) (k : Nat) (hke : k < es.length) (hs : es[k].1.size ≤ maxLen) (W : World) :
    Calls Tryz.prog 26 #[.string es[k].1] W fun e w' => e = .returned (.bool (nm (kAt es k))) ∧ W = w' := by
  rw [kAt_eq es k hke]; exact l00Word_any _ W hs

theorem l01In_ent (es : List Ent) (k : Nat) (hke : k < es.length) (W : World) :
    Calls Tryz.prog 99 #[.int .i64 es[k].2, .int .i64 (-1000000), .int .i64 1000000] W fun e w' => e = .returned (.bool (valAt es k)) ∧ W = w' := by
  have e : valAt es k = (decide (-1000000 ≤ es[k].2) && decide (es[k].2 ≤ 1000000)) := by simp [valAt, valB, hke]
  rw [e]; exact l01In_any _ _ _ _

set_option maxRecDepth 100000 in
theorem l01OK_any (A : Option Addr) (n c : Nat) (es : List Ent) (w : World) (hr : Rd w 2 A n (entsC es)) (hm : n ≤ maxLen) (hks : ∀ e ∈ es, e.1.size ≤ maxLen) :
    Calls Tryz.prog 127 #[.slice A n c] w fun e w' => e = .returned (.bool (mapOK es)) ∧ Below w.heap.size w w' := by
  unfold maxLen at hm
  have hlen := hr.len
  have Hlen := Lib.hid hlen; clear hlen
  by_cases hbig : 12 < n
  · have hfin : Hid (mapOK es = false) := mapOK_long (by rw [Hlen.out]; exact hbig)
    go_enter Tryz.func127, Tryz.ntmps127
    go_wp2
    go_ret
    exact ⟨ret_bool hfin.out.symm, Below.refl _ _⟩
  have hn12 : n ≤ 12 := by omega
  clear hbig
  go_enter Tryz.func127, Tryz.ntmps127
  go_wp2
  go_loopw [3] (fun i wr => ∃ k : Nat, k ≤ n ∧ i = .int .i64 k ∧ (∀ j, j < k → ordAt es j = true ∧ valAt es j = true) ∧ Below w.heap.size w wr) (fun i _ => n - (intOf i).toNat)
  case atStart => exact ⟨0, Nat.zero_le _, rfl, fun j hj => absurd hj (by omega), Below.refl _ _⟩
  case round =>
    obtain ⟨k, hk, rfl, hall, hb⟩ := hrel
    have Hall := Lib.hid hall; clear hall
    by_cases hlt : k < n
    · have hke : k < es.length := by rw [Hlen.out]; exact hlt
      obtain ⟨b, off, rfl, hbl, hbl2, hc1, hc2⟩ := hr.ent hb hke
      have hcall := l00Word_ent es k hke (hks _ (List.getElem_mem hke))
      have hcall2 := l01In_ent es k hke
      cases hw : nm (kAt es k) with
      | false =>
        have hfin : Hid (mapOK es = false) := mapOK_noOrd hke (by rw [ordAt, hw]; rfl)
        rw [hw] at hcall
        have Hcall := Lib.hid hcall
        clear hw hcall hcall2
        go_wp2
        go_quiet ((first | (go_at_call 26; exact Calls.quiet_of_same ((Hcall.out _).mono (fun _ _ h => ⟨h.1, h.2.symm⟩)))))
        go_wp2
        go_ret
        exact ⟨ret_bool hfin.out.symm, hb.drewN _⟩
      | true =>
      cases hv : valAt es k with
      | false =>
        have hfin : Hid (mapOK es = false) := mapOK_noVal hke hv
        rw [hw] at hcall
        rw [hv] at hcall2
        have Hcall := Lib.hid hcall
        have Hcall2 := Lib.hid hcall2
        clear hw hv hcall hcall2
        go_wp2
        go_quiet ((first | (go_at_call 26; exact Calls.quiet_of_same ((Hcall.out _).mono (fun _ _ h => ⟨h.1, h.2.symm⟩))) | (go_at_call 99; exact Calls.quiet_of_same ((Hcall2.out _).mono (fun _ _ h => ⟨h.1, h.2.symm⟩)))))
        go_wp2
        go_ret
        exact ⟨ret_bool hfin.out.symm, hb.drewN _⟩
      | true =>
      by_cases hk0 : k = 0
      · subst hk0
        have hstep : Hid (∀ j, j < 0 + 1 → ordAt es j = true ∧ valAt es j = true) := fun j hj => by
          have : j = 0 := by omega
          subst this; exact ⟨ordAt_zero hw, hv⟩
        rw [hw] at hcall
        rw [hv] at hcall2
        have Hcall := Lib.hid hcall
        have Hcall2 := Lib.hid hcall2
        clear hw hv hcall hcall2
        simp only [Nat.zero_mul, Nat.add_zero] at hc1 hc2
        go_wp2
        go_quiet ((first | (go_at_call 26; exact Calls.quiet_of_same ((Hcall.out _).mono (fun _ _ h => ⟨h.1, h.2.symm⟩))) | (go_at_call 99; exact Calls.quiet_of_same ((Hcall2.out _).mono (fun _ _ h => ⟨h.1, h.2.symm⟩)))))
        go_wp2
        go_roundw
        case rel => exact ⟨0 + 1, by omega, by go_num, hstep.out, hb.drewN _⟩
        case measure => simp [intOf]; omega
      · have hkp : 0 < k := by omega
        have hor := ordAt_pos hkp hke hw
        obtain ⟨b', off', he, _, _, hc3, _⟩ := hr.ent hb (show k - 1 < es.length by omega)
        obtain ⟨rfl, rfl⟩ : b = b' ∧ off = off' := by simpa using he
        have ht : (Op.bytesLess es[k].1.toList (es[k - 1]'(by omega)).1.toList || es[k].1.toList == (es[k - 1]'(by omega)).1.toList) = !ordAt es k := by rw [kle_eq, hor]
        have hi0 : 0 ≤ (k : Int) - 1 := by omega
        have hi1 : ((k : Int) - 1).toNat = k - 1 := by omega
        have hi2 : (0 : Int) < (k : Int) := by omega
        rw [hw] at hcall
        rw [hv] at hcall2
        have Hcall := Lib.hid hcall
        have Hcall2 := Lib.hid hcall2
        clear hcall hcall2 hk0 he hor
        cases ho : ordAt es k with
        | false =>
          have hfin : Hid (mapOK es = false) := mapOK_noOrd hke ho
          rw [ho] at ht
          clear hw hv ho
          go_wp2
          go_quiet ((first | (go_at_call 26; exact Calls.quiet_of_same ((Hcall.out _).mono (fun _ _ h => ⟨h.1, h.2.symm⟩))) | (go_at_call 99; exact Calls.quiet_of_same ((Hcall2.out _).mono (fun _ _ h => ⟨h.1, h.2.symm⟩)))))
          go_wp2
          go_ret
          exact ⟨ret_bool hfin.out.symm, hb.drewN _⟩
        | true =>
          have hstep : Hid (∀ j, j < k + 1 → ordAt es j = true ∧ valAt es j = true) := fun j hj => by
            rcases Nat.lt_or_ge j k with h | h
            · exact Hall.out j h
            · have : j = k := by omega
              subst this; exact ⟨ho, hv⟩
          rw [ho] at ht
          clear hw hv ho
          go_wp2
          go_quiet ((first | (go_at_call 26; exact Calls.quiet_of_same ((Hcall.out _).mono (fun _ _ h => ⟨h.1, h.2.symm⟩))) | (go_at_call 99; exact Calls.quiet_of_same ((Hcall2.out _).mono (fun _ _ h => ⟨h.1, h.2.symm⟩)))))
          go_wp2
          go_roundw
          case rel => exact ⟨k + 1, by omega, by go_num, hstep.out, hb.drewN _⟩
          case measure => simp [intOf]; omega
    · have hfin : Hid (mapOK es = true) := mapOK_of (by rw [Hlen.out]; exact hn12) (fun i hi => Hall.out i (by rw [Hlen.out] at hi; omega))
      go_wp2
      go_ret
      exact ⟨ret_bool hfin.out.symm, hb⟩

end Go.Proofs.YtmfmclnklpbiaaaGreat
namespace Go.Proofs.YtmfmclnklpbiaaaGreat
open Go.RowKit

theorem method_key (a : ByteArray) (x : Int) (w : World) : (method 303 163 (.agg #[.string a, .int .i64 x]) "loop.example/g00737/impl.key").run Tryz.prog w = .ok (167, .agg #[.string a, .int .i64 x]) w := by kernel_rfl

theorem nameOK_ent (es : List Ent) (k : Nat) (hke : k < es.length) (hs : es[k].1.size ≤ maxLen) (W : World) :
    Calls Tryz.prog 77 #[.string es[k].1] W fun e w' => e = .returned (.bool (nm (kAt es k))) ∧ W = w' := by
  rw [kAt_eq es k hke]; exact nameOK_any _ W hs

set_option maxHeartbeats 2000000 in
set_option maxRecDepth 100000 in
theorem inOrder_any (A : Option Addr) (n c : Nat) (es : List Ent) (w : World) (hr : Rd w 2 A n (entsC es)) (hm : n ≤ maxLen) (hks : ∀ e ∈ es, e.1.size ≤ maxLen) :
    Calls Tryz.prog 147 #[.slice A n c] w fun e w' => e = .returned (.bool (ordM es)) ∧ Below w.heap.size w w' := by
  unfold maxLen at hm
  have hlen := hr.len
  have Hlen := Lib.hid hlen; clear hlen
  have hmeth := method_key
  go_enter Tryz.func147, Tryz.ntmps147
  go_wp2
  go_loopw [3, 7] (fun _ i wr => ∃ k : Nat, k ≤ n ∧ i = .int .i64 k ∧ (∀ j, j < k → ordAt es j = true) ∧ Below w.heap.size w wr) (fun _ i _ => n - (intOf i).toNat)
  case atStart => exact ⟨0, Nat.zero_le _, rfl, fun j hj => absurd hj (by omega), Below.refl _ _⟩
  case round =>
    obtain ⟨k, hk, rfl, hall, hb⟩ := hrel
    have Hall := Lib.hid hall; clear hall
    by_cases hlt : k < n
    · have hke : k < es.length := by rw [Hlen.out]; exact hlt
      obtain ⟨b, off, rfl, hbl, hbl2, hc1, hc2⟩ := hr.ent hb hke
      have hcall := nameOK_ent es k hke (hks _ (List.getElem_mem hke))
      cases hw : nm (kAt es k) with
      | false =>
        have hfin : Hid (ordM es = false) := ordM_not hke (by rw [ordAt, hw]; rfl)
        rw [hw] at hcall
        have Hcall := Lib.hid hcall
        clear hw hcall
        go_wp2
        have hcL0 : (wr.alloc (Obj.cells #[Value.string es[k].1, Value.int IntKind.i64 es[k].2] 163)).cell? ⟨wr.heap.size, 0, none⟩ = some (.string es[k].1) := cell_of_row _ _ _ _ _ (0, 0) (heap_alloc_new wr _)
        have hcL1 : (wr.alloc (Obj.cells #[Value.string es[k].1, Value.int IntKind.i64 es[k].2] 163)).cell? ⟨wr.heap.size, 1, none⟩ = some (.int .i64 es[k].2) := cell_of_row _ _ _ _ _ (0, 0) (heap_alloc_new wr _)
        have hpl : wr.heap.size < (wr.alloc (Obj.cells #[Value.string es[k].1, Value.int IntKind.i64 es[k].2] 163)).heap.size := by simp
        have hb2 : Below w.heap.size w (wr.alloc (Obj.cells #[Value.string es[k].1, Value.int IntKind.i64 es[k].2] 163)) := hb.alloc hb.size _
        generalize wr.alloc (Obj.cells #[Value.string es[k].1, Value.int IntKind.i64 es[k].2] 163) = w2 at *
        generalize wr.heap.size = p at *
        have hA0 := fun y : Aft w2 => y.cell hpl hcL0
        have hA1 := fun y : Aft w2 => y.cell hpl hcL1
        refine wp_region_after (by kernel_rfl) (by kernel_rfl) ?_
        repeat (go_big_quiet_step ((first | (go_at_call 167; exact Aft.call (keyOf_any _ _ _)) | (go_at_call 77; exact Aft.same (Hcall.out _)))))
        refine wpQuiet_nil ?_
        rintro _ ⟨y, rfl⟩
        have hb3 := keepS hb2 y.below
        generalize y.at_ = w3 at *
        go_wp2
        go_ret
        exact ⟨ret_bool hfin.out.symm, hb3⟩
      | true =>
      rw [hw] at hcall
      have Hcall := Lib.hid hcall
      clear hcall
      by_cases hk0 : k = 0
      · subst hk0
        have hstep : Hid (∀ j, j < 0 + 1 → ordAt es j = true) := fun j hj => by
          have : j = 0 := by omega
          subst this; exact ordAt_zero hw
        clear hw
        simp only [Nat.zero_mul, Nat.add_zero] at hc1 hc2
        go_wp2
        have hcL0 : (wr.alloc (Obj.cells #[Value.string es[0].1, Value.int IntKind.i64 es[0].2] 163)).cell? ⟨wr.heap.size, 0, none⟩ = some (.string es[0].1) := cell_of_row _ _ _ _ _ (0, 0) (heap_alloc_new wr _)
        have hcL1 : (wr.alloc (Obj.cells #[Value.string es[0].1, Value.int IntKind.i64 es[0].2] 163)).cell? ⟨wr.heap.size, 1, none⟩ = some (.int .i64 es[0].2) := cell_of_row _ _ _ _ _ (0, 0) (heap_alloc_new wr _)
        have hpl : wr.heap.size < (wr.alloc (Obj.cells #[Value.string es[0].1, Value.int IntKind.i64 es[0].2] 163)).heap.size := by simp
        have hb2 : Below w.heap.size w (wr.alloc (Obj.cells #[Value.string es[0].1, Value.int IntKind.i64 es[0].2] 163)) := hb.alloc hb.size _
        generalize wr.alloc (Obj.cells #[Value.string es[0].1, Value.int IntKind.i64 es[0].2] 163) = w2 at *
        generalize wr.heap.size = p at *
        have hA0 := fun y : Aft w2 => y.cell hpl hcL0
        have hA1 := fun y : Aft w2 => y.cell hpl hcL1
        refine wp_region_after (by kernel_rfl) (by kernel_rfl) ?_
        repeat (go_big_quiet_step ((first | (go_at_call 167; exact Aft.call (keyOf_any _ _ _)) | (go_at_call 77; exact Aft.same (Hcall.out _)))))
        refine wpQuiet_nil ?_
        rintro _ ⟨y, rfl⟩
        have hb3 := keepS hb2 y.below
        generalize y.at_ = w3 at *
        go_wp2
        go_roundw
        case rel => exact ⟨0 + 1, by omega, by go_num, hstep.out, hb3⟩
        case measure => simp [intOf]; omega
      · have hkp : 0 < k := by omega
        have hor := ordAt_pos hkp hke hw
        have ht : (!(Op.bytesLess (es[k - 1]'(by omega)).1.toList es[k].1.toList)) = !ordAt es k := by rw [hor]; rfl
        have hi0 : 0 ≤ (k : Int) - 1 := by omega
        have hi1 : ((k : Int) - 1).toNat = k - 1 := by omega
        have hi2 : (0 : Int) < (k : Int) := by omega
        clear hk0 hor hw
        cases ho : ordAt es k with
        | false =>
          have hfin : Hid (ordM es = false) := ordM_not hke ho
          rw [ho] at ht
          clear ho
          go_wp2
          have hcL0 : (wr.alloc (Obj.cells #[Value.string es[k].1, Value.int IntKind.i64 es[k].2] 163)).cell? ⟨wr.heap.size, 0, none⟩ = some (.string es[k].1) := cell_of_row _ _ _ _ _ (0, 0) (heap_alloc_new wr _)
          have hcL1 : (wr.alloc (Obj.cells #[Value.string es[k].1, Value.int IntKind.i64 es[k].2] 163)).cell? ⟨wr.heap.size, 1, none⟩ = some (.int .i64 es[k].2) := cell_of_row _ _ _ _ _ (0, 0) (heap_alloc_new wr _)
          have hpl : wr.heap.size < (wr.alloc (Obj.cells #[Value.string es[k].1, Value.int IntKind.i64 es[k].2] 163)).heap.size := by simp
          have hb2 : Below w.heap.size w (wr.alloc (Obj.cells #[Value.string es[k].1, Value.int IntKind.i64 es[k].2] 163)) := hb.alloc hb.size _
          obtain ⟨b', off', he, _, _, hc3, hc4⟩ := hr.ent hb2 (show k - 1 < es.length by omega)
          obtain ⟨rfl, rfl⟩ : b = b' ∧ off = off' := by simpa using he
          have hbl4 := Nat.lt_of_lt_of_le hbl hb2.size
          generalize wr.alloc (Obj.cells #[Value.string es[k].1, Value.int IntKind.i64 es[k].2] 163) = w2 at *
          generalize wr.heap.size = p at *
          have hA0 := fun y : Aft w2 => y.cell hpl hcL0
          have hA1 := fun y : Aft w2 => y.cell hpl hcL1
          have hA3 := fun y : Aft w2 => y.cell hbl4 hc3
          have hA4 := fun y : Aft w2 => y.cell hbl4 hc4
          refine wp_region_after (by kernel_rfl) (by kernel_rfl) ?_
          repeat (go_big_quiet_step ((first | (go_at_call 167; exact Aft.call (keyOf_any _ _ _)) | (go_at_call 77; exact Aft.same (Hcall.out _)))))
          refine wpQuiet_nil ?_
          rintro _ ⟨y, rfl⟩
          have hb3 := keepS hb2 y.below
          generalize y.at_ = w3 at *
          go_wp2
          go_ret
          exact ⟨ret_bool hfin.out.symm, hb3⟩
        | true =>
          have hstep : Hid (∀ j, j < k + 1 → ordAt es j = true) := fun j hj => by
            rcases Nat.lt_or_ge j k with h | h
            · exact Hall.out j h
            · have : j = k := by omega
              subst this; exact ho
          rw [ho] at ht
          clear ho
          go_wp2
          have hcL0 : (wr.alloc (Obj.cells #[Value.string es[k].1, Value.int IntKind.i64 es[k].2] 163)).cell? ⟨wr.heap.size, 0, none⟩ = some (.string es[k].1) := cell_of_row _ _ _ _ _ (0, 0) (heap_alloc_new wr _)
          have hcL1 : (wr.alloc (Obj.cells #[Value.string es[k].1, Value.int IntKind.i64 es[k].2] 163)).cell? ⟨wr.heap.size, 1, none⟩ = some (.int .i64 es[k].2) := cell_of_row _ _ _ _ _ (0, 0) (heap_alloc_new wr _)
          have hpl : wr.heap.size < (wr.alloc (Obj.cells #[Value.string es[k].1, Value.int IntKind.i64 es[k].2] 163)).heap.size := by simp
          have hb2 : Below w.heap.size w (wr.alloc (Obj.cells #[Value.string es[k].1, Value.int IntKind.i64 es[k].2] 163)) := hb.alloc hb.size _
          obtain ⟨b', off', he, _, _, hc3, hc4⟩ := hr.ent hb2 (show k - 1 < es.length by omega)
          obtain ⟨rfl, rfl⟩ : b = b' ∧ off = off' := by simpa using he
          have hbl4 := Nat.lt_of_lt_of_le hbl hb2.size
          generalize wr.alloc (Obj.cells #[Value.string es[k].1, Value.int IntKind.i64 es[k].2] 163) = w2 at *
          generalize wr.heap.size = p at *
          have hA0 := fun y : Aft w2 => y.cell hpl hcL0
          have hA1 := fun y : Aft w2 => y.cell hpl hcL1
          have hA3 := fun y : Aft w2 => y.cell hbl4 hc3
          have hA4 := fun y : Aft w2 => y.cell hbl4 hc4
          refine wp_region_after (by kernel_rfl) (by kernel_rfl) ?_
          repeat (go_big_quiet_step ((first | (go_at_call 167; exact Aft.call (keyOf_any _ _ _)) | (go_at_call 77; exact Aft.same (Hcall.out _)))))
          refine wpQuiet_nil ?_
          rintro _ ⟨y, rfl⟩
          have hb3 := keepS hb2 y.below
          generalize y.at_ = w3 at *
          go_wp2
          go_roundw
          case rel => exact ⟨k + 1, by omega, by go_num, hstep.out, hb3⟩
          case measure => simp [intOf]; omega
    · have hfin : Hid (ordM es = true) := ordM_of (fun i hi => Hall.out i (by rw [Hlen.out] at hi; omega))
      go_wp2
      go_ret
      exact ⟨ret_bool hfin.out.symm, hb⟩

end Go.Proofs.YtmfmclnklpbiaaaGreat
namespace Go.Proofs.YtmfmclnklpbiaaaGreat
open Go.RowKit

theorem valueOK_ent (es : List Ent) (k : Nat) (hke : k < es.length) (W : World) :
    Calls Tryz.prog 148 #[.int .i64 es[k].2] W fun e w' => e = .returned (.bool (valAt es k)) ∧ W = w' := by
  have e : valAt es k = (decide (-1000000 ≤ es[k].2) && decide (es[k].2 ≤ 1000000)) := by simp [valAt, valB, hke]
  rw [e]; exact valueOK_any _ _

set_option maxHeartbeats 1000000 in
set_option maxRecDepth 100000 in
theorem implMapOK_any (A : Option Addr) (n c : Nat) (es : List Ent) (w : World) (hr : Rd w 2 A n (entsC es)) (hm : n ≤ maxLen) (hks : ∀ e ∈ es, e.1.size ≤ maxLen) :
    Calls Tryz.prog 144 #[.slice A n c] w fun e w' => e = .returned (.bool (mapOK es)) ∧ Below w.heap.size w w' := by
  have hm' := hm
  unfold maxLen at hm
  have hlen := hr.len
  have Hlen := Lib.hid hlen; clear hlen
  by_cases hbig : 12 < n
  · have hfin : Hid (mapOK es = false) := mapOK_long (by rw [Hlen.out]; exact hbig)
    go_enter Tryz.func144, Tryz.ntmps144
    go_wp2
    go_ret
    exact ⟨ret_bool hfin.out.symm, Below.refl _ _⟩
  have hn12 : n ≤ 12 := by omega
  clear hbig
  cases ho : ordM es with
  | false =>
    have hfin : Hid (mapOK es = false) := by show mapOK es = false; rw [mapOK, ho]; simp
    have hcall := inOrder_any A n c es w hr hm' hks
    rw [ho] at hcall
    have Hcall := Lib.hid hcall
    clear ho hcall
    go_enter Tryz.func144, Tryz.ntmps144
    go_wp2_with (go_at_call 147; refine Hcall.out.mono ?_; rintro e w1 ⟨rfl, hb1⟩)
    go_ret
    exact ⟨ret_bool hfin.out.symm, hb1⟩
  | true =>
    have hcall := inOrder_any A n c es w hr hm' hks
    rw [ho] at hcall
    have Hcall := Lib.hid hcall
    have Ho := Lib.hid ho
    clear ho hcall
    go_enter Tryz.func144, Tryz.ntmps144
    go_wp2_with (go_at_call 147; refine Hcall.out.mono ?_; rintro e w1 ⟨rfl, hb1⟩)
    go_loopw [15] (fun i wr => ∃ k : Nat, k ≤ n ∧ i = .int .i64 k ∧ (∀ j, j < k → valAt es j = true) ∧ Below w.heap.size w wr) (fun i _ => n - (intOf i).toNat)
    case atStart => exact ⟨0, Nat.zero_le _, rfl, fun j hj => absurd hj (by omega), hb1⟩
    case round =>
      obtain ⟨k, hk, rfl, hall, hb⟩ := hrel
      have Hall := Lib.hid hall; clear hall
      by_cases hlt : k < n
      · have hke : k < es.length := by rw [Hlen.out]; exact hlt
        obtain ⟨b, off, rfl, hbl, hbl2, hc1, hc2⟩ := hr.ent hb hke
        have hcall := valueOK_ent es k hke
        cases hv : valAt es k with
        | false =>
          have hfin : Hid (mapOK es = false) := mapOK_noVal hke hv
          rw [hv] at hcall
          have Hcall := Lib.hid hcall
          clear hv hcall
          go_wp2_with (go_at_call 148; refine (Hcall.out _).mono ?_; rintro e w1 ⟨rfl, rfl⟩)
          go_ret
          exact ⟨ret_bool hfin.out.symm, hb.alloc hb.size _⟩
        | true =>
          have hstep : Hid (∀ j, j < k + 1 → valAt es j = true) := fun j hj => by
            rcases Nat.lt_or_ge j k with h | h
            · exact Hall.out j h
            · have : j = k := by omega
              subst this; exact hv
          rw [hv] at hcall
          have Hcall := Lib.hid hcall
          clear hv hcall
          go_wp2_with (go_at_call 148; refine (Hcall.out _).mono ?_; rintro e w1 ⟨rfl, rfl⟩)
          go_roundw
          case rel => exact ⟨k + 1, by omega, by go_num, hstep.out, hb.alloc hb.size _⟩
          case measure => simp [intOf]; omega
      · have hfin : Hid (mapOK es = true) := mapOK_of (by rw [Hlen.out]; exact hn12) (fun i hi => ⟨ordM_at Ho.out hi, Hall.out i (by rw [Hlen.out] at hi; omega)⟩)
        go_wp2
        go_ret
        exact ⟨ret_bool hfin.out.symm, hb⟩

end Go.Proofs.YtmfmclnklpbiaaaGreat
namespace Go.Proofs.YtmfmclnklpbiaaaGreat
open Go.RowKit

end Go.Proofs.YtmfmclnklpbiaaaGreat
namespace Go.Proofs.YtmfmclnklpbiaaaGreat
open Go.RowKit

end Go.Proofs.YtmfmclnklpbiaaaGreat
/- The document's l01Put: what it gathers, round by round. -/
namespace Go.Proofs.YtmfmclnklpbiaaaGreat
open Go.RowKit

end Go.Proofs.YtmfmclnklpbiaaaGreat
/- The document's Put, l01Remove, Remove, Scan. -/
namespace Go.Proofs.YtmfmclnklpbiaaaGreat
open Go.RowKit

def TupPost (e : TypeId) (r : List Ent × Int) (w : World) (e' : Ending) (w' : World) : Prop := ∃ v, e' = .returned (.tuple #[v, .int .i64 r.2]) ∧ w'.ownsRow w.heap.size e 2 v r.1.length (entsC r.1) ∧ Below w.heap.size w w'
theorem TupPost.mk {e : TypeId} {r : List Ent × Int} {l : List Ent} {c : Int} {v : Value} {w w' : World} (h : r = (l, c)) (ho : w'.ownsRow w.heap.size e 2 v l.length (entsC l)) (hb : Below w.heap.size w w') : TupPost e r w (.returned (.tuple #[v, .int .i64 c])) w' := ⟨v, by rw [h], by rw [h]; exact ho, hb⟩
end Go.Proofs.YtmfmclnklpbiaaaGreat
/- The program's part, with, without, Put, Remove, Scan. -/
namespace Go.Proofs.YtmfmclnklpbiaaaGreat
open Go.RowKit

theorem entsC_one (es : List Ent) : ∀ u ∈ entsC es, u.oneCell' = true := by
  intro u hu
  rw [entsC, List.mem_flatMap] at hu
  obtain ⟨e, _, h⟩ := hu
  simp [entC] at h
  rcases h with rfl | rfl <;> rfl
end Go.Proofs.YtmfmclnklpbiaaaGreat
/- The program's with: an entry put in at its place, into new memory. -/
namespace Go.Proofs.YtmfmclnklpbiaaaGreat
open Go.RowKit

theorem Blk.two {w : World} {g : Nat} {t : TypeId} {cs : Array Value} (h : Blk w g t cs) {k : Nat} (hk : k * 2 + 1 < cs.size) :
    ∃ y0 y1, w.cell? ⟨g, k * 2, none⟩ = some y0 ∧ w.cell? ⟨g, k * 2 + 1, none⟩ = some y1 ∧ w.frozen? ⟨g, k * 2, none⟩ = false ∧ w.frozen? ⟨g, k * 2 + 1, none⟩ = false :=
  ⟨_, _, (h.cell _).trans (Array.getElem?_eq_getElem (by omega)), (h.cell _).trans (Array.getElem?_eq_getElem hk), h.frozen _, h.frozen _⟩
end Go.Proofs.YtmfmclnklpbiaaaGreat
/- The program's without: an entry taken out, into new memory. -/
namespace Go.Proofs.YtmfmclnklpbiaaaGreat
open Go.RowKit

end Go.Proofs.YtmfmclnklpbiaaaGreat
namespace Go.Proofs.YtmfmclnklpbiaaaGreat
open Go.RowKit

theorem toEdit_any (key : ByteArray) (v : Int) (g : Bool) (w : World) :
    Calls Tryz.prog 130 #[.agg #[.string key, .int .i64 v, .bool g]] w fun e w' => e = .returned (.agg #[.string key, .int .i64 v, .bool g]) ∧ Below w.heap.size w w' := by
  go_enter Tryz.func130, Tryz.ntmps130
  go_wp2
  exact bodyPost_ret (v := .agg #[.string key, .int .i64 v, .bool g]) (by simp [results, Tryz.results130, go_sem]) rfl ⟨rfl, by
    refine ((((((((((Below.refl _ _).alloc (Nat.le_refl _) _).alloc (by simp) _).alloc (by simp; omega) _)))))))⟩

instance edt_dec : DecidableEq Edt := fun a b => decidable_of_iff (a.key = b.key ∧ a.val = b.val ∧ a.gone = b.gone) ⟨fun ⟨h1, h2, h3⟩ => by cases a; cases b; simp at *; exact ⟨h1, h2, h3⟩, fun h => by subst h; exact ⟨rfl, rfl, rfl⟩⟩
def EqD (a b : Edt) : Bool := decide (a.key = b.key) && (decide (a.val = b.val) && decide (a.gone = b.gone))
theorem EqD_iff (a b : Edt) : EqD a b = decide (a = b) := by
  obtain ⟨a1, a2, a3⟩ := a
  obtain ⟨b1, b2, b3⟩ := b
  rw [Bool.eq_iff_iff]; simp [EqD]
set_option maxRecDepth 100000 in
theorem eqEdit_any (k1 k2 : ByteArray) (v1 v2 : Int) (g1 g2 : Bool) (w : World) :
    Calls Tryz.prog 142 #[.agg #[.string k1, .int .i64 v1, .bool g1], .agg #[.string k2, .int .i64 v2, .bool g2]] w fun e w' => e = .returned (.bool (EqD ⟨k1, v1, g1⟩ ⟨k2, v2, g2⟩)) ∧ Below w.heap.size w w' := by
  have hk := toList_beq k1 k2
  by_cases h1 : k1 = k2 <;> by_cases h2 : v1 = v2 <;> cases g1 <;> cases g2
  all_goals
    go_enter Tryz.func142, Tryz.ntmps142
    go_wp2
    go_ret
    exact ⟨ret_bool (by simp [EqD, h1, h2]), ((Below.refl _ _).alloc (Nat.le_refl _) _).alloc (by simp) _⟩

set_option maxRecDepth 100000 in
theorem eqEditS_any (A : Option Addr) (n c : Nat) (es : List Edt) (A' : Option Addr) (n' c' : Nat) (es' : List Edt) (w : World) (hr : Rd w 3 A n (edtsC es)) (hr' : Rd w 3 A' n' (edtsC es')) (hm : n ≤ maxLen) (hm' : n' ≤ maxLen) (hsame : es = es') :
    Calls Tryz.prog 123 #[.slice A n c, .slice A' n' c'] w (EqPost true w) := by
  subst hsame
  have hne : n = n' := by rw [← hr.elen, ← hr'.elen]
  unfold maxLen at hm hm'
  have hlen := hr.elen
  have Hlen := Lib.hid hlen; clear hlen
  subst hne
  go_enter Tryz.func123, Tryz.ntmps123
  go_wp2
  go_loopw [5] (fun i wr => ∃ k : Nat, k ≤ n ∧ i = .int .i64 k ∧ Below w.heap.size w wr) (fun i _ => n - (intOf i).toNat)
  case atStart => exact ⟨0, Nat.zero_le _, rfl, Below.refl _ _⟩
  case round =>
    obtain ⟨k, hk, rfl, hb⟩ := hrel
    by_cases hlt : k < n
    · have hke : k < es.length := by rw [Hlen.out]; exact hlt
      obtain ⟨b, off, rfl, hbl, hbl2, hc1, hc2, hc3⟩ := hr.edt hb hke
      obtain ⟨b', off', rfl, hbl', hbl2', hc1', hc2', hc3'⟩ := hr'.edt hb hke
      generalize es[k] = ek at *
      obtain ⟨k1, v1, g1⟩ := ek
      have hcall : Hid (∀ W : World, Calls Tryz.prog 142 #[.agg #[.string k1, .int .i64 v1, .bool g1], .agg #[.string k1, .int .i64 v1, .bool g1]] W fun e w' => e = .returned (.bool true) ∧ Below W.heap.size W w') := fun W => by
        have h := eqEdit_any k1 k1 v1 v1 g1 g1 W
        rw [EqD_iff, decide_eq_true rfl] at h; exact h
      go_wp2
      go_still_tail 8, (by kernel_rfl)
      change wpList _ _ _ _ _ wr.drew
      generalize hw2 : wr.drew = w2
      have hb2 : Below w.heap.size w w2 := by rw [← hw2]; exact hb.drew
      clear hw2 hb
      go_wp2_with fail
      refine (hcall.out _).mono ?_
      rintro e w3 ⟨rfl, hb3⟩
      go_wp2
      go_roundw
      case rel => exact ⟨k + 1, by omega, by go_num, hb2.trans (hb3.mono hb2.size)⟩
      case measure => simp [intOf]; omega
    · go_wp2
      go_ret
      exact ⟨rfl, hb⟩

theorem info_Edit : (Tryz.prog.info? 155).map (fun i => (i.zero, i.size, i.bytes)) = some (some (.agg #[.string ByteArray.empty, .int .i64 0, .bool false]), 3, 32) := by kernel_rfl

theorem Blk.three {w : World} {g : Nat} {t : TypeId} {cs : Array Value} (h : Blk w g t cs) {k : Nat} (hk : k * 3 + 2 < cs.size) :
    ∃ y0 y1 y2, w.cell? ⟨g, k * 3, none⟩ = some y0 ∧ w.cell? ⟨g, k * 3 + 1, none⟩ = some y1 ∧ w.cell? ⟨g, k * 3 + 2, none⟩ = some y2 ∧ w.frozen? ⟨g, k * 3, none⟩ = false ∧ w.frozen? ⟨g, k * 3 + 1, none⟩ = false ∧ w.frozen? ⟨g, k * 3 + 2, none⟩ = false :=
  ⟨_, _, _, (h.cell _).trans (Array.getElem?_eq_getElem (by omega)), (h.cell _).trans (Array.getElem?_eq_getElem (by omega)), (h.cell _).trans (Array.getElem?_eq_getElem hk), h.frozen _, h.frozen _, h.frozen _⟩

set_option maxRecDepth 100000 in
theorem toEditS_any (A : Option Addr) (n c : Nat) (es : List Edt) (w : World) (hr : Rd w 3 A n (edtsC es)) (hm : n ≤ 1048576) :
    Calls Tryz.prog 108 #[.slice A n c] w fun e w' => ∃ v, e = .returned v ∧ w'.ownsRow w.heap.size 155 3 v n (edtsC es) ∧ Below w.heap.size w w' := by
  have hlen := hr.elen
  have Hlen := Lib.hid hlen; clear hlen
  obtain ⟨i0, hi, hz0, hz1, hz2⟩ := info_parts info_Edit
  have hmk := fun W => run_make_rowN (P := Tryz.prog) 107 155 i0 _ Tryz.underlying107 hi hz0 .i64 .i64 n n (Nat.le_refl _) (by rw [hz2]; omega) (by omega) W
  rw [hz1] at hmk
  have hm' : n ≤ 9223372036854775807 := by omega
  have Hi := Lib.hid hi; clear hi
  clear hz0 hz1 hz2 hm
  go_enter Tryz.func108, Tryz.ntmps108
  go_wp2
  have hblk0 : Blk (w.alloc (.cells (madeCells (Value.agg #[Value.string ByteArray.empty, Value.int IntKind.i64 0, Value.bool false]).cells (n * 3)) 155)) w.heap.size 155 (madeCells (Value.agg #[Value.string ByteArray.empty, Value.int IntKind.i64 0, Value.bool false]).cells (n * 3)) := Blk.new _ _ _
  have HB0 := Lib.hid hblk0; clear hblk0
  have hb0 : Below w.heap.size w (w.alloc (.cells (madeCells (Value.agg #[Value.string ByteArray.empty, Value.int IntKind.i64 0, Value.bool false]).cells (n * 3)) 155)) := (Below.refl _ _).alloc (Nat.le_refl _) _
  have HBel := Lib.hid hb0; clear hb0
  generalize hg0 : w.heap.size = g at *
  have Hg0 := Lib.hid hg0; clear hg0
  go_loopw [4] (fun i wr => ∃ (k : Nat) (cs : Array Value), k ≤ n ∧ i = .int .i64 k ∧ Blk wr g 155 cs ∧ cs.size = n * 3 ∧ cs.toList.take (k * 3) = edtsC (es.take k) ∧ Below g w wr) (fun i _ => n - (intOf i).toNat)
  case atStart => exact ⟨0, _, Nat.zero_le _, rfl, HB0.out, by simp [size_madeCells], by simp [edtsC], HBel.out⟩
  case round =>
    obtain ⟨k, cs, hk, rfl, hblk, hsz, htk, hb⟩ := hrel
    by_cases hlt : k < n
    · have hke : k < es.length := by rw [Hlen.out]; exact hlt
      obtain ⟨b, off, rfl, hbl, hbl2, hc1, hc2, hc3⟩ := hr.edt (by rw [Hg0.out]; exact hb) hke
      have hstep : Hid (edtsC (es.take (k + 1)) = edtsC (es.take k) ++ [.string es[k].key, .int .i64 es[k].val, .bool es[k].gone]) := by
        rw [List.take_succ_eq_append_getElem hke, edtsC_append]; rfl
      have HT := Lib.hid htk; clear htk
      have HS := Lib.hid hsz; clear hsz
      have HB := Lib.hid hblk; clear hblk
      generalize es[k] = ek at *
      go_wp2_with fail
      refine (toEdit_any _ _ _ _).mono ?_
      rintro e w1 ⟨rfl, hb1⟩
      have hgl : g < wr.heap.size := HB.out.lt
      have hblk1 : Blk w1 g 155 cs := HB.out.kept hb1
      obtain ⟨y0, y1, y2, hx0, hx1, hx2, hf0, hf1, hf2⟩ := hblk1.three (k := k) (by have := HS.out; omega)
      have HB1 := Lib.hid hblk1; clear hblk1
      go_wp2
      go_roundw
      case rel => exact ⟨k + 1, _, by omega, by go_num, ((HB1.out.set_ _ _).set_ _ _).set_ _ _, by simpa using HS.out, by rw [take_set3 _ _ _ _ _ (by have := HS.out; omega), HT.out, hstep.out], (((hb.trans (hb1.mono (by omega))).setCell (Nat.le_refl g) _).setCell (Nat.le_refl g) _).setCell (Nat.le_refl g) _⟩
      case measure => simp [intOf]; omega
    · have HT := Lib.hid htk; clear htk
      have HS := Lib.hid hsz; clear hsz
      have HB := Lib.hid hblk; clear hblk
      have hkn : k = n := by omega
      have HKN := Lib.hid hkn; clear hkn
      go_wp2
      go_ret
      exact ⟨_, rfl, HB.out.own (Nat.le_of_eq Hg0.out) (Nat.le_refl _) (by unfold maxLen; omega) HS.out (by have h := HT.out; rw [HKN.out, List.take_of_length_le (l := es) (by rw [Hlen.out]; exact Nat.le_refl _)] at h; exact h), by rw [Hg0.out]; exact hb⟩

end Go.Proofs.YtmfmclnklpbiaaaGreat
namespace Go.Proofs.YtmfmclnklpbiaaaGreat
open Go.RowKit

def digs : Nat → Int → ByteArray → ByteArray
  | 0, _, t => t
  | f + 1, j, t => if 0 < j then digs f (j / 10) (strOfNums [48 + j % 10] ++ t) else t
def markB (k : Int) : ByteArray := if 0 < k then ⟨#[109]⟩ ++ digs k.toNat k ⟨#[]⟩ else ⟨#[109, 48]⟩
theorem digs_zero (f : Nat) (t : ByteArray) : digs f 0 t = t := by cases f <;> simp [digs]
theorem ret_str {a b : ByteArray} (h : a = b) : Ending.returned (.string a) = .returned (.string b) := by rw [h]

set_option maxRecDepth 100000 in
theorem markText_any (k : Int) (w : World) (h0 : 0 ≤ k) (h1 : k ≤ 1099511627776) :
    Calls Tryz.prog 45 #[.int .i64 k] w fun e w' => e = .returned (.string (markB k)) ∧ Below w.heap.size w w' := by
  by_cases hk : k ≤ 0
  · have hfin : Hid (markB k = ⟨#[109, 48]⟩) := by show markB k = _; unfold markB; rw [if_neg (by omega)]
    go_enter Tryz.func45, Tryz.ntmps45
    go_wp2
    go_ret
    exact ⟨ret_str hfin.out.symm, Below.refl _ _⟩
  have hk' : 0 < k := by omega
  have hfin : Hid (markB k = ⟨#[109]⟩ ++ digs k.toNat k ⟨#[]⟩) := by show markB k = _; unfold markB; rw [if_pos hk']
  have hcv := run_one_byte (P := Tryz.prog) 140 9 5 Tryz.underlying140 Tryz.underlying5 Tryz.underlying9
  clear hk
  go_enter Tryz.func45, Tryz.ntmps45
  go_wp2
  go_loopw [0, 3] (fun x out wr => ∃ (j : Int) (t : ByteArray) (f : Nat), x = .int .i64 j ∧ out = .string t ∧ 0 ≤ j ∧ (t.size : Int) + j ≤ k ∧ j ≤ f ∧ digs f j t = digs k.toNat k ⟨#[]⟩ ∧ Below w.heap.size w wr) (fun x _ _ => (intOf x).toNat)
  case atStart => exact ⟨k, ⟨#[]⟩, k.toNat, rfl, rfl, by omega, by show ((0 : Nat) : Int) + k ≤ k; omega, by omega, rfl, Below.refl _ _⟩
  case round =>
    obtain ⟨j, t, f, rfl, rfl, hj0, hj1, hjf, hd, hb⟩ := hrel
    have HD := Lib.hid hd; clear hd
    by_cases hlt : 0 < j
    · have hone : (strOfNums [48 + j % 10]).size ≤ 1 := Nat.le_refl 1
      obtain ⟨f', hf'⟩ : ∃ f', f = f' + 1 := ⟨f - 1, by omega⟩
      have hst : Hid (digs f' (j / 10) (strOfNums [48 + j % 10] ++ t) = digs k.toNat k ⟨#[]⟩) := by
        have h := HD.out
        rw [hf', digs, if_pos hlt] at h; exact h
      have hsz : Hid ((strOfNums [48 + j % 10] ++ t).size = 1 + t.size) := by
        show (strOfNums [48 + j % 10] ++ t).size = 1 + t.size
        rw [ByteArray.size_append]; rfl
      have hfj : j ≤ (f' : Int) + 1 := by omega
      clear hf' hjf
      go_wp2
      go_roundw
      case rel => exact ⟨_, _, f', rfl, rfl, by omega, by rw [hsz.out]; omega, by omega, hst.out, hb.alloc hb.size _⟩
      case measure => simp [intOf]; omega
    · have hz : j = 0 := by omega
      subst hz
      have hone : t.size ≤ 1099511627776 := by omega
      go_wp2
      go_ret
      exact ⟨ret_str (by rw [hfin.out, ← HD.out, digs_zero]), hb⟩

/-- what a row of entries holds behind its marking, from mark k on -/
def marked : Nat → Int → List Ent
  | 0, _ => []
  | n + 1, k => (markB k, k + 1) :: marked n (k + 2)
theorem marked_length (n : Nat) (k : Int) : (marked n k).length = n := by
  induction n generalizing k with
  | zero => rfl
  | succ n ih => simp [marked, ih]
theorem marked_snoc (n : Nat) (k : Int) : marked (n + 1) k = marked n k ++ [(markB (k + 2 * n), k + 2 * n + 1)] := by
  induction n generalizing k with
  | zero => simp [marked]
  | succ n ih =>
    rw [marked, ih, marked, List.cons_append]
    have e : k + 2 + 2 * (n : Int) = k + 2 * ((n + 1 : Nat) : Int) := by omega
    rw [e]

theorem marked_get (n : Nat) (k0 : Int) (k : Nat) (h : k < n) : (marked n k0)[k]'(by rw [marked_length]; exact h) = (markB (k0 + 2 * k), k0 + 2 * k + 1) := by
  induction n generalizing k0 k with
  | zero => omega
  | succ n ih =>
    cases k with
    | zero => simp [marked]
    | succ k =>
      have := ih (k0 + 2) k (by omega)
      have e : k0 + 2 * ((k + 1 : Nat) : Int) = k0 + 2 + 2 * (k : Int) := by omega
      rw [e, ← this]; simp [marked]
set_option maxRecDepth 100000 in
theorem heldEntryS_any (A : Option Addr) (n c : Nat) (k0 : Int) (w : World) (hr : Rd w 2 A n (entsC (marked n k0))) (hm : n ≤ 1048600) (h0 : 0 ≤ k0) (h1 : k0 ≤ 8388608) :
    Calls Tryz.prog 92 #[.slice A n c, .int .i64 k0] w fun e w' => e = .returned (.int .i64 (k0 + 2 * n)) ∧ Below w.heap.size w w' := by
  have hlen := hr.len
  have Hlen := Lib.hid hlen; clear hlen
  go_enter Tryz.func92, Tryz.ntmps92
  go_wp2
  go_loopw [1, 5] (fun kk i wr => ∃ (k : Nat), k ≤ n ∧ i = .int .i64 k ∧ kk = .int .i64 (k0 + 2 * k) ∧ Below w.heap.size w wr) (fun _ i _ => n - (intOf i).toNat)
  case atStart => exact ⟨0, Nat.zero_le _, rfl, by simp, Below.refl _ _⟩
  case round =>
    obtain ⟨k, hk, rfl, rfl, hb⟩ := hrel
    by_cases hlt : k < n
    · have hke : k < (marked n k0).length := by rw [marked_length]; exact hlt
      obtain ⟨b, off, rfl, hbl, hbl2, hc1, hc2⟩ := hr.ent hb hke
      rw [marked_get n k0 k hlt] at hc1 hc2
      have hcW := cellW hb hbl hc1
      have hcW2 := cellW hb hbl hc2
      clear hc2
      have hcall : Hid (∀ W : World, Calls Tryz.prog 45 #[.int .i64 (k0 + 2 * (k : Int))] W fun e w' => e = .returned (.string (markB (k0 + 2 * (k : Int)))) ∧ Below W.heap.size W w') := fun W => markText_any _ W (by omega) (by omega)
      generalize markB (k0 + 2 * (k : Int)) = mb at *
      have ht : (!(mb.toList == mb.toList)) = false := by simp
      go_wp2
      go_region_held3 (fun w' => Below w.heap.size w w' ∧ w'.cell? ⟨b, off + k * 2, none⟩ = some (.string mb)) (first | exact ⟨hb.drew, hc1⟩ | exact ⟨keepH (by assumption) hb1, cellS (keepH (by assumption) hb1) hbl hcW⟩)
        (first | (go_at_call 45; refine (hcall.out _).mono ?_; rintro e w1 ⟨rfl, hb1⟩))
      rename_i hH
      obtain ⟨hbb, _⟩ := hH
      have hc2' := cellS hbb hbl hcW2
      go_wp2
      go_roundw
      case rel =>
        refine ⟨k + 1, by omega, by go_num, ?_, hbb⟩
        rw [show k0 + 2 * (k : Int) + 1 + 1 = k0 + 2 * ((k + 1 : Nat) : Int) from by omega]
      case measure => simp [intOf]; omega
    · go_wp2
      go_ret
      exact ⟨ret_int (by omega), hb⟩

end Go.Proofs.YtmfmclnklpbiaaaGreat
namespace Go.Proofs.YtmfmclnklpbiaaaGreat
open Go.RowKit

/-- what a row of edits holds behind its marking, from mark k on -/
def markedE : Nat → Int → List Edt
  | 0, _ => []
  | n + 1, k => ⟨markB k, k + 1, (k + 2) % 3 == 0⟩ :: markedE n (k + 3)
theorem markedE_length (n : Nat) (k : Int) : (markedE n k).length = n := by
  induction n generalizing k with
  | zero => rfl
  | succ n ih => simp [markedE, ih]
theorem markedE_snoc (n : Nat) (k : Int) : markedE (n + 1) k = markedE n k ++ [⟨markB (k + 3 * n), k + 3 * n + 1, (k + 3 * n + 2) % 3 == 0⟩] := by
  induction n generalizing k with
  | zero => simp [markedE]
  | succ n ih =>
    rw [markedE, ih, markedE, List.cons_append]
    have e : k + 3 + 3 * (n : Int) = k + 3 * ((n + 1 : Nat) : Int) := by omega
    rw [e]
theorem markedE_get (n : Nat) (k0 : Int) (k : Nat) (h : k < n) : (markedE n k0)[k]'(by rw [markedE_length]; exact h) = ⟨markB (k0 + 3 * k), k0 + 3 * k + 1, (k0 + 3 * k + 2) % 3 == 0⟩ := by
  induction n generalizing k0 k with
  | zero => omega
  | succ n ih =>
    cases k with
    | zero => simp [markedE]
    | succ k =>
      have := ih (k0 + 3) k (by omega)
      have e : k0 + 3 * ((k + 1 : Nat) : Int) = k0 + 3 + 3 * (k : Int) := by omega
      rw [e, ← this]; simp [markedE]

set_option maxHeartbeats 1000000 in
set_option maxRecDepth 100000 in
theorem heldEditS_any (A : Option Addr) (n c : Nat) (k0 : Int) (w : World) (hr : Rd w 3 A n (edtsC (markedE n k0))) (hm : n ≤ 1048600) (h0 : 0 ≤ k0) (h1 : k0 ≤ 8388608) :
    Calls Tryz.prog 94 #[.slice A n c, .int .i64 k0] w fun e w' => e = .returned (.int .i64 (k0 + 3 * n)) ∧ Below w.heap.size w w' := by
  have hlen := hr.elen
  have Hlen := Lib.hid hlen; clear hlen
  go_enter Tryz.func94, Tryz.ntmps94
  go_wp2
  go_loopw [1, 5] (fun kk i wr => ∃ (k : Nat), k ≤ n ∧ i = .int .i64 k ∧ kk = .int .i64 (k0 + 3 * k) ∧ Below w.heap.size w wr) (fun _ i _ => n - (intOf i).toNat)
  case atStart => exact ⟨0, Nat.zero_le _, rfl, by simp, Below.refl _ _⟩
  case round =>
    obtain ⟨k, hk, rfl, rfl, hb⟩ := hrel
    by_cases hlt : k < n
    · have hke : k < (markedE n k0).length := by rw [markedE_length]; exact hlt
      obtain ⟨b, off, rfl, hbl, hbl2, hc1, hc2, hc3⟩ := hr.edt hb hke
      rw [markedE_get n k0 k hlt] at hc1 hc2 hc3
      have hcW2 := cellW hb hbl hc2
      have hcW3 := cellW hb hbl hc3
      simp only at hc1 hcW2 hcW3
      clear hc2 hc3
      have hA0 := fun y : Aft wr => y.cell hbl2 hc1
      have hcall : Hid (∀ W : World, Calls Tryz.prog 45 #[.int .i64 (k0 + 3 * (k : Int))] W fun e w' => e = .returned (.string (markB (k0 + 3 * (k : Int)))) ∧ Below W.heap.size W w') := fun W => markText_any _ W (by omega) (by omega)
      generalize markB (k0 + 3 * (k : Int)) = mb at *
      have ht : (!(mb.toList == mb.toList)) = false := by simp
      have hpos3 : 0 ≤ k0 + 3 * (k : Int) + 1 + 1 := by omega
      have he2 : k0 + 3 * (k : Int) + 2 = k0 + 3 * (k : Int) + 1 + 1 := by omega
      rw [he2] at hcW3
      clear he2
      go_wp2
      refine wp_region_after (by kernel_rfl) (by kernel_rfl) ?_
      repeat (go_big_quiet_step ((first | (go_at_call 45; exact Aft.call (hcall.out _)))))
      refine wpQuiet_nil ?_
      rintro _ ⟨y, rfl⟩
      have hbb := keepS hb y.below
      generalize y.at_ = w3 at *
      have hc2' := cellS hbb hbl hcW2
      have hc3' := cellS hbb hbl hcW3
      go_wp2
      go_roundw
      case rel =>
        refine ⟨k + 1, by omega, by go_num, ?_, hbb⟩
        rw [show k0 + 3 * (k : Int) + 1 + 1 + 1 = k0 + 3 * ((k + 1 : Nat) : Int) from by omega]
      case measure => simp [intOf]; omega
    · go_wp2
      go_ret
      exact ⟨ret_int (by omega), hb⟩

end Go.Proofs.YtmfmclnklpbiaaaGreat
namespace Go.Proofs.YtmfmclnklpbiaaaGreat
open Go.RowKit

end Go.Proofs.YtmfmclnklpbiaaaGreat
namespace Go.Proofs.YtmfmclnklpbiaaaGreat
open Go.RowKit

end Go.Proofs.YtmfmclnklpbiaaaGreat
