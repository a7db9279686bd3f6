/- The machine over data: this seat's types. -/
import Derived.Test.YtnlobdhkpmeniaaN16
namespace Go.Proofs.Ytnlobdhkpmeniaa.AM
open Go Go.RowKit
set_option linter.unusedVariables false

theorem tab_nil {P : Program} : TabOK P [] := fun t => trivial
theorem tab_cons {P : Program} {t : Nat} {x : TI} {Θ : Tab} (h : TIok P t x) (r : TabOK P Θ) : TabOK P ((t, x) :: Θ) := fun u => by
  show TIok P u (bif Nat.beq t u then x else Tab.look Θ u)
  by_cases e : t = u
  · subst e; simpa using h
  · rw [nbne e]; exact r u
theorem ti_str {P : Program} {t b : Nat} (hu : P.underlying t = some .string) (hi : (P.info? t).map (fun i => (i.zero, i.size, i.bytes)) = some (some (.string ByteArray.empty), 1, b)) : TIok P t .str := by
  obtain ⟨i, h1, h2, h3, _⟩ := info_parts hi
  exact ⟨hu, i, h1, h3, h2⟩
theorem ti_int {P : Program} {t b : Nat} {k : IntKind} (hu : P.underlying t = some (.int k)) (hi : (P.info? t).map (fun i => (i.zero, i.size, i.bytes)) = some (some (.int k 0), 1, b)) : TIok P t (.int k) := by
  obtain ⟨i, h1, h2, h3, _⟩ := info_parts hi
  exact ⟨hu, i, h1, h3, h2⟩
theorem ti_bool {P : Program} {t b : Nat} (hu : P.underlying t = some .bool) (hi : (P.info? t).map (fun i => (i.zero, i.size, i.bytes)) = some (some (.bool false), 1, b)) : TIok P t .bool := by
  obtain ⟨i, h1, h2, h3, _⟩ := info_parts hi
  exact ⟨hu, i, h1, h3, h2⟩
theorem ti_slice {P : Program} {t e b sz by_ : Nat} {zv : Value} {z : AV} (hu : P.underlying t = some (.slice e)) (hj : (P.info? t).map (fun i => (i.zero, i.size, i.bytes)) = some (some (.slice none 0 0), 1, b)) (hi : (P.info? e).map (fun i => (i.zero, i.size, i.bytes)) = some (some zv, sz, by_))
    (h0 : 0 < sz) (hz : asz z = sz) (hr : ∀ w, RD w z Fa zv.cells.toList) : TIok P t (.slice e sz by_ z) := by
  obtain ⟨j, j1, j2, j3, _⟩ := info_parts hj
  obtain ⟨i, h1, h2, h3, h4⟩ := info_parts hi
  exact ⟨hu, ⟨j, j1, j3, j2⟩, i, zv, h1, h2, h3, h4, h0, hz, hr⟩
def offsB (P : Program) : Nat → List Field → List (Nat × Nat) → Bool
  | _, [], [] => true
  | n, f :: fs, (o, z) :: r => Nat.beq f.offset o && (Nat.beq o n && (Nat.blt 0 z && ((match (P.info? f.type).map (·.size) with | some q => Nat.beq q z | none => false) && offsB P (n + z) fs r)))
  | _, _, _ => false
theorem offsB_ok {P : Program} : ∀ (fs : List Field) (r : List (Nat × Nat)) (n : Nat), offsB P n fs r = true → offsOK P n fs r
  | [], [], n, _ => trivial
  | [], _ :: _, n, h => by simp [offsB] at h
  | _ :: _, [], n, h => by simp [offsB] at h
  | f :: fs, (o, z) :: r, n, h => by
    simp only [offsB, Bool.and_eq_true] at h
    obtain ⟨h1, h2, h3, h4, h5⟩ := h
    refine ⟨Nat.eq_of_beq_eq_true h1, Nat.eq_of_beq_eq_true h2, by simpa using h3, ?_, offsB_ok fs r (n + z) h5⟩
    cases hq : (P.info? f.type).map (·.size) with
    | none => rw [hq] at h4; cases h4
    | some q => rw [hq] at h4; rw [Nat.eq_of_beq_eq_true h4]
theorem ti_struct {P : Program} {t b : Nat} {fs : List (Nat × Nat)} {z : List AV} {cs : Array Value} (hu : P.underlying t = some (.struct (P.fieldsOf t))) (hi : (P.info? t).map (fun i => (i.zero, i.size, i.bytes)) = some (some (.agg cs), sizes fs, b))
    (ho : offsB P 0 (P.fieldsOf t).toList fs = true) (hp : 0 < sizes fs) (hm : z.map asz = fs.map (·.2)) (hr : ∀ w, RDL w z Fa cs.toList) : TIok P t (.struct fs z) := by
  obtain ⟨i, h1, h2, h3, _⟩ := info_parts hi
  exact ⟨_, i, cs, hu, offsB_ok _ _ _ ho, h1, h3, hp, hm, h2, hr⟩
theorem rl_cons {S : Nat → Prop} {w : World} {x : AV} {xs : List AV} {c1 c2 : List Value} (h : RA S w x c1) (r : RL S w xs c2) : RL S w (x :: xs) (c1 ++ c2) := by unfold RL; exact ⟨c1, c2, rfl, h, r⟩
theorem rl_nil {S : Nat → Prop} {w : World} : RL S w [] [] := by unfold RL; rfl
theorem ra_v {S : Nat → Prop} {w : World} {x : Value} (h : x.oneCell' = true) : RA S w (.v x) [x] := by unfold RA; exact ⟨rfl, h⟩
theorem ra_agg {S : Nat → Prop} {w : World} {xs : List AV} {cs : List Value} (h : RL S w xs cs) : RA S w (.agg xs) cs := by unfold RA; exact h

theorem rd_v {w : World} {x : Value} (h : x.oneCell' = true) : RD w (.v x) Fa [x] := by unfold RD; exact ⟨noF, rfl, h⟩
theorem rd_nil {w : World} {sz : Nat} (h : 0 < sz) : RD w (.lst sz []) Fa [.slice none 0 0] := by
  unfold RD
  refine ⟨_, 0, [], Fa, rfl, World.ownsRow_nil _ _ _ _, by simp, h, by unfold RDL; exact ⟨rfl, noF⟩, fun g => ⟨fun h => h.elim, fun h => ?_⟩, fun g h => ?_⟩
  · rcases h with h | h
    · simp [Value.ownBlock] at h
    · exact h
  · simp [Value.ownBlock] at h
theorem rd_agg {w : World} {xs : List AV} {cs : List Value} (h : RDL w xs Fa cs) : RD w (.agg xs) Fa cs := by unfold RD; exact h
theorem rdl_nil {w : World} : RDL w [] Fa [] := by unfold RDL; exact ⟨rfl, noF⟩
theorem rdl_cons {w : World} {x : AV} {xs : List AV} {c1 c2 : List Value} (h : RD w x Fa c1) (r : RDL w xs Fa c2) : RDL w (x :: xs) Fa (c1 ++ c2) := by unfold RDL; exact ⟨c1, c2, Fa, Fa, rfl, Split.l0 noF, h, r⟩
abbrev zS : AV := .v (.string ByteArray.empty)
abbrev zI : AV := .v (.int .i64 0)
abbrev zB : AV := .v (.bool false)
def Th : Tab := [(9, .str), (3, .int .i64), (4, .bool), (5, .int .u8),
  (147, .slice 5 1 1 (.v (.int .u8 0))),
  (114, .struct [(0, 1), (1, 1)] [zS, zI]), (33, .slice 114 2 24 (.agg [zS, zI])),
  (111, .struct [(0, 1), (1, 1)] [zS, zI]), (24, .slice 111 2 24 (.agg [zS, zI])),
  (23, .slice 3 1 8 zI),
  (35, .struct [(0, 1), (1, 1)] [.lst 1 [], .lst 2 []]), (29, .slice 35 2 48 (.agg [.lst 1 [], .lst 2 []])),
  (26, .struct [(0, 1), (1, 1)] [.lst 1 [], .lst 2 []]), (22, .slice 26 2 48 (.agg [.lst 1 [], .lst 2 []])),
  (92, .struct [(0, 1), (1, 1), (2, 1), (3, 1)] [zS, zI, zI, zB]), (43, .slice 92 4 40 (.agg [zS, zI, zI, zB])),
  (89, .struct [(0, 1), (1, 1), (2, 1), (3, 1)] [zS, zI, zI, zB]), (71, .slice 89 4 40 (.agg [zS, zI, zI, zB])),
  (45, .struct [(0, 1), (1, 1)] [.lst 2 [], .lst 4 []]),
  (81, .struct [(0, 1), (1, 1), (2, 1)] [zI, zI, zB]), (59, .slice 81 3 24 (.agg [zI, zI, zB])),
  (122, .struct [(0, 1), (1, 1), (2, 1)] [zI, zI, zB]), (54, .slice 122 3 24 (.agg [zI, zI, zB])),
  (61, .struct [(0, 1), (1, 1), (2, 1)] [zS, zI, .lst 3 []]),
  (56, .struct [(0, 1), (1, 1), (2, 1)] [zS, zI, .lst 3 []]),
  (153, .slice 163 1 8 (.v (.pointer none))),
  ]
theorem Th_ok : TabOK Try.prog Th := by
  unfold Th
  have e2 : ∀ w, RDL w [zS, zI] Fa [.string ByteArray.empty, .int .i64 0] := fun w => rdl_cons (c1 := [_]) (rd_v rfl) (rdl_cons (c1 := [_]) (rd_v rfl) rdl_nil)
  have e3 : ∀ w, RDL w [zS, zI, zB] Fa [.string ByteArray.empty, .int .i64 0, .bool false] := fun w => rdl_cons (c1 := [_]) (rd_v rfl) (rdl_cons (c1 := [_]) (rd_v rfl) (rdl_cons (c1 := [_]) (rd_v rfl) rdl_nil))
  have e4 : ∀ w, RDL w [zS, zI, zI, zB] Fa [.string ByteArray.empty, .int .i64 0, .int .i64 0, .bool false] := fun w => rdl_cons (c1 := [_]) (rd_v rfl) (rdl_cons (c1 := [_]) (rd_v rfl) (rdl_cons (c1 := [_]) (rd_v rfl) (rdl_cons (c1 := [_]) (rd_v rfl) rdl_nil)))
  have eC : ∀ w, RDL w [.lst 1 [], .lst 2 []] Fa [.slice none 0 0, .slice none 0 0] := fun w => rdl_cons (c1 := [_]) (rd_nil (by omega)) (rdl_cons (c1 := [_]) (rd_nil (by omega)) rdl_nil)
  have eN : ∀ w, RDL w [zI, .lst 1 []] Fa [.int .i64 0, .slice none 0 0] := fun w => rdl_cons (c1 := [_]) (rd_v rfl) (rdl_cons (c1 := [_]) (rd_nil (by omega)) rdl_nil)
  have eV : ∀ w, RDL w [zI, zI, zB] Fa [.int .i64 0, .int .i64 0, .bool false] := fun w => rdl_cons (c1 := [_]) (rd_v rfl) (rdl_cons (c1 := [_]) (rd_v rfl) (rdl_cons (c1 := [_]) (rd_v rfl) rdl_nil))
  have eW : ∀ w, RDL w [zS, zI, .lst 3 []] Fa [.string ByteArray.empty, .int .i64 0, .slice none 0 0] := fun w => rdl_cons (c1 := [_]) (rd_v rfl) (rdl_cons (c1 := [_]) (rd_v rfl) (rdl_cons (c1 := [_]) (rd_nil (by omega)) rdl_nil))
  have eB : ∀ w, RDL w [.lst 2 [], .lst 4 []] Fa [.slice none 0 0, .slice none 0 0] := fun w => rdl_cons (c1 := [_]) (rd_nil (by omega)) (rdl_cons (c1 := [_]) (rd_nil (by omega)) rdl_nil)
  have eO : ∀ w, RDL w [zI, zI, zS, zS, .lst 3 []] Fa [.int .i64 0, .int .i64 0, .string ByteArray.empty, .string ByteArray.empty, .slice none 0 0] := fun w => rdl_cons (c1 := [_]) (rd_v rfl) (rdl_cons (c1 := [_]) (rd_v rfl) (rdl_cons (c1 := [_]) (rd_v rfl) (rdl_cons (c1 := [_]) (rd_v rfl) (rdl_cons (c1 := [_]) (rd_nil (by omega)) rdl_nil))))
  have eR : ∀ w, RDL w [zI, zI, zI, .lst 1 [], .lst 2 []] Fa [.int .i64 0, .int .i64 0, .int .i64 0, .slice none 0 0, .slice none 0 0] := fun w => rdl_cons (c1 := [_]) (rd_v rfl) (rdl_cons (c1 := [_]) (rd_v rfl) (rdl_cons (c1 := [_]) (rd_v rfl) (rdl_cons (c1 := [_]) (rd_nil (by omega)) (rdl_cons (c1 := [_]) (rd_nil (by omega)) rdl_nil))))
  have eG : ∀ w, RDL w [.lst 1 [], zI, zI] Fa [.slice none 0 0, .int .i64 0, .int .i64 0] := fun w => rdl_cons (c1 := [_]) (rd_nil (by omega)) (rdl_cons (c1 := [_]) (rd_v rfl) (rdl_cons (c1 := [_]) (rd_v rfl) rdl_nil))
  refine tab_cons (ti_str (b := 16) (by kernel_rfl) (by kernel_rfl)) (tab_cons (ti_int (b := 8) (by kernel_rfl) (by kernel_rfl)) (tab_cons (ti_bool (b := 1) (by kernel_rfl) (by kernel_rfl)) (tab_cons (ti_int (b := 1) (by kernel_rfl) (by kernel_rfl)) ?_)))
  refine tab_cons (ti_slice (b := 24) (zv := .int .u8 0) (by kernel_rfl) (by kernel_rfl) (by kernel_rfl) (by omega) rfl (fun w => rd_v rfl)) ?_
  refine tab_cons (ti_struct (b := 24) (cs := #[.string ByteArray.empty, .int .i64 0]) (by kernel_rfl) (by kernel_rfl) (by kernel_rfl) (by decide) rfl e2) (tab_cons (ti_slice (b := 24) (zv := .agg #[.string ByteArray.empty, .int .i64 0]) (by kernel_rfl) (by kernel_rfl) (by kernel_rfl) (by omega) rfl (fun w => rd_agg (e2 w))) ?_)
  refine tab_cons (ti_struct (b := 24) (cs := #[.string ByteArray.empty, .int .i64 0]) (by kernel_rfl) (by kernel_rfl) (by kernel_rfl) (by decide) rfl e2) (tab_cons (ti_slice (b := 24) (zv := .agg #[.string ByteArray.empty, .int .i64 0]) (by kernel_rfl) (by kernel_rfl) (by kernel_rfl) (by omega) rfl (fun w => rd_agg (e2 w))) ?_)
  refine tab_cons (ti_slice (b := 24) (zv := .int .i64 0) (by kernel_rfl) (by kernel_rfl) (by kernel_rfl) (by omega) rfl (fun w => rd_v rfl)) ?_
  refine tab_cons (ti_struct (b := 48) (cs := #[.slice none 0 0, .slice none 0 0]) (by kernel_rfl) (by kernel_rfl) (by kernel_rfl) (by decide) rfl eC) (tab_cons (ti_slice (b := 24) (zv := .agg #[.slice none 0 0, .slice none 0 0]) (by kernel_rfl) (by kernel_rfl) (by kernel_rfl) (by omega) rfl (fun w => rd_agg (eC w))) ?_)
  refine tab_cons (ti_struct (b := 48) (cs := #[.slice none 0 0, .slice none 0 0]) (by kernel_rfl) (by kernel_rfl) (by kernel_rfl) (by decide) rfl eC) (tab_cons (ti_slice (b := 24) (zv := .agg #[.slice none 0 0, .slice none 0 0]) (by kernel_rfl) (by kernel_rfl) (by kernel_rfl) (by omega) rfl (fun w => rd_agg (eC w))) ?_)
  refine tab_cons (ti_struct (b := 40) (cs := #[.string ByteArray.empty, .int .i64 0, .int .i64 0, .bool false]) (by kernel_rfl) (by kernel_rfl) (by kernel_rfl) (by decide) rfl e4) (tab_cons (ti_slice (b := 24) (zv := .agg #[.string ByteArray.empty, .int .i64 0, .int .i64 0, .bool false]) (by kernel_rfl) (by kernel_rfl) (by kernel_rfl) (by omega) rfl (fun w => rd_agg (e4 w))) ?_)
  refine tab_cons (ti_struct (b := 40) (cs := #[.string ByteArray.empty, .int .i64 0, .int .i64 0, .bool false]) (by kernel_rfl) (by kernel_rfl) (by kernel_rfl) (by decide) rfl e4) (tab_cons (ti_slice (b := 24) (zv := .agg #[.string ByteArray.empty, .int .i64 0, .int .i64 0, .bool false]) (by kernel_rfl) (by kernel_rfl) (by kernel_rfl) (by omega) rfl (fun w => rd_agg (e4 w))) ?_)
  refine tab_cons (ti_struct (b := 48) (cs := #[.slice none 0 0, .slice none 0 0]) (by kernel_rfl) (by kernel_rfl) (by kernel_rfl) (by decide) rfl eB) ?_
  refine tab_cons (ti_struct (b := 24) (cs := #[.int .i64 0, .int .i64 0, .bool false]) (by kernel_rfl) (by kernel_rfl) (by kernel_rfl) (by decide) rfl eV) (tab_cons (ti_slice (b := 24) (zv := .agg #[.int .i64 0, .int .i64 0, .bool false]) (by kernel_rfl) (by kernel_rfl) (by kernel_rfl) (by omega) rfl (fun w => rd_agg (eV w))) ?_)
  refine tab_cons (ti_struct (b := 24) (cs := #[.int .i64 0, .int .i64 0, .bool false]) (by kernel_rfl) (by kernel_rfl) (by kernel_rfl) (by decide) rfl eV) (tab_cons (ti_slice (b := 24) (zv := .agg #[.int .i64 0, .int .i64 0, .bool false]) (by kernel_rfl) (by kernel_rfl) (by kernel_rfl) (by omega) rfl (fun w => rd_agg (eV w))) ?_)
  refine tab_cons (ti_struct (b := 48) (cs := #[.string ByteArray.empty, .int .i64 0, .slice none 0 0]) (by kernel_rfl) (by kernel_rfl) (by kernel_rfl) (by decide) rfl eW) ?_
  refine tab_cons (ti_struct (b := 48) (cs := #[.string ByteArray.empty, .int .i64 0, .slice none 0 0]) (by kernel_rfl) (by kernel_rfl) (by kernel_rfl) (by decide) rfl eW) ?_
  refine tab_cons (ti_slice (b := 24) (zv := .agg #[.pointer none]) (by kernel_rfl) (by kernel_rfl) (by kernel_rfl) (by omega) rfl (fun w => rd_v rfl)) ?_
  exact tab_nil
end Go.Proofs.Ytnlobdhkpmeniaa.AM
