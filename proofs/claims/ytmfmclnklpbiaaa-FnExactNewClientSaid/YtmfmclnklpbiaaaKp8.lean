/- Texts of the machine over data, folded. -/
import Derived.Test.YtmfmclnklpbiaaaKp7
import Derived.Test.YtmfmclnklpbiaaaKp1
import Derived.Laws.StructEq
namespace Go.Proofs.Ytmfmclnklpbiaaa.AM
open Go Go.RowKit
set_option linter.unusedVariables false

theorem tab_nil {P : Program} : TabOK P [] := fun t => trivial
theorem tab_cons {P : Program} {t : Nat} {x : TI} {Θ : Tab} (h : TIok P t x) (r : TabOK P Θ) : TabOK P ((t, x) :: Θ) := fun u => by
  show TIok P u (bif Nat.beq t u then x else Tab.look Θ u)
  by_cases e : t = u
  · subst e; simpa using h
  · rw [nbne e]; exact r u
theorem ti_str {P : Program} {t b : Nat} (hu : P.underlying t = some .string) (hi : (P.info? t).map (fun i => (i.zero, i.size, i.bytes)) = some (some (.string ByteArray.empty), 1, b)) : TIok P t .str := by
  obtain ⟨i, h1, h2, h3, _⟩ := info_parts hi
  exact ⟨hu, i, h1, h3, h2⟩
theorem ti_int {P : Program} {t b : Nat} {k : IntKind} (hu : P.underlying t = some (.int k)) (hi : (P.info? t).map (fun i => (i.zero, i.size, i.bytes)) = some (some (.int k 0), 1, b)) : TIok P t (.int k) := by
  obtain ⟨i, h1, h2, h3, _⟩ := info_parts hi
  exact ⟨hu, i, h1, h3, h2⟩
theorem ti_bool {P : Program} {t b : Nat} (hu : P.underlying t = some .bool) (hi : (P.info? t).map (fun i => (i.zero, i.size, i.bytes)) = some (some (.bool false), 1, b)) : TIok P t .bool := by
  obtain ⟨i, h1, h2, h3, _⟩ := info_parts hi
  exact ⟨hu, i, h1, h3, h2⟩
theorem ti_slice {P : Program} {t e b sz by_ : Nat} {zv : Value} {z : AV} (hu : P.underlying t = some (.slice e)) (hj : (P.info? t).map (fun i => (i.zero, i.size, i.bytes)) = some (some (.slice none 0 0), 1, b)) (hi : (P.info? e).map (fun i => (i.zero, i.size, i.bytes)) = some (some zv, sz, by_))
    (h0 : 0 < sz) (hz : asz z = sz) (hr : ∀ w, RD w z Fa zv.cells.toList) : TIok P t (.slice e sz by_ z) := by
  obtain ⟨j, j1, j2, j3, _⟩ := info_parts hj
  obtain ⟨i, h1, h2, h3, h4⟩ := info_parts hi
  exact ⟨hu, ⟨j, j1, j3, j2⟩, i, zv, h1, h2, h3, h4, h0, hz, hr⟩
def offsB (P : Program) : Nat → List Field → List (Nat × Nat) → Bool
  | _, [], [] => true
  | n, f :: fs, (o, z) :: r => Nat.beq f.offset o && (Nat.beq o n && (Nat.blt 0 z && ((match (P.info? f.type).map (·.size) with | some q => Nat.beq q z | none => false) && offsB P (n + z) fs r)))
  | _, _, _ => false
theorem offsB_ok {P : Program} : ∀ (fs : List Field) (r : List (Nat × Nat)) (n : Nat), offsB P n fs r = true → offsOK P n fs r
  | [], [], n, _ => trivial
  | [], _ :: _, n, h => by simp [offsB] at h
  | _ :: _, [], n, h => by simp [offsB] at h
  | f :: fs, (o, z) :: r, n, h => by
    simp only [offsB, Bool.and_eq_true] at h
    obtain ⟨h1, h2, h3, h4, h5⟩ := h
    refine ⟨Nat.eq_of_beq_eq_true h1, Nat.eq_of_beq_eq_true h2, by simpa using h3, ?_, offsB_ok fs r (n + z) h5⟩
    cases hq : (P.info? f.type).map (·.size) with
    | none => rw [hq] at h4; cases h4
    | some q => rw [hq] at h4; rw [Nat.eq_of_beq_eq_true h4]
theorem ti_struct {P : Program} {t b : Nat} {fs : List (Nat × Nat)} {z : List AV} {cs : Array Value} (hu : P.underlying t = some (.struct (P.fieldsOf t))) (hi : (P.info? t).map (fun i => (i.zero, i.size, i.bytes)) = some (some (.agg cs), sizes fs, b))
    (ho : offsB P 0 (P.fieldsOf t).toList fs = true) (hp : 0 < sizes fs) (hm : z.map asz = fs.map (·.2)) (hr : ∀ w, RDL w z Fa cs.toList) : TIok P t (.struct fs z) := by
  obtain ⟨i, h1, h2, h3, _⟩ := info_parts hi
  exact ⟨_, i, cs, hu, offsB_ok _ _ _ ho, h1, h3, hp, hm, h2, hr⟩
theorem rl_cons {S : Nat → Prop} {w : World} {x : AV} {xs : List AV} {c1 c2 : List Value} (h : RA S w x c1) (r : RL S w xs c2) : RL S w (x :: xs) (c1 ++ c2) := by unfold RL; exact ⟨c1, c2, rfl, h, r⟩
theorem rl_nil {S : Nat → Prop} {w : World} : RL S w [] [] := by unfold RL; rfl
theorem ra_v {S : Nat → Prop} {w : World} {x : Value} (h : x.oneCell' = true) : RA S w (.v x) [x] := by unfold RA; exact ⟨rfl, h⟩
theorem ra_nil {S : Nat → Prop} {w : World} {sz : Nat} (h : 0 < sz) : RA S w (.lst sz []) [.slice none 0 0] := by unfold RA; exact ⟨none, 0, rfl, Nat.le_refl _, Nat.zero_le _, by simp, h, .inl rfl⟩
theorem ra_agg {S : Nat → Prop} {w : World} {xs : List AV} {cs : List Value} (h : RL S w xs cs) : RA S w (.agg xs) cs := by unfold RA; exact h

theorem rd_v {w : World} {x : Value} (h : x.oneCell' = true) : RD w (.v x) Fa [x] := by unfold RD; exact ⟨noF, rfl, h⟩
theorem rd_nil {w : World} {sz : Nat} (h : 0 < sz) : RD w (.lst sz []) Fa [.slice none 0 0] := by
  unfold RD
  refine ⟨_, 0, [], Fa, rfl, World.ownsRow_nil _ _ _ _, by simp, h, by unfold RDL; exact ⟨rfl, noF⟩, fun g => ⟨fun h => h.elim, fun h => ?_⟩, fun g h => ?_⟩
  · rcases h with h | h
    · simp [Value.ownBlock] at h
    · exact h
  · simp [Value.ownBlock] at h
theorem rd_agg {w : World} {xs : List AV} {cs : List Value} (h : RDL w xs Fa cs) : RD w (.agg xs) Fa cs := by unfold RD; exact h
theorem rdl_nil {w : World} : RDL w [] Fa [] := by unfold RDL; exact ⟨rfl, noF⟩
theorem rdl_cons {w : World} {x : AV} {xs : List AV} {c1 c2 : List Value} (h : RD w x Fa c1) (r : RDL w xs Fa c2) : RDL w (x :: xs) Fa (c1 ++ c2) := by unfold RDL; exact ⟨c1, c2, Fa, Fa, rfl, Split.l0 noF, h, r⟩
theorem ti_ptr {P : Program} {t b e : Nat} (hu : P.underlying t = some (.pointer e)) (hi : (P.info? t).map (fun i => (i.zero, i.size, i.bytes)) = some (some (.pointer none), 1, b)) : TIok P t .ptr := by
  obtain ⟨i, h1, h2, h3, _⟩ := info_parts hi
  exact ⟨⟨e, hu⟩, i, h1, h3, h2⟩
abbrev zS : AV := .v (.string ByteArray.empty)
abbrev zI : AV := .v (.int .i64 0)
abbrev zB : AV := .v (.bool false)
def Th : Tab := [(9, .str), (3, .int .i64), (4, .bool), (5, .int .u8),
  (118, .slice 9 1 16 zS),
  (36, .slice 5 1 1 (.v (.int .u8 0))),
  (127, .struct [(0, 1), (1, 1)] [zS, zI]), (56, .slice 127 2 24 (.agg [zS, zI])),
  (124, .struct [(0, 1), (1, 1), (2, 1)] [zS, zI, zB]), (100, .slice 124 3 32 (.agg [zS, zI, zB])),
  (133, .struct [(0, 1), (1, 1), (2, 1)] [zS, zI, zB]), (95, .slice 133 3 32 (.agg [zS, zI, zB])),
  (112, .struct [(0, 1), (1, 1), (2, 1)] [.lst 1 [], zI, zI]), (77, .ptr),
  (44, .struct [(0, 1), (1, 1), (2, 1), (3, 1)] [zS, zI, zI, zB]), (29, .slice 44 4 40 (.agg [zS, zI, zI, zB])),
  (68, .struct [(0, 1), (1, 1), (2, 1), (3, 1)] [zS, zI, zI, zB]), (22, .slice 68 4 40 (.agg [zS, zI, zI, zB])),
  (138, .struct [(0, 1), (1, 1), (2, 1), (3, 1), (4, 1)] [zI, zI, zS, zS, .lst 3 []]),
  (40, .struct [(0, 1), (1, 1), (2, 1)] [zI, zI, zB]), (24, .slice 40 3 24 (.agg [zI, zI, zB])),
  (26, .struct [(0, 1), (1, 1), (2, 1)] [zS, zI, .lst 3 []]),
  (102, .struct [(0, 1), (1, 1), (2, 1), (3, 1), (4, 1)] [zI, zS, zS, zS, .lst 3 []]),
  (55, .slice 102 5 80 (.agg [zI, zS, zS, zS, .lst 3 []])),
  (58, .struct [(0, 1), (1, 1), (2, 1), (3, 1), (4, 1), (5, 1), (6, 1), (7, 1), (8, 1)] [.lst 5 [], zI, zI, zI, zI, zI, zI, zI, .lst 2 []]),
  (97, .struct [(0, 1), (1, 1), (2, 1), (3, 1), (4, 1)] [zI, zS, zS, zS, .lst 3 []]),
  (53, .slice 97 5 80 (.agg [zI, zS, zS, zS, .lst 3 []])),
  ]
theorem Th_ok : TabOK Try.prog Th := by
  unfold Th
  have e2 : ∀ w, RDL w [zS, zI] Fa [.string ByteArray.empty, .int .i64 0] := fun w => rdl_cons (c1 := [_]) (rd_v rfl) (rdl_cons (c1 := [_]) (rd_v rfl) rdl_nil)
  have e3 : ∀ w, RDL w [zS, zI, zB] Fa [.string ByteArray.empty, .int .i64 0, .bool false] := fun w => rdl_cons (c1 := [_]) (rd_v rfl) (rdl_cons (c1 := [_]) (rd_v rfl) (rdl_cons (c1 := [_]) (rd_v rfl) rdl_nil))
  have e4 : ∀ w, RDL w [zS, zI, zI, zB] Fa [.string ByteArray.empty, .int .i64 0, .int .i64 0, .bool false] := fun w => rdl_cons (c1 := [_]) (rd_v rfl) (rdl_cons (c1 := [_]) (rd_v rfl) (rdl_cons (c1 := [_]) (rd_v rfl) (rdl_cons (c1 := [_]) (rd_v rfl) rdl_nil)))
  have eC : ∀ w, RDL w [.lst 1 [], .lst 2 []] Fa [.slice none 0 0, .slice none 0 0] := fun w => rdl_cons (c1 := [_]) (rd_nil (by omega)) (rdl_cons (c1 := [_]) (rd_nil (by omega)) rdl_nil)
  have eN : ∀ w, RDL w [zI, .lst 1 []] Fa [.int .i64 0, .slice none 0 0] := fun w => rdl_cons (c1 := [_]) (rd_v rfl) (rdl_cons (c1 := [_]) (rd_nil (by omega)) rdl_nil)
  have eV : ∀ w, RDL w [zI, zI, zB] Fa [.int .i64 0, .int .i64 0, .bool false] := fun w => rdl_cons (c1 := [_]) (rd_v rfl) (rdl_cons (c1 := [_]) (rd_v rfl) (rdl_cons (c1 := [_]) (rd_v rfl) rdl_nil))
  have eW : ∀ w, RDL w [zS, zI, .lst 3 []] Fa [.string ByteArray.empty, .int .i64 0, .slice none 0 0] := fun w => rdl_cons (c1 := [_]) (rd_v rfl) (rdl_cons (c1 := [_]) (rd_v rfl) (rdl_cons (c1 := [_]) (rd_nil (by omega)) rdl_nil))
  have eB : ∀ w, RDL w [.lst 2 [], .lst 4 []] Fa [.slice none 0 0, .slice none 0 0] := fun w => rdl_cons (c1 := [_]) (rd_nil (by omega)) (rdl_cons (c1 := [_]) (rd_nil (by omega)) rdl_nil)
  have eO : ∀ w, RDL w [zI, zI, zS, zS, .lst 3 []] Fa [.int .i64 0, .int .i64 0, .string ByteArray.empty, .string ByteArray.empty, .slice none 0 0] := fun w => rdl_cons (c1 := [_]) (rd_v rfl) (rdl_cons (c1 := [_]) (rd_v rfl) (rdl_cons (c1 := [_]) (rd_v rfl) (rdl_cons (c1 := [_]) (rd_v rfl) (rdl_cons (c1 := [_]) (rd_nil (by omega)) rdl_nil))))
  have eR : ∀ w, RDL w [zI, zI, zI, .lst 1 [], .lst 2 []] Fa [.int .i64 0, .int .i64 0, .int .i64 0, .slice none 0 0, .slice none 0 0] := fun w => rdl_cons (c1 := [_]) (rd_v rfl) (rdl_cons (c1 := [_]) (rd_v rfl) (rdl_cons (c1 := [_]) (rd_v rfl) (rdl_cons (c1 := [_]) (rd_nil (by omega)) (rdl_cons (c1 := [_]) (rd_nil (by omega)) rdl_nil))))
  have eH : ∀ w, RDL w [zI, zS, zS, zS, .lst 3 []] Fa [.int .i64 0, .string ByteArray.empty, .string ByteArray.empty, .string ByteArray.empty, .slice none 0 0] := fun w => rdl_cons (c1 := [_]) (rd_v rfl) (rdl_cons (c1 := [_]) (rd_v rfl) (rdl_cons (c1 := [_]) (rd_v rfl) (rdl_cons (c1 := [_]) (rd_v rfl) (rdl_cons (c1 := [_]) (rd_nil (by omega)) (rdl_nil)))))
  have eK : ∀ w, RDL w [.lst 5 [], zI, zI, zI, zI, zI, zI, zI, .lst 2 []] Fa [.slice none 0 0, .int .i64 0, .int .i64 0, .int .i64 0, .int .i64 0, .int .i64 0, .int .i64 0, .int .i64 0, .slice none 0 0] := fun w => rdl_cons (c1 := [_]) (rd_nil (by omega)) (rdl_cons (c1 := [_]) (rd_v rfl) (rdl_cons (c1 := [_]) (rd_v rfl) (rdl_cons (c1 := [_]) (rd_v rfl) (rdl_cons (c1 := [_]) (rd_v rfl) (rdl_cons (c1 := [_]) (rd_v rfl) (rdl_cons (c1 := [_]) (rd_v rfl) (rdl_cons (c1 := [_]) (rd_v rfl) (rdl_cons (c1 := [_]) (rd_nil (by omega)) (rdl_nil)))))))))
  have eM : ∀ w, RDL w [zI, zI, zI, .agg [zI, zI, zS, zS, .lst 3 []], .agg [zI, zI, zI, .lst 1 [], .lst 2 []]] Fa [.int .i64 0, .int .i64 0, .int .i64 0, .int .i64 0, .int .i64 0, .string ByteArray.empty, .string ByteArray.empty, .slice none 0 0, .int .i64 0, .int .i64 0, .int .i64 0, .slice none 0 0, .slice none 0 0] := fun w => rdl_cons (c1 := [_]) (rd_v rfl) (rdl_cons (c1 := [_]) (rd_v rfl) (rdl_cons (c1 := [_]) (rd_v rfl) (rdl_cons (c1 := [_, _, _, _, _]) (rd_agg (eO w)) (rdl_cons (c1 := [_, _, _, _, _]) (rd_agg (eR w)) rdl_nil))))
  have eG : ∀ w, RDL w [.lst 1 [], zI, zI] Fa [.slice none 0 0, .int .i64 0, .int .i64 0] := fun w => rdl_cons (c1 := [_]) (rd_nil (by omega)) (rdl_cons (c1 := [_]) (rd_v rfl) (rdl_cons (c1 := [_]) (rd_v rfl) rdl_nil))
  refine tab_cons (ti_str (b := 16) (by kernel_rfl) (by kernel_rfl)) (tab_cons (ti_int (b := 8) (by kernel_rfl) (by kernel_rfl)) (tab_cons (ti_bool (b := 1) (by kernel_rfl) (by kernel_rfl)) (tab_cons (ti_int (b := 1) (by kernel_rfl) (by kernel_rfl)) ?_)))
  refine tab_cons (ti_slice (b := 24) (zv := .string ByteArray.empty) (by kernel_rfl) (by kernel_rfl) (by kernel_rfl) (by omega) rfl (fun w => rd_v rfl)) ?_
  refine tab_cons (ti_slice (b := 24) (zv := .int .u8 0) (by kernel_rfl) (by kernel_rfl) (by kernel_rfl) (by omega) rfl (fun w => rd_v rfl)) ?_
  refine tab_cons (ti_struct (b := 24) (cs := #[.string ByteArray.empty, .int .i64 0]) (by kernel_rfl) (by kernel_rfl) (by kernel_rfl) (by decide) rfl e2) (tab_cons (ti_slice (b := 24) (zv := .agg #[.string ByteArray.empty, .int .i64 0]) (by kernel_rfl) (by kernel_rfl) (by kernel_rfl) (by omega) rfl (fun w => rd_agg (e2 w))) ?_)
  refine tab_cons (ti_struct (b := 32) (cs := #[.string ByteArray.empty, .int .i64 0, .bool false]) (by kernel_rfl) (by kernel_rfl) (by kernel_rfl) (by decide) rfl e3) (tab_cons (ti_slice (b := 24) (zv := .agg #[.string ByteArray.empty, .int .i64 0, .bool false]) (by kernel_rfl) (by kernel_rfl) (by kernel_rfl) (by omega) rfl (fun w => rd_agg (e3 w))) ?_)
  refine tab_cons (ti_struct (b := 32) (cs := #[.string ByteArray.empty, .int .i64 0, .bool false]) (by kernel_rfl) (by kernel_rfl) (by kernel_rfl) (by decide) rfl e3) (tab_cons (ti_slice (b := 24) (zv := .agg #[.string ByteArray.empty, .int .i64 0, .bool false]) (by kernel_rfl) (by kernel_rfl) (by kernel_rfl) (by omega) rfl (fun w => rd_agg (e3 w))) ?_)
  refine tab_cons (ti_struct (b := 40) (cs := #[.slice none 0 0, .int .i64 0, .int .i64 0]) (by kernel_rfl) (by kernel_rfl) (by kernel_rfl) (by decide) rfl eG) (tab_cons (ti_ptr (b := 8) (e := 112) (by kernel_rfl) (by kernel_rfl)) ?_)
  refine tab_cons (ti_struct (b := 40) (cs := #[.string ByteArray.empty, .int .i64 0, .int .i64 0, .bool false]) (by kernel_rfl) (by kernel_rfl) (by kernel_rfl) (by decide) rfl e4) (tab_cons (ti_slice (b := 24) (zv := .agg #[.string ByteArray.empty, .int .i64 0, .int .i64 0, .bool false]) (by kernel_rfl) (by kernel_rfl) (by kernel_rfl) (by omega) rfl (fun w => rd_agg (e4 w))) ?_)
  refine tab_cons (ti_struct (b := 40) (cs := #[.string ByteArray.empty, .int .i64 0, .int .i64 0, .bool false]) (by kernel_rfl) (by kernel_rfl) (by kernel_rfl) (by decide) rfl e4) (tab_cons (ti_slice (b := 24) (zv := .agg #[.string ByteArray.empty, .int .i64 0, .int .i64 0, .bool false]) (by kernel_rfl) (by kernel_rfl) (by kernel_rfl) (by omega) rfl (fun w => rd_agg (e4 w))) ?_)
  refine tab_cons (ti_struct (b := 72) (cs := #[.int .i64 0, .int .i64 0, .string ByteArray.empty, .string ByteArray.empty, .slice none 0 0]) (by kernel_rfl) (by kernel_rfl) (by kernel_rfl) (by decide) rfl eO) ?_
  refine tab_cons (ti_struct (b := 24) (cs := #[.int .i64 0, .int .i64 0, .bool false]) (by kernel_rfl) (by kernel_rfl) (by kernel_rfl) (by decide) rfl eV) (tab_cons (ti_slice (b := 24) (zv := .agg #[.int .i64 0, .int .i64 0, .bool false]) (by kernel_rfl) (by kernel_rfl) (by kernel_rfl) (by omega) rfl (fun w => rd_agg (eV w))) ?_)
  refine tab_cons (ti_struct (b := 48) (cs := #[.string ByteArray.empty, .int .i64 0, .slice none 0 0]) (by kernel_rfl) (by kernel_rfl) (by kernel_rfl) (by decide) rfl eW) ?_
  refine tab_cons (ti_struct (b := 80) (cs := #[.int .i64 0, .string ByteArray.empty, .string ByteArray.empty, .string ByteArray.empty, .slice none 0 0]) (by kernel_rfl) (by kernel_rfl) (by kernel_rfl) (by decide) rfl eH) ?_
  refine tab_cons (ti_slice (b := 24) (zv := .agg #[.int .i64 0, .string ByteArray.empty, .string ByteArray.empty, .string ByteArray.empty, .slice none 0 0]) (by kernel_rfl) (by kernel_rfl) (by kernel_rfl) (by omega) rfl (fun w => rd_agg (eH w))) ?_
  refine tab_cons (ti_struct (b := 104) (cs := #[.slice none 0 0, .int .i64 0, .int .i64 0, .int .i64 0, .int .i64 0, .int .i64 0, .int .i64 0, .int .i64 0, .slice none 0 0]) (by kernel_rfl) (by kernel_rfl) (by kernel_rfl) (by decide) rfl eK) ?_
  refine tab_cons (ti_struct (b := 80) (cs := #[.int .i64 0, .string ByteArray.empty, .string ByteArray.empty, .string ByteArray.empty, .slice none 0 0]) (by kernel_rfl) (by kernel_rfl) (by kernel_rfl) (by decide) rfl eH) ?_
  refine tab_cons (ti_slice (b := 24) (zv := .agg #[.int .i64 0, .string ByteArray.empty, .string ByteArray.empty, .string ByteArray.empty, .slice none 0 0]) (by kernel_rfl) (by kernel_rfl) (by kernel_rfl) (by omega) rfl (fun w => rd_agg (eH w))) ?_
  exact tab_nil
end Go.Proofs.Ytmfmclnklpbiaaa.AM
namespace Go.Proofs.Ytmfmclnklpbiaaa
open Go.RowKit


namespace Nm
/-- a letter or the low line -/
def letter (c : Int) : Bool := (decide (97 ≤ c) && decide (c ≤ 122)) || (decide (65 ≤ c) && decide (c ≤ 90)) || decide (c = 95)
def digit (c : Int) : Bool := decide (48 ≤ c) && decide (c ≤ 57)
def lettersFrom (l : List UInt8) : Bool := l.all fun c => letter c.toNat || digit c.toNat
def nameOK (l : List UInt8) : Bool :=
  match l with
  | [] => false
  | c :: r => decide (r.length < 12) && letter c.toNat && lettersFrom r
theorem letter_not_digit (c : Int) (h : letter c = true) : digit c = false := by
  simp [letter, digit] at *; omega
end Nm

theorem isLetter_any (c : Int) (w : World) :
    Calls Try.prog 83 #[.int .u8 c] w fun e w' => e = .returned (.bool (Nm.letter c)) ∧ w = w' := by
  go_enter Try.func83, Try.ntmps83
  go_wp2
  all_goals (go_ret; exact ⟨ret_bool (by rw [Bool.eq_iff_iff]; simp [Nm.letter]; try omega), rfl⟩)

theorem isDigit_any (c : Int) (w : World) :
    Calls Try.prog 82 #[.int .u8 c] w fun e w' => e = .returned (.bool (Nm.digit c)) ∧ w = w' := by
  go_enter Try.func82, Try.ntmps82
  go_wp2
  all_goals (go_ret; exact ⟨ret_bool (by rw [Bool.eq_iff_iff]; simp [Nm.digit]; try omega), rfl⟩)

theorem l00Letter_any (c : Int) (w : World) :
    Calls Try.prog 79 #[.int .u8 c] w fun e w' => e = .returned (.bool (Nm.letter c)) ∧ w = w' := by
  go_enter Try.func79, Try.ntmps79
  go_wp2
  all_goals (go_ret; exact ⟨ret_bool (by rw [Bool.eq_iff_iff]; simp [Nm.letter]; try omega), rfl⟩)

theorem l00Digit_any (c : Int) (w : World) :
    Calls Try.prog 80 #[.int .u8 c] w fun e w' => e = .returned (.bool (Nm.digit c)) ∧ w = w' := by
  go_enter Try.func80, Try.ntmps80
  go_wp2
  all_goals (go_ret; exact ⟨ret_bool (by rw [Bool.eq_iff_iff]; simp [Nm.digit]; try omega), rfl⟩)


namespace Nm
def okc (c : UInt8) : Bool := letter c.toNat || digit c.toNat
theorem lettersFrom_take (l : List UInt8) (k : Nat) (h : k < l.length) : lettersFrom (l.take (k + 1)) = (lettersFrom (l.take k) && okc l[k]) := by
  unfold lettersFrom okc; rw [List.take_succ_eq_append_getElem h, List.all_append]; simp
theorem lettersFrom_bad (l : List UInt8) (k : Nat) (h : k < l.length) (hb : okc l[k] = false) : lettersFrom l = false := by
  rw [lettersFrom, List.all_eq_false]
  exact ⟨l[k], List.getElem_mem h, by simp only [okc] at hb; simp [hb]⟩
theorem nameOK_eq (l : List UInt8) (h0 : 0 < l.length) (h1 : l.length ≤ 12) : nameOK l = (letter l[0].toNat && lettersFrom l) := by
  match l, h0 with
  | c :: r, _ =>
    have : r.length < 12 := by simp at h1; omega
    simp [nameOK, this, lettersFrom]
    cases letter c.toNat <;> simp
theorem nameOK_nil : nameOK [] = false := rfl
theorem nameOK_long (l : List UInt8) (h : 12 < l.length) : nameOK l = false := by
  match l with
  | c :: r => 
    have : ¬ r.length < 12 := by simp at h; omega
    simp [nameOK, this]
theorem digit_not_letter (c : Int) (h : digit c = true) : letter c = false := by
  simp [letter, digit] at *; omega
theorem nameOK_digit (l : List UInt8) (h0 : 0 < l.length) (hd : digit l[0].toNat = true) : nameOK l = false := by
  match l, h0 with
  | c :: r, _ =>
    have hd' : letter c.toNat = false := digit_not_letter _ hd
    simp [nameOK, hd']
theorem nameOK_letters (l : List UInt8) (h0 : 0 < l.length) (h1 : l.length ≤ 12) (hd : digit l[0].toNat = false) : nameOK l = lettersFrom l := by
  rw [nameOK_eq l h0 h1]
  cases h : letter l[0].toNat with
  | true => rfl
  | false => exact (lettersFrom_bad l 0 h0 (by simp [okc, h, hd])).symm
end Nm

set_option maxHeartbeats 400000 in
theorem nameOK_any (s : ByteArray) (w : World) (hs : s.size ≤ maxLen) :
    Calls Try.prog 43 #[.string s] w fun e w' => e = .returned (.bool (Nm.nameOK s.data.toList)) ∧ w = w' := by
  unfold maxLen at hs
  have hl : s.data.toList.length = s.size := by simp
  by_cases h0 : s.size = 0
  · have : s = ByteArray.empty := by simpa using h0
    subst this
    go_enter Try.func43, Try.ntmps43
    go_wp2
    go_ret
    exact ⟨rfl, rfl⟩
  by_cases h1 : 12 < s.size
  · go_enter Try.func43, Try.ntmps43
    go_wp2
    go_ret
    exact ⟨ret_bool (Nm.nameOK_long _ (by omega)).symm, rfl⟩
  have e0 : ((s.size : Int) == 0) = false := beq_eq_false_iff_ne.2 (by omega)
  have e1 : decide ((12 : Int) < s.size) = false := decide_eq_false (by omega)
  have p0 : 0 < s.size := by omega
  cases hd : Nm.digit s[0].toNat with
  | true =>
    have hfin : Nm.nameOK s.data.toList = false := Nm.nameOK_digit _ (by rw [hl]; exact p0) hd
    have Hf := Lib.hid hfin; clear hfin
    go_enter Try.func43, Try.ntmps43
    go_wp2_with (first | (go_at_call 82; refine (isDigit_any _ _).mono ?_; rintro e w' ⟨rfl, rfl⟩) | (go_at_call 83; refine (isLetter_any _ _).mono ?_; rintro e w' ⟨rfl, rfl⟩))
    go_ret
    exact ⟨ret_bool Hf.out.symm, rfl⟩
  | false =>
    have hfin : Nm.nameOK s.data.toList = Nm.lettersFrom s.data.toList := Nm.nameOK_letters _ (by rw [hl]; exact p0) (by omega) hd
    have Hf := Lib.hid hfin; clear hfin
    have h1' : s.size ≤ 12 := by omega
    clear h1
    go_enter Try.func43, Try.ntmps43
    go_wp2_with (first | (go_at_call 82; refine (isDigit_any _ _).mono ?_; rintro e w' ⟨rfl, rfl⟩) | (go_at_call 83; refine (isLetter_any _ _).mono ?_; rintro e w' ⟨rfl, rfl⟩))
    go_loop [3] (fun i => ∃ k : Nat, k ≤ s.size ∧ i = .int .i64 k ∧ Nm.lettersFrom (s.data.toList.take k) = true) (fun i => s.size - (intOf i).toNat)
    case atStart => exact ⟨0, Nat.zero_le _, rfl, rfl⟩
    case round =>
      obtain ⟨k, hk, rfl, hr⟩ := hrel
      have Hr := Lib.hid hr; clear hr
      by_cases hlt : k < s.size
      · have hst : Hid (Nm.lettersFrom (s.data.toList.take (k + 1)) = (Nm.lettersFrom (s.data.toList.take k) && Nm.okc s[k])) := Nm.lettersFrom_take _ k (by omega)
        have hbad : Hid (Nm.okc s[k] = false → Nm.lettersFrom s.data.toList = false) := fun h => Nm.lettersFrom_bad _ k (by omega) h
        have hok : Nm.okc s[k] = (Nm.letter s[k].toNat || Nm.digit s[k].toNat) := rfl
        have Hok := Lib.hid hok; clear hok
        go_wp2_with (first | (go_at_call 82; refine (isDigit_any _ _).mono ?_; rintro e w' ⟨rfl, rfl⟩) | (go_at_call 83; refine (isLetter_any _ _).mono ?_; rintro e w' ⟨rfl, rfl⟩))
        · go_round
          case rel => exact ⟨k + 1, by omega, by go_num, by rw [hst.out, Hr.out, Hok.out]; simp [*]⟩
          case measure => simp [intOf]; omega
        · go_ret
          exact ⟨ret_bool (by rw [Hf.out, hbad.out]; rw [Hok.out]; simp_all), rfl⟩
        · go_round
          case rel => exact ⟨k + 1, by omega, by go_num, by rw [hst.out, Hr.out, Hok.out]; simp_all⟩
          case measure => simp [intOf]; omega
      · go_wp2
        go_ret
        exact ⟨ret_bool (by rw [Hf.out]; have := Hr.out; rw [List.take_of_length_le (by omega)] at this; exact this.symm), rfl⟩

set_option maxHeartbeats 400000 in
theorem l00Word_any (s : ByteArray) (w : World) (hs : s.size ≤ maxLen) :
    Calls Try.prog 39 #[.string s] w fun e w' => e = .returned (.bool (Nm.nameOK s.data.toList)) ∧ w = w' := by
  unfold maxLen at hs
  have hl : s.data.toList.length = s.size := by simp
  by_cases h0 : s.size = 0
  · have : s = ByteArray.empty := by simpa using h0
    subst this
    go_enter Try.func39, Try.ntmps39
    go_wp2
    go_ret
    exact ⟨rfl, rfl⟩
  have e2 : decide ((s.size : Int) < 1) = false := decide_eq_false (by omega)
  by_cases h1 : 12 < s.size
  · go_enter Try.func39, Try.ntmps39
    go_wp2
    go_ret
    exact ⟨ret_bool (Nm.nameOK_long _ (by omega)).symm, rfl⟩
  have e1 : decide ((12 : Int) < s.size) = false := decide_eq_false (by omega)
  have p0 : 0 < s.size := by omega
  cases hd : Nm.letter s[0].toNat with
  | false =>
    have hfin : Nm.nameOK s.data.toList = false := by
      rw [Nm.nameOK_eq _ (by rw [hl]; exact p0) (by omega)]
      have : Nm.letter s.data.toList[0].toNat = false := hd
      rw [this]; rfl
    have Hf := Lib.hid hfin; clear hfin
    go_enter Try.func39, Try.ntmps39
    go_wp2_with (go_at_call 79; refine (l00Letter_any _ _).mono ?_; rintro e w' ⟨rfl, rfl⟩)
    go_ret
    exact ⟨ret_bool Hf.out.symm, rfl⟩
  | true =>
    have hfin : Nm.nameOK s.data.toList = Nm.lettersFrom s.data.toList := by
      rw [Nm.nameOK_eq _ (by rw [hl]; exact p0) (by omega)]
      have : Nm.letter s.data.toList[0].toNat = true := hd
      rw [this]; rfl
    have Hf := Lib.hid hfin; clear hfin
    have hst1 : Hid (Nm.lettersFrom (s.data.toList.take 1) = true) := by
      have e : Nm.lettersFrom (s.data.toList.take (0 + 1)) = (Nm.lettersFrom (s.data.toList.take 0) && Nm.okc s[0]) := Nm.lettersFrom_take _ 0 (by rw [hl]; exact p0)
      show Nm.lettersFrom (s.data.toList.take (0 + 1)) = true
      rw [e, Nm.okc, hd]; rfl
    have h1' : s.size ≤ 12 := by omega
    clear h1
    go_enter Try.func39, Try.ntmps39
    go_wp2_with (go_at_call 79; refine (l00Letter_any _ _).mono ?_; rintro e w' ⟨rfl, rfl⟩)
    go_loop [3] (fun i => ∃ k : Nat, 1 ≤ k ∧ k ≤ s.size ∧ i = .int .i64 k ∧ Nm.lettersFrom (s.data.toList.take k) = true) (fun i => s.size - (intOf i).toNat)
    case atStart => exact ⟨1, Nat.le_refl _, p0, rfl, hst1.out⟩
    case round =>
      obtain ⟨k, hk0, hk, rfl, hr⟩ := hrel
      have Hr := Lib.hid hr; clear hr
      by_cases hlt : k < s.size
      · have hst : Hid (Nm.lettersFrom (s.data.toList.take (k + 1)) = (Nm.lettersFrom (s.data.toList.take k) && Nm.okc s[k])) := Nm.lettersFrom_take _ k (by omega)
        have hbad : Hid (Nm.okc s[k] = false → Nm.lettersFrom s.data.toList = false) := fun h => Nm.lettersFrom_bad _ k (by omega) h
        have hok : Nm.okc s[k] = (Nm.letter s[k].toNat || Nm.digit s[k].toNat) := rfl
        have Hok := Lib.hid hok; clear hok
        go_wp2_with (first | (go_at_call 79; refine (l00Letter_any _ _).mono ?_; rintro e w' ⟨rfl, rfl⟩) | (go_at_call 80; refine (l00Digit_any _ _).mono ?_; rintro e w' ⟨rfl, rfl⟩))
        · go_round
          case rel => exact ⟨k + 1, by omega, by omega, by go_num, by rw [hst.out, Hr.out, Hok.out]; simp [*]⟩
          case measure => simp [intOf]; omega
        · go_ret
          exact ⟨ret_bool (by rw [Hf.out, hbad.out]; rw [Hok.out]; simp_all), rfl⟩
        · go_round
          case rel => exact ⟨k + 1, by omega, by omega, by go_num, by rw [hst.out, Hr.out, Hok.out]; simp_all⟩
          case measure => simp [intOf]; omega
      · go_wp2
        go_ret
        exact ⟨ret_bool (by rw [Hf.out]; have := Hr.out; rw [List.take_of_length_le (by omega)] at this; exact this.symm), rfl⟩

end Go.Proofs.Ytmfmclnklpbiaaa
/- The plain side of chapter 2: keys in order, maps, edits, and what the functions return. Lists and numbers alone. -/
namespace Go.Proofs.Ytmfmclnklpbiaaa

/-! ### keys in order -/
theorem bytesLess_lt : ∀ (x y : List UInt8), Op.bytesLess x y = decide (x < y)
  | [], [] => by simp [Op.bytesLess]
  | [], _ :: _ => by simp [Op.bytesLess]
  | _ :: _, [] => by simp [Op.bytesLess]
  | a :: xs, b :: ys => by
    rw [Op.bytesLess, bytesLess_lt xs ys, Bool.eq_iff_iff]
    simp [List.cons_lt_cons_iff]
def klt (a b : ByteArray) : Bool := Op.bytesLess a.toList b.toList
theorem klt_iff (a b : ByteArray) : klt a b = true ↔ a.toList < b.toList := by simp [klt, bytesLess_lt]
theorem klt_irrefl (a : ByteArray) : klt a a = false := by
  cases h : klt a a with
  | false => rfl
  | true => exact absurd ((klt_iff _ _).1 h) (List.lt_irrefl _)
theorem klt_trans {a b c : ByteArray} (h : klt a b = true) (k : klt b c = true) : klt a c = true :=
  (klt_iff _ _).2 (List.lt_trans ((klt_iff _ _).1 h) ((klt_iff _ _).1 k))
theorem klt_asymm {a b : ByteArray} (h : klt a b = true) : klt b a = false := by
  cases k : klt b a with
  | false => rfl
  | true => have := klt_trans h k; rw [klt_irrefl] at this; cases this
theorem klt_tri {a b : ByteArray} (h : klt a b = false) (k : a ≠ b) : klt b a = true := by
  rw [klt_iff]
  have h' : ¬ a.toList < b.toList := fun x => by rw [(klt_iff _ _).2 x] at h; cases h
  rcases List.le_iff_lt_or_eq.1 (List.not_lt.1 h') with h2 | h2
  · exact h2
  · exact absurd (toList_inj h2.symm) k
/-- 'a <= b' in the walk's own words, with the sides turned -/
theorem kle_eq (a b : ByteArray) : (Op.bytesLess a.toList b.toList || a.toList == b.toList) = !klt b a := by
  have e : Op.bytesLess a.toList b.toList = klt a b := rfl
  rw [e, toList_beq]
  by_cases h : a = b
  · subst h; simp [klt_irrefl]
  · cases k : klt a b with
    | true => simp [klt_asymm k]
    | false => simp [klt_tri k h, h]

/-! ### maps -/
def nm (k : ByteArray) : Bool := Nm.nameOK k.data.toList
def valB (x : Int) : Bool := decide (-1000000 ≤ x) && decide (x ≤ 1000000)
def kAt (es : List Ent) (i : Nat) : ByteArray := (es.getD i (ByteArray.empty, 0)).1
def ordAt (es : List Ent) (i : Nat) : Bool := nm (kAt es i) && (decide (i = 0) || klt (kAt es (i - 1)) (kAt es i))
def ordM (es : List Ent) : Bool := (List.range es.length).all (ordAt es)
theorem ordM_of {es : List Ent} (h : ∀ i, i < es.length → ordAt es i = true) : ordM es = true := by
  rw [ordM, List.all_eq_true]; intro i hi; exact h i (List.mem_range.1 hi)
theorem ordM_not {es : List Ent} {i : Nat} (hi : i < es.length) (h : ordAt es i = false) : ordM es = false := by
  rw [ordM, List.all_eq_false]; exact ⟨i, List.mem_range.2 hi, by rw [h]; simp⟩
theorem ordM_at {es : List Ent} (h : ordM es = true) {i : Nat} (hi : i < es.length) : ordAt es i = true := List.all_eq_true.1 h i (List.mem_range.2 hi)
end Go.Proofs.Ytmfmclnklpbiaaa
/- The plain side of Get, Put, Remove, Scan: what is found, put in, taken out, cut out; the program's way and the document's way agree on lists in order. -/
namespace Go.Proofs.Ytmfmclnklpbiaaa

def Srt (es : List Ent) : Prop := es.Pairwise fun a b => klt a.1 b.1 = true
/-! ### looking up -/
/-- where a key is or would be: 'place' -/
def IsPlc (es : List Ent) (k : ByteArray) (p : Nat) : Prop := p ≤ es.length ∧ (∀ j, (hj : j < es.length) → j < p → klt es[j].1 k = true) ∧ ((hp : p < es.length) → klt es[p].1 k = false)
theorem IsPlc.take {es : List Ent} {k : ByteArray} {p : Nat} (h : IsPlc es k p) : es.takeWhile (fun e => klt e.1 k) = es.take p ∧ es.dropWhile (fun e => klt e.1 k) = es.drop p := by
  induction es generalizing p with
  | nil => obtain ⟨h1, _⟩ := h; simp
  | cons e r ih =>
    obtain ⟨h1, h2, h3⟩ := h
    match p, h1, h2, h3 with
    | 0, _, _, h3 => have := h3 (by simp); simp at this; simp [this]
    | p + 1, h1, h2, h3 =>
      have he := h2 0 (by simp) (by omega)
      simp at he
      have := ih (p := p) ⟨by simpa using h1, fun j hj hjp => by have := h2 (j + 1) (by simp; omega) (by omega); simpa using this, fun hp => by have := h3 (by simp; omega); simpa using this⟩
      simp [he, this]
/-! ### putting in -/
/-- behind the place no key is the looked-for one but perhaps the first -/
theorem IsPlc.after {es : List Ent} {k : ByteArray} {p : Nat} (h : IsPlc es k p) (hs : Srt es) (j : Nat) (hj : j < es.length) (hpj : p < j) : klt k es[j].1 = true := by
  have h1 : klt es[p].1 es[j].1 = true := (List.pairwise_iff_getElem.1 hs) p j (by omega) hj hpj
  by_cases he : es[p].1 = k
  · rw [← he]; exact h1
  · exact klt_trans (klt_tri (h.2.2 (by omega)) he) h1
/-! ### cutting out -/
end Go.Proofs.Ytmfmclnklpbiaaa
/- The document's way of putting in, step by step, comes to 'putL'. -/
namespace Go.Proofs.Ytmfmclnklpbiaaa

end Go.Proofs.Ytmfmclnklpbiaaa
/- The law's helpers on entries: size, copy, equality. -/
namespace Go.Proofs.Ytmfmclnklpbiaaa
open Go.RowKit

def EqE (a b : Ent) : Bool := decide (a.1 = b.1) && decide (a.2 = b.2)
theorem eqEntry_any (k1 k2 : ByteArray) (v1 v2 : Int) (w : World) :
    Calls Try.prog 101 #[.agg #[.string k1, .int .i64 v1], .agg #[.string k2, .int .i64 v2]] w fun e w' => e = .returned (.bool (EqE (k1, v1) (k2, v2))) ∧ Below w.heap.size w w' := by
  have hk := toList_beq k1 k2
  by_cases h1 : k1 = k2 <;> by_cases h2 : v1 = v2
  all_goals
    go_enter Try.func101, Try.ntmps101
    go_wp2
    go_ret
    exact ⟨ret_bool (by simp [EqE, h1, h2]), ((Below.refl _ _).alloc (Nat.le_refl _) _).alloc (by simp) _⟩

end Go.Proofs.Ytmfmclnklpbiaaa
namespace Go.Proofs.Ytmfmclnklpbiaaa
open Go.RowKit

def EqPost (b : Bool) (w : World) (e : Ending) (w' : World) : Prop := e = .returned (.bool b) ∧ Below w.heap.size w w'

set_option maxRecDepth 100000 in
theorem eqEntryS_any (A : Option Addr) (n c : Nat) (es : List Ent) (A' : Option Addr) (n' c' : Nat) (es' : List Ent) (w : World) (hr : Rd w 2 A n (entsC es)) (hr' : Rd w 2 A' n' (entsC es')) (hm : n ≤ maxLen) (hm' : n' ≤ maxLen) :
    Calls Try.prog 71 #[.slice A n c, .slice A' n' c'] w (EqPost (decide (es = es')) w) := by
  unfold maxLen at hm hm'
  have hlen := hr.len
  have hlen' := hr'.len
  have Hlen := Lib.hid hlen; clear hlen
  have Hlen' := Lib.hid hlen'; clear hlen'
  by_cases hne : n = n'
  case neg =>
    have hfin : Hid (decide (es = es') = false) := decide_eq_false (fun h => hne (by rw [← Hlen.out, ← Hlen'.out, h]))
    have hb : ((n : Int) != n') = true := by rw [bne_iff_ne]; omega
    go_enter Try.func71, Try.ntmps71
    go_wp2
    go_ret
    exact ⟨ret_bool hfin.out.symm, Below.refl _ _⟩
  subst hne
  go_enter Try.func71, Try.ntmps71
  go_wp2
  go_loopw [5] (fun i wr => ∃ k : Nat, k ≤ n ∧ i = .int .i64 k ∧ es.take k = es'.take k ∧ Below w.heap.size w wr) (fun i _ => n - (intOf i).toNat)
  case atStart => exact ⟨0, Nat.zero_le _, rfl, rfl, Below.refl _ _⟩
  case round =>
    obtain ⟨k, hk, rfl, heq, hb⟩ := hrel
    have Heq := Lib.hid heq; clear heq
    by_cases hlt : k < n
    · have hke : k < es.length := by rw [Hlen.out]; exact hlt
      have hke' : k < es'.length := by rw [Hlen'.out]; exact hlt
      obtain ⟨b, off, rfl, hbl, hbl2, hc1, hc2⟩ := hr.ent hb hke
      obtain ⟨b', off', rfl, hbl', hbl2', hc1', hc2'⟩ := hr'.ent hb hke'
      have hyes : Hid (EqE es[k] es'[k] = true → es.take (k + 1) = es'.take (k + 1)) := by
        intro h
        have h' : es[k] = es'[k] := by simp [EqE] at h; exact Prod.ext h.1 h.2
        rw [List.take_succ_eq_append_getElem hke, List.take_succ_eq_append_getElem hke', Heq.out, h']
      have hno : Hid (EqE es[k] es'[k] = false → decide (es = es') = false) := by
        intro h
        refine decide_eq_false (fun e => ?_)
        subst e
        simp [EqE] at h
      generalize es[k] = ek at *
      generalize es'[k] = ek' at *
      go_wp2
      go_still_tail 8, (by kernel_rfl)
      change wpList _ _ _ _ _ wr.drew
      generalize hw2 : wr.drew = w2
      have hb2 : Below w.heap.size w w2 := by rw [← hw2]; exact hb.drew
      clear hw2 hb
      go_wp2_with fail
      refine (eqEntry_any _ _ _ _ _).mono ?_
      rintro e w3 ⟨rfl, hb3⟩
      cases hE : EqE (ek.1, ek.2) (ek'.1, ek'.2) with
      | true =>
        have HE := Lib.hid hE; clear hE
        go_wp2
        go_roundw
        case rel => exact ⟨k + 1, by omega, by go_num, hyes.out HE.out, hb2.trans (hb3.mono hb2.size)⟩
        case measure => simp [intOf]; omega
      | false =>
        have HE := Lib.hid hE; clear hE
        go_wp2
        go_ret
        exact ⟨ret_bool (hno.out HE.out).symm, hb2.trans (hb3.mono hb2.size)⟩
    · have hfin : Hid (decide (es = es') = true) := by
        have h := Heq.out
        rw [List.take_of_length_le (by rw [Hlen.out]; omega), List.take_of_length_le (by rw [Hlen'.out]; omega)] at h
        exact decide_eq_true h
      go_wp2
      go_ret
      exact ⟨ret_bool hfin.out.symm, hb⟩

end Go.Proofs.Ytmfmclnklpbiaaa
namespace Go.Proofs.Ytmfmclnklpbiaaa
open Go.RowKit

theorem valueOK_any (x : Int) (w : World) :
    Calls Try.prog 117 #[.int .i64 x] w fun e w' => e = .returned (.bool (decide (-1000000 ≤ x) && decide (x ≤ 1000000))) ∧ w = w' := by
  go_enter Try.func117, Try.ntmps117
  go_wp2
  all_goals (go_ret; exact ⟨ret_bool (by rw [Bool.eq_iff_iff]; simp; try omega), rfl⟩)

theorem l01In_any (x a b : Int) (w : World) :
    Calls Try.prog 77 #[.int .i64 x, .int .i64 a, .int .i64 b] w fun e w' => e = .returned (.bool (decide (a ≤ x) && decide (x ≤ b))) ∧ w = w' := by
  go_enter Try.func77, Try.ntmps77
  go_wp2
  all_goals (go_ret; exact ⟨ret_bool (by rw [Bool.eq_iff_iff]; simp; try omega), rfl⟩)

end Go.Proofs.Ytmfmclnklpbiaaa
namespace Go.Proofs.Ytmfmclnklpbiaaa
open Go.RowKit

end Go.Proofs.Ytmfmclnklpbiaaa
namespace Go.Proofs.Ytmfmclnklpbiaaa
open Go.RowKit

end Go.Proofs.Ytmfmclnklpbiaaa
namespace Go.Proofs.Ytmfmclnklpbiaaa
open Go.RowKit

end Go.Proofs.Ytmfmclnklpbiaaa
namespace Go.Proofs.Ytmfmclnklpbiaaa
open Go.RowKit

end Go.Proofs.Ytmfmclnklpbiaaa
/- The document's l01Put: what it gathers, round by round. -/
namespace Go.Proofs.Ytmfmclnklpbiaaa
open Go.RowKit

end Go.Proofs.Ytmfmclnklpbiaaa
/- The document's Put, l01Remove, Remove, Scan. -/
namespace Go.Proofs.Ytmfmclnklpbiaaa
open Go.RowKit

def TupPost (e : TypeId) (r : List Ent × Int) (w : World) (e' : Ending) (w' : World) : Prop := ∃ v, e' = .returned (.tuple #[v, .int .i64 r.2]) ∧ w'.ownsRow w.heap.size e 2 v r.1.length (entsC r.1) ∧ Below w.heap.size w w'
theorem TupPost.mk {e : TypeId} {r : List Ent × Int} {l : List Ent} {c : Int} {v : Value} {w w' : World} (h : r = (l, c)) (ho : w'.ownsRow w.heap.size e 2 v l.length (entsC l)) (hb : Below w.heap.size w w') : TupPost e r w (.returned (.tuple #[v, .int .i64 c])) w' := ⟨v, by rw [h], by rw [h]; exact ho, hb⟩
end Go.Proofs.Ytmfmclnklpbiaaa
/- The program's part, with, without, Put, Remove, Scan. -/
namespace Go.Proofs.Ytmfmclnklpbiaaa
open Go.RowKit

end Go.Proofs.Ytmfmclnklpbiaaa
/- The program's with: an entry put in at its place, into new memory. -/
namespace Go.Proofs.Ytmfmclnklpbiaaa
open Go.RowKit

theorem Blk.two {w : World} {g : Nat} {t : TypeId} {cs : Array Value} (h : Blk w g t cs) {k : Nat} (hk : k * 2 + 1 < cs.size) :
    ∃ y0 y1, w.cell? ⟨g, k * 2, none⟩ = some y0 ∧ w.cell? ⟨g, k * 2 + 1, none⟩ = some y1 ∧ w.frozen? ⟨g, k * 2, none⟩ = false ∧ w.frozen? ⟨g, k * 2 + 1, none⟩ = false :=
  ⟨_, _, (h.cell _).trans (Array.getElem?_eq_getElem (by omega)), (h.cell _).trans (Array.getElem?_eq_getElem hk), h.frozen _, h.frozen _⟩
end Go.Proofs.Ytmfmclnklpbiaaa
/- The program's without: an entry taken out, into new memory. -/
namespace Go.Proofs.Ytmfmclnklpbiaaa
open Go.RowKit

end Go.Proofs.Ytmfmclnklpbiaaa
namespace Go.Proofs.Ytmfmclnklpbiaaa
open Go.RowKit

theorem toEdit_any (key : ByteArray) (v : Int) (g : Bool) (w : World) :
    Calls Try.prog 110 #[.agg #[.string key, .int .i64 v, .bool g]] w fun e w' => e = .returned (.agg #[.string key, .int .i64 v, .bool g]) ∧ Below w.heap.size w w' := by
  go_enter Try.func110, Try.ntmps110
  go_wp2
  exact bodyPost_ret (v := .agg #[.string key, .int .i64 v, .bool g]) (by simp [results, Try.results110, go_sem]) rfl ⟨rfl, by
    refine ((((((((((Below.refl _ _).alloc (Nat.le_refl _) _).alloc (by simp) _).alloc (by simp; omega) _)))))))⟩

instance edt_dec : DecidableEq Edt := fun a b => decidable_of_iff (a.key = b.key ∧ a.val = b.val ∧ a.gone = b.gone) ⟨fun ⟨h1, h2, h3⟩ => by cases a; cases b; simp at *; exact ⟨h1, h2, h3⟩, fun h => by subst h; exact ⟨rfl, rfl, rfl⟩⟩
def EqD (a b : Edt) : Bool := decide (a.key = b.key) && (decide (a.val = b.val) && decide (a.gone = b.gone))
theorem EqD_iff (a b : Edt) : EqD a b = decide (a = b) := by
  obtain ⟨a1, a2, a3⟩ := a
  obtain ⟨b1, b2, b3⟩ := b
  rw [Bool.eq_iff_iff]; simp [EqD]
set_option maxRecDepth 100000 in
theorem eqEdit_any (k1 k2 : ByteArray) (v1 v2 : Int) (g1 g2 : Bool) (w : World) :
    Calls Try.prog 114 #[.agg #[.string k1, .int .i64 v1, .bool g1], .agg #[.string k2, .int .i64 v2, .bool g2]] w fun e w' => e = .returned (.bool (EqD ⟨k1, v1, g1⟩ ⟨k2, v2, g2⟩)) ∧ Below w.heap.size w w' := by
  have hk := toList_beq k1 k2
  by_cases h1 : k1 = k2 <;> by_cases h2 : v1 = v2 <;> cases g1 <;> cases g2
  all_goals
    go_enter Try.func114, Try.ntmps114
    go_wp2
    go_ret
    exact ⟨ret_bool (by simp [EqD, h1, h2]), ((Below.refl _ _).alloc (Nat.le_refl _) _).alloc (by simp) _⟩

set_option maxRecDepth 100000 in
theorem eqEditS_any (A : Option Addr) (n c : Nat) (es : List Edt) (A' : Option Addr) (n' c' : Nat) (es' : List Edt) (w : World) (hr : Rd w 3 A n (edtsC es)) (hr' : Rd w 3 A' n' (edtsC es')) (hm : n ≤ maxLen) (hm' : n' ≤ maxLen) (hsame : es = es') :
    Calls Try.prog 102 #[.slice A n c, .slice A' n' c'] w (EqPost true w) := by
  subst hsame
  have hne : n = n' := by rw [← hr.elen, ← hr'.elen]
  unfold maxLen at hm hm'
  have hlen := hr.elen
  have Hlen := Lib.hid hlen; clear hlen
  subst hne
  go_enter Try.func102, Try.ntmps102
  go_wp2
  go_loopw [5] (fun i wr => ∃ k : Nat, k ≤ n ∧ i = .int .i64 k ∧ Below w.heap.size w wr) (fun i _ => n - (intOf i).toNat)
  case atStart => exact ⟨0, Nat.zero_le _, rfl, Below.refl _ _⟩
  case round =>
    obtain ⟨k, hk, rfl, hb⟩ := hrel
    by_cases hlt : k < n
    · have hke : k < es.length := by rw [Hlen.out]; exact hlt
      obtain ⟨b, off, rfl, hbl, hbl2, hc1, hc2, hc3⟩ := hr.edt hb hke
      obtain ⟨b', off', rfl, hbl', hbl2', hc1', hc2', hc3'⟩ := hr'.edt hb hke
      generalize es[k] = ek at *
      obtain ⟨k1, v1, g1⟩ := ek
      have hcall : Hid (∀ W : World, Calls Try.prog 114 #[.agg #[.string k1, .int .i64 v1, .bool g1], .agg #[.string k1, .int .i64 v1, .bool g1]] W fun e w' => e = .returned (.bool true) ∧ Below W.heap.size W w') := fun W => by
        have h := eqEdit_any k1 k1 v1 v1 g1 g1 W
        rw [EqD_iff, decide_eq_true rfl] at h; exact h
      go_wp2
      go_still_tail 8, (by kernel_rfl)
      change wpList _ _ _ _ _ wr.drew
      generalize hw2 : wr.drew = w2
      have hb2 : Below w.heap.size w w2 := by rw [← hw2]; exact hb.drew
      clear hw2 hb
      go_wp2_with fail
      refine (hcall.out _).mono ?_
      rintro e w3 ⟨rfl, hb3⟩
      go_wp2
      go_roundw
      case rel => exact ⟨k + 1, by omega, by go_num, hb2.trans (hb3.mono hb2.size)⟩
      case measure => simp [intOf]; omega
    · go_wp2
      go_ret
      exact ⟨rfl, hb⟩

theorem info_Edit : (Try.prog.info? 124).map (fun i => (i.zero, i.size, i.bytes)) = some (some (.agg #[.string ByteArray.empty, .int .i64 0, .bool false]), 3, 32) := by kernel_rfl

theorem Blk.three {w : World} {g : Nat} {t : TypeId} {cs : Array Value} (h : Blk w g t cs) {k : Nat} (hk : k * 3 + 2 < cs.size) :
    ∃ y0 y1 y2, w.cell? ⟨g, k * 3, none⟩ = some y0 ∧ w.cell? ⟨g, k * 3 + 1, none⟩ = some y1 ∧ w.cell? ⟨g, k * 3 + 2, none⟩ = some y2 ∧ w.frozen? ⟨g, k * 3, none⟩ = false ∧ w.frozen? ⟨g, k * 3 + 1, none⟩ = false ∧ w.frozen? ⟨g, k * 3 + 2, none⟩ = false :=
  ⟨_, _, _, (h.cell _).trans (Array.getElem?_eq_getElem (by omega)), (h.cell _).trans (Array.getElem?_eq_getElem (by omega)), (h.cell _).trans (Array.getElem?_eq_getElem hk), h.frozen _, h.frozen _, h.frozen _⟩

set_option maxRecDepth 100000 in
theorem toEditS_any (A : Option Addr) (n c : Nat) (es : List Edt) (w : World) (hr : Rd w 3 A n (edtsC es)) (hm : n ≤ 1048576) :
    Calls Try.prog 97 #[.slice A n c] w fun e w' => ∃ v, e = .returned v ∧ w'.ownsRow w.heap.size 124 3 v n (edtsC es) ∧ Below w.heap.size w w' := by
  have hlen := hr.elen
  have Hlen := Lib.hid hlen; clear hlen
  obtain ⟨i0, hi, hz0, hz1, hz2⟩ := info_parts info_Edit
  have hmk := fun W => run_make_rowN (P := Try.prog) 100 124 i0 _ Try.underlying100 hi hz0 .i64 .i64 n n (Nat.le_refl _) (by rw [hz2]; omega) (by omega) W
  rw [hz1] at hmk
  have hm' : n ≤ 9223372036854775807 := by omega
  have Hi := Lib.hid hi; clear hi
  clear hz0 hz1 hz2 hm
  go_enter Try.func97, Try.ntmps97
  go_wp2
  have hblk0 : Blk (w.alloc (.cells (madeCells (Value.agg #[Value.string ByteArray.empty, Value.int IntKind.i64 0, Value.bool false]).cells (n * 3)) 124)) w.heap.size 124 (madeCells (Value.agg #[Value.string ByteArray.empty, Value.int IntKind.i64 0, Value.bool false]).cells (n * 3)) := Blk.new _ _ _
  have HB0 := Lib.hid hblk0; clear hblk0
  have hb0 : Below w.heap.size w (w.alloc (.cells (madeCells (Value.agg #[Value.string ByteArray.empty, Value.int IntKind.i64 0, Value.bool false]).cells (n * 3)) 124)) := (Below.refl _ _).alloc (Nat.le_refl _) _
  have HBel := Lib.hid hb0; clear hb0
  generalize hg0 : w.heap.size = g at *
  have Hg0 := Lib.hid hg0; clear hg0
  go_loopw [4] (fun i wr => ∃ (k : Nat) (cs : Array Value), k ≤ n ∧ i = .int .i64 k ∧ Blk wr g 124 cs ∧ cs.size = n * 3 ∧ cs.toList.take (k * 3) = edtsC (es.take k) ∧ Below g w wr) (fun i _ => n - (intOf i).toNat)
  case atStart => exact ⟨0, _, Nat.zero_le _, rfl, HB0.out, by simp [size_madeCells], by simp [edtsC], HBel.out⟩
  case round =>
    obtain ⟨k, cs, hk, rfl, hblk, hsz, htk, hb⟩ := hrel
    by_cases hlt : k < n
    · have hke : k < es.length := by rw [Hlen.out]; exact hlt
      obtain ⟨b, off, rfl, hbl, hbl2, hc1, hc2, hc3⟩ := hr.edt (by rw [Hg0.out]; exact hb) hke
      have hstep : Hid (edtsC (es.take (k + 1)) = edtsC (es.take k) ++ [.string es[k].key, .int .i64 es[k].val, .bool es[k].gone]) := by
        rw [List.take_succ_eq_append_getElem hke, edtsC_append]; rfl
      have HT := Lib.hid htk; clear htk
      have HS := Lib.hid hsz; clear hsz
      have HB := Lib.hid hblk; clear hblk
      generalize es[k] = ek at *
      go_wp2_with fail
      refine (toEdit_any _ _ _ _).mono ?_
      rintro e w1 ⟨rfl, hb1⟩
      have hgl : g < wr.heap.size := HB.out.lt
      have hblk1 : Blk w1 g 124 cs := HB.out.kept hb1
      obtain ⟨y0, y1, y2, hx0, hx1, hx2, hf0, hf1, hf2⟩ := hblk1.three (k := k) (by have := HS.out; omega)
      have HB1 := Lib.hid hblk1; clear hblk1
      go_wp2
      go_roundw
      case rel => exact ⟨k + 1, _, by omega, by go_num, ((HB1.out.set_ _ _).set_ _ _).set_ _ _, by simpa using HS.out, by rw [take_set3 _ _ _ _ _ (by have := HS.out; omega), HT.out, hstep.out], (((hb.trans (hb1.mono (by omega))).setCell (Nat.le_refl g) _).setCell (Nat.le_refl g) _).setCell (Nat.le_refl g) _⟩
      case measure => simp [intOf]; omega
    · have HT := Lib.hid htk; clear htk
      have HS := Lib.hid hsz; clear hsz
      have HB := Lib.hid hblk; clear hblk
      have hkn : k = n := by omega
      have HKN := Lib.hid hkn; clear hkn
      go_wp2
      go_ret
      exact ⟨_, rfl, HB.out.own (Nat.le_of_eq Hg0.out) (Nat.le_refl _) (by unfold maxLen; omega) HS.out (by have h := HT.out; rw [HKN.out, List.take_of_length_le (l := es) (by rw [Hlen.out]; exact Nat.le_refl _)] at h; exact h), by rw [Hg0.out]; exact hb⟩

end Go.Proofs.Ytmfmclnklpbiaaa
namespace Go.Proofs.Ytmfmclnklpbiaaa
open Go.RowKit

def digs : Nat → Int → ByteArray → ByteArray
  | 0, _, t => t
  | f + 1, j, t => if 0 < j then digs f (j / 10) (strOfNums [48 + j % 10] ++ t) else t
def markB (k : Int) : ByteArray := if 0 < k then ⟨#[109]⟩ ++ digs k.toNat k ⟨#[]⟩ else ⟨#[109, 48]⟩
theorem digs_zero (f : Nat) (t : ByteArray) : digs f 0 t = t := by cases f <;> simp [digs]
theorem ret_str {a b : ByteArray} (h : a = b) : Ending.returned (.string a) = .returned (.string b) := by rw [h]

set_option maxRecDepth 100000 in
theorem markText_any (k : Int) (w : World) (h0 : 0 ≤ k) (h1 : k ≤ 1099511627776) :
    Calls Try.prog 47 #[.int .i64 k] w fun e w' => e = .returned (.string (markB k)) ∧ Below w.heap.size w w' := by
  by_cases hk : k ≤ 0
  · have hfin : Hid (markB k = ⟨#[109, 48]⟩) := by show markB k = _; unfold markB; rw [if_neg (by omega)]
    go_enter Try.func47, Try.ntmps47
    go_wp2
    go_ret
    exact ⟨ret_str hfin.out.symm, Below.refl _ _⟩
  have hk' : 0 < k := by omega
  have hfin : Hid (markB k = ⟨#[109]⟩ ++ digs k.toNat k ⟨#[]⟩) := by show markB k = _; unfold markB; rw [if_pos hk']
  have hcv := run_one_byte (P := Try.prog) 36 9 5 Try.underlying36 Try.underlying5 Try.underlying9
  clear hk
  go_enter Try.func47, Try.ntmps47
  go_wp2
  go_loopw [0, 3] (fun x out wr => ∃ (j : Int) (t : ByteArray) (f : Nat), x = .int .i64 j ∧ out = .string t ∧ 0 ≤ j ∧ (t.size : Int) + j ≤ k ∧ j ≤ f ∧ digs f j t = digs k.toNat k ⟨#[]⟩ ∧ Below w.heap.size w wr) (fun x _ _ => (intOf x).toNat)
  case atStart => exact ⟨k, ⟨#[]⟩, k.toNat, rfl, rfl, by omega, by show ((0 : Nat) : Int) + k ≤ k; omega, by omega, rfl, Below.refl _ _⟩
  case round =>
    obtain ⟨j, t, f, rfl, rfl, hj0, hj1, hjf, hd, hb⟩ := hrel
    have HD := Lib.hid hd; clear hd
    by_cases hlt : 0 < j
    · have hone : (strOfNums [48 + j % 10]).size ≤ 1 := Nat.le_refl 1
      obtain ⟨f', hf'⟩ : ∃ f', f = f' + 1 := ⟨f - 1, by omega⟩
      have hst : Hid (digs f' (j / 10) (strOfNums [48 + j % 10] ++ t) = digs k.toNat k ⟨#[]⟩) := by
        have h := HD.out
        rw [hf', digs, if_pos hlt] at h; exact h
      have hsz : Hid ((strOfNums [48 + j % 10] ++ t).size = 1 + t.size) := by
        show (strOfNums [48 + j % 10] ++ t).size = 1 + t.size
        rw [ByteArray.size_append]; rfl
      have hfj : j ≤ (f' : Int) + 1 := by omega
      clear hf' hjf
      go_wp2
      go_roundw
      case rel => exact ⟨_, _, f', rfl, rfl, by omega, by rw [hsz.out]; omega, by omega, hst.out, hb.alloc hb.size _⟩
      case measure => simp [intOf]; omega
    · have hz : j = 0 := by omega
      subst hz
      have hone : t.size ≤ 1099511627776 := by omega
      go_wp2
      go_ret
      exact ⟨ret_str (by rw [hfin.out, ← HD.out, digs_zero]), hb⟩

/-- what a row of entries holds behind its marking, from mark k on -/
def marked : Nat → Int → List Ent
  | 0, _ => []
  | n + 1, k => (markB k, k + 1) :: marked n (k + 2)
theorem marked_length (n : Nat) (k : Int) : (marked n k).length = n := by
  induction n generalizing k with
  | zero => rfl
  | succ n ih => simp [marked, ih]
theorem marked_get (n : Nat) (k0 : Int) (k : Nat) (h : k < n) : (marked n k0)[k]'(by rw [marked_length]; exact h) = (markB (k0 + 2 * k), k0 + 2 * k + 1) := by
  induction n generalizing k0 k with
  | zero => omega
  | succ n ih =>
    cases k with
    | zero => simp [marked]
    | succ k =>
      have := ih (k0 + 2) k (by omega)
      have e : k0 + 2 * ((k + 1 : Nat) : Int) = k0 + 2 + 2 * (k : Int) := by omega
      rw [e, ← this]; simp [marked]
set_option maxRecDepth 100000 in
theorem heldEntryS_any (A : Option Addr) (n c : Nat) (k0 : Int) (w : World) (hr : Rd w 2 A n (entsC (marked n k0))) (hm : n ≤ 1048600) (h0 : 0 ≤ k0) (h1 : k0 ≤ 8388608) :
    Calls Try.prog 76 #[.slice A n c, .int .i64 k0] w fun e w' => e = .returned (.int .i64 (k0 + 2 * n)) ∧ Below w.heap.size w w' := by
  have hlen := hr.len
  have Hlen := Lib.hid hlen; clear hlen
  go_enter Try.func76, Try.ntmps76
  go_wp2
  go_loopw [1, 5] (fun kk i wr => ∃ (k : Nat), k ≤ n ∧ i = .int .i64 k ∧ kk = .int .i64 (k0 + 2 * k) ∧ Below w.heap.size w wr) (fun _ i _ => n - (intOf i).toNat)
  case atStart => exact ⟨0, Nat.zero_le _, rfl, by simp, Below.refl _ _⟩
  case round =>
    obtain ⟨k, hk, rfl, rfl, hb⟩ := hrel
    by_cases hlt : k < n
    · have hke : k < (marked n k0).length := by rw [marked_length]; exact hlt
      obtain ⟨b, off, rfl, hbl, hbl2, hc1, hc2⟩ := hr.ent hb hke
      rw [marked_get n k0 k hlt] at hc1 hc2
      have hcW := cellW hb hbl hc1
      have hcW2 := cellW hb hbl hc2
      clear hc2
      have hcall : Hid (∀ W : World, Calls Try.prog 47 #[.int .i64 (k0 + 2 * (k : Int))] W fun e w' => e = .returned (.string (markB (k0 + 2 * (k : Int)))) ∧ Below W.heap.size W w') := fun W => markText_any _ W (by omega) (by omega)
      generalize markB (k0 + 2 * (k : Int)) = mb at *
      have ht : (!(mb.toList == mb.toList)) = false := by simp
      go_wp2
      go_region_held3 (fun w' => Below w.heap.size w w' ∧ w'.cell? ⟨b, off + k * 2, none⟩ = some (.string mb)) (first | exact ⟨hb.drew, hc1⟩ | exact ⟨keepH (by assumption) hb1, cellS (keepH (by assumption) hb1) hbl hcW⟩)
        (first | (go_at_call 47; refine (hcall.out _).mono ?_; rintro e w1 ⟨rfl, hb1⟩))
      rename_i hH
      obtain ⟨hbb, _⟩ := hH
      have hc2' := cellS hbb hbl hcW2
      go_wp2
      go_roundw
      case rel =>
        refine ⟨k + 1, by omega, by go_num, ?_, hbb⟩
        rw [show k0 + 2 * (k : Int) + 1 + 1 = k0 + 2 * ((k + 1 : Nat) : Int) from by omega]
      case measure => simp [intOf]; omega
    · go_wp2
      go_ret
      exact ⟨ret_int (by omega), hb⟩

end Go.Proofs.Ytmfmclnklpbiaaa
namespace Go.Proofs.Ytmfmclnklpbiaaa
open Go.RowKit

/-- what a row of edits holds behind its marking, from mark k on -/
def markedE : Nat → Int → List Edt
  | 0, _ => []
  | n + 1, k => ⟨markB k, k + 1, (k + 2) % 3 == 0⟩ :: markedE n (k + 3)
theorem markedE_length (n : Nat) (k : Int) : (markedE n k).length = n := by
  induction n generalizing k with
  | zero => rfl
  | succ n ih => simp [markedE, ih]
theorem markedE_snoc (n : Nat) (k : Int) : markedE (n + 1) k = markedE n k ++ [⟨markB (k + 3 * n), k + 3 * n + 1, (k + 3 * n + 2) % 3 == 0⟩] := by
  induction n generalizing k with
  | zero => simp [markedE]
  | succ n ih =>
    rw [markedE, ih, markedE, List.cons_append]
    have e : k + 3 + 3 * (n : Int) = k + 3 * ((n + 1 : Nat) : Int) := by omega
    rw [e]
theorem markedE_get (n : Nat) (k0 : Int) (k : Nat) (h : k < n) : (markedE n k0)[k]'(by rw [markedE_length]; exact h) = ⟨markB (k0 + 3 * k), k0 + 3 * k + 1, (k0 + 3 * k + 2) % 3 == 0⟩ := by
  induction n generalizing k0 k with
  | zero => omega
  | succ n ih =>
    cases k with
    | zero => simp [markedE]
    | succ k =>
      have := ih (k0 + 3) k (by omega)
      have e : k0 + 3 * ((k + 1 : Nat) : Int) = k0 + 3 + 3 * (k : Int) := by omega
      rw [e, ← this]; simp [markedE]

set_option maxHeartbeats 1000000 in
set_option maxRecDepth 100000 in
theorem heldEditS_any (A : Option Addr) (n c : Nat) (k0 : Int) (w : World) (hr : Rd w 3 A n (edtsC (markedE n k0))) (hm : n ≤ 1048600) (h0 : 0 ≤ k0) (h1 : k0 ≤ 8388608) :
    Calls Try.prog 103 #[.slice A n c, .int .i64 k0] w fun e w' => e = .returned (.int .i64 (k0 + 3 * n)) ∧ Below w.heap.size w w' := by
  have hlen := hr.elen
  have Hlen := Lib.hid hlen; clear hlen
  go_enter Try.func103, Try.ntmps103
  go_wp2
  go_loopw [1, 5] (fun kk i wr => ∃ (k : Nat), k ≤ n ∧ i = .int .i64 k ∧ kk = .int .i64 (k0 + 3 * k) ∧ Below w.heap.size w wr) (fun _ i _ => n - (intOf i).toNat)
  case atStart => exact ⟨0, Nat.zero_le _, rfl, by simp, Below.refl _ _⟩
  case round =>
    obtain ⟨k, hk, rfl, rfl, hb⟩ := hrel
    by_cases hlt : k < n
    · have hke : k < (markedE n k0).length := by rw [markedE_length]; exact hlt
      obtain ⟨b, off, rfl, hbl, hbl2, hc1, hc2, hc3⟩ := hr.edt hb hke
      rw [markedE_get n k0 k hlt] at hc1 hc2 hc3
      have hcW2 := cellW hb hbl hc2
      have hcW3 := cellW hb hbl hc3
      simp only at hc1 hcW2 hcW3
      clear hc2 hc3
      have hA0 := fun y : Aft wr => y.cell hbl2 hc1
      have hcall : Hid (∀ W : World, Calls Try.prog 47 #[.int .i64 (k0 + 3 * (k : Int))] W fun e w' => e = .returned (.string (markB (k0 + 3 * (k : Int)))) ∧ Below W.heap.size W w') := fun W => markText_any _ W (by omega) (by omega)
      generalize markB (k0 + 3 * (k : Int)) = mb at *
      have ht : (!(mb.toList == mb.toList)) = false := by simp
      have hpos3 : 0 ≤ k0 + 3 * (k : Int) + 1 + 1 := by omega
      have he2 : k0 + 3 * (k : Int) + 2 = k0 + 3 * (k : Int) + 1 + 1 := by omega
      rw [he2] at hcW3
      clear he2
      go_wp2
      refine wp_region_after (by kernel_rfl) (by kernel_rfl) ?_
      repeat (go_big_quiet_step ((first | (go_at_call 47; exact Aft.call (hcall.out _)))))
      refine wpQuiet_nil ?_
      rintro _ ⟨y, rfl⟩
      have hbb := keepS hb y.below
      generalize y.at_ = w3 at *
      have hc2' := cellS hbb hbl hcW2
      have hc3' := cellS hbb hbl hcW3
      go_wp2
      go_roundw
      case rel =>
        refine ⟨k + 1, by omega, by go_num, ?_, hbb⟩
        rw [show k0 + 3 * (k : Int) + 1 + 1 + 1 = k0 + 3 * ((k + 1 : Nat) : Int) from by omega]
      case measure => simp [intOf]; omega
    · go_wp2
      go_ret
      exact ⟨ret_int (by omega), hb⟩

end Go.Proofs.Ytmfmclnklpbiaaa
namespace Go.Proofs.Ytmfmclnklpbiaaa
open Go.RowKit

end Go.Proofs.Ytmfmclnklpbiaaa
namespace Go.Proofs.Ytmfmclnklpbiaaa
open Go.RowKit

end Go.Proofs.Ytmfmclnklpbiaaa
namespace Go.Proofs.Ytmfmclnklpbiaaa.AM
open Go Go.RowKit
set_option linter.unusedVariables false

def strA (k : ByteArray) : AV := .v (.string k)
def intA (x : Int) : AV := .v (.int .i64 x)
def entA (e : Ent) : AV := .agg [.v (.string e.1), .v (.int .i64 e.2)]
def edtA (e : Edt) : AV := .agg [.v (.string e.key), .v (.int .i64 e.val), .v (.bool e.gone)]
theorem flat_map {α : Type} {f : α → AV} (h : ∀ a, flatA (f a)) : ∀ l : List α, flatL (l.map f)
  | [] => by simp only [List.map_nil]; unfold flatL; trivial
  | a :: l => by simp only [List.map_cons]; unfold flatL; exact ⟨h a, flat_map h l⟩
theorem flat_o0 : ∀ ob ∈ ([] : List OB), flatO ob := fun ob h => by cases h
theorem flat_o1 {t sz : Nat} {xs : List AV} (h : flatL xs) : ∀ ob ∈ [(⟨.s t, sz, xs⟩ : OB)], flatO ob := fun ob hm => by rw [List.mem_singleton] at hm; subst hm; exact h
theorem flat_o2 {t sz t' sz' : Nat} {xs xs' : List AV} (h : flatL xs) (h' : flatL xs') : ∀ ob ∈ [(⟨.s t, sz, xs⟩ : OB), ⟨.s t', sz', xs'⟩], flatO ob := fun ob hm => by
  rcases List.mem_cons.1 hm with rfl | hm
  · exact h
  · exact flat_o1 h' ob hm
theorem flat_ent (e : Ent) : flatA (entA e) := by unfold entA; simp [flatA, flatL]
theorem flat_edt (e : Edt) : flatA (edtA e) := by unfold edtA; simp [flatA, flatL]
theorem flat_str (e : ByteArray) : flatA (strA e) := by unfold strA; simp [flatA]

section
variable {S : Nat → Prop} {w : World}
theorem rl_entA : ∀ {es : List Ent} {cs : List Value}, RL S w (es.map entA) cs ↔ cs = entsC es
  | [], cs => by simp only [List.map_nil]; unfold RL; simp [entsC]
  | e :: es, cs => by
    simp only [List.map_cons]
    constructor
    · intro h
      unfold RL at h
      obtain ⟨c1, c2, rfl, h1, h2⟩ := h
      rw [rl_entA.1 h2, entsC_cons]
      unfold entA at h1
      simp only [RA, RL] at h1
      obtain ⟨a, b, rfl, ⟨rfl, _⟩, d1, d2, rfl, ⟨rfl, _⟩, rfl⟩ := h1
      rfl
    · intro h
      unfold RL
      refine ⟨[.string e.1, .int .i64 e.2], entsC es, by rw [h, entsC_cons]; rfl, ?_, rl_entA.2 rfl⟩
      exact ra_agg (rl_cons (c1 := [_]) (ra_v rfl) (rl_cons (c1 := [_]) (ra_v rfl) rl_nil))
theorem rl_edtA : ∀ {es : List Edt} {cs : List Value}, RL S w (es.map edtA) cs ↔ cs = edtsC es
  | [], cs => by simp only [List.map_nil]; unfold RL; simp [edtsC]
  | e :: es, cs => by
    simp only [List.map_cons]
    constructor
    · intro h
      unfold RL at h
      obtain ⟨c1, c2, rfl, h1, h2⟩ := h
      rw [rl_edtA.1 h2, edtsC_cons]
      unfold edtA at h1
      simp only [RA, RL] at h1
      obtain ⟨a, b, rfl, ⟨rfl, _⟩, d1, d2, rfl, ⟨rfl, _⟩, f1, f2, rfl, ⟨rfl, _⟩, rfl⟩ := h1
      rfl
    · intro h
      unfold RL
      refine ⟨[.string e.key, .int .i64 e.val, .bool e.gone], edtsC es, by rw [h, edtsC_cons]; rfl, ?_, rl_edtA.2 rfl⟩
      exact ra_agg (rl_cons (c1 := [_]) (ra_v rfl) (rl_cons (c1 := [_]) (ra_v rfl) (rl_cons (c1 := [_]) (ra_v rfl) rl_nil)))
theorem all_edt (es : List Edt) : ∀ x ∈ es.map edtA, asz x = 3 := fun x hx => by obtain ⟨e, _, rfl⟩ := List.mem_map.1 hx; rfl
/-- an argument that reads as entries -/
theorem arg_ents {S0 : Nat → Prop} {hp B V} (hS : ∀ b, S0 b → b < w.heap.size) {es : List Ent} {u : Value} (h : RV S0 w hp B V (.lst 2 (es.map entA)) u) : ∃ A c, u = .slice A es.length c ∧ es.length ≤ c ∧ c ≤ maxLen ∧ Rd w 2 A es.length (entsC es) := by
  unfold RV at h
  unfold RA at h
  obtain ⟨A, c, e, h1, h2, _, _, h4⟩ := h
  simp only [List.cons.injEq, and_true, List.length_map] at e h1
  refine ⟨A, c, e, h1, h2, by rw [entsC_length], fun hn => ?_⟩
  rcases h4 with h4 | ⟨b, off, us, rfl, hb, hr, hc⟩
  · have := List.map_eq_nil_iff.1 h4; subst this; simp at hn
  · rw [rl_entA.1 hr] at hc
    exact ⟨b, off, rfl, hS b hb, hc⟩
theorem arg_edts {S0 : Nat → Prop} {hp B V} (hS : ∀ b, S0 b → b < w.heap.size) {es : List Edt} {u : Value} (h : RV S0 w hp B V (.lst 3 (es.map edtA)) u) : ∃ A c, u = .slice A es.length c ∧ es.length ≤ c ∧ c ≤ maxLen ∧ Rd w 3 A es.length (edtsC es) := by
  unfold RV at h
  unfold RA at h
  obtain ⟨A, c, e, h1, h2, _, _, h4⟩ := h
  simp only [List.cons.injEq, and_true, List.length_map] at e h1
  refine ⟨A, c, e, h1, h2, by rw [edtsC_length], fun hn => ?_⟩
  rcases h4 with h4 | ⟨b, off, us, rfl, hb, hr, hc⟩
  · have := List.map_eq_nil_iff.1 h4; subst this; simp at hn
  · rw [rl_edtA.1 hr] at hc
    exact ⟨b, off, rfl, hS b hb, hc⟩
theorem arg_v {S0 : Nat → Prop} {hp B V} {x u : Value} (h : RV S0 w hp B V (.v x) u) : u = x := by unfold RV at h; exact h.1
theorem rvs1 {S0 : Nat → Prop} {hp B V} {x : AV} {us : List Value} (h : RVs S0 w hp B V [x] us) : ∃ u, us = [u] ∧ RV S0 w hp B V x u := by
  unfold RVs at h; obtain ⟨u, us', rfl, h1, h2⟩ := h; unfold RVs at h2; subst h2; exact ⟨u, rfl, h1⟩
theorem rvsc {S0 : Nat → Prop} {hp B V} {x : AV} {xs : List AV} {us : List Value} (h : RVs S0 w hp B V (x :: xs) us) : ∃ u us', us = u :: us' ∧ RV S0 w hp B V x u ∧ RVs S0 w hp B V xs us' := by
  unfold RVs at h; exact h
end

section
variable {P : Program} {f : FuncId} {fn : Func} {args : List AV}
theorem ent_of (hf : P.funcs[f]? = some fn) (hnm : (fn.name == "runtime.NumGoroutine") = false) (hb : fn.body.isNone = false) : ∀ vs w, (callFunc f vs).run P w = .ok (.enter f vs) w := fun vs w => by
  simp only [callFunc, Sem.run_bind, run_program, Result.andThen_ok, hf, hnm, hb]; rfl
theorem rvs_none {S : Nat → Prop} {w : World} {hp hp' : Nat → Option OB} {B B' : Nat → Nat} {V V' : Nat → Value} {xs : List AV} {vs : List Value} (hn : ∀ l, hp l = none) (h : RVs S w hp B V xs vs) : RVs S w hp' B' V' xs vs :=
  RVs.carry (fun _ h => h) (fun _ _ => rfl) _ _ (fun l _ ob e => by rw [hn] at e; cases e) h
theorem rows_none {S : Nat → Prop} {w : World} {hp : Nat → Option OB} {B : Nat → Nat} {V : Nat → Value} {T : Nat → Nat → Prop} {lo : Nat → Prop} (hn : ∀ l, hp l = none) : Rows S w hp (fun _ => none) B V T lo :=
  ⟨fun l ob e => (by rw [hn] at e; cases e), fun l ob g e => (by rw [hn] at e; cases e), fun l ob g e => (by rw [hn] at e; cases e), fun l l' o1 o2 g e => (by rw [hn] at e; cases e), fun l es e => (by cases e)⟩
theorem obs_nil (l : Nat) : obsF [] l = none := by simp [obsF]
theorem owns_any {w : World} {b t sz n : Nat} {v : Value} {cs : List Value} (h : w.ownsRow b t sz v n cs) : w.ownsRow 0 t sz v n cs := by
  refine ⟨h.1, ?_⟩
  rcases h.2 with k | ⟨g, cap, cur, e, hb, r⟩
  · exact .inl k
  · exact .inr ⟨g, cap, cur, e, Nat.zero_le _, r⟩
/-- a contract whose result is a plain value -/
theorem ac_val {r : Value} (hent : ∀ vs w, (callFunc f vs).run P w = .ok (.enter f vs) w) (h1 : r.oneCell' = true)
    (h : ∀ (w : World) (S0 : Nat → Prop) (vs : List Value), (∀ b, S0 b → b < w.heap.size) → RVs S0 w (fun _ => none) (fun _ => 0) (fun _ => undef) args vs → Calls P f vs.toArray w fun e w' => e = .returned r ∧ Below w.heap.size w w') : AC P f args ⟨.v r, []⟩ :=
  ⟨hent, fun w S0 B0 V0 T0 vs hS _ hv => (h w S0 vs hS (rvs_none (fun _ => rfl) hv)).mono fun e w' ⟨he, hb⟩ => ⟨r, S0, fun _ => 0, fun _ => undef, fun _ => Fa, fun _ => Fa, he, Grown.of hb _, fun _ h => h, fun b hb' => ⟨Nat.lt_of_lt_of_le (hS b hb') hb.size, .inl hb'⟩, by unfold RV; exact ⟨rfl, h1⟩, rows_none obs_nil, rows_none (fun _ => rfl), fun l l' ob ob' g e => (by rw [obs_nil] at e; cases e)⟩⟩
theorem rows_one {S : Nat → Prop} {w' : World} {base : Nat} {t sz : Nat} {xs : List AV} {v : Value} {cs : List Value} {lo : Nat → Prop} (hlo : ∀ g, base ≤ g → lo g) (hS : ∀ b, S b → b < base) (ho : w'.ownsRow base t sz v xs.length cs) (ha : ∀ x ∈ xs, asz x = sz) (h0 : 0 < sz) (hr : RL S w' xs cs) : Rows S w' (obsF [⟨.s t, sz, xs⟩]) (fun _ => none) (fun _ => (v.ownBlock).getD 0) (fun _ => v) (fun _ => Fa) lo := by
  have h0' : ∀ l ob, obsF [(⟨.s t, sz, xs⟩ : OB)] l = some ob → l = 0 ∧ ob = ⟨.s t, sz, xs⟩ := fun l ob e => by
    cases l with
    | zero => simp [obsF] at e; exact ⟨rfl, e.symm⟩
    | succ l => simp [obsF] at e
  refine ⟨fun l ob e => ?_, fun l ob g e hb => ?_, fun l ob g e _ hb => hb.elim, fun l l' o1 o2 g e1 e2 _ _ => ?_, fun l es e => by cases e⟩
  · obtain ⟨rfl, rfl⟩ := h0' l ob e
    exact ⟨t, cs, ⟨fun t' e => by cases e; rfl, trivial⟩, hr, ha, h0, owns_any ho, fun g hg => by rw [hg]; rfl⟩
  · rcases hb with hb | hb
    · have := ho.lt g hb
      exact ⟨fun hs => by have := hS g hs; omega, this.2, hlo g this.1⟩
    · exact hb.elim
  · rw [(h0' l o1 e1).1, (h0' l' o2 e2).1]
/-- a contract whose result is a row of its own -/
theorem ac_own {e : TypeId} {sz : Nat} {xs : List AV} {cs : List Value} (hent : ∀ vs w, (callFunc f vs).run P w = .ok (.enter f vs) w) (ha : ∀ x ∈ xs, asz x = sz) (h0 : 0 < sz) (hr : ∀ S w, RL S w xs cs)
    (h : ∀ (w : World) (S0 : Nat → Prop) (vs : List Value), (∀ b, S0 b → b < w.heap.size) → RVs S0 w (fun _ => none) (fun _ => 0) (fun _ => undef) args vs → Calls P f vs.toArray w fun en w' => ∃ v, en = .returned v ∧ w'.ownsRow w.heap.size e sz v xs.length cs ∧ Below w.heap.size w w') : AC P f args ⟨.own 0, [⟨.s e, sz, xs⟩]⟩ :=
  ⟨hent, fun w S0 B0 V0 T0 vs hS _ hv => (h w S0 vs hS (rvs_none (fun _ => rfl) hv)).mono fun en w' ⟨v, he, ho, hb⟩ =>
    ⟨v, S0, fun _ => (v.ownBlock).getD 0, fun _ => v, fun _ => Fa, fun _ => Fa, he, Grown.of hb _, fun _ h => h, fun b hb' => ⟨Nat.lt_of_lt_of_le (hS b hb') hb.size, .inl hb'⟩, by unfold RV; exact ⟨⟨_, rfl⟩, rfl⟩, rows_one (fun g hg => .inl hg) hS ho ha h0 (hr _ _), rows_none (fun _ => rfl), fun l l' ob ob' g _ e => by cases e⟩⟩
end

theorem ent_71 : ∀ vs w, (callFunc 71 vs).run Try.prog w = .ok (.enter 71 vs) w := ent_of Try.func71 (by kernel_rfl) (by kernel_rfl)
theorem ent_76 : ∀ vs w, (callFunc 76 vs).run Try.prog w = .ok (.enter 76 vs) w := ent_of Try.func76 (by kernel_rfl) (by kernel_rfl)
theorem ent_47 : ∀ vs w, (callFunc 47 vs).run Try.prog w = .ok (.enter 47 vs) w := ent_of Try.func47 (by kernel_rfl) (by kernel_rfl)
theorem ent_97 : ∀ vs w, (callFunc 97 vs).run Try.prog w = .ok (.enter 97 vs) w := ent_of Try.func97 (by kernel_rfl) (by kernel_rfl)
theorem ent_103 : ∀ vs w, (callFunc 103 vs).run Try.prog w = .ok (.enter 103 vs) w := ent_of Try.func103 (by kernel_rfl) (by kernel_rfl)
theorem ac_eqEntryS {es es' : List Ent} (hm : es.length ≤ maxLen) (hm' : es'.length ≤ maxLen) : AC Try.prog 71 [.lst 2 (es.map entA), .lst 2 (es'.map entA)] ⟨.v (.bool (decide (es = es'))), []⟩ :=
  ac_val ent_71 rfl fun w S0 vs hS hv => by
    obtain ⟨u, us, rfl, h1, hv⟩ := rvsc hv
    obtain ⟨u', rfl, h2⟩ := rvs1 hv
    obtain ⟨A, c, rfl, _, _, hr⟩ := arg_ents hS h1
    obtain ⟨A', c', rfl, _, _, hr'⟩ := arg_ents hS h2
    exact eqEntryS_any A _ c es A' _ c' es' w hr hr' hm hm'
theorem ac_heldEntryS {n : Nat} {k : Int} (hm : n ≤ 1048600) (h0 : 0 ≤ k) (h1 : k ≤ 8388608) : AC Try.prog 76 [.lst 2 ((marked n k).map entA), .v (.int .i64 k)] ⟨.v (.int .i64 (k + 2 * n)), []⟩ :=
  ac_val ent_76 rfl fun w S0 vs hS hv => by
    obtain ⟨u, us, rfl, h1', hv⟩ := rvsc hv
    obtain ⟨u', rfl, h2⟩ := rvs1 hv
    obtain ⟨A, c, rfl, _, _, hr⟩ := arg_ents hS h1'
    rw [arg_v h2]
    rw [marked_length] at hr ⊢
    exact heldEntryS_any A n c k w hr hm h0 h1
theorem ac_markText {k : Int} (h0 : 0 ≤ k) (h1 : k ≤ 1099511627776) : AC Try.prog 47 [.v (.int .i64 k)] ⟨.v (.string (markB k)), []⟩ :=
  ac_val ent_47 rfl fun w S0 vs hS hv => by
    obtain ⟨u', rfl, h2⟩ := rvs1 hv
    rw [arg_v h2]
    exact markText_any k w h0 h1
theorem ac_toEditS {es : List Edt} (hm : es.length ≤ 1048576) : AC Try.prog 97 [.lst 3 (es.map edtA)] ⟨.own 0, [⟨124, 3, es.map edtA⟩]⟩ :=
  ac_own (cs := edtsC es) ent_97 (all_edt _) (by omega) (fun S w => rl_edtA.2 rfl) fun w S0 vs hS hv => by
    obtain ⟨u, rfl, h1⟩ := rvs1 hv
    obtain ⟨A, c, rfl, _, _, hr⟩ := arg_edts hS h1
    rw [List.length_map]
    exact toEditS_any A _ c es w hr hm
theorem ac_eqEditS {es : List Edt} (hm : es.length ≤ maxLen) : AC Try.prog 102 [.lst 3 (es.map edtA), .lst 3 (es.map edtA)] ⟨.v (.bool true), []⟩ :=
  ac_val (ent_of Try.func102 (by kernel_rfl) (by kernel_rfl)) rfl fun w S0 vs hS hv => by
    obtain ⟨u, us, rfl, h1, hv⟩ := rvsc hv
    obtain ⟨u', rfl, h2⟩ := rvs1 hv
    obtain ⟨A, c, rfl, _, _, hr⟩ := arg_edts hS h1
    obtain ⟨A', c', rfl, _, _, hr'⟩ := arg_edts hS h2
    exact eqEditS_any A _ c es A' _ c' es w hr hr' hm hm rfl
theorem ac_heldEditS {n : Nat} {k : Int} (hm : n ≤ 1048600) (h0 : 0 ≤ k) (h1 : k ≤ 8388608) : AC Try.prog 103 [.lst 3 ((markedE n k).map edtA), .v (.int .i64 k)] ⟨.v (.int .i64 (k + 3 * n)), []⟩ :=
  ac_val ent_103 rfl fun w S0 vs hS hv => by
    obtain ⟨u, us, rfl, h1', hv⟩ := rvsc hv
    obtain ⟨u', rfl, h2⟩ := rvs1 hv
    obtain ⟨A, c, rfl, _, _, hr⟩ := arg_edts hS h1'
    rw [arg_v h2]
    rw [markedE_length] at hr ⊢
    exact heldEditS_any A n c k w hr hm h0 h1
end Go.Proofs.Ytmfmclnklpbiaaa.AM
namespace Go.Proofs.Ytmfmclnklpbiaaa.AM
open Go Go.RowKit
set_option linter.unusedVariables false
set_option maxRecDepth 100000

def szF {α : Type} (g : α → Nat) : List α → Int → Int
  | [], l => l
  | e :: es, l => if l - g e < 0 then -1 else szF g es (l - g e)
def szL {α : Type} (g : α → Nat) (es : List α) (l : Int) : Int := if l - es.length < 0 then -1 else szF g es (l - es.length)
theorem szF_le {α : Type} {g : α → Nat} : ∀ {es : List α} {l : Int}, 0 ≤ szF g es l → szF g es l ≤ l ∧ ∀ e ∈ es, (g e : Int) ≤ l
  | [], l, h => ⟨Int.le_refl _, by simp⟩
  | e :: es, l, h => by
    unfold szF at h ⊢
    split at h
    · omega
    · rename_i hn
      rw [if_neg hn]
      obtain ⟨h1, h2⟩ := szF_le h
      refine ⟨by omega, fun x hx => ?_⟩
      rcases List.mem_cons.1 hx with rfl | hx
      · omega
      · have := h2 x hx; omega
theorem szL_le {α : Type} {g : α → Nat} {es : List α} {l : Int} (h : 0 ≤ szL g es l) : szL g es l ≤ l ∧ (es.length : Int) ≤ l ∧ ∀ e ∈ es, (g e : Int) ≤ l := by
  unfold szL at h ⊢
  split at h
  · omega
  · rename_i hn
    rw [if_neg hn]
    obtain ⟨h1, h2⟩ := szF_le h
    exact ⟨by omega, by omega, fun e he => by have := h2 e he; omega⟩
abbrev xSz (e : Edt) : Nat := e.key.size
attribute [local irreducible] ACode AOps AOps2 RetG RetM Pre ACG

theorem szF_drop {α : Type} {g : α → Nat} {es : List α} {k : Nat} {l : Int} (h : k < es.length) : szF g (es.drop k) l = if l - g es[k] < 0 then -1 else szF g (es.drop (k + 1)) (l - g es[k]) := by
  rw [List.drop_eq_getElem_cons h, szF]
end Go.Proofs.Ytmfmclnklpbiaaa.AM
namespace Go.Proofs.Ytmfmclnklpbiaaa.AM
open Go Go.RowKit
set_option linter.unusedVariables false
set_option maxRecDepth 100000

section
variable {P : Program} {t : TypeId} {x y : Operand} {a b : ByteArray}
theorem b_sne_t (h : a ≠ b) : BinOK P .neq t x y (.string a) (.string b) (.bool true) := b_str fun w => by simp [Op.stringOp, toList_beq, h]
theorem b_sne_f (h : a = b) : BinOK P .neq t x y (.string a) (.string b) (.bool false) := b_str fun w => by simp [Op.stringOp, h]
theorem b_seq_t (h : a = b) : BinOK P .eql t x y (.string a) (.string b) (.bool true) := b_str fun w => by simp [Op.stringOp, h]
theorem b_seq_f (h : a ≠ b) : BinOK P .eql t x y (.string a) (.string b) (.bool false) := b_str fun w => by simp [Op.stringOp, toList_beq, h]
end
attribute [local irreducible] ACode AOps AOps2 RetG RetM Pre ACG

theorem ac_szEdit {e : Edt} {l : Int} (hk : e.key.size ≤ maxLen) (h0 : 0 ≤ l) (h1 : l ≤ 1048576) : AC Try.prog 108 [edtA e, .v (.int .i64 l)] ⟨.v (.int .i64 (if l - e.key.size < 0 then -1 else l - e.key.size)), []⟩ := by
  unfold maxLen at hk
  by_cases hn : l - e.key.size < 0
  · rw [if_pos hn]
    refine r_of Th_ok (by kernel_rfl) Try.func108 rfl Try.ntmps108 Try.results108 (by kernel_rfl) rfl ?_; conv => whnf
    repeat (((first | refine qb rfl rfl ?_ | refine qi (by assumption) rfl rfl ?_ | refine ql rfl ?_ | refine qo rfl rfl ?_ | refine qs rfl rfl ?_ | refine qn rfl rfl ?_); conv => whnf))
    exact r_ret1 rfl trivial
  · rw [if_neg hn]
    refine r_of Th_ok (by kernel_rfl) Try.func108 rfl Try.ntmps108 Try.results108 (by kernel_rfl) rfl ?_; conv => whnf
    repeat (((first | refine qb rfl rfl ?_ | refine qi (by assumption) rfl rfl ?_ | refine ql rfl ?_ | refine qo rfl rfl ?_ | refine qs rfl rfl ?_ | refine qn rfl rfl ?_); conv => whnf))
    exact r_ret1 rfl trivial
theorem ac_szEditS {es : List Edt} {l : Int} (hm : es.length ≤ maxLen) (hk : ∀ e ∈ es, e.key.size ≤ maxLen) (h0 : 0 ≤ l) (h1 : l ≤ 1048576) : AC Try.prog 94 [.lst 3 (es.map edtA), .v (.int .i64 l)] ⟨.v (.int .i64 (szL xSz es l)), []⟩ := by
  unfold maxLen at hm
  by_cases hn : l - es.length < 0
  · rw [szL, if_pos hn]
    refine r_of Th_ok (by kernel_rfl) Try.func94 rfl Try.ntmps94 Try.results94 (by kernel_rfl) rfl ?_; conv => whnf
    repeat (((first | refine qb rfl rfl ?_ | refine qi (by assumption) rfl rfl ?_ | refine ql rfl ?_ | refine qo rfl rfl ?_ | refine qs rfl rfl ?_ | refine qn rfl rfl ?_); conv => whnf))
    exact r_ret1 rfl trivial
  · rw [szL, if_neg hn]
    refine r_of Th_ok (by kernel_rfl) Try.func94 rfl Try.ntmps94 Try.results94 (by kernel_rfl) rfl ?_; conv => whnf
    repeat (((first | refine qb rfl rfl ?_ | refine qi (by assumption) rfl rfl ?_ | refine ql rfl ?_ | refine qo rfl rfl ?_ | refine qs rfl rfl ?_ | refine qn rfl rfl ?_); conv => whnf))
    refine r_loop (ι := { p : Nat × Int // p.1 ≤ es.length ∧ 0 ≤ p.2 ∧ p.2 ≤ l ∧ szF xSz (es.drop p.1) p.2 = szF xSz es (l - es.length) }) (fun p => ⟨[(0, .lst 3 (es.map edtA)), (1, .v (.int .i64 p.1.2)), (5, .v (.int .i64 (p.1.1 : Int)))], []⟩) (fun p => es.length - p.1.1) ⟨(0, l - es.length), by simp, by omega, by omega, rfl⟩ (by refine ⟨?_, ?_⟩ <;> (repeat (first | trivial | exact ⟨rfl, trivial⟩ | refine ⟨rfl, ?_⟩ | refine ⟨.inl ⟨rfl, rfl⟩, ?_⟩ | refine ⟨.inr ⟨_, _, rfl, rfl, rfl, rfl, rfl⟩, ?_⟩))) ?_
    rintro ⟨⟨k, cur⟩, hkl, hc0, hc1, hsz⟩
    simp only at hkl hc0 hc1 hsz ⊢
    conv => whnf
    by_cases hlt : k < es.length
    · have hd := szF_drop (g := xSz) (l := cur) hlt
      rw [hsz] at hd
      by_cases hneg : cur - (es[k]).key.size < 0
      · rw [if_pos hneg] at hd
        rw [hd]
        repeat (first | ((first | refine qb rfl rfl ?_ | refine qi (by assumption) rfl rfl ?_ | refine ql rfl ?_ | refine qo rfl rfl ?_ | refine qs rfl rfl ?_ | refine qn rfl rfl ?_); conv => whnf) | (refine r_put (p_call (ac_szEdit (hk _ (List.getElem_mem hlt)) (by omega) (by omega)) rfl (.inl rfl) trivial rfl rfl) rfl rfl ?_; rw [if_pos hneg]; conv => whnf))
        exact r_ret1 rfl trivial
      · rw [if_neg hneg] at hd
        repeat (first | ((first | refine qb rfl rfl ?_ | refine qi (by assumption) rfl rfl ?_ | refine ql rfl ?_ | refine qo rfl rfl ?_ | refine qs rfl rfl ?_ | refine qn rfl rfl ?_); conv => whnf) | (refine r_put (p_call (ac_szEdit (hk _ (List.getElem_mem hlt)) (by omega) (by omega)) rfl (.inl rfl) trivial rfl rfl) rfl rfl ?_; rw [if_neg hneg]; conv => whnf))
        exact ⟨⟨(k + 1, cur - (es[k]).key.size), by simp; omega, by omega, by omega, hd.symm⟩, by refine ⟨?_, ?_⟩ <;> (repeat (first | trivial | exact ⟨rfl, trivial⟩ | refine ⟨rfl, ?_⟩ | refine ⟨.inl ⟨rfl, rfl⟩, ?_⟩ | refine ⟨.inr ⟨_, _, rfl, rfl, rfl, rfl, rfl⟩, ?_⟩)), by simp; omega⟩
    · have hkk : k = es.length := by omega
      rw [hkk, List.drop_length] at hsz
      rw [← hsz]
      repeat (((first | refine qb rfl rfl ?_ | refine qi (by assumption) rfl rfl ?_ | refine ql rfl ?_ | refine qo rfl rfl ?_ | refine qs rfl rfl ?_ | refine qn rfl rfl ?_); conv => whnf))
      exact r_ret1 rfl trivial
end Go.Proofs.Ytmfmclnklpbiaaa.AM
namespace Go.Proofs.Ytmfmclnklpbiaaa
open Go.RowKit

def TupE (e : TypeId) (r : List Edt × Int) (w : World) (e' : Ending) (w' : World) : Prop := ∃ v, e' = .returned (.tuple #[v, .int .i64 r.2]) ∧ w'.ownsRow w.heap.size e 3 v r.1.length (edtsC r.1) ∧ Below w.heap.size w w'
theorem TupE.mk {e : TypeId} {r : List Edt × Int} {l : List Edt} {c : Int} {v : Value} {w w' : World} (h : r = (l, c)) (ho : w'.ownsRow w.heap.size e 3 v l.length (edtsC l)) (hb : Below w.heap.size w w') : TupE e r w (.returned (.tuple #[v, .int .i64 c])) w' := ⟨v, by rw [h], by rw [h]; exact ho, hb⟩
end Go.Proofs.Ytmfmclnklpbiaaa
namespace Go.Proofs.Ytmfmclnklpbiaaa.AM
open Go Go.RowKit
set_option linter.unusedVariables false
set_option linter.unusedSimpArgs false
set_option maxRecDepth 100000
attribute [local irreducible] ACode AOps AOps2 RetG RetM Pre ACG
theorem fill_set {α : Type} (l : List α) (z : α) (k : Nat) (h : k < l.length) : (l.take k ++ List.replicate (l.length - k) z).set k l[k] = l.take (k + 1) ++ List.replicate (l.length - (k + 1)) z := by
  have h1 : l.length - k = (l.length - (k + 1)) + 1 := by omega
  rw [h1, List.replicate_succ, List.set_append_right _ _ (by simp; omega), List.take_succ_eq_append_getElem h, List.append_assoc]
  have : k - (l.take k).length = 0 := by simp; omega
  rw [this]; rfl
end Go.Proofs.Ytmfmclnklpbiaaa.AM
namespace Go.Proofs.Ytmfmclnklpbiaaa.AM
open Go Go.RowKit
set_option linter.unusedVariables false
set_option linter.unusedSimpArgs false
set_option maxRecDepth 100000

abbrev Cmt := List Int × List Ent
theorem flat_int (e : Int) : flatA (intA e) := by unfold intA; simp [flatA]
def szG {α : Type} (g : α → Int → Int) : List α → Int → Int
  | [], l => l
  | e :: es, l => if g e l < 0 then -1 else szG g es (g e l)
/-- a row that is given up is stored, to be read from now on -/
theorem p_ostoref {P : Program} {Θ : Tab} {s : St} {d : Option Tmp} {ty : TypeId} {pos : String} {after : Array Edge} {g : Option (Nat × Bool)} {t : TypeId} {x y : Operand} {l l' i c : Nat} {p : List Nat} {ob ob' : OB} {q z : AV} (hq : ob.xs[i]? = some q) (hx : s.ev x = .optr l i p c) (ho : s.hp l = some ob) (hg : getP q p 0 = some (z, c)) (hs : ((Θ.look t).known && (Nat.beq (asz z) (Θ.look t).size && Nat.beq 1 (asz z))) = true) (hy : s.ev y = .own l') (ho' : s.hp l' = some ob') (hn : Nat.beq l l' = false) (hop : ob.e.open_ = true := by rfl) (hsh : ob'.e.shut = true := by rfl) (hok : okL l' = true := by rfl) (hc : cOK y = true := by rfl) :
    Pre P Θ ⟨d, .store t x y, ty, pos, after, g⟩ s ⟨.any, some fun s' => (s'.frz l').set l (some ⟨.s (ob.e.typ.getD 0), ob.sz, ob.xs.set i (setP q p (.lst ob'.sz ob'.xs))⟩)⟩ := by
  simp only [Bool.and_eq_true] at hs
  have hd : s.dat (s.ev y) = .lst ob'.sz ob'.xs := by rw [hy]; simp [St.dat, ho', hsh]
  have hown : ownsA (s.ev y) = [l'] := by rw [hy]; rfl
  have hda : isDataA s (s.ev y) = true := by rw [hy]; simp [isDataA, ho', hsh]
  obtain ⟨t0, he⟩ : ∃ t0, ob.e = .s t0 ∨ ob.e = .z t0 := by
    cases h : ob.e with
    | s t0 => exact ⟨t0, .inl rfl⟩
    | z t0 => exact ⟨t0, .inr rfl⟩
    | _ => rw [h] at hop; cases hop
  have ht : ob.e.typ.getD 0 = t0 := by rcases he with he | he <;> rw [he] <;> rfl
  have hne : l ≠ l' := fun e => by rw [e] at hn; simp at hn
  refine ⟨cOK_spec hc, hs.1, l, i, p, c, ob, hx, ho, .inl ⟨t0, q, z, he, hq, hg, Nat.eq_of_beq_eq_true hs.2.1, by rw [hd]; exact Nat.eq_of_beq_eq_true hs.2.2, hda, by rw [hown]; simpa using hne, by rw [hown]; simp [hok], ?_⟩⟩
  rw [hd, hown, ht]; rfl
theorem r_cell1 {s : St} {a t l : Nat} {ob : OB} {x : AV} {Θ : Tab} (h1 : s.sl a = .optr l 0 [] 0) (ho : s.hp l = some ob) (hx : ob.xs[0]? = some x) (hk : ((Θ.look t).known && (Bool.xor (isAggA x) (Θ.look t).isAgg).not && Nat.beq (asz x) (Θ.look t).size) = true) (hd : (match x with | .v _ | .agg _ | .lst _ _ | .any => True | _ => False)) (hop : ob.e.open_ = true := by rfl) :
    RetQ Θ [.cell a t] ⟨x, []⟩ .ret s := by
  have hr : rvA s (.cell a t) = x := by
    simp only [rvA, h1, ho, hop, hx, cond_true, Option.getD_some]
  simp only [Bool.and_eq_true] at hk
  refine ⟨trivial, [], by simp, trivial, ⟨⟨hk.1.1, by rw [hr]; exact xor_not hk.1.2, by rw [hr]; exact Nat.eq_of_beq_eq_true hk.2, .inl ⟨l, ob, x, h1, ho, .inl ⟨hop, hx⟩⟩⟩, trivial⟩, trivial, ⟨.inl ?_, trivial⟩⟩
  rw [hr]
  cases x <;> first | exact ⟨rfl, rfl⟩ | exact hd.elim
attribute [local irreducible] ACode AOps AOps2 RetG RetM Pre ACG

end Go.Proofs.Ytmfmclnklpbiaaa.AM
namespace Go.Proofs.Ytmfmclnklpbiaaa.AM
open Go Go.RowKit
set_option linter.unusedVariables false
set_option linter.unusedSimpArgs false
set_option maxRecDepth 100000
section
variable {P : Program} {Θ : Tab} {s : St} {d : Option Tmp} {ty : TypeId} {pos : String} {after : Array Edge} {g : Option (Nat × Bool)}
end
section
variable {s : St} {Θ : Tab}
end
end Go.Proofs.Ytmfmclnklpbiaaa.AM
namespace Go.Proofs.Ytmfmclnklpbiaaa.AM
open Go Go.RowKit
set_option linter.unusedVariables false
set_option linter.unusedSimpArgs false
set_option maxRecDepth 100000

theorem run_beqIn {P : Program} {w : World} {t : TypeId} {a b : Bool} (d : Nat) (h : P.underlying t = some .bool) : (Op.equalIn (d + 1) t (.bool a) (.bool b)).run P w = .ok (a == b) w := by
  simp [Op.equalIn, run_underlying h]
theorem run_beq {P : Program} {w : World} {t : TypeId} {a b : Bool} (h : P.underlying t = some .bool) : (Op.equal t (.bool a) (.bool b)).run P w = .ok (a == b) w := by
  exact run_beqIn 9999 h
theorem b_bne {P : Program} {t : TypeId} {x y : Operand} {a b : Bool} (h : P.underlying t = some .bool) : BinOK P .neq t x y (.bool a) (.bool b) (.bool (a != b)) := fun w => by
  simp [eqGuard, binOp, run_beq h]; cases a <;> cases b <;> rfl
theorem p_lslm {P : Program} {Θ : Tab} {s : St} {d : Option Tmp} {ty : TypeId} {pos : String} {after : Array Edge} {g : Option (Nat × Bool)} {α : Type} {f : α → AV} {t : TypeId} {x y : Operand} {el sz b h : Nat} {k : IntKind} {z : AV} {xs : List α} (hh : h ≤ xs.length) (ht : Θ.look t = .slice el sz b z) (hx : s.ev x = .lst sz (xs.map f)) (hy : s.ev y = .v (.int k (h : Int))) : Pre P Θ ⟨d, .slice t x none (some y) none, ty, pos, after, g⟩ s ⟨.lst sz ((xs.take h).map f), none⟩ := by
  have := p_lslice (P := P) (Θ := Θ) (s := s) (d := d) (ty := ty) (pos := pos) (after := after) (g := g) (t := t) (x := x) (lo := none) (hi := some y) (l := 0) (h := h) (xs := xs.map f) (Nat.zero_le _) (by simpa using hh) ht hx rfl ⟨k, hy⟩
  rw [List.drop_zero, ← List.map_take] at this
  exact this
attribute [local irreducible] ACode AOps AOps2 RetG RetM Pre ACG

theorem ac_in_t {x lo hi : Int} (h : lo ≤ x) (h' : x ≤ hi) : AC Try.prog 77 [.v (.int .i64 x), .v (.int .i64 lo), .v (.int .i64 hi)] ⟨.v (.bool true), []⟩ := by
  refine r_of Th_ok (by kernel_rfl) Try.func77 rfl Try.ntmps77 Try.results77 (by kernel_rfl) rfl ?_; conv => whnf
  repeat (((first | refine qb rfl rfl ?_ | refine qi (by assumption) rfl rfl ?_ | refine ql rfl ?_ | refine qo rfl rfl ?_ | refine qs rfl rfl ?_ | refine qn rfl rfl ?_); conv => whnf))
  exact r_ret1 rfl trivial
theorem ac_in_f {x lo hi : Int} (h : ¬ (lo ≤ x ∧ x ≤ hi)) : AC Try.prog 77 [.v (.int .i64 x), .v (.int .i64 lo), .v (.int .i64 hi)] ⟨.v (.bool false), []⟩ := by
  by_cases h1 : lo ≤ x
  · refine r_of Th_ok (by kernel_rfl) Try.func77 rfl Try.ntmps77 Try.results77 (by kernel_rfl) rfl ?_; conv => whnf
    repeat (((first | refine qb rfl rfl ?_ | refine qi (by assumption) rfl rfl ?_ | refine ql rfl ?_ | refine qo rfl rfl ?_ | refine qs rfl rfl ?_ | refine qn rfl rfl ?_); conv => whnf))
    exact r_ret1 rfl trivial
  · refine r_of Th_ok (by kernel_rfl) Try.func77 rfl Try.ntmps77 Try.results77 (by kernel_rfl) rfl ?_; conv => whnf
    repeat (((first | refine qb rfl rfl ?_ | refine qi (by assumption) rfl rfl ?_ | refine ql rfl ?_ | refine qo rfl rfl ?_ | refine qs rfl rfl ?_ | refine qn rfl rfl ?_); conv => whnf))
    exact r_ret1 rfl trivial

end Go.Proofs.Ytmfmclnklpbiaaa.AM
