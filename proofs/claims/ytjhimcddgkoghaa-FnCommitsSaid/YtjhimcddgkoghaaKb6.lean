/- Texts of the machine over data, folded. -/
import Derived.Test.YtjhimcddgkoghaaKb5
import Derived.Test.YtjhimcddgkoghaaRows
import Derived.WalkKit
import Derived.WalkLawsBesides
import Derived.WalkSpells
import Derived.Lib.Hide
import Derived.Deep.QuietTactic
import Derived.BigQuiet
import Derived.Deep.Draws
import Derived.Deep.Slices
import Derived.Deep.Fields
import Derived.Deep.AppendLies
import Derived.ChangeSame
import Derived.StillTailTactics
import Derived.Laws.BytesArg
import Derived.Deep.RegionHeld3
import Derived.Laws.CopyOwn
namespace Go.Proofs.Ytjhimcddgkoghaa.AM
open Go Go.RowKit
set_option linter.unusedVariables false

theorem tab_nil {P : Program} : TabOK P [] := fun t => trivial
theorem tab_cons {P : Program} {t : Nat} {x : TI} {Θ : Tab} (h : TIok P t x) (r : TabOK P Θ) : TabOK P ((t, x) :: Θ) := fun u => by
  show TIok P u (bif Nat.beq t u then x else Tab.look Θ u)
  by_cases e : t = u
  · subst e; simpa using h
  · rw [nbne e]; exact r u
theorem ti_str {P : Program} {t b : Nat} (hu : P.underlying t = some .string) (hi : (P.info? t).map (fun i => (i.zero, i.size, i.bytes)) = some (some (.string ByteArray.empty), 1, b)) : TIok P t .str := by
  obtain ⟨i, h1, h2, h3, _⟩ := info_parts hi
  exact ⟨hu, i, h1, h3, h2⟩
theorem ti_int {P : Program} {t b : Nat} {k : IntKind} (hu : P.underlying t = some (.int k)) (hi : (P.info? t).map (fun i => (i.zero, i.size, i.bytes)) = some (some (.int k 0), 1, b)) : TIok P t (.int k) := by
  obtain ⟨i, h1, h2, h3, _⟩ := info_parts hi
  exact ⟨hu, i, h1, h3, h2⟩
theorem ti_bool {P : Program} {t b : Nat} (hu : P.underlying t = some .bool) (hi : (P.info? t).map (fun i => (i.zero, i.size, i.bytes)) = some (some (.bool false), 1, b)) : TIok P t .bool := by
  obtain ⟨i, h1, h2, h3, _⟩ := info_parts hi
  exact ⟨hu, i, h1, h3, h2⟩
theorem ti_slice {P : Program} {t e b sz by_ : Nat} {zv : Value} {z : AV} (hu : P.underlying t = some (.slice e)) (hj : (P.info? t).map (fun i => (i.zero, i.size, i.bytes)) = some (some (.slice none 0 0), 1, b)) (hi : (P.info? e).map (fun i => (i.zero, i.size, i.bytes)) = some (some zv, sz, by_))
    (h0 : 0 < sz) (hz : asz z = sz) (hr : ∀ w, RD w z Fa zv.cells.toList) : TIok P t (.slice e sz by_ z) := by
  obtain ⟨j, j1, j2, j3, _⟩ := info_parts hj
  obtain ⟨i, h1, h2, h3, h4⟩ := info_parts hi
  exact ⟨hu, ⟨j, j1, j3, j2⟩, i, zv, h1, h2, h3, h4, h0, hz, hr⟩
theorem ti_map {P : Program} {t kt vt b c : Nat} {zv : Value} {z : AV} (hu : P.underlying t = some (.map kt vt)) (hk : P.underlying kt = some .string) (hi : (P.info? vt).map (fun i => (i.zero, i.size, i.bytes)) = some (some zv, c, b)) (hz : ∀ S w hp B V, RV S w hp B V z zv) : TIok P t (.map kt vt z) := by
  obtain ⟨i, h1, h2, h3, h4⟩ := info_parts hi
  exact ⟨hu, hk, i, zv, h1, h2, hz⟩
def offsB (P : Program) : Nat → List Field → List (Nat × Nat) → Bool
  | _, [], [] => true
  | n, f :: fs, (o, z) :: r => Nat.beq f.offset o && (Nat.beq o n && (Nat.blt 0 z && ((match (P.info? f.type).map (·.size) with | some q => Nat.beq q z | none => false) && offsB P (n + z) fs r)))
  | _, _, _ => false
theorem offsB_ok {P : Program} : ∀ (fs : List Field) (r : List (Nat × Nat)) (n : Nat), offsB P n fs r = true → offsOK P n fs r
  | [], [], n, _ => trivial
  | [], _ :: _, n, h => by simp [offsB] at h
  | _ :: _, [], n, h => by simp [offsB] at h
  | f :: fs, (o, z) :: r, n, h => by
    simp only [offsB, Bool.and_eq_true] at h
    obtain ⟨h1, h2, h3, h4, h5⟩ := h
    refine ⟨Nat.eq_of_beq_eq_true h1, Nat.eq_of_beq_eq_true h2, by simpa using h3, ?_, offsB_ok fs r (n + z) h5⟩
    cases hq : (P.info? f.type).map (·.size) with
    | none => rw [hq] at h4; cases h4
    | some q => rw [hq] at h4; rw [Nat.eq_of_beq_eq_true h4]
theorem ti_struct {P : Program} {t b : Nat} {fs : List (Nat × Nat)} {z : List AV} {cs : Array Value} (hu : P.underlying t = some (.struct (P.fieldsOf t))) (hi : (P.info? t).map (fun i => (i.zero, i.size, i.bytes)) = some (some (.agg cs), sizes fs, b))
    (ho : offsB P 0 (P.fieldsOf t).toList fs = true) (hp : 0 < sizes fs) (hm : z.map asz = fs.map (·.2)) (hr : ∀ w, RDL w z Fa cs.toList) : TIok P t (.struct fs z) := by
  obtain ⟨i, h1, h2, h3, _⟩ := info_parts hi
  exact ⟨_, i, cs, hu, offsB_ok _ _ _ ho, h1, h3, hp, hm, h2, hr⟩
theorem rl_cons {S : Nat → Prop} {w : World} {x : AV} {xs : List AV} {c1 c2 : List Value} (h : RA S w x c1) (r : RL S w xs c2) : RL S w (x :: xs) (c1 ++ c2) := by unfold RL; exact ⟨c1, c2, rfl, h, r⟩
theorem rl_nil {S : Nat → Prop} {w : World} : RL S w [] [] := by unfold RL; rfl
theorem ra_v {S : Nat → Prop} {w : World} {x : Value} (h : x.oneCell' = true) : RA S w (.v x) [x] := by unfold RA; exact ⟨rfl, h⟩
theorem ra_nil {S : Nat → Prop} {w : World} {sz : Nat} (h : 0 < sz) : RA S w (.lst sz []) [.slice none 0 0] := by unfold RA; exact ⟨none, 0, rfl, Nat.le_refl _, Nat.zero_le _, by simp, h, .inl rfl⟩
theorem ra_agg {S : Nat → Prop} {w : World} {xs : List AV} {cs : List Value} (h : RL S w xs cs) : RA S w (.agg xs) cs := by unfold RA; exact h

theorem rd_v {w : World} {x : Value} (h : x.oneCell' = true) : RD w (.v x) Fa [x] := by unfold RD; exact ⟨noF, rfl, h⟩
theorem rd_nil {w : World} {sz : Nat} (h : 0 < sz) : RD w (.lst sz []) Fa [.slice none 0 0] := by
  unfold RD
  refine ⟨_, 0, [], Fa, rfl, World.ownsRow_nil _ _ _ _, by simp, h, by unfold RDL; exact ⟨rfl, noF⟩, fun g => ⟨fun h => h.elim, fun h => ?_⟩, fun g h => ?_⟩
  · rcases h with h | h
    · simp [Value.ownBlock] at h
    · exact h
  · simp [Value.ownBlock] at h
theorem rd_agg {w : World} {xs : List AV} {cs : List Value} (h : RDL w xs Fa cs) : RD w (.agg xs) Fa cs := by unfold RD; exact h
theorem rdl_nil {w : World} : RDL w [] Fa [] := by unfold RDL; exact ⟨rfl, noF⟩
theorem rdl_cons {w : World} {x : AV} {xs : List AV} {c1 c2 : List Value} (h : RD w x Fa c1) (r : RDL w xs Fa c2) : RDL w (x :: xs) Fa (c1 ++ c2) := by unfold RDL; exact ⟨c1, c2, Fa, Fa, rfl, Split.l0 noF, h, r⟩
theorem rdl_rep {w : World} {x : AV} {u : Value} (h : RD w x Fa [u]) : ∀ m, RDL w (List.replicate m x) Fa (List.replicate m u)
  | 0 => rdl_nil
  | m + 1 => by simp only [List.replicate_succ]; exact rdl_cons (c1 := [u]) h (rdl_rep h m)
theorem ti_ptr {P : Program} {t b e : Nat} (hu : P.underlying t = some (.pointer e)) (hi : (P.info? t).map (fun i => (i.zero, i.size, i.bytes)) = some (some (.pointer none), 1, b)) : TIok P t .ptr := by
  obtain ⟨i, h1, h2, h3, _⟩ := info_parts hi
  exact ⟨⟨e, hu⟩, i, h1, h3, h2⟩
def isFnT (P : Program) (t : TypeId) : Bool := match P.underlying t with | some (.func _ _ _) => true | _ => false
theorem ti_func {P : Program} {t b : Nat} (hu : isFnT P t = true) (hi : (P.info? t).map (fun i => (i.zero, i.size, i.bytes)) = some (some .nilFunc, 1, b)) : TIok P t .func := by
  obtain ⟨i, h1, h2, h3, _⟩ := info_parts hi
  refine ⟨?_, i, h1, h3, h2⟩
  unfold isFnT at hu
  split at hu
  · rename_i x y z h; exact ⟨x, y, z, h⟩
  · cases hu
theorem ti_arr {P : Program} {t b e m sz be : Nat} {z : AV} {cs : Array Value} {ze : Option Value} (hu : P.underlying t = some (.array m e)) (hi : (P.info? t).map (fun i => (i.zero, i.size, i.bytes)) = some (some (.agg cs), m * sz, b)) (he : (P.info? e).map (fun i => (i.zero, i.size, i.bytes)) = some (ze, sz, be))
    (hm : 0 < m) (h0 : 0 < sz) (hz : asz z = sz) (hr : ∀ w, RDL w (List.replicate m z) Fa cs.toList) : TIok P t (.arr e m sz z) := by
  obtain ⟨i, h1, h2, h3, _⟩ := info_parts hi
  refine ⟨hu, ⟨i, cs, h1, h3, h2, hr⟩, hm, h0, hz, ?_⟩
  cases hj : P.info? e with
  | none => rw [hj] at he; simp at he
  | some j => rw [hj] at he; simp at he; exact ⟨j, rfl, he.2.1⟩

abbrev zS : AV := .v (.string ByteArray.empty)
abbrev zI : AV := .v (.int .i64 0)
abbrev zB : AV := .v (.bool false)
def Th : Tab := [(9, .str), (3, .int .i64), (4, .bool), (5, .int .u8),
  (55, .slice 9 1 16 zS),
  (101, .slice 5 1 1 (.v (.int .u8 0))),
  (167, .struct [(0, 1), (1, 1)] [zS, zI]), (36, .slice 167 2 24 (.agg [zS, zI])),
  (237, .struct [(0, 1), (1, 1)] [zS, zI]), (47, .slice 237 2 24 (.agg [zS, zI])),
  (117, .struct [(0, 1), (1, 1), (2, 1)] [zS, zI, zB]), (27, .slice 117 3 32 (.agg [zS, zI, zB])),
  (230, .struct [(0, 1), (1, 1), (2, 1)] [zS, zI, zB]), (22, .slice 230 3 32 (.agg [zS, zI, zB])),
  (129, .slice 3 1 8 zI),
  (142, .struct [(0, 1), (1, 1)] [.lst 1 [], .lst 2 []]), (126, .slice 142 2 48 (.agg [.lst 1 [], .lst 2 []])),
  (216, .slice 4 1 1 zB),
  (221, .struct [(0, 1), (1, 1)] [zI, .lst 1 []]), (213, .ptr), (219, .slice 213 1 8 (.v (.pointer none))),
  (212, .arr 4 61 1 zB), (211, .arr 4 61 1 zB),
  (277, .func),
  (265, .struct [(0, 1), (1, 1), (2, 1)] [.lst 1 [], zI, zI]), (195, .ptr),
  (291, .map 9 117 (.agg [zS, zI, zB])),
  (83, .struct [(0, 1), (1, 1), (2, 1), (3, 1)] [zS, zI, zI, zB]), (90, .slice 83 4 40 (.agg [zS, zI, zI, zB])),
  (74, .struct [(0, 1), (1, 1), (2, 1), (3, 1)] [zS, zI, zI, zB]), (88, .slice 74 4 40 (.agg [zS, zI, zI, zB])),
  (63, .struct [(0, 1), (1, 1), (2, 1), (3, 1), (4, 1)] [zI, zI, zS, zS, .lst 3 []]),
  (54, .struct [(0, 1), (1, 1), (2, 1), (3, 1), (4, 1)] [zI, zI, zS, zS, .lst 3 []]),
  (65, .struct [(0, 1), (1, 1), (2, 1), (3, 1), (4, 1)] [zI, zI, zI, .lst 1 [], .lst 2 []]),
  (57, .struct [(0, 1), (1, 1), (2, 1), (3, 1), (4, 1)] [zI, zI, zI, .lst 1 [], .lst 2 []]),
  (185, .struct [(0, 1), (1, 1), (2, 1)] [zI, zI, zB]), (77, .slice 185 3 24 (.agg [zI, zI, zB])),
  (244, .struct [(0, 1), (1, 1), (2, 1)] [zI, zI, zB]), (70, .slice 244 3 24 (.agg [zI, zI, zB])),
  (79, .struct [(0, 1), (1, 1), (2, 1)] [zS, zI, .lst 3 []]),
  (72, .struct [(0, 1), (1, 1), (2, 1)] [zS, zI, .lst 3 []]),
  (29, .struct [(0, 1), (1, 1), (2, 1), (3, 1), (4, 1)] [zI, zS, zS, zS, .lst 3 []]),
  (35, .slice 29 5 80 (.agg [zI, zS, zS, zS, .lst 3 []])),
  (38, .struct [(0, 1), (1, 1), (2, 1), (3, 1), (4, 1), (5, 1), (6, 1), (7, 1), (8, 1)] [.lst 5 [], zI, zI, zI, zI, zI, zI, zI, .lst 2 []]),
  (67, .struct [(0, 1), (1, 1), (2, 1), (3, 5), (8, 5)] [zI, zI, zI, .agg [zI, zI, zS, zS, .lst 3 []], .agg [zI, zI, zI, .lst 1 [], .lst 2 []]]),
  (24, .struct [(0, 1), (1, 1), (2, 1), (3, 1), (4, 1)] [zI, zS, zS, zS, .lst 3 []]),
  (33, .slice 24 5 80 (.agg [zI, zS, zS, zS, .lst 3 []])),
  (49, .struct [(0, 1), (1, 1), (2, 1), (3, 1), (4, 1), (5, 1), (6, 1), (7, 1), (8, 1)] [.lst 5 [], zI, zI, zI, zI, zI, zI, zI, .lst 2 []]),
  (59, .struct [(0, 1), (1, 1), (2, 1), (3, 5), (8, 5)] [zI, zI, zI, .agg [zI, zI, zS, zS, .lst 3 []], .agg [zI, zI, zI, .lst 1 [], .lst 2 []]]),
  (252, .slice 262 1 8 (.v (.pointer none))),
  ]
theorem Th_ok : TabOK Try.prog Th := by
  unfold Th
  have e2 : ∀ w, RDL w [zS, zI] Fa [.string ByteArray.empty, .int .i64 0] := fun w => rdl_cons (c1 := [_]) (rd_v rfl) (rdl_cons (c1 := [_]) (rd_v rfl) rdl_nil)
  have e3 : ∀ w, RDL w [zS, zI, zB] Fa [.string ByteArray.empty, .int .i64 0, .bool false] := fun w => rdl_cons (c1 := [_]) (rd_v rfl) (rdl_cons (c1 := [_]) (rd_v rfl) (rdl_cons (c1 := [_]) (rd_v rfl) rdl_nil))
  have e4 : ∀ w, RDL w [zS, zI, zI, zB] Fa [.string ByteArray.empty, .int .i64 0, .int .i64 0, .bool false] := fun w => rdl_cons (c1 := [_]) (rd_v rfl) (rdl_cons (c1 := [_]) (rd_v rfl) (rdl_cons (c1 := [_]) (rd_v rfl) (rdl_cons (c1 := [_]) (rd_v rfl) rdl_nil)))
  have eC : ∀ w, RDL w [.lst 1 [], .lst 2 []] Fa [.slice none 0 0, .slice none 0 0] := fun w => rdl_cons (c1 := [_]) (rd_nil (by omega)) (rdl_cons (c1 := [_]) (rd_nil (by omega)) rdl_nil)
  have eN : ∀ w, RDL w [zI, .lst 1 []] Fa [.int .i64 0, .slice none 0 0] := fun w => rdl_cons (c1 := [_]) (rd_v rfl) (rdl_cons (c1 := [_]) (rd_nil (by omega)) rdl_nil)
  have eV : ∀ w, RDL w [zI, zI, zB] Fa [.int .i64 0, .int .i64 0, .bool false] := fun w => rdl_cons (c1 := [_]) (rd_v rfl) (rdl_cons (c1 := [_]) (rd_v rfl) (rdl_cons (c1 := [_]) (rd_v rfl) rdl_nil))
  have eW : ∀ w, RDL w [zS, zI, .lst 3 []] Fa [.string ByteArray.empty, .int .i64 0, .slice none 0 0] := fun w => rdl_cons (c1 := [_]) (rd_v rfl) (rdl_cons (c1 := [_]) (rd_v rfl) (rdl_cons (c1 := [_]) (rd_nil (by omega)) rdl_nil))
  have eB : ∀ w, RDL w [.lst 2 [], .lst 4 []] Fa [.slice none 0 0, .slice none 0 0] := fun w => rdl_cons (c1 := [_]) (rd_nil (by omega)) (rdl_cons (c1 := [_]) (rd_nil (by omega)) rdl_nil)
  have eO : ∀ w, RDL w [zI, zI, zS, zS, .lst 3 []] Fa [.int .i64 0, .int .i64 0, .string ByteArray.empty, .string ByteArray.empty, .slice none 0 0] := fun w => rdl_cons (c1 := [_]) (rd_v rfl) (rdl_cons (c1 := [_]) (rd_v rfl) (rdl_cons (c1 := [_]) (rd_v rfl) (rdl_cons (c1 := [_]) (rd_v rfl) (rdl_cons (c1 := [_]) (rd_nil (by omega)) rdl_nil))))
  have eR : ∀ w, RDL w [zI, zI, zI, .lst 1 [], .lst 2 []] Fa [.int .i64 0, .int .i64 0, .int .i64 0, .slice none 0 0, .slice none 0 0] := fun w => rdl_cons (c1 := [_]) (rd_v rfl) (rdl_cons (c1 := [_]) (rd_v rfl) (rdl_cons (c1 := [_]) (rd_v rfl) (rdl_cons (c1 := [_]) (rd_nil (by omega)) (rdl_cons (c1 := [_]) (rd_nil (by omega)) rdl_nil))))
  have eH : ∀ w, RDL w [zI, zS, zS, zS, .lst 3 []] Fa [.int .i64 0, .string ByteArray.empty, .string ByteArray.empty, .string ByteArray.empty, .slice none 0 0] := fun w => rdl_cons (c1 := [_]) (rd_v rfl) (rdl_cons (c1 := [_]) (rd_v rfl) (rdl_cons (c1 := [_]) (rd_v rfl) (rdl_cons (c1 := [_]) (rd_v rfl) (rdl_cons (c1 := [_]) (rd_nil (by omega)) (rdl_nil)))))
  have eK : ∀ w, RDL w [.lst 5 [], zI, zI, zI, zI, zI, zI, zI, .lst 2 []] Fa [.slice none 0 0, .int .i64 0, .int .i64 0, .int .i64 0, .int .i64 0, .int .i64 0, .int .i64 0, .int .i64 0, .slice none 0 0] := fun w => rdl_cons (c1 := [_]) (rd_nil (by omega)) (rdl_cons (c1 := [_]) (rd_v rfl) (rdl_cons (c1 := [_]) (rd_v rfl) (rdl_cons (c1 := [_]) (rd_v rfl) (rdl_cons (c1 := [_]) (rd_v rfl) (rdl_cons (c1 := [_]) (rd_v rfl) (rdl_cons (c1 := [_]) (rd_v rfl) (rdl_cons (c1 := [_]) (rd_v rfl) (rdl_cons (c1 := [_]) (rd_nil (by omega)) (rdl_nil)))))))))
  have eM : ∀ w, RDL w [zI, zI, zI, .agg [zI, zI, zS, zS, .lst 3 []], .agg [zI, zI, zI, .lst 1 [], .lst 2 []]] Fa [.int .i64 0, .int .i64 0, .int .i64 0, .int .i64 0, .int .i64 0, .string ByteArray.empty, .string ByteArray.empty, .slice none 0 0, .int .i64 0, .int .i64 0, .int .i64 0, .slice none 0 0, .slice none 0 0] := fun w => rdl_cons (c1 := [_]) (rd_v rfl) (rdl_cons (c1 := [_]) (rd_v rfl) (rdl_cons (c1 := [_]) (rd_v rfl) (rdl_cons (c1 := [_, _, _, _, _]) (rd_agg (eO w)) (rdl_cons (c1 := [_, _, _, _, _]) (rd_agg (eR w)) rdl_nil))))
  have eG : ∀ w, RDL w [.lst 1 [], zI, zI] Fa [.slice none 0 0, .int .i64 0, .int .i64 0] := fun w => rdl_cons (c1 := [_]) (rd_nil (by omega)) (rdl_cons (c1 := [_]) (rd_v rfl) (rdl_cons (c1 := [_]) (rd_v rfl) rdl_nil))
  refine tab_cons (ti_str (b := 16) (by kernel_rfl) (by kernel_rfl)) (tab_cons (ti_int (b := 8) (by kernel_rfl) (by kernel_rfl)) (tab_cons (ti_bool (b := 1) (by kernel_rfl) (by kernel_rfl)) (tab_cons (ti_int (b := 1) (by kernel_rfl) (by kernel_rfl)) ?_)))
  refine tab_cons (ti_slice (b := 24) (zv := .string ByteArray.empty) (by kernel_rfl) (by kernel_rfl) (by kernel_rfl) (by omega) rfl (fun w => rd_v rfl)) ?_
  refine tab_cons (ti_slice (b := 24) (zv := .int .u8 0) (by kernel_rfl) (by kernel_rfl) (by kernel_rfl) (by omega) rfl (fun w => rd_v rfl)) ?_
  refine tab_cons (ti_struct (b := 24) (cs := #[.string ByteArray.empty, .int .i64 0]) (by kernel_rfl) (by kernel_rfl) (by kernel_rfl) (by decide) rfl e2) (tab_cons (ti_slice (b := 24) (zv := .agg #[.string ByteArray.empty, .int .i64 0]) (by kernel_rfl) (by kernel_rfl) (by kernel_rfl) (by omega) rfl (fun w => rd_agg (e2 w))) ?_)
  refine tab_cons (ti_struct (b := 24) (cs := #[.string ByteArray.empty, .int .i64 0]) (by kernel_rfl) (by kernel_rfl) (by kernel_rfl) (by decide) rfl e2) (tab_cons (ti_slice (b := 24) (zv := .agg #[.string ByteArray.empty, .int .i64 0]) (by kernel_rfl) (by kernel_rfl) (by kernel_rfl) (by omega) rfl (fun w => rd_agg (e2 w))) ?_)
  refine tab_cons (ti_struct (b := 32) (cs := #[.string ByteArray.empty, .int .i64 0, .bool false]) (by kernel_rfl) (by kernel_rfl) (by kernel_rfl) (by decide) rfl e3) (tab_cons (ti_slice (b := 24) (zv := .agg #[.string ByteArray.empty, .int .i64 0, .bool false]) (by kernel_rfl) (by kernel_rfl) (by kernel_rfl) (by omega) rfl (fun w => rd_agg (e3 w))) ?_)
  refine tab_cons (ti_struct (b := 32) (cs := #[.string ByteArray.empty, .int .i64 0, .bool false]) (by kernel_rfl) (by kernel_rfl) (by kernel_rfl) (by decide) rfl e3) (tab_cons (ti_slice (b := 24) (zv := .agg #[.string ByteArray.empty, .int .i64 0, .bool false]) (by kernel_rfl) (by kernel_rfl) (by kernel_rfl) (by omega) rfl (fun w => rd_agg (e3 w))) ?_)
  refine tab_cons (ti_slice (b := 24) (zv := .int .i64 0) (by kernel_rfl) (by kernel_rfl) (by kernel_rfl) (by omega) rfl (fun w => rd_v rfl)) ?_
  refine tab_cons (ti_struct (b := 48) (cs := #[.slice none 0 0, .slice none 0 0]) (by kernel_rfl) (by kernel_rfl) (by kernel_rfl) (by decide) rfl eC) (tab_cons (ti_slice (b := 24) (zv := .agg #[.slice none 0 0, .slice none 0 0]) (by kernel_rfl) (by kernel_rfl) (by kernel_rfl) (by omega) rfl (fun w => rd_agg (eC w))) ?_)
  refine tab_cons (ti_slice (b := 24) (zv := .bool false) (by kernel_rfl) (by kernel_rfl) (by kernel_rfl) (by omega) rfl (fun w => rd_v rfl)) ?_
  refine tab_cons (ti_struct (b := 32) (cs := #[.int .i64 0, .slice none 0 0]) (by kernel_rfl) (by kernel_rfl) (by kernel_rfl) (by decide) rfl eN) (tab_cons (ti_ptr (b := 8) (e := 221) (by kernel_rfl) (by kernel_rfl)) (tab_cons (ti_slice (b := 24) (zv := .pointer none) (by kernel_rfl) (by kernel_rfl) (by kernel_rfl) (by omega) rfl (fun w => rd_v rfl)) ?_))
  refine tab_cons (ti_arr (b := 61) (be := 1) (ze := some (.bool false)) (cs := (List.replicate 61 (.bool false)).toArray) (by kernel_rfl) (by kernel_rfl) (by kernel_rfl) (by omega) (by omega) rfl (fun w => rdl_rep (rd_v rfl) 61)) (tab_cons (ti_arr (b := 61) (be := 1) (ze := some (.bool false)) (cs := (List.replicate 61 (.bool false)).toArray) (by kernel_rfl) (by kernel_rfl) (by kernel_rfl) (by omega) (by omega) rfl (fun w => rdl_rep (rd_v rfl) 61)) ?_)
  refine tab_cons (ti_func (b := 8) (by kernel_rfl) (by kernel_rfl)) ?_
  refine tab_cons (ti_struct (b := 40) (cs := #[.slice none 0 0, .int .i64 0, .int .i64 0]) (by kernel_rfl) (by kernel_rfl) (by kernel_rfl) (by decide) rfl eG) (tab_cons (ti_ptr (b := 8) (e := 265) (by kernel_rfl) (by kernel_rfl)) ?_)
  refine tab_cons (ti_map (b := 32) (c := 3) (zv := .agg #[.string ByteArray.empty, .int .i64 0, .bool false]) (by kernel_rfl) (by kernel_rfl) (by kernel_rfl) (fun S w hp B V => by unfold RV; exact ⟨[_, _, _], rfl, rl_cons (c1 := [_]) (ra_v rfl) (rl_cons (c1 := [_]) (ra_v rfl) (rl_cons (c1 := [_]) (ra_v rfl) rl_nil))⟩)) ?_
  refine tab_cons (ti_struct (b := 40) (cs := #[.string ByteArray.empty, .int .i64 0, .int .i64 0, .bool false]) (by kernel_rfl) (by kernel_rfl) (by kernel_rfl) (by decide) rfl e4) (tab_cons (ti_slice (b := 24) (zv := .agg #[.string ByteArray.empty, .int .i64 0, .int .i64 0, .bool false]) (by kernel_rfl) (by kernel_rfl) (by kernel_rfl) (by omega) rfl (fun w => rd_agg (e4 w))) ?_)
  refine tab_cons (ti_struct (b := 40) (cs := #[.string ByteArray.empty, .int .i64 0, .int .i64 0, .bool false]) (by kernel_rfl) (by kernel_rfl) (by kernel_rfl) (by decide) rfl e4) (tab_cons (ti_slice (b := 24) (zv := .agg #[.string ByteArray.empty, .int .i64 0, .int .i64 0, .bool false]) (by kernel_rfl) (by kernel_rfl) (by kernel_rfl) (by omega) rfl (fun w => rd_agg (e4 w))) ?_)
  refine tab_cons (ti_struct (b := 72) (cs := #[.int .i64 0, .int .i64 0, .string ByteArray.empty, .string ByteArray.empty, .slice none 0 0]) (by kernel_rfl) (by kernel_rfl) (by kernel_rfl) (by decide) rfl eO) ?_
  refine tab_cons (ti_struct (b := 72) (cs := #[.int .i64 0, .int .i64 0, .string ByteArray.empty, .string ByteArray.empty, .slice none 0 0]) (by kernel_rfl) (by kernel_rfl) (by kernel_rfl) (by decide) rfl eO) ?_
  refine tab_cons (ti_struct (b := 72) (cs := #[.int .i64 0, .int .i64 0, .int .i64 0, .slice none 0 0, .slice none 0 0]) (by kernel_rfl) (by kernel_rfl) (by kernel_rfl) (by decide) rfl eR) ?_
  refine tab_cons (ti_struct (b := 72) (cs := #[.int .i64 0, .int .i64 0, .int .i64 0, .slice none 0 0, .slice none 0 0]) (by kernel_rfl) (by kernel_rfl) (by kernel_rfl) (by decide) rfl eR) ?_
  refine tab_cons (ti_struct (b := 24) (cs := #[.int .i64 0, .int .i64 0, .bool false]) (by kernel_rfl) (by kernel_rfl) (by kernel_rfl) (by decide) rfl eV) (tab_cons (ti_slice (b := 24) (zv := .agg #[.int .i64 0, .int .i64 0, .bool false]) (by kernel_rfl) (by kernel_rfl) (by kernel_rfl) (by omega) rfl (fun w => rd_agg (eV w))) ?_)
  refine tab_cons (ti_struct (b := 24) (cs := #[.int .i64 0, .int .i64 0, .bool false]) (by kernel_rfl) (by kernel_rfl) (by kernel_rfl) (by decide) rfl eV) (tab_cons (ti_slice (b := 24) (zv := .agg #[.int .i64 0, .int .i64 0, .bool false]) (by kernel_rfl) (by kernel_rfl) (by kernel_rfl) (by omega) rfl (fun w => rd_agg (eV w))) ?_)
  refine tab_cons (ti_struct (b := 48) (cs := #[.string ByteArray.empty, .int .i64 0, .slice none 0 0]) (by kernel_rfl) (by kernel_rfl) (by kernel_rfl) (by decide) rfl eW) ?_
  refine tab_cons (ti_struct (b := 48) (cs := #[.string ByteArray.empty, .int .i64 0, .slice none 0 0]) (by kernel_rfl) (by kernel_rfl) (by kernel_rfl) (by decide) rfl eW) ?_
  refine tab_cons (ti_struct (b := 80) (cs := #[.int .i64 0, .string ByteArray.empty, .string ByteArray.empty, .string ByteArray.empty, .slice none 0 0]) (by kernel_rfl) (by kernel_rfl) (by kernel_rfl) (by decide) rfl eH) ?_
  refine tab_cons (ti_slice (b := 24) (zv := .agg #[.int .i64 0, .string ByteArray.empty, .string ByteArray.empty, .string ByteArray.empty, .slice none 0 0]) (by kernel_rfl) (by kernel_rfl) (by kernel_rfl) (by omega) rfl (fun w => rd_agg (eH w))) ?_
  refine tab_cons (ti_struct (b := 104) (cs := #[.slice none 0 0, .int .i64 0, .int .i64 0, .int .i64 0, .int .i64 0, .int .i64 0, .int .i64 0, .int .i64 0, .slice none 0 0]) (by kernel_rfl) (by kernel_rfl) (by kernel_rfl) (by decide) rfl eK) ?_
  refine tab_cons (ti_struct (b := 168) (cs := #[.int .i64 0, .int .i64 0, .int .i64 0, .int .i64 0, .int .i64 0, .string ByteArray.empty, .string ByteArray.empty, .slice none 0 0, .int .i64 0, .int .i64 0, .int .i64 0, .slice none 0 0, .slice none 0 0]) (by kernel_rfl) (by kernel_rfl) (by kernel_rfl) (by decide) rfl eM) ?_
  refine tab_cons (ti_struct (b := 80) (cs := #[.int .i64 0, .string ByteArray.empty, .string ByteArray.empty, .string ByteArray.empty, .slice none 0 0]) (by kernel_rfl) (by kernel_rfl) (by kernel_rfl) (by decide) rfl eH) ?_
  refine tab_cons (ti_slice (b := 24) (zv := .agg #[.int .i64 0, .string ByteArray.empty, .string ByteArray.empty, .string ByteArray.empty, .slice none 0 0]) (by kernel_rfl) (by kernel_rfl) (by kernel_rfl) (by omega) rfl (fun w => rd_agg (eH w))) ?_
  refine tab_cons (ti_struct (b := 104) (cs := #[.slice none 0 0, .int .i64 0, .int .i64 0, .int .i64 0, .int .i64 0, .int .i64 0, .int .i64 0, .int .i64 0, .slice none 0 0]) (by kernel_rfl) (by kernel_rfl) (by kernel_rfl) (by decide) rfl eK) ?_
  refine tab_cons (ti_struct (b := 168) (cs := #[.int .i64 0, .int .i64 0, .int .i64 0, .int .i64 0, .int .i64 0, .string ByteArray.empty, .string ByteArray.empty, .slice none 0 0, .int .i64 0, .int .i64 0, .int .i64 0, .slice none 0 0, .slice none 0 0]) (by kernel_rfl) (by kernel_rfl) (by kernel_rfl) (by decide) rfl eM) ?_
  refine tab_cons (ti_slice (b := 24) (zv := .agg #[.pointer none]) (by kernel_rfl) (by kernel_rfl) (by kernel_rfl) (by omega) rfl (fun w => rd_v rfl)) ?_
  exact tab_nil
end Go.Proofs.Ytjhimcddgkoghaa.AM
namespace Go.Proofs.Ytjhimcddgkoghaa
open Go.RowKit

theorem ret_bool {a b : Bool} (h : a = b) : Ending.returned (.bool a) = .returned (.bool b) := by rw [h]
theorem toList_inj {a b : ByteArray} (h : a.toList = b.toList) : a = b := by
  have e : a.data.toList = b.data.toList := by simpa [ByteArray.toList_eq] using h
  cases a; cases b; simp at e; simp [e]
theorem toList_beq (a b : ByteArray) : (a.toList == b.toList) = decide (a = b) := by
  rw [Bool.eq_iff_iff]; simp
  exact ⟨toList_inj, fun h => by rw [h]⟩

theorem _root_.Go.RowKit.Below.drewN {B : Nat} {a w : World} (h : Below B a w) (n : Nat) : Below B a (w.drewN n) := ⟨h.os, h.tape, h.output, h.size, h.block⟩
theorem keepS {w wx w1 : World} (hb : Below w.heap.size w wx) (h1 : Below wx.heap.size wx w1) : Below w.heap.size w w1 := hb.trans (h1.mono hb.size)
theorem cellS {w wx : World} {b o : Nat} {u : Value} (hb : Below w.heap.size w wx) (hl : b < w.heap.size) (h : w.cell? ⟨b, o, none⟩ = some u) : wx.cell? ⟨b, o, none⟩ = some u := (hb.cell (p := ⟨b, o, none⟩) hl).trans h
theorem cellW {w wx : World} {b o : Nat} {u : Value} (hb : Below w.heap.size w wx) (hl : b < w.heap.size) (h : wx.cell? ⟨b, o, none⟩ = some u) : w.cell? ⟨b, o, none⟩ = some u := (hb.cell (p := ⟨b, o, none⟩) hl).symm.trans h

/-! ### a region that draws its order, whose operations only read and whose callees make new memory alone: one walk in the text's order -/
/-- a world in which all that was there in w is as it was -/
structure Aft (w : World) where
  at_ : World
  below : Below w.heap.size w at_
instance Aft.some_ (w : World) : Nonempty (Aft w) := ⟨⟨w, Below.refl _ _⟩⟩
theorem wp_region_after {P : Program} {id : Nat} {Q : Exit → Act → World → Prop} {a : Act} {w : World} {l : List Oper} (hm : P.follows .mixedOrders = true) (hB : Region.lexB .any l.toArray = true)
    (h : wpQuiet P l.toArray (fun w' => ∃ y : Aft w, w' = y.at_) (fun a' => ∀ w', (∃ y : Aft w, w' = y.at_) → Q .normal a' w') l a) : (Code.region id l.toArray true).wp P Q a w :=
  wp_region_quiet (C := fun w' => ∃ y : Aft w, w' = y.at_) hm hB ⟨⟨_, (Below.refl w.heap.size w).drew⟩, rfl⟩ (by simpa using h)
theorem Aft.cell {w : World} {b o : Nat} {u : Value} (hl : b < w.heap.size) (h : w.cell? ⟨b, o, none⟩ = some u) (y : Aft w) : y.at_.cell? ⟨b, o, none⟩ = some u := cellS y.below hl h
theorem Aft.call {P : Program} {f : FuncId} {args : Array Value} {w : World} {y : Aft w} {v : Value} (h : Calls P f args y.at_ fun e w' => e = .returned v ∧ Below y.at_.heap.size y.at_ w') :
    Calls P f args y.at_ fun e w'' => e = .returned v ∧ ∃ y' : Aft w, w'' = y'.at_ :=
  h.mono fun _ _ ⟨he, hb⟩ => ⟨he, ⟨_, keepS y.below hb⟩, rfl⟩
theorem Aft.same {P : Program} {f : FuncId} {args : Array Value} {w : World} {y : Aft w} {v : Value} (h : Calls P f args y.at_ fun e w' => e = .returned v ∧ y.at_ = w') :
    Calls P f args y.at_ fun e w'' => e = .returned v ∧ ∃ y' : Aft w, w'' = y'.at_ :=
  h.mono fun _ _ ⟨he, hb⟩ => ⟨he, y, hb.symm⟩

/-- the slice '.slice A n c' reads as the cells xs (sz a place) -/
def Rd (w : World) (sz : Nat) (A : Option Addr) (n : Nat) (xs : List Value) : Prop :=
  xs.length = n * sz ∧ (0 < n → ∃ b off, A = some ⟨b, off, none⟩ ∧ b < w.heap.size ∧ ∀ j u, xs[j]? = some u → w.cell? ⟨b, off + j, none⟩ = some u)

section
variable {w w' : World} {sz n : Nat} {A : Option Addr} {xs : List Value}
theorem Rd.nil : Rd w sz A 0 [] := ⟨by simp, fun h => absurd h (by omega)⟩
theorem Rd.below {B : Nat} (h : Rd w sz A n xs) (hb : Below B w w') (hB : w.heap.size ≤ B) : Rd w' sz A n xs :=
  ⟨h.1, fun hn => by
    obtain ⟨b, off, e, hlt, hc⟩ := h.2 hn
    exact ⟨b, off, e, Nat.lt_of_lt_of_le hlt hb.size, fun j u hu => (hb.cell (p := ⟨b, off + j, none⟩) (by show b < B; omega)).trans (hc j u hu)⟩⟩
theorem Rd.alloc (h : Rd w sz A n xs) (o : Obj) : Rd (w.alloc o) sz A n xs := h.below ((Below.refl _ _).alloc (Nat.le_refl _) o) (Nat.le_refl _)
theorem Rd.drew (h : Rd w sz A n xs) : Rd w.drew sz A n xs := h
theorem Rd.drewN (h : Rd w sz A n xs) (k : Nat) : Rd (w.drewN k) sz A n xs := h
end

theorem run_make_rowN {P : Program} (t e : TypeId) (i : TypeInfo) (z : Value) (ht : P.underlying t = some (.slice e)) (hi : P.info? e = some i) (hz : i.zero = some z)
    (kl kc : IntKind) (n c : Nat) (hnc : n ≤ c) (hbytes : i.bytes * c ≤ 281474976710656) (h63 : c ≤ 9223372036854775807) (w : World) :
    (Instr.makeSlice t (.int kl (n : Int)) (.int kc (c : Int))).run P w = .ok (.slice (some ⟨w.heap.size, 0, none⟩) n c) (w.alloc (.cells (madeCells z.cells (c * i.size)) e)) := by
  have hb : (i.bytes : Int) * (c : Int) ≤ 281474976710656 := by
    have h : ((i.bytes * c : Nat) : Int) ≤ 281474976710656 := by omega
    rwa [Int.natCast_mul] at h
  have hr := run_make (P := P) w t e i z ht hi hz kl kc n c (by omega) (by omega) hb (by omega)
  simp only [Int.toNat_natCast] at hr
  exact hr

/-! ### a block that is known whole -/
def Blk (w : World) (g : Nat) (t : TypeId) (cs : Array Value) : Prop := w.heap[g]? = some (.cells cs t (0, 0))
section
variable {w w' : World} {g : Nat} {t : TypeId} {cs : Array Value}
theorem Blk.lt (h : Blk w g t cs) : g < w.heap.size := by
  rcases Nat.lt_or_ge g w.heap.size with hlt | hge
  · exact hlt
  · unfold Blk at h; rw [Array.getElem?_eq_none hge] at h; cases h
theorem Blk.cell (h : Blk w g t cs) (i : Nat) : w.cell? ⟨g, i, none⟩ = cs[i]? := cell_of_row w g i cs t (0, 0) h
theorem Blk.frozen (h : Blk w g t cs) (i : Nat) : w.frozen? ⟨g, i, none⟩ = false := frozen_of_row w g i cs t h
theorem Blk.new (w : World) (t : TypeId) (cs : Array Value) : Blk (w.alloc (.cells cs t)) w.heap.size t cs := heap_alloc_new w _
theorem Blk.drew (h : Blk w g t cs) : Blk w.drew g t cs := h
theorem Blk.drewN (h : Blk w g t cs) (n : Nat) : Blk (w.drewN n) g t cs := h
theorem Blk.alloc (h : Blk w g t cs) (o : Obj) : Blk (w.alloc o) g t cs := (Below.heap_alloc w o g h.lt).trans h
theorem Blk.set_ (h : Blk w g t cs) (i : Nat) (u : Value) : Blk (w.setCell ⟨g, i, none⟩ u) g t (cs.setIfInBounds i u) := by
  unfold Blk at h ⊢
  simp [World.setCell, Array.getElem?_modify, h]
theorem Blk.far (h : Blk w g t cs) {p : Addr} (hp : g ≠ p.block) (u : Value) : Blk (w.setCell p u) g t cs := (Below.heap_setCell w p u g hp).trans h
theorem Blk.below {B : Nat} (h : Blk w g t cs) (hb : Below B w w') (hg : g < B) : Blk w' g t cs := (hb.block g hg).trans h
theorem Blk.own (h : Blk w g t cs) {base sz n cap : Nat} {xs : List Value} (hb : base ≤ g) (hc : n ≤ cap) (hm : cap ≤ maxLen) (hs : cs.size = cap * sz) (ht : cs.toList.take (n * sz) = xs) : w.ownsRow base t sz (.slice (some ⟨g, 0, none⟩) n cap) n xs :=
  ⟨by rw [← ht, List.length_take, Array.length_toList, hs, Nat.min_eq_left (Nat.mul_le_mul_right _ hc)], .inr ⟨g, cap, cs, rfl, hb, h, hc, hm, hs, ht⟩⟩
end
theorem ownsRow_below {w w' : World} {B base : Nat} {e : TypeId} {sz n : Nat} {v : Value} {xs : List Value} (h : w.ownsRow base e sz v n xs) (hb : Below B w w') (hB : w.heap.size ≤ B) : w'.ownsRow base e sz v n xs := by
  refine ⟨h.1, ?_⟩
  rcases h.2 with hn | ⟨g, cap, cur, hv, hbg, hg, r⟩
  · exact .inl hn
  · exact .inr ⟨g, cap, cur, hv, hbg, (hb.block g (Nat.lt_of_lt_of_le (Array.getElem?_eq_some_iff.1 hg).1 hB)).trans hg, r⟩
theorem ownsRow_base {w : World} {base base' : Nat} {e : TypeId} {sz n : Nat} {v : Value} {xs : List Value} (h : w.ownsRow base e sz v n xs) (hb : base' ≤ base) : w.ownsRow base' e sz v n xs := by
  refine ⟨h.1, ?_⟩
  rcases h.2 with hn | ⟨g, cap, cur, hv, hbg, r⟩
  · exact .inl hn
  · exact .inr ⟨g, cap, cur, hv, Nat.le_trans hb hbg, r⟩
/-! ### entries -/
abbrev Ent := ByteArray × Int
def entC (e : Ent) : List Value := [.string e.1, .int .i64 e.2]
def entsC (es : List Ent) : List Value := es.flatMap entC
theorem entsC_cons (e : Ent) (es : List Ent) : entsC (e :: es) = .string e.1 :: .int .i64 e.2 :: entsC es := rfl
theorem entsC_append (a b : List Ent) : entsC (a ++ b) = entsC a ++ entsC b := by simp [entsC]
theorem entsC_length (es : List Ent) : (entsC es).length = es.length * 2 := by
  induction es with
  | nil => rfl
  | cons e r ih => rw [entsC_cons, List.length_cons, List.length_cons, ih, List.length_cons]; omega
theorem entsC_take (es : List Ent) (k : Nat) : (entsC es).take (k * 2) = entsC (es.take k) := by
  induction es generalizing k with
  | nil => simp [entsC]
  | cons e r ih =>
    match k with
    | 0 => simp [entsC]
    | k + 1 => rw [show (k + 1) * 2 = k * 2 + 1 + 1 from by omega, entsC_cons, List.take_succ_cons, List.take_succ_cons, ih, List.take_succ_cons, entsC_cons]
theorem entsC_drop (es : List Ent) (k : Nat) : (entsC es).drop (k * 2) = entsC (es.drop k) := by
  induction es generalizing k with
  | nil => simp [entsC]
  | cons e r ih =>
    match k with
    | 0 => simp
    | k + 1 => rw [show (k + 1) * 2 = k * 2 + 1 + 1 from by omega, entsC_cons, List.drop_succ_cons, List.drop_succ_cons, ih, List.drop_succ_cons]
theorem entsC_key (es : List Ent) (k : Nat) (h : k < es.length) : (entsC es)[k * 2]? = some (.string es[k].1) := by
  have := entsC_drop es k
  rw [List.drop_eq_getElem_cons h, entsC_cons] at this
  have h2 : ((entsC es).drop (k * 2))[0]? = some (.string es[k].1) := by rw [this]; rfl
  rwa [List.getElem?_drop, Nat.add_zero] at h2
theorem entsC_val (es : List Ent) (k : Nat) (h : k < es.length) : (entsC es)[k * 2 + 1]? = some (.int .i64 es[k].2) := by
  have := entsC_drop es k
  rw [List.drop_eq_getElem_cons h, entsC_cons] at this
  have h2 : ((entsC es).drop (k * 2))[1]? = some (.int .i64 es[k].2) := by rw [this]; rfl
  rwa [List.getElem?_drop] at h2
theorem Rd.ent {w wr : World} {A : Option Addr} {n : Nat} {es : List Ent} (h : Rd w 2 A n (entsC es)) (hb : Below w.heap.size w wr) {k : Nat} (hk : k < es.length) :
    ∃ b off, A = some ⟨b, off, none⟩ ∧ b < w.heap.size ∧ b < wr.heap.size ∧ wr.cell? ⟨b, off + k * 2, none⟩ = some (.string es[k].1) ∧ wr.cell? ⟨b, off + k * 2 + 1, none⟩ = some (.int .i64 es[k].2) := by
  have hl := entsC_length es
  obtain ⟨b, off, e, hlt, hc⟩ := h.2 (by have := h.1; omega)
  refine ⟨b, off, e, hlt, Nat.lt_of_lt_of_le hlt hb.size, ?_, ?_⟩
  · exact (hb.cell (p := ⟨b, off + k * 2, none⟩) hlt).trans (hc _ _ (entsC_key es k hk))
  · exact (hb.cell (p := ⟨b, off + k * 2 + 1, none⟩) hlt).trans (hc _ _ (entsC_val es k hk))
theorem Rd.len {w : World} {A : Option Addr} {n : Nat} {es : List Ent} (h : Rd w 2 A n (entsC es)) : es.length = n := by
  have h1 := entsC_length es; have h2 := h.1; omega

/-! ### edits -/
structure Edt where
  key : ByteArray
  val : Int
  gone : Bool
def edtC (e : Edt) : List Value := [.string e.key, .int .i64 e.val, .bool e.gone]
def edtsC (es : List Edt) : List Value := es.flatMap edtC
theorem edtsC_cons (e : Edt) (es : List Edt) : edtsC (e :: es) = .string e.key :: .int .i64 e.val :: .bool e.gone :: edtsC es := rfl
theorem edtsC_append (a b : List Edt) : edtsC (a ++ b) = edtsC a ++ edtsC b := by simp [edtsC]
end Go.Proofs.Ytjhimcddgkoghaa
namespace Go.Proofs.Ytjhimcddgkoghaa
open Go.RowKit


namespace Nm
/-- a letter or the low line -/
def letter (c : Int) : Bool := (decide (97 ≤ c) && decide (c ≤ 122)) || (decide (65 ≤ c) && decide (c ≤ 90)) || decide (c = 95)
def digit (c : Int) : Bool := decide (48 ≤ c) && decide (c ≤ 57)
def lettersFrom (l : List UInt8) : Bool := l.all fun c => letter c.toNat || digit c.toNat
def nameOK (l : List UInt8) : Bool :=
  match l with
  | [] => false
  | c :: r => decide (r.length < 12) && letter c.toNat && lettersFrom r
theorem letter_not_digit (c : Int) (h : letter c = true) : digit c = false := by
  simp [letter, digit] at *; omega
end Nm

theorem isLetter_any (c : Int) (w : World) :
    Calls Try.prog 204 #[.int .u8 c] w fun e w' => e = .returned (.bool (Nm.letter c)) ∧ w = w' := by
  go_enter Try.func204, Try.ntmps204
  go_wp2
  all_goals (go_ret; exact ⟨ret_bool (by rw [Bool.eq_iff_iff]; simp [Nm.letter]; try omega), rfl⟩)

theorem isDigit_any (c : Int) (w : World) :
    Calls Try.prog 203 #[.int .u8 c] w fun e w' => e = .returned (.bool (Nm.digit c)) ∧ w = w' := by
  go_enter Try.func203, Try.ntmps203
  go_wp2
  all_goals (go_ret; exact ⟨ret_bool (by rw [Bool.eq_iff_iff]; simp [Nm.digit]; try omega), rfl⟩)

theorem l00Letter_any (c : Int) (w : World) :
    Calls Try.prog 228 #[.int .u8 c] w fun e w' => e = .returned (.bool (Nm.letter c)) ∧ w = w' := by
  go_enter Try.func228, Try.ntmps228
  go_wp2
  all_goals (go_ret; exact ⟨ret_bool (by rw [Bool.eq_iff_iff]; simp [Nm.letter]; try omega), rfl⟩)

theorem l00Digit_any (c : Int) (w : World) :
    Calls Try.prog 229 #[.int .u8 c] w fun e w' => e = .returned (.bool (Nm.digit c)) ∧ w = w' := by
  go_enter Try.func229, Try.ntmps229
  go_wp2
  all_goals (go_ret; exact ⟨ret_bool (by rw [Bool.eq_iff_iff]; simp [Nm.digit]; try omega), rfl⟩)


namespace Nm
def okc (c : UInt8) : Bool := letter c.toNat || digit c.toNat
theorem lettersFrom_take (l : List UInt8) (k : Nat) (h : k < l.length) : lettersFrom (l.take (k + 1)) = (lettersFrom (l.take k) && okc l[k]) := by
  unfold lettersFrom okc; rw [List.take_succ_eq_append_getElem h, List.all_append]; simp
theorem lettersFrom_bad (l : List UInt8) (k : Nat) (h : k < l.length) (hb : okc l[k] = false) : lettersFrom l = false := by
  rw [lettersFrom, List.all_eq_false]
  exact ⟨l[k], List.getElem_mem h, by simp only [okc] at hb; simp [hb]⟩
theorem nameOK_eq (l : List UInt8) (h0 : 0 < l.length) (h1 : l.length ≤ 12) : nameOK l = (letter l[0].toNat && lettersFrom l) := by
  match l, h0 with
  | c :: r, _ =>
    have : r.length < 12 := by simp at h1; omega
    simp [nameOK, this, lettersFrom]
    cases letter c.toNat <;> simp
theorem nameOK_nil : nameOK [] = false := rfl
theorem nameOK_long (l : List UInt8) (h : 12 < l.length) : nameOK l = false := by
  match l with
  | c :: r => 
    have : ¬ r.length < 12 := by simp at h; omega
    simp [nameOK, this]
theorem digit_not_letter (c : Int) (h : digit c = true) : letter c = false := by
  simp [letter, digit] at *; omega
theorem nameOK_digit (l : List UInt8) (h0 : 0 < l.length) (hd : digit l[0].toNat = true) : nameOK l = false := by
  match l, h0 with
  | c :: r, _ =>
    have hd' : letter c.toNat = false := digit_not_letter _ hd
    simp [nameOK, hd']
theorem nameOK_letters (l : List UInt8) (h0 : 0 < l.length) (h1 : l.length ≤ 12) (hd : digit l[0].toNat = false) : nameOK l = lettersFrom l := by
  rw [nameOK_eq l h0 h1]
  cases h : letter l[0].toNat with
  | true => rfl
  | false => exact (lettersFrom_bad l 0 h0 (by simp [okc, h, hd])).symm
end Nm

set_option maxHeartbeats 400000 in
theorem nameOK_any (s : ByteArray) (w : World) (hs : s.size ≤ maxLen) :
    Calls Try.prog 109 #[.string s] w fun e w' => e = .returned (.bool (Nm.nameOK s.data.toList)) ∧ w = w' := by
  unfold maxLen at hs
  have hl : s.data.toList.length = s.size := by simp
  by_cases h0 : s.size = 0
  · have : s = ByteArray.empty := by simpa using h0
    subst this
    go_enter Try.func109, Try.ntmps109
    go_wp2
    go_ret
    exact ⟨rfl, rfl⟩
  by_cases h1 : 12 < s.size
  · go_enter Try.func109, Try.ntmps109
    go_wp2
    go_ret
    exact ⟨ret_bool (Nm.nameOK_long _ (by omega)).symm, rfl⟩
  have e0 : ((s.size : Int) == 0) = false := beq_eq_false_iff_ne.2 (by omega)
  have e1 : decide ((12 : Int) < s.size) = false := decide_eq_false (by omega)
  have p0 : 0 < s.size := by omega
  cases hd : Nm.digit s[0].toNat with
  | true =>
    have hfin : Nm.nameOK s.data.toList = false := Nm.nameOK_digit _ (by rw [hl]; exact p0) hd
    have Hf := Lib.hid hfin; clear hfin
    go_enter Try.func109, Try.ntmps109
    go_wp2_with (first | (go_at_call 203; refine (isDigit_any _ _).mono ?_; rintro e w' ⟨rfl, rfl⟩) | (go_at_call 204; refine (isLetter_any _ _).mono ?_; rintro e w' ⟨rfl, rfl⟩))
    go_ret
    exact ⟨ret_bool Hf.out.symm, rfl⟩
  | false =>
    have hfin : Nm.nameOK s.data.toList = Nm.lettersFrom s.data.toList := Nm.nameOK_letters _ (by rw [hl]; exact p0) (by omega) hd
    have Hf := Lib.hid hfin; clear hfin
    have h1' : s.size ≤ 12 := by omega
    clear h1
    go_enter Try.func109, Try.ntmps109
    go_wp2_with (first | (go_at_call 203; refine (isDigit_any _ _).mono ?_; rintro e w' ⟨rfl, rfl⟩) | (go_at_call 204; refine (isLetter_any _ _).mono ?_; rintro e w' ⟨rfl, rfl⟩))
    go_loop [3] (fun i => ∃ k : Nat, k ≤ s.size ∧ i = .int .i64 k ∧ Nm.lettersFrom (s.data.toList.take k) = true) (fun i => s.size - (intOf i).toNat)
    case atStart => exact ⟨0, Nat.zero_le _, rfl, rfl⟩
    case round =>
      obtain ⟨k, hk, rfl, hr⟩ := hrel
      have Hr := Lib.hid hr; clear hr
      by_cases hlt : k < s.size
      · have hst : Hid (Nm.lettersFrom (s.data.toList.take (k + 1)) = (Nm.lettersFrom (s.data.toList.take k) && Nm.okc s[k])) := Nm.lettersFrom_take _ k (by omega)
        have hbad : Hid (Nm.okc s[k] = false → Nm.lettersFrom s.data.toList = false) := fun h => Nm.lettersFrom_bad _ k (by omega) h
        have hok : Nm.okc s[k] = (Nm.letter s[k].toNat || Nm.digit s[k].toNat) := rfl
        have Hok := Lib.hid hok; clear hok
        go_wp2_with (first | (go_at_call 203; refine (isDigit_any _ _).mono ?_; rintro e w' ⟨rfl, rfl⟩) | (go_at_call 204; refine (isLetter_any _ _).mono ?_; rintro e w' ⟨rfl, rfl⟩))
        · go_round
          case rel => exact ⟨k + 1, by omega, by go_num, by rw [hst.out, Hr.out, Hok.out]; simp [*]⟩
          case measure => simp [intOf]; omega
        · go_ret
          exact ⟨ret_bool (by rw [Hf.out, hbad.out]; rw [Hok.out]; simp_all), rfl⟩
        · go_round
          case rel => exact ⟨k + 1, by omega, by go_num, by rw [hst.out, Hr.out, Hok.out]; simp_all⟩
          case measure => simp [intOf]; omega
      · go_wp2
        go_ret
        exact ⟨ret_bool (by rw [Hf.out]; have := Hr.out; rw [List.take_of_length_le (by omega)] at this; exact this.symm), rfl⟩

set_option maxHeartbeats 400000 in
theorem l00Word_any (s : ByteArray) (w : World) (hs : s.size ≤ maxLen) :
    Calls Try.prog 154 #[.string s] w fun e w' => e = .returned (.bool (Nm.nameOK s.data.toList)) ∧ w = w' := by
  unfold maxLen at hs
  have hl : s.data.toList.length = s.size := by simp
  by_cases h0 : s.size = 0
  · have : s = ByteArray.empty := by simpa using h0
    subst this
    go_enter Try.func154, Try.ntmps154
    go_wp2
    go_ret
    exact ⟨rfl, rfl⟩
  have e2 : decide ((s.size : Int) < 1) = false := decide_eq_false (by omega)
  by_cases h1 : 12 < s.size
  · go_enter Try.func154, Try.ntmps154
    go_wp2
    go_ret
    exact ⟨ret_bool (Nm.nameOK_long _ (by omega)).symm, rfl⟩
  have e1 : decide ((12 : Int) < s.size) = false := decide_eq_false (by omega)
  have p0 : 0 < s.size := by omega
  cases hd : Nm.letter s[0].toNat with
  | false =>
    have hfin : Nm.nameOK s.data.toList = false := by
      rw [Nm.nameOK_eq _ (by rw [hl]; exact p0) (by omega)]
      have : Nm.letter s.data.toList[0].toNat = false := hd
      rw [this]; rfl
    have Hf := Lib.hid hfin; clear hfin
    go_enter Try.func154, Try.ntmps154
    go_wp2_with (go_at_call 228; refine (l00Letter_any _ _).mono ?_; rintro e w' ⟨rfl, rfl⟩)
    go_ret
    exact ⟨ret_bool Hf.out.symm, rfl⟩
  | true =>
    have hfin : Nm.nameOK s.data.toList = Nm.lettersFrom s.data.toList := by
      rw [Nm.nameOK_eq _ (by rw [hl]; exact p0) (by omega)]
      have : Nm.letter s.data.toList[0].toNat = true := hd
      rw [this]; rfl
    have Hf := Lib.hid hfin; clear hfin
    have hst1 : Hid (Nm.lettersFrom (s.data.toList.take 1) = true) := by
      have e : Nm.lettersFrom (s.data.toList.take (0 + 1)) = (Nm.lettersFrom (s.data.toList.take 0) && Nm.okc s[0]) := Nm.lettersFrom_take _ 0 (by rw [hl]; exact p0)
      show Nm.lettersFrom (s.data.toList.take (0 + 1)) = true
      rw [e, Nm.okc, hd]; rfl
    have h1' : s.size ≤ 12 := by omega
    clear h1
    go_enter Try.func154, Try.ntmps154
    go_wp2_with (go_at_call 228; refine (l00Letter_any _ _).mono ?_; rintro e w' ⟨rfl, rfl⟩)
    go_loop [3] (fun i => ∃ k : Nat, 1 ≤ k ∧ k ≤ s.size ∧ i = .int .i64 k ∧ Nm.lettersFrom (s.data.toList.take k) = true) (fun i => s.size - (intOf i).toNat)
    case atStart => exact ⟨1, Nat.le_refl _, p0, rfl, hst1.out⟩
    case round =>
      obtain ⟨k, hk0, hk, rfl, hr⟩ := hrel
      have Hr := Lib.hid hr; clear hr
      by_cases hlt : k < s.size
      · have hst : Hid (Nm.lettersFrom (s.data.toList.take (k + 1)) = (Nm.lettersFrom (s.data.toList.take k) && Nm.okc s[k])) := Nm.lettersFrom_take _ k (by omega)
        have hbad : Hid (Nm.okc s[k] = false → Nm.lettersFrom s.data.toList = false) := fun h => Nm.lettersFrom_bad _ k (by omega) h
        have hok : Nm.okc s[k] = (Nm.letter s[k].toNat || Nm.digit s[k].toNat) := rfl
        have Hok := Lib.hid hok; clear hok
        go_wp2_with (first | (go_at_call 228; refine (l00Letter_any _ _).mono ?_; rintro e w' ⟨rfl, rfl⟩) | (go_at_call 229; refine (l00Digit_any _ _).mono ?_; rintro e w' ⟨rfl, rfl⟩))
        · go_round
          case rel => exact ⟨k + 1, by omega, by omega, by go_num, by rw [hst.out, Hr.out, Hok.out]; simp [*]⟩
          case measure => simp [intOf]; omega
        · go_ret
          exact ⟨ret_bool (by rw [Hf.out, hbad.out]; rw [Hok.out]; simp_all), rfl⟩
        · go_round
          case rel => exact ⟨k + 1, by omega, by omega, by go_num, by rw [hst.out, Hr.out, Hok.out]; simp_all⟩
          case measure => simp [intOf]; omega
      · go_wp2
        go_ret
        exact ⟨ret_bool (by rw [Hf.out]; have := Hr.out; rw [List.take_of_length_le (by omega)] at this; exact this.symm), rfl⟩

end Go.Proofs.Ytjhimcddgkoghaa
/- The plain side of chapter 2: keys in order, maps, edits, and what the functions return. Lists and numbers alone. -/
namespace Go.Proofs.Ytjhimcddgkoghaa

/-! ### keys in order -/
theorem bytesLess_lt : ∀ (x y : List UInt8), Op.bytesLess x y = decide (x < y)
  | [], [] => by simp [Op.bytesLess]
  | [], _ :: _ => by simp [Op.bytesLess]
  | _ :: _, [] => by simp [Op.bytesLess]
  | a :: xs, b :: ys => by
    rw [Op.bytesLess, bytesLess_lt xs ys, Bool.eq_iff_iff]
    simp [List.cons_lt_cons_iff]
def klt (a b : ByteArray) : Bool := Op.bytesLess a.toList b.toList
theorem klt_iff (a b : ByteArray) : klt a b = true ↔ a.toList < b.toList := by simp [klt, bytesLess_lt]
theorem klt_irrefl (a : ByteArray) : klt a a = false := by
  cases h : klt a a with
  | false => rfl
  | true => exact absurd ((klt_iff _ _).1 h) (List.lt_irrefl _)
theorem klt_trans {a b c : ByteArray} (h : klt a b = true) (k : klt b c = true) : klt a c = true :=
  (klt_iff _ _).2 (List.lt_trans ((klt_iff _ _).1 h) ((klt_iff _ _).1 k))
theorem klt_asymm {a b : ByteArray} (h : klt a b = true) : klt b a = false := by
  cases k : klt b a with
  | false => rfl
  | true => have := klt_trans h k; rw [klt_irrefl] at this; cases this
theorem klt_tri {a b : ByteArray} (h : klt a b = false) (k : a ≠ b) : klt b a = true := by
  rw [klt_iff]
  have h' : ¬ a.toList < b.toList := fun x => by rw [(klt_iff _ _).2 x] at h; cases h
  rcases List.le_iff_lt_or_eq.1 (List.not_lt.1 h') with h2 | h2
  · exact h2
  · exact absurd (toList_inj h2.symm) k
theorem klt_ne {a b : ByteArray} (h : klt a b = true) : a ≠ b := by rintro rfl; rw [klt_irrefl] at h; cases h
/-- 'a <= b' in the walk's own words, with the sides turned -/
theorem kle_eq (a b : ByteArray) : (Op.bytesLess a.toList b.toList || a.toList == b.toList) = !klt b a := by
  have e : Op.bytesLess a.toList b.toList = klt a b := rfl
  rw [e, toList_beq]
  by_cases h : a = b
  · subst h; simp [klt_irrefl]
  · cases k : klt a b with
    | true => simp [klt_asymm k]
    | false => simp [klt_tri k h, h]

/-! ### maps -/
def nm (k : ByteArray) : Bool := Nm.nameOK k.data.toList
def valB (x : Int) : Bool := decide (-1000000 ≤ x) && decide (x ≤ 1000000)
def kAt (es : List Ent) (i : Nat) : ByteArray := (es.getD i (ByteArray.empty, 0)).1
def ordAt (es : List Ent) (i : Nat) : Bool := nm (kAt es i) && (decide (i = 0) || klt (kAt es (i - 1)) (kAt es i))
def valAt (es : List Ent) (i : Nat) : Bool := valB (es.getD i (ByteArray.empty, 0)).2
def ordM (es : List Ent) : Bool := (List.range es.length).all (ordAt es)
def valM (es : List Ent) : Bool := (List.range es.length).all (valAt es)
def mapOK (es : List Ent) : Bool := decide (es.length ≤ 12) && (ordM es && valM es)
theorem kAt_eq (es : List Ent) (i : Nat) (h : i < es.length) : kAt es i = es[i].1 := by simp [kAt, h]
theorem ordM_of {es : List Ent} (h : ∀ i, i < es.length → ordAt es i = true) : ordM es = true := by
  rw [ordM, List.all_eq_true]; intro i hi; exact h i (List.mem_range.1 hi)
theorem valM_of {es : List Ent} (h : ∀ i, i < es.length → valAt es i = true) : valM es = true := by
  rw [valM, List.all_eq_true]; intro i hi; exact h i (List.mem_range.1 hi)
theorem ordM_not {es : List Ent} {i : Nat} (hi : i < es.length) (h : ordAt es i = false) : ordM es = false := by
  rw [ordM, List.all_eq_false]; exact ⟨i, List.mem_range.2 hi, by rw [h]; simp⟩
theorem valM_not {es : List Ent} {i : Nat} (hi : i < es.length) (h : valAt es i = false) : valM es = false := by
  rw [valM, List.all_eq_false]; exact ⟨i, List.mem_range.2 hi, by rw [h]; simp⟩
theorem ordM_at {es : List Ent} (h : ordM es = true) {i : Nat} (hi : i < es.length) : ordAt es i = true := List.all_eq_true.1 h i (List.mem_range.2 hi)
theorem mapOK_of {es : List Ent} (h0 : es.length ≤ 12) (h : ∀ i, i < es.length → ordAt es i = true ∧ valAt es i = true) : mapOK es = true := by
  rw [mapOK, ordM_of fun i hi => (h i hi).1, valM_of fun i hi => (h i hi).2, decide_eq_true h0]; rfl
theorem mapOK_noOrd {es : List Ent} {i : Nat} (hi : i < es.length) (h : ordAt es i = false) : mapOK es = false := by
  rw [mapOK, ordM_not hi h]; simp
theorem mapOK_noVal {es : List Ent} {i : Nat} (hi : i < es.length) (h : valAt es i = false) : mapOK es = false := by
  rw [mapOK, valM_not hi h]; simp
theorem mapOK_long {es : List Ent} (h : 12 < es.length) : mapOK es = false := by
  rw [mapOK, decide_eq_false (by omega)]; rfl
theorem ordAt_pos {es : List Ent} {k : Nat} (h : 0 < k) (hk : k < es.length) (hn : nm (kAt es k) = true) : ordAt es k = klt (es[k - 1]'(by omega)).1 es[k].1 := by
  rw [ordAt, hn, decide_eq_false (by omega), kAt_eq es k hk, kAt_eq es (k - 1) (by omega)]; simp
theorem ordAt_zero {es : List Ent} (hn : nm (kAt es 0) = true) : ordAt es 0 = true := by rw [ordAt, hn]; rfl

end Go.Proofs.Ytjhimcddgkoghaa
/- The plain side of Get, Put, Remove, Scan: what is found, put in, taken out, cut out; the program's way and the document's way agree on lists in order. -/
namespace Go.Proofs.Ytjhimcddgkoghaa

def Srt (es : List Ent) : Prop := es.Pairwise fun a b => klt a.1 b.1 = true
theorem srt_of_ordM {es : List Ent} (h : ordM es = true) : Srt es := by
  have hadj : ∀ i, (hi : i + 1 < es.length) → klt es[i].1 es[i + 1].1 = true := fun i hi => by
    have := ordM_at h hi
    rw [ordAt, Bool.and_eq_true] at this
    have h2 := this.2
    rw [decide_eq_false (by omega), Bool.false_or, Nat.add_sub_cancel, kAt_eq es i (by omega), kAt_eq es (i + 1) hi] at h2
    exact h2
  rw [Srt, List.pairwise_iff_getElem]
  intro i j hi hj hij
  induction j with
  | zero => omega
  | succ j ih =>
    rcases Nat.lt_or_ge i j with hlt | hge
    · exact klt_trans (ih (by omega) hlt) (hadj j hj)
    · have : i = j := by omega
      subst this; exact hadj i hj
theorem srt_of_mapOK {es : List Ent} (h : mapOK es = true) : Srt es := by
  rw [mapOK, Bool.and_eq_true, Bool.and_eq_true] at h
  exact srt_of_ordM h.2.1

/-! ### looking up -/
def fnd (es : List Ent) (k : ByteArray) : Option Nat := es.findIdx? fun e => decide (e.1 = k)
theorem fnd_none {es : List Ent} {k : ByteArray} (h : ∀ j, (hj : j < es.length) → es[j].1 ≠ k) : fnd es k = none := by
  rw [fnd, List.findIdx?_eq_none_iff]
  intro e he
  obtain ⟨j, hj, rfl⟩ := List.getElem_of_mem he
  simpa using h j hj
/-- where a key is or would be: 'place' -/
def IsPlc (es : List Ent) (k : ByteArray) (p : Nat) : Prop := p ≤ es.length ∧ (∀ j, (hj : j < es.length) → j < p → klt es[j].1 k = true) ∧ ((hp : p < es.length) → klt es[p].1 k = false)
theorem IsPlc.fnd_no {es : List Ent} {k : ByteArray} {p : Nat} (h : IsPlc es k p) (hs : Srt es) (he : ∀ hp : p < es.length, es[p].1 ≠ k) : fnd es k = none :=
  fnd_none fun j hj => by
    rcases Nat.lt_trichotomy j p with hlt | heq | hgt
    · exact klt_ne (h.2.1 j hj hlt)
    · subst heq; exact he hj
    · have h1 : klt es[p].1 es[j].1 = true := (List.pairwise_iff_getElem.1 hs) p j (by omega) hj hgt
      have h2 : klt k es[p].1 = true := klt_tri (h.2.2 (by omega)) (he (by omega))
      exact (klt_ne (klt_trans h2 h1)).symm
theorem IsPlc.take {es : List Ent} {k : ByteArray} {p : Nat} (h : IsPlc es k p) : es.takeWhile (fun e => klt e.1 k) = es.take p ∧ es.dropWhile (fun e => klt e.1 k) = es.drop p := by
  induction es generalizing p with
  | nil => obtain ⟨h1, _⟩ := h; simp
  | cons e r ih =>
    obtain ⟨h1, h2, h3⟩ := h
    match p, h1, h2, h3 with
    | 0, _, _, h3 => have := h3 (by simp); simp at this; simp [this]
    | p + 1, h1, h2, h3 =>
      have he := h2 0 (by simp) (by omega)
      simp at he
      have := ih (p := p) ⟨by simpa using h1, fun j hj hjp => by have := h2 (j + 1) (by simp; omega) (by omega); simpa using this, fun hp => by have := h3 (by simp; omega); simpa using this⟩
      simp [he, this]
/-! ### putting in -/
def putL (es : List Ent) (k : ByteArray) (v : Int) : List Ent := es.takeWhile (fun e => klt e.1 k) ++ (k, v) :: (es.dropWhile (fun e => klt e.1 k)).filter fun e => decide (e.1 ≠ k)
def delL (es : List Ent) (k : ByteArray) : List Ent := es.filter fun e => decide (e.1 ≠ k)
theorem filter_all {l : List Ent} {k : ByteArray} (h : ∀ e ∈ l, e.1 ≠ k) : l.filter (fun e => decide (e.1 ≠ k)) = l := by
  rw [List.filter_eq_self]; intro e he; simpa using h e he
/-- behind the place no key is the looked-for one but perhaps the first -/
theorem IsPlc.after {es : List Ent} {k : ByteArray} {p : Nat} (h : IsPlc es k p) (hs : Srt es) (j : Nat) (hj : j < es.length) (hpj : p < j) : klt k es[j].1 = true := by
  have h1 : klt es[p].1 es[j].1 = true := (List.pairwise_iff_getElem.1 hs) p j (by omega) hj hpj
  by_cases he : es[p].1 = k
  · rw [← he]; exact h1
  · exact klt_trans (klt_tri (h.2.2 (by omega)) he) h1
theorem IsPlc.put_yes {es : List Ent} {k : ByteArray} {p : Nat} (h : IsPlc es k p) (hs : Srt es) (hp : p < es.length) (he : es[p].1 = k) (v : Int) : putL es k v = es.take p ++ (k, v) :: es.drop (p + 1) := by
  obtain ⟨h1, h2⟩ := h.take
  rw [putL, h1, h2, List.drop_eq_getElem_cons hp]
  rw [List.filter_cons_of_neg (by simpa using he), filter_all]
  intro e hm
  obtain ⟨j, hj, rfl⟩ := List.getElem_of_mem hm
  rw [List.getElem_drop]
  exact (klt_ne (h.after hs (p + 1 + j) (by rw [List.length_drop] at hj; omega) (by omega))).symm
theorem IsPlc.put_no {es : List Ent} {k : ByteArray} {p : Nat} (h : IsPlc es k p) (hs : Srt es) (he : ∀ hp : p < es.length, es[p].1 ≠ k) (v : Int) : putL es k v = es.take p ++ (k, v) :: es.drop p := by
  obtain ⟨h1, h2⟩ := h.take
  rw [putL, h1, h2, filter_all]
  intro e hm
  obtain ⟨j, hj, rfl⟩ := List.getElem_of_mem hm
  rw [List.getElem_drop]
  rw [List.length_drop] at hj
  rcases Nat.eq_zero_or_pos j with h0 | h0
  · subst h0; exact he (by omega)
  · exact (klt_ne (h.after hs (p + j) (by omega) (by omega))).symm
theorem IsPlc.del_yes {es : List Ent} {k : ByteArray} {p : Nat} (h : IsPlc es k p) (hs : Srt es) (hp : p < es.length) (he : es[p].1 = k) : delL es k = es.take p ++ es.drop (p + 1) := by
  have e1 : es = es.take p ++ es.drop p := (List.take_append_drop p es).symm
  rw [delL]
  rw (occs := .pos [1]) [e1]
  rw [List.filter_append, filter_all, List.drop_eq_getElem_cons hp, List.filter_cons_of_neg (by simpa using he), filter_all]
  · intro e hm
    obtain ⟨j, hj, rfl⟩ := List.getElem_of_mem hm
    rw [List.getElem_drop]
    exact (klt_ne (h.after hs (p + 1 + j) (by rw [List.length_drop] at hj; omega) (by omega))).symm
  · intro e hm
    obtain ⟨j, hj, rfl⟩ := List.getElem_of_mem hm
    rw [List.getElem_take]
    rw [List.length_take] at hj
    exact klt_ne (h.2.1 j (by omega) (by omega))
theorem del_no {es : List Ent} {k : ByteArray} (h : fnd es k = none) : delL es k = es := by
  rw [delL, filter_all]
  intro e he
  have := (List.findIdx?_eq_none_iff.1 h) e he
  simpa using this
/-! ### cutting out -/
theorem klt_of_le {a b c : ByteArray} (h : klt b a = false) (h2 : klt b c = true) : klt a c = true := by
  by_cases e : a = b
  · rw [e]; exact h2
  · exact klt_trans (klt_tri h (fun x => e x.symm)) h2
end Go.Proofs.Ytjhimcddgkoghaa
/- The document's way of putting in, step by step, comes to 'putL'. -/
namespace Go.Proofs.Ytjhimcddgkoghaa

def putStep (k : ByteArray) (v : Int) (s : List Ent × Bool) (e : Ent) : List Ent × Bool :=
  if s.2 = false ∧ klt e.1 k = false then (if e.1 = k then s.1 ++ [(k, v)] else s.1 ++ [(k, v)] ++ [e], true) else (if e.1 = k then s.1 else s.1 ++ [e], s.2)
def putTo (es : List Ent) (k : ByteArray) (v : Int) (i : Nat) : List Ent × Bool := (es.take i).foldl (putStep k v) ([], false)
theorem putTo_zero (es : List Ent) (k : ByteArray) (v : Int) : putTo es k v 0 = ([], false) := by simp [putTo]
theorem putTo_succ (es : List Ent) (k : ByteArray) (v : Int) (i : Nat) (h : i < es.length) : putTo es k v (i + 1) = putStep k v (putTo es k v i) es[i] := by
  rw [putTo, List.take_succ_eq_append_getElem h, List.foldl_append]; rfl
theorem putFold_true (k : ByteArray) (v : Int) (es acc : List Ent) : es.foldl (putStep k v) (acc, true) = (acc ++ es.filter (fun e => decide (e.1 ≠ k)), true) := by
  induction es generalizing acc with
  | nil => simp
  | cons e r ih =>
    rw [List.foldl_cons]
    by_cases he : e.1 = k
    · rw [show putStep k v (acc, true) e = (acc, true) by simp [putStep, he], ih, List.filter_cons_of_neg (by simpa using he)]
    · rw [show putStep k v (acc, true) e = (acc ++ [e], true) by simp [putStep, he], ih, List.filter_cons_of_pos (by simpa using he)]; simp
theorem putFold (k : ByteArray) (v : Int) (es acc : List Ent) : (if (es.foldl (putStep k v) (acc, false)).2 then (es.foldl (putStep k v) (acc, false)).1 else (es.foldl (putStep k v) (acc, false)).1 ++ [(k, v)]) = acc ++ putL es k v := by
  induction es generalizing acc with
  | nil => simp [putL]
  | cons e r ih =>
    rw [List.foldl_cons]
    cases hk : klt e.1 k with
    | true =>
      have hne := klt_ne hk
      rw [show putStep k v (acc, false) e = (acc ++ [e], false) by simp [putStep, hk, hne], ih]
      simp [putL, hk]
    | false =>
      by_cases he : e.1 = k
      · subst he
        rw [show putStep e.1 v (acc, false) e = (acc ++ [(e.1, v)], true) by simp [putStep, klt_irrefl], putFold_true]
        simp [putL, klt_irrefl]
      · rw [show putStep k v (acc, false) e = (acc ++ [(k, v)] ++ [e], true) by simp [putStep, hk, he], putFold_true]
        simp [putL, hk, he]
theorem putTo_end (es : List Ent) (k : ByteArray) (v : Int) : (if (putTo es k v es.length).2 then (putTo es k v es.length).1 else (putTo es k v es.length).1 ++ [(k, v)]) = putL es k v := by
  have := putFold k v es []
  rw [putTo, List.take_length]
  rw [List.nil_append] at this; exact this
theorem putTo_len (es : List Ent) (k : ByteArray) (v : Int) (i : Nat) (h : i ≤ es.length) : (putTo es k v i).1.length ≤ i + (if (putTo es k v i).2 then 1 else 0) := by
  induction i with
  | zero => simp [putTo_zero]
  | succ i ih =>
    have ih := ih (by omega)
    rw [putTo_succ es k v i (by omega)]
    generalize putTo es k v i = s at *
    obtain ⟨s1, s2⟩ := s
    unfold putStep
    cases s2 <;> simp at ih ⊢ <;> (repeat' split) <;> simp at * <;> omega
theorem putTo_len2 (es : List Ent) (k : ByteArray) (v : Int) (i : Nat) (h : i ≤ es.length) : (putTo es k v i).1.length ≤ i + 1 := by
  have := putTo_len es k v i h
  split at this <;> omega
theorem putStep_old {k : ByteArray} {v : Int} {s : List Ent × Bool} {e : Ent} (h : s.2 = true ∨ klt e.1 k = true) : putStep k v s e = (if e.1 = k then s.1 else s.1 ++ [e], s.2) := by
  rw [putStep, if_neg]
  rintro ⟨a, b⟩
  rcases h with h | h
  · rw [h] at a; cases a
  · rw [h] at b; cases b
theorem putStep_new {k : ByteArray} {v : Int} {s : List Ent × Bool} {e : Ent} (h : s.2 = false) (h2 : klt e.1 k = false) : putStep k v s e = (if e.1 = k then s.1 ++ [(k, v)] else s.1 ++ [(k, v)] ++ [e], true) := by
  rw [putStep, if_pos ⟨h, h2⟩]

end Go.Proofs.Ytjhimcddgkoghaa
namespace Go.Proofs.Ytjhimcddgkoghaa
open Go.RowKit

/-! ### append of what a literal slice has just laid -/
theorem wpList_append_new {P : Program} (w : World) {ops : Array Oper} {rest : List Oper} {o : Oper} {a : Act} {Q : Exit → Act → World → Prop} (hgd : o.guard = none) (s x : Operand) (t : TypeId)
    (ho : o.op = .call { callee := .builtin .append, args := #[s, x], argTypes := #[t, t] })
    (base : Nat) (e : TypeId) (i : TypeInfo) (z : Value) (size bytes : Nat) (ht : P.underlying t = some (.slice e)) (hi : P.info? e = some i) (hz : i.zero = some z)
    (hsize : i.size = size) (hby : i.bytes = bytes) (hzs : z.cells.size = size) (hsz : 0 < size)
    (v : Value) (n : Nat) (xs : List Value) (hs : a.eval s = v) (hown : w.ownsRow base e size v n xs)
    (cs : Array Value) (m c : Nat) (hx : a.eval x = .slice (some ⟨w.heap.size, 0, none⟩) m c) (hl : cs.size = m * size) (h1 : ∀ u ∈ cs.toList, u.oneCell' = true)
    (hsmall : (n + m) * bytes ≤ 140737488355328) (hb1 : 1 ≤ bytes) (hbase : base ≤ w.heap.size)
    (h : ∀ v' w', w'.ownsRow base e size v' (n + m) (xs ++ cs.toList) → w.grownBy w' v.ownBlock → wpList P ops Q rest (a.put o.dst v') w') : wpList P ops Q (o :: rest) a (w.alloc (.cells cs e)) := by
  have h63 : n + m ≤ maxLen := by
    have : (n + m) * 1 ≤ (n + m) * bytes := Nat.mul_le_mul_left _ hb1
    unfold maxLen; omega
  refine wpList_append_own (w.alloc (.cells cs e)) hgd s x t ho base e i z size bytes ht hi hz hsize hby hzs hsz v n xs hs (hown.alloc _) ⟨w.heap.size, 0, none⟩ m c cs.toList hx (by simpa using hl) ?_ h1 h63 hsmall (by simp; omega) ?_
  · intro j u hu
    have hadd : (⟨w.heap.size, 0, none⟩ : Addr).add j = ⟨w.heap.size, j, none⟩ := by unfold Addr.add; split <;> simp_all
    rw [hadd, cell_of_row _ w.heap.size j cs e (0, 0) (heap_alloc_new w _)]
    simpa using hu
  · intro v' w' h2 h3 _
    exact h v' w' h2 ⟨h3.os, h3.tape, h3.output, Nat.le_trans (by simp) h3.size, fun k hk hne => (h3.block k (by simp; omega) hne).trans (Below.heap_alloc w _ k hk)⟩

theorem below_grown {B : Nat} {a w w' : World} {v : Value} {base : Nat} {e : TypeId} {sz n : Nat} {xs : List Value} (h : Below B a w) (hg : w.grownBy w' v.ownBlock) (ho : w.ownsRow base e sz v n xs) (hB : B ≤ w.heap.size) (hBb : B ≤ base) : Below B a w' :=
  h.grown hg hB fun k hk => Nat.le_trans hBb (ho.lt k hk).1


/-! ### copy between rows whose elements have several cells -/
theorem run_copy_multi {P : Program} (w : World) (dT sT ty elem : TypeId) (i : TypeInfo) (size : Nat) (hu : P.underlying dT = some (.slice elem)) (hi : P.info? elem = some i) (hsz : i.size = size)
    (dp sp : Option Addr) (dLen dCap sLen sCap g off : Nat) (cur : Array Value) (t : TypeId) (hg : Blk w g t cur) (cs : List Value) (hn : cs.length = Nat.min sLen dLen * size)
    (hpos : 0 < cs.length → dp = some ⟨g, off, none⟩ ∧ ∃ ad, sp = some ad ∧ ∀ j v, cs[j]? = some v → w.cell? (ad.add j) = some v) (hfit : off + cs.length ≤ cur.size) (h1 : ∀ v ∈ cs, v.oneCell' = true) :
    ∃ w', (Builtin.copy_ #[dT, sT] ty #[.slice dp dLen dCap, .slice sp sLen sCap]).run P w = .ok (goInt (Nat.min sLen dLen)) w' ∧ Blk w' g t (splice cur.toList off cs).toArray ∧ ∀ B w0, Below B w0 w → B ≤ g → Below B w0 w' := by
  subst hsz
  by_cases h0 : cs.length = 0
  · have hcs : cs = [] := List.eq_nil_of_length_eq_zero h0
    subst hcs
    refine ⟨w, ?_, by simpa [splice] using hg, fun _ _ h _ => h⟩
    have hz : Nat.min sLen dLen * i.size = 0 := by simpa using hn.symm
    have hload : (Builtin.firstCells i.size (Nat.min sLen dLen) (.slice sp sLen sCap)).run P w = .ok #[] w := by
      cases sp with
      | none => simp [Builtin.firstCells]
      | some a => exact run_firstCells_some (P := P) w i.size _ a sLen sCap [] (by simp [hz]) (by simp)
    cases dp with
    | none => simp [Builtin.copy_, run_underlying hu, Builtin.lenOf, sizeOf, typeInfo, hi, hload]
    | some a => simp [Builtin.copy_, run_underlying hu, Builtin.lenOf, sizeOf, typeInfo, hi, hload, storeCells]
  · obtain ⟨rfl, ad, rfl, hsrc⟩ := hpos (by omega)
    have hload := run_firstCells_some (P := P) w i.size (Nat.min sLen dLen) ad sLen sCap cs hn hsrc
    have hst := run_storeCells_at P g off t cs 0 cur w hg (by simpa using hfit) h1
    simp only [Nat.add_zero] at hst
    refine ⟨w.setRow g (cur.toList.take off ++ cs ++ cur.toList.drop (off + cs.length)).toArray, ?_, ?_, fun B w0 h hB => below_setRow h hB _⟩
    · simp [Builtin.copy_, run_underlying hu, Builtin.lenOf, sizeOf, typeInfo, hi, hload, hst]
    · have := setRow_heap w g cur (cur.toList.take off ++ cs ++ cur.toList.drop (off + cs.length)).toArray t (0, 0) hg
      simpa [Blk, splice] using this

theorem wpList_copy_multi {P : Program} {w : World} {ops : Array Oper} {rest : List Oper} {o : Oper} {a : Act} {Q : Exit → Act → World → Prop} (hgd : o.guard = none) (d s : Operand) (dT sT : TypeId)
    (ho : o.op = .call { callee := .builtin .copy, args := #[d, s], argTypes := #[dT, sT] }) (elem : TypeId) (i : TypeInfo) (size : Nat) (hu : P.underlying dT = some (.slice elem)) (hi : P.info? elem = some i) (hsz : i.size = size)
    (dp sp : Option Addr) (dLen dCap sLen sCap : Nat) (hd : a.eval d = .slice dp dLen dCap) (hs : a.eval s = .slice sp sLen sCap)
    (g off : Nat) (cur : Array Value) (t : TypeId) (hg : Blk w g t cur) (cs : List Value) (hn : cs.length = Nat.min sLen dLen * size)
    (hpos : 0 < cs.length → dp = some ⟨g, off, none⟩ ∧ ∃ ad, sp = some ad ∧ ∀ j v, cs[j]? = some v → w.cell? (ad.add j) = some v) (hfit : off + cs.length ≤ cur.size) (h1 : ∀ v ∈ cs, v.oneCell' = true)
    (B : Nat) (w0 : World) (hb : Below B w0 w) (hBg : B ≤ g)
    (h : ∀ w', Blk w' g t (splice cur.toList off cs).toArray → Below B w0 w' → wpList P ops Q rest (a.put o.dst (goInt (Nat.min sLen dLen))) w') : wpList P ops Q (o :: rest) a w := by
  refine wpList_plain hgd fun K hK => ?_
  obtain ⟨w', hrun, h2, h3⟩ := run_copy_multi (P := P) w dT sT o.type elem i size hu hi hsz dp sp dLen dCap sLen sCap g off cur t hg cs hn hpos hfit h1
  unfold Oper.wp
  simp [execOp, ho, resolve, invoke, builtin, hd, hs, hrun, Result.andThen]
  exact hK _ _ (h w' h2 (h3 B w0 hb hBg))

/-- a piece of a slice that reads as cells, as copy wants it: from place i on, m elements -/
theorem Rd.piece {w : World} {sz n : Nat} {A : Option Addr} {xs : List Value} (h : Rd w sz A n xs) {i m : Nat} (hm : i + m ≤ n) (hpos : 0 < ((xs.drop (i * sz)).take (m * sz)).length) :
    ∃ b off, A = some ⟨b, off, none⟩ ∧ ∀ j v, ((xs.drop (i * sz)).take (m * sz))[j]? = some v → w.cell? ((⟨b, off + i * sz, none⟩ : Addr).add j) = some v := by
  have hn : 0 < n := by
    rcases Nat.eq_zero_or_pos n with h0 | h0
    · subst h0
      have : m = 0 := by omega
      subst this
      simp at hpos
    · exact h0
  obtain ⟨b, off, rfl, _, hc⟩ := h.2 hn
  refine ⟨b, off, rfl, fun j v hj => ?_⟩
  have hadd : (⟨b, off + i * sz, none⟩ : Addr).add j = ⟨b, off + (i * sz + j), none⟩ := by unfold Addr.add; split <;> simp_all [Nat.add_assoc]
  rw [hadd]
  refine hc _ _ ?_
  rw [List.getElem?_take] at hj
  split at hj
  · rw [List.getElem?_drop] at hj; exact hj
  · cases hj
theorem length_piece {xs : List Value} {sz n i m : Nat} (h : xs.length = n * sz) (hm : i + m ≤ n) : ((xs.drop (i * sz)).take (m * sz)).length = m * sz := by
  rw [List.length_take, List.length_drop, h, ← Nat.sub_mul]
  exact Nat.min_eq_left (Nat.mul_le_mul_right _ (by omega))

/-- the same, in the walk's own spelling of 's[i:j]' below the capacity -/
theorem Rd.cut {w : World} {sz n : Nat} {A : Option Addr} {xs : List Value} (h : Rd w sz A n xs) {i m : Nat} (hm : i + m ≤ n) (hpos : 0 < ((xs.drop (i * sz)).take (m * sz)).length) :
    ∃ ad, Option.map (fun x => x.add (i * sz)) A = some ad ∧ ∀ j v, ((xs.drop (i * sz)).take (m * sz))[j]? = some v → w.cell? (ad.add j) = some v := by
  obtain ⟨b, off, rfl, hc⟩ := h.piece hm hpos
  have hadd : (⟨b, off, none⟩ : Addr).add (i * sz) = ⟨b, off + i * sz, none⟩ := by unfold Addr.add; split <;> simp_all
  exact ⟨_, rfl, fun j v hj => by
    show w.cell? (((⟨b, off, none⟩ : Addr).add (i * sz)).add j) = some v
    rw [hadd]; exact hc j v hj⟩

end Go.Proofs.Ytjhimcddgkoghaa
/- The law's helpers on entries: size, copy, equality. -/
namespace Go.Proofs.Ytjhimcddgkoghaa
open Go.RowKit

end Go.Proofs.Ytjhimcddgkoghaa
namespace Go.Proofs.Ytjhimcddgkoghaa
open Go.RowKit

theorem info_Entry : (Try.prog.info? 167).map (fun i => (i.zero, i.size, i.bytes)) = some (some (.agg #[.string ByteArray.empty, .int .i64 0]), 2, 24) := by kernel_rfl

end Go.Proofs.Ytjhimcddgkoghaa
namespace Go.Proofs.Ytjhimcddgkoghaa
open Go.RowKit

theorem valueOK_any (x : Int) (w : World) :
    Calls Try.prog 173 #[.int .i64 x] w fun e w' => e = .returned (.bool (decide (-1000000 ≤ x) && decide (x ≤ 1000000))) ∧ w = w' := by
  go_enter Try.func173, Try.ntmps173
  go_wp2
  all_goals (go_ret; exact ⟨ret_bool (by rw [Bool.eq_iff_iff]; simp; try omega), rfl⟩)

theorem l01In_any (x a b : Int) (w : World) :
    Calls Try.prog 155 #[.int .i64 x, .int .i64 a, .int .i64 b] w fun e w' => e = .returned (.bool (decide (a ≤ x) && decide (x ≤ b))) ∧ w = w' := by
  go_enter Try.func155, Try.ntmps155
  go_wp2
  all_goals (go_ret; exact ⟨ret_bool (by rw [Bool.eq_iff_iff]; simp; try omega), rfl⟩)

theorem keyOf_any (key : ByteArray) (v : Int) (w : World) :
    Calls Try.prog 289 #[.agg #[.string key, .int .i64 v]] w fun e w' => e = .returned (.string key) ∧ Below w.heap.size w w' := by
  go_enter Try.func289, Try.ntmps289
  go_wp2
  go_ret
  exact ⟨rfl, (Below.refl _ _).alloc (Nat.le_refl _) _⟩

theorem l00Word_ent (es : List Ent) (k : Nat) (hke : k < es.length) (hs : es[k].1.size ≤ maxLen) (W : World) :
    Calls Try.prog 154 #[.string es[k].1] W fun e w' => e = .returned (.bool (nm (kAt es k))) ∧ W = w' := by
  rw [kAt_eq es k hke]; exact l00Word_any _ W hs

theorem l01In_ent (es : List Ent) (k : Nat) (hke : k < es.length) (W : World) :
    Calls Try.prog 155 #[.int .i64 es[k].2, .int .i64 (-1000000), .int .i64 1000000] W fun e w' => e = .returned (.bool (valAt es k)) ∧ W = w' := by
  have e : valAt es k = (decide (-1000000 ≤ es[k].2) && decide (es[k].2 ≤ 1000000)) := by simp [valAt, valB, hke]
  rw [e]; exact l01In_any _ _ _ _

set_option maxRecDepth 100000 in
theorem l01OK_any (A : Option Addr) (n c : Nat) (es : List Ent) (w : World) (hr : Rd w 2 A n (entsC es)) (hm : n ≤ maxLen) (hks : ∀ e ∈ es, e.1.size ≤ maxLen) :
    Calls Try.prog 122 #[.slice A n c] w fun e w' => e = .returned (.bool (mapOK es)) ∧ Below w.heap.size w w' := by
  unfold maxLen at hm
  have hlen := hr.len
  have Hlen := Lib.hid hlen; clear hlen
  by_cases hbig : 12 < n
  · have hfin : Hid (mapOK es = false) := mapOK_long (by rw [Hlen.out]; exact hbig)
    go_enter Try.func122, Try.ntmps122
    go_wp2
    go_ret
    exact ⟨ret_bool hfin.out.symm, Below.refl _ _⟩
  have hn12 : n ≤ 12 := by omega
  clear hbig
  go_enter Try.func122, Try.ntmps122
  go_wp2
  go_loopw [3] (fun i wr => ∃ k : Nat, k ≤ n ∧ i = .int .i64 k ∧ (∀ j, j < k → ordAt es j = true ∧ valAt es j = true) ∧ Below w.heap.size w wr) (fun i _ => n - (intOf i).toNat)
  case atStart => exact ⟨0, Nat.zero_le _, rfl, fun j hj => absurd hj (by omega), Below.refl _ _⟩
  case round =>
    obtain ⟨k, hk, rfl, hall, hb⟩ := hrel
    have Hall := Lib.hid hall; clear hall
    by_cases hlt : k < n
    · have hke : k < es.length := by rw [Hlen.out]; exact hlt
      obtain ⟨b, off, rfl, hbl, hbl2, hc1, hc2⟩ := hr.ent hb hke
      have hcall := l00Word_ent es k hke (hks _ (List.getElem_mem hke))
      have hcall2 := l01In_ent es k hke
      cases hw : nm (kAt es k) with
      | false =>
        have hfin : Hid (mapOK es = false) := mapOK_noOrd hke (by rw [ordAt, hw]; rfl)
        rw [hw] at hcall
        have Hcall := Lib.hid hcall
        clear hw hcall hcall2
        go_wp2
        go_quiet ((first | (go_at_call 154; exact Calls.quiet_of_same ((Hcall.out _).mono (fun _ _ h => ⟨h.1, h.2.symm⟩)))))
        go_wp2
        go_ret
        exact ⟨ret_bool hfin.out.symm, hb.drewN _⟩
      | true =>
      cases hv : valAt es k with
      | false =>
        have hfin : Hid (mapOK es = false) := mapOK_noVal hke hv
        rw [hw] at hcall
        rw [hv] at hcall2
        have Hcall := Lib.hid hcall
        have Hcall2 := Lib.hid hcall2
        clear hw hv hcall hcall2
        go_wp2
        go_quiet ((first | (go_at_call 154; exact Calls.quiet_of_same ((Hcall.out _).mono (fun _ _ h => ⟨h.1, h.2.symm⟩))) | (go_at_call 155; exact Calls.quiet_of_same ((Hcall2.out _).mono (fun _ _ h => ⟨h.1, h.2.symm⟩)))))
        go_wp2
        go_ret
        exact ⟨ret_bool hfin.out.symm, hb.drewN _⟩
      | true =>
      by_cases hk0 : k = 0
      · subst hk0
        have hstep : Hid (∀ j, j < 0 + 1 → ordAt es j = true ∧ valAt es j = true) := fun j hj => by
          have : j = 0 := by omega
          subst this; exact ⟨ordAt_zero hw, hv⟩
        rw [hw] at hcall
        rw [hv] at hcall2
        have Hcall := Lib.hid hcall
        have Hcall2 := Lib.hid hcall2
        clear hw hv hcall hcall2
        simp only [Nat.zero_mul, Nat.add_zero] at hc1 hc2
        go_wp2
        go_quiet ((first | (go_at_call 154; exact Calls.quiet_of_same ((Hcall.out _).mono (fun _ _ h => ⟨h.1, h.2.symm⟩))) | (go_at_call 155; exact Calls.quiet_of_same ((Hcall2.out _).mono (fun _ _ h => ⟨h.1, h.2.symm⟩)))))
        go_wp2
        go_roundw
        case rel => exact ⟨0 + 1, by omega, by go_num, hstep.out, hb.drewN _⟩
        case measure => simp [intOf]; omega
      · have hkp : 0 < k := by omega
        have hor := ordAt_pos hkp hke hw
        obtain ⟨b', off', he, _, _, hc3, _⟩ := hr.ent hb (show k - 1 < es.length by omega)
        obtain ⟨rfl, rfl⟩ : b = b' ∧ off = off' := by simpa using he
        have ht : (Op.bytesLess es[k].1.toList (es[k - 1]'(by omega)).1.toList || es[k].1.toList == (es[k - 1]'(by omega)).1.toList) = !ordAt es k := by rw [kle_eq, hor]
        have hi0 : 0 ≤ (k : Int) - 1 := by omega
        have hi1 : ((k : Int) - 1).toNat = k - 1 := by omega
        have hi2 : (0 : Int) < (k : Int) := by omega
        rw [hw] at hcall
        rw [hv] at hcall2
        have Hcall := Lib.hid hcall
        have Hcall2 := Lib.hid hcall2
        clear hcall hcall2 hk0 he hor
        cases ho : ordAt es k with
        | false =>
          have hfin : Hid (mapOK es = false) := mapOK_noOrd hke ho
          rw [ho] at ht
          clear hw hv ho
          go_wp2
          go_quiet ((first | (go_at_call 154; exact Calls.quiet_of_same ((Hcall.out _).mono (fun _ _ h => ⟨h.1, h.2.symm⟩))) | (go_at_call 155; exact Calls.quiet_of_same ((Hcall2.out _).mono (fun _ _ h => ⟨h.1, h.2.symm⟩)))))
          go_wp2
          go_ret
          exact ⟨ret_bool hfin.out.symm, hb.drewN _⟩
        | true =>
          have hstep : Hid (∀ j, j < k + 1 → ordAt es j = true ∧ valAt es j = true) := fun j hj => by
            rcases Nat.lt_or_ge j k with h | h
            · exact Hall.out j h
            · have : j = k := by omega
              subst this; exact ⟨ho, hv⟩
          rw [ho] at ht
          clear hw hv ho
          go_wp2
          go_quiet ((first | (go_at_call 154; exact Calls.quiet_of_same ((Hcall.out _).mono (fun _ _ h => ⟨h.1, h.2.symm⟩))) | (go_at_call 155; exact Calls.quiet_of_same ((Hcall2.out _).mono (fun _ _ h => ⟨h.1, h.2.symm⟩)))))
          go_wp2
          go_roundw
          case rel => exact ⟨k + 1, by omega, by go_num, hstep.out, hb.drewN _⟩
          case measure => simp [intOf]; omega
    · have hfin : Hid (mapOK es = true) := mapOK_of (by rw [Hlen.out]; exact hn12) (fun i hi => Hall.out i (by rw [Hlen.out] at hi; omega))
      go_wp2
      go_ret
      exact ⟨ret_bool hfin.out.symm, hb⟩

end Go.Proofs.Ytjhimcddgkoghaa
namespace Go.Proofs.Ytjhimcddgkoghaa
open Go.RowKit

theorem method_key (a : ByteArray) (x : Int) (w : World) : (method 418 167 (.agg #[.string a, .int .i64 x]) "loop.example/g00737/impl.key").run Try.prog w = .ok (289, .agg #[.string a, .int .i64 x]) w := by kernel_rfl

theorem nameOK_ent (es : List Ent) (k : Nat) (hke : k < es.length) (hs : es[k].1.size ≤ maxLen) (W : World) :
    Calls Try.prog 109 #[.string es[k].1] W fun e w' => e = .returned (.bool (nm (kAt es k))) ∧ W = w' := by
  rw [kAt_eq es k hke]; exact nameOK_any _ W hs

set_option maxHeartbeats 2000000 in
set_option maxRecDepth 100000 in
theorem inOrder_any (A : Option Addr) (n c : Nat) (es : List Ent) (w : World) (hr : Rd w 2 A n (entsC es)) (hm : n ≤ maxLen) (hks : ∀ e ∈ es, e.1.size ≤ maxLen) :
    Calls Try.prog 215 #[.slice A n c] w fun e w' => e = .returned (.bool (ordM es)) ∧ Below w.heap.size w w' := by
  unfold maxLen at hm
  have hlen := hr.len
  have Hlen := Lib.hid hlen; clear hlen
  have hmeth := method_key
  go_enter Try.func215, Try.ntmps215
  go_wp2
  go_loopw [3, 7] (fun _ i wr => ∃ k : Nat, k ≤ n ∧ i = .int .i64 k ∧ (∀ j, j < k → ordAt es j = true) ∧ Below w.heap.size w wr) (fun _ i _ => n - (intOf i).toNat)
  case atStart => exact ⟨0, Nat.zero_le _, rfl, fun j hj => absurd hj (by omega), Below.refl _ _⟩
  case round =>
    obtain ⟨k, hk, rfl, hall, hb⟩ := hrel
    have Hall := Lib.hid hall; clear hall
    by_cases hlt : k < n
    · have hke : k < es.length := by rw [Hlen.out]; exact hlt
      obtain ⟨b, off, rfl, hbl, hbl2, hc1, hc2⟩ := hr.ent hb hke
      have hcall := nameOK_ent es k hke (hks _ (List.getElem_mem hke))
      cases hw : nm (kAt es k) with
      | false =>
        have hfin : Hid (ordM es = false) := ordM_not hke (by rw [ordAt, hw]; rfl)
        rw [hw] at hcall
        have Hcall := Lib.hid hcall
        clear hw hcall
        go_wp2
        have hcL0 : (wr.alloc (Obj.cells #[Value.string es[k].1, Value.int IntKind.i64 es[k].2] 167)).cell? ⟨wr.heap.size, 0, none⟩ = some (.string es[k].1) := cell_of_row _ _ _ _ _ (0, 0) (heap_alloc_new wr _)
        have hcL1 : (wr.alloc (Obj.cells #[Value.string es[k].1, Value.int IntKind.i64 es[k].2] 167)).cell? ⟨wr.heap.size, 1, none⟩ = some (.int .i64 es[k].2) := cell_of_row _ _ _ _ _ (0, 0) (heap_alloc_new wr _)
        have hpl : wr.heap.size < (wr.alloc (Obj.cells #[Value.string es[k].1, Value.int IntKind.i64 es[k].2] 167)).heap.size := by simp
        have hb2 : Below w.heap.size w (wr.alloc (Obj.cells #[Value.string es[k].1, Value.int IntKind.i64 es[k].2] 167)) := hb.alloc hb.size _
        generalize wr.alloc (Obj.cells #[Value.string es[k].1, Value.int IntKind.i64 es[k].2] 167) = w2 at *
        generalize wr.heap.size = p at *
        have hA0 := fun y : Aft w2 => y.cell hpl hcL0
        have hA1 := fun y : Aft w2 => y.cell hpl hcL1
        refine wp_region_after (by kernel_rfl) (by kernel_rfl) ?_
        repeat (go_big_quiet_step ((first | (go_at_call 289; exact Aft.call (keyOf_any _ _ _)) | (go_at_call 109; exact Aft.same (Hcall.out _)))))
        refine wpQuiet_nil ?_
        rintro _ ⟨y, rfl⟩
        have hb3 := keepS hb2 y.below
        generalize y.at_ = w3 at *
        go_wp2
        go_ret
        exact ⟨ret_bool hfin.out.symm, hb3⟩
      | true =>
      rw [hw] at hcall
      have Hcall := Lib.hid hcall
      clear hcall
      by_cases hk0 : k = 0
      · subst hk0
        have hstep : Hid (∀ j, j < 0 + 1 → ordAt es j = true) := fun j hj => by
          have : j = 0 := by omega
          subst this; exact ordAt_zero hw
        clear hw
        simp only [Nat.zero_mul, Nat.add_zero] at hc1 hc2
        go_wp2
        have hcL0 : (wr.alloc (Obj.cells #[Value.string es[0].1, Value.int IntKind.i64 es[0].2] 167)).cell? ⟨wr.heap.size, 0, none⟩ = some (.string es[0].1) := cell_of_row _ _ _ _ _ (0, 0) (heap_alloc_new wr _)
        have hcL1 : (wr.alloc (Obj.cells #[Value.string es[0].1, Value.int IntKind.i64 es[0].2] 167)).cell? ⟨wr.heap.size, 1, none⟩ = some (.int .i64 es[0].2) := cell_of_row _ _ _ _ _ (0, 0) (heap_alloc_new wr _)
        have hpl : wr.heap.size < (wr.alloc (Obj.cells #[Value.string es[0].1, Value.int IntKind.i64 es[0].2] 167)).heap.size := by simp
        have hb2 : Below w.heap.size w (wr.alloc (Obj.cells #[Value.string es[0].1, Value.int IntKind.i64 es[0].2] 167)) := hb.alloc hb.size _
        generalize wr.alloc (Obj.cells #[Value.string es[0].1, Value.int IntKind.i64 es[0].2] 167) = w2 at *
        generalize wr.heap.size = p at *
        have hA0 := fun y : Aft w2 => y.cell hpl hcL0
        have hA1 := fun y : Aft w2 => y.cell hpl hcL1
        refine wp_region_after (by kernel_rfl) (by kernel_rfl) ?_
        repeat (go_big_quiet_step ((first | (go_at_call 289; exact Aft.call (keyOf_any _ _ _)) | (go_at_call 109; exact Aft.same (Hcall.out _)))))
        refine wpQuiet_nil ?_
        rintro _ ⟨y, rfl⟩
        have hb3 := keepS hb2 y.below
        generalize y.at_ = w3 at *
        go_wp2
        go_roundw
        case rel => exact ⟨0 + 1, by omega, by go_num, hstep.out, hb3⟩
        case measure => simp [intOf]; omega
      · have hkp : 0 < k := by omega
        have hor := ordAt_pos hkp hke hw
        have ht : (!(Op.bytesLess (es[k - 1]'(by omega)).1.toList es[k].1.toList)) = !ordAt es k := by rw [hor]; rfl
        have hi0 : 0 ≤ (k : Int) - 1 := by omega
        have hi1 : ((k : Int) - 1).toNat = k - 1 := by omega
        have hi2 : (0 : Int) < (k : Int) := by omega
        clear hk0 hor hw
        cases ho : ordAt es k with
        | false =>
          have hfin : Hid (ordM es = false) := ordM_not hke ho
          rw [ho] at ht
          clear ho
          go_wp2
          have hcL0 : (wr.alloc (Obj.cells #[Value.string es[k].1, Value.int IntKind.i64 es[k].2] 167)).cell? ⟨wr.heap.size, 0, none⟩ = some (.string es[k].1) := cell_of_row _ _ _ _ _ (0, 0) (heap_alloc_new wr _)
          have hcL1 : (wr.alloc (Obj.cells #[Value.string es[k].1, Value.int IntKind.i64 es[k].2] 167)).cell? ⟨wr.heap.size, 1, none⟩ = some (.int .i64 es[k].2) := cell_of_row _ _ _ _ _ (0, 0) (heap_alloc_new wr _)
          have hpl : wr.heap.size < (wr.alloc (Obj.cells #[Value.string es[k].1, Value.int IntKind.i64 es[k].2] 167)).heap.size := by simp
          have hb2 : Below w.heap.size w (wr.alloc (Obj.cells #[Value.string es[k].1, Value.int IntKind.i64 es[k].2] 167)) := hb.alloc hb.size _
          obtain ⟨b', off', he, _, _, hc3, hc4⟩ := hr.ent hb2 (show k - 1 < es.length by omega)
          obtain ⟨rfl, rfl⟩ : b = b' ∧ off = off' := by simpa using he
          have hbl4 := Nat.lt_of_lt_of_le hbl hb2.size
          generalize wr.alloc (Obj.cells #[Value.string es[k].1, Value.int IntKind.i64 es[k].2] 167) = w2 at *
          generalize wr.heap.size = p at *
          have hA0 := fun y : Aft w2 => y.cell hpl hcL0
          have hA1 := fun y : Aft w2 => y.cell hpl hcL1
          have hA3 := fun y : Aft w2 => y.cell hbl4 hc3
          have hA4 := fun y : Aft w2 => y.cell hbl4 hc4
          refine wp_region_after (by kernel_rfl) (by kernel_rfl) ?_
          repeat (go_big_quiet_step ((first | (go_at_call 289; exact Aft.call (keyOf_any _ _ _)) | (go_at_call 109; exact Aft.same (Hcall.out _)))))
          refine wpQuiet_nil ?_
          rintro _ ⟨y, rfl⟩
          have hb3 := keepS hb2 y.below
          generalize y.at_ = w3 at *
          go_wp2
          go_ret
          exact ⟨ret_bool hfin.out.symm, hb3⟩
        | true =>
          have hstep : Hid (∀ j, j < k + 1 → ordAt es j = true) := fun j hj => by
            rcases Nat.lt_or_ge j k with h | h
            · exact Hall.out j h
            · have : j = k := by omega
              subst this; exact ho
          rw [ho] at ht
          clear ho
          go_wp2
          have hcL0 : (wr.alloc (Obj.cells #[Value.string es[k].1, Value.int IntKind.i64 es[k].2] 167)).cell? ⟨wr.heap.size, 0, none⟩ = some (.string es[k].1) := cell_of_row _ _ _ _ _ (0, 0) (heap_alloc_new wr _)
          have hcL1 : (wr.alloc (Obj.cells #[Value.string es[k].1, Value.int IntKind.i64 es[k].2] 167)).cell? ⟨wr.heap.size, 1, none⟩ = some (.int .i64 es[k].2) := cell_of_row _ _ _ _ _ (0, 0) (heap_alloc_new wr _)
          have hpl : wr.heap.size < (wr.alloc (Obj.cells #[Value.string es[k].1, Value.int IntKind.i64 es[k].2] 167)).heap.size := by simp
          have hb2 : Below w.heap.size w (wr.alloc (Obj.cells #[Value.string es[k].1, Value.int IntKind.i64 es[k].2] 167)) := hb.alloc hb.size _
          obtain ⟨b', off', he, _, _, hc3, hc4⟩ := hr.ent hb2 (show k - 1 < es.length by omega)
          obtain ⟨rfl, rfl⟩ : b = b' ∧ off = off' := by simpa using he
          have hbl4 := Nat.lt_of_lt_of_le hbl hb2.size
          generalize wr.alloc (Obj.cells #[Value.string es[k].1, Value.int IntKind.i64 es[k].2] 167) = w2 at *
          generalize wr.heap.size = p at *
          have hA0 := fun y : Aft w2 => y.cell hpl hcL0
          have hA1 := fun y : Aft w2 => y.cell hpl hcL1
          have hA3 := fun y : Aft w2 => y.cell hbl4 hc3
          have hA4 := fun y : Aft w2 => y.cell hbl4 hc4
          refine wp_region_after (by kernel_rfl) (by kernel_rfl) ?_
          repeat (go_big_quiet_step ((first | (go_at_call 289; exact Aft.call (keyOf_any _ _ _)) | (go_at_call 109; exact Aft.same (Hcall.out _)))))
          refine wpQuiet_nil ?_
          rintro _ ⟨y, rfl⟩
          have hb3 := keepS hb2 y.below
          generalize y.at_ = w3 at *
          go_wp2
          go_roundw
          case rel => exact ⟨k + 1, by omega, by go_num, hstep.out, hb3⟩
          case measure => simp [intOf]; omega
    · have hfin : Hid (ordM es = true) := ordM_of (fun i hi => Hall.out i (by rw [Hlen.out] at hi; omega))
      go_wp2
      go_ret
      exact ⟨ret_bool hfin.out.symm, hb⟩

end Go.Proofs.Ytjhimcddgkoghaa
