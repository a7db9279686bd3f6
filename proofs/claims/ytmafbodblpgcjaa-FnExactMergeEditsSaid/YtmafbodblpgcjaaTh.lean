/- The machine over data: this seat's types. -/
import Derived.Test.YtmafbodblpgcjaaAm14
namespace Go.Proofs.Ytmafbodblpgcjaa.AM
open Go Go.RowKit

theorem tab_nil {P : Program} : TabOK P [] := fun t => trivial
theorem tab_cons {P : Program} {t : Nat} {x : TI} {Θ : Tab} (h : TIok P t x) (r : TabOK P Θ) : TabOK P ((t, x) :: Θ) := fun u => by
  show TIok P u (bif Nat.beq t u then x else Tab.look Θ u)
  by_cases e : t = u
  · subst e; simpa using h
  · rw [nbne e]; exact r u
theorem ti_str {P : Program} {t b : Nat} (hu : P.underlying t = some .string) (hi : (P.info? t).map (fun i => (i.zero, i.size, i.bytes)) = some (some (.string ByteArray.empty), 1, b)) : TIok P t .str := by
  obtain ⟨i, h1, h2, h3, _⟩ := info_parts hi
  exact ⟨hu, i, h1, h3, h2⟩
theorem ti_int {P : Program} {t b : Nat} {k : IntKind} (hu : P.underlying t = some (.int k)) (hi : (P.info? t).map (fun i => (i.zero, i.size, i.bytes)) = some (some (.int k 0), 1, b)) : TIok P t (.int k) := by
  obtain ⟨i, h1, h2, h3, _⟩ := info_parts hi
  exact ⟨hu, i, h1, h3, h2⟩
theorem ti_bool {P : Program} {t b : Nat} (hu : P.underlying t = some .bool) (hi : (P.info? t).map (fun i => (i.zero, i.size, i.bytes)) = some (some (.bool false), 1, b)) : TIok P t .bool := by
  obtain ⟨i, h1, h2, h3, _⟩ := info_parts hi
  exact ⟨hu, i, h1, h3, h2⟩
theorem ti_slice {P : Program} {t e b sz by_ : Nat} {zv : Value} {z : AV} (hu : P.underlying t = some (.slice e)) (hj : (P.info? t).map (fun i => (i.zero, i.size, i.bytes)) = some (some (.slice none 0 0), 1, b)) (hi : (P.info? e).map (fun i => (i.zero, i.size, i.bytes)) = some (some zv, sz, by_))
    (h0 : 0 < sz) (hz : asz z = sz) (hr : ∀ w, RA NoS w z zv.cells.toList) : TIok P t (.slice e sz by_ z) := by
  obtain ⟨j, j1, j2, j3, _⟩ := info_parts hj
  obtain ⟨i, h1, h2, h3, h4⟩ := info_parts hi
  exact ⟨hu, ⟨j, j1, j3, j2⟩, i, zv, h1, h2, h3, h4, h0, hz, hr⟩
theorem ti_map {P : Program} {t kt vt b c : Nat} {zv : Value} {z : AV} (hu : P.underlying t = some (.map kt vt)) (hk : P.underlying kt = some .string) (hi : (P.info? vt).map (fun i => (i.zero, i.size, i.bytes)) = some (some zv, c, b)) (hz : ∀ S w hp B V, RV S w hp B V z zv) : TIok P t (.map kt vt z) := by
  obtain ⟨i, h1, h2, h3, h4⟩ := info_parts hi
  exact ⟨hu, hk, i, zv, h1, h2, hz⟩
def offsB (P : Program) : Nat → List Field → List (Nat × Nat) → Bool
  | _, [], [] => true
  | n, f :: fs, (o, z) :: r => Nat.beq f.offset o && (Nat.beq o n && (Nat.blt 0 z && ((match (P.info? f.type).map (·.size) with | some q => Nat.beq q z | none => false) && offsB P (n + z) fs r)))
  | _, _, _ => false
theorem offsB_ok {P : Program} : ∀ (fs : List Field) (r : List (Nat × Nat)) (n : Nat), offsB P n fs r = true → offsOK P n fs r
  | [], [], n, _ => trivial
  | [], _ :: _, n, h => by simp [offsB] at h
  | _ :: _, [], n, h => by simp [offsB] at h
  | f :: fs, (o, z) :: r, n, h => by
    simp only [offsB, Bool.and_eq_true] at h
    obtain ⟨h1, h2, h3, h4, h5⟩ := h
    refine ⟨Nat.eq_of_beq_eq_true h1, Nat.eq_of_beq_eq_true h2, by simpa using h3, ?_, offsB_ok fs r (n + z) h5⟩
    cases hq : (P.info? f.type).map (·.size) with
    | none => rw [hq] at h4; cases h4
    | some q => rw [hq] at h4; rw [Nat.eq_of_beq_eq_true h4]
theorem ti_struct {P : Program} {t b : Nat} {fs : List (Nat × Nat)} {z : List AV} {cs : Array Value} (hu : P.underlying t = some (.struct (P.fieldsOf t))) (hi : (P.info? t).map (fun i => (i.zero, i.size, i.bytes)) = some (some (.agg cs), sizes fs, b))
    (ho : offsB P 0 (P.fieldsOf t).toList fs = true) (hp : 0 < sizes fs) (hm : z.map asz = fs.map (·.2)) (hr : ∀ w, RL NoS w z cs.toList) : TIok P t (.struct fs z) := by
  obtain ⟨i, h1, h2, h3, _⟩ := info_parts hi
  exact ⟨_, i, cs, hu, offsB_ok _ _ _ ho, h1, h3, hp, hm, h2, hr⟩
theorem rl_cons {S : Nat → Prop} {w : World} {x : AV} {xs : List AV} {c1 c2 : List Value} (h : RA S w x c1) (r : RL S w xs c2) : RL S w (x :: xs) (c1 ++ c2) := by unfold RL; exact ⟨c1, c2, rfl, h, r⟩
theorem rl_nil {S : Nat → Prop} {w : World} : RL S w [] [] := by unfold RL; rfl
theorem ra_v {S : Nat → Prop} {w : World} {x : Value} (h : x.oneCell' = true) : RA S w (.v x) [x] := by unfold RA; exact ⟨rfl, h⟩
theorem ra_nil {S : Nat → Prop} {w : World} {sz : Nat} (h : 0 < sz) : RA S w (.lst sz []) [.slice none 0 0] := by unfold RA; exact ⟨none, 0, rfl, Nat.le_refl _, Nat.zero_le _, by simp, h, .inl rfl⟩
theorem ra_agg {S : Nat → Prop} {w : World} {xs : List AV} {cs : List Value} (h : RL S w xs cs) : RA S w (.agg xs) cs := by unfold RA; exact h

abbrev zS : AV := .v (.string ByteArray.empty)
abbrev zI : AV := .v (.int .i64 0)
abbrev zB : AV := .v (.bool false)
def Th : Tab := [(9, .str), (3, .int .i64), (4, .bool), (5, .int .u8),
  (28, .slice 9 1 16 zS),
  (22, .slice 5 1 1 (.v (.int .u8 0))),
  (103, .struct [(0, 1), (1, 1)] [zS, zI]), (23, .slice 103 2 24 (.agg [zS, zI])),
  (131, .struct [(0, 1), (1, 1)] [zS, zI]), (68, .slice 131 2 24 (.agg [zS, zI])),
  (41, .struct [(0, 1), (1, 1), (2, 1)] [zS, zI, zB]), (25, .slice 41 3 32 (.agg [zS, zI, zB])),
  (133, .struct [(0, 1), (1, 1), (2, 1)] [zS, zI, zB]), (69, .slice 133 3 32 (.agg [zS, zI, zB])),
  (164, .map 9 41 (.agg [zS, zI, zB])),
  ]
theorem Th_ok : TabOK Try.prog Th := by
  unfold Th
  have e2 : ∀ w, RL NoS w [zS, zI] [.string ByteArray.empty, .int .i64 0] := fun w => rl_cons (c1 := [_]) (ra_v rfl) (rl_cons (c1 := [_]) (ra_v rfl) rl_nil)
  have e3 : ∀ w, RL NoS w [zS, zI, zB] [.string ByteArray.empty, .int .i64 0, .bool false] := fun w => rl_cons (c1 := [_]) (ra_v rfl) (rl_cons (c1 := [_]) (ra_v rfl) (rl_cons (c1 := [_]) (ra_v rfl) rl_nil))
  refine tab_cons (ti_str (b := 16) (by kernel_rfl) (by kernel_rfl)) (tab_cons (ti_int (b := 8) (by kernel_rfl) (by kernel_rfl)) (tab_cons (ti_bool (b := 1) (by kernel_rfl) (by kernel_rfl)) (tab_cons (ti_int (b := 1) (by kernel_rfl) (by kernel_rfl)) ?_)))
  refine tab_cons (ti_slice (b := 24) (zv := .string ByteArray.empty) (by kernel_rfl) (by kernel_rfl) (by kernel_rfl) (by omega) rfl (fun w => ra_v rfl)) ?_
  refine tab_cons (ti_slice (b := 24) (zv := .int .u8 0) (by kernel_rfl) (by kernel_rfl) (by kernel_rfl) (by omega) rfl (fun w => ra_v rfl)) ?_
  refine tab_cons (ti_struct (b := 24) (cs := #[.string ByteArray.empty, .int .i64 0]) (by kernel_rfl) (by kernel_rfl) (by kernel_rfl) (by decide) rfl e2) (tab_cons (ti_slice (b := 24) (zv := .agg #[.string ByteArray.empty, .int .i64 0]) (by kernel_rfl) (by kernel_rfl) (by kernel_rfl) (by omega) rfl (fun w => ra_agg (e2 w))) ?_)
  refine tab_cons (ti_struct (b := 24) (cs := #[.string ByteArray.empty, .int .i64 0]) (by kernel_rfl) (by kernel_rfl) (by kernel_rfl) (by decide) rfl e2) (tab_cons (ti_slice (b := 24) (zv := .agg #[.string ByteArray.empty, .int .i64 0]) (by kernel_rfl) (by kernel_rfl) (by kernel_rfl) (by omega) rfl (fun w => ra_agg (e2 w))) ?_)
  refine tab_cons (ti_struct (b := 32) (cs := #[.string ByteArray.empty, .int .i64 0, .bool false]) (by kernel_rfl) (by kernel_rfl) (by kernel_rfl) (by decide) rfl e3) (tab_cons (ti_slice (b := 24) (zv := .agg #[.string ByteArray.empty, .int .i64 0, .bool false]) (by kernel_rfl) (by kernel_rfl) (by kernel_rfl) (by omega) rfl (fun w => ra_agg (e3 w))) ?_)
  refine tab_cons (ti_struct (b := 32) (cs := #[.string ByteArray.empty, .int .i64 0, .bool false]) (by kernel_rfl) (by kernel_rfl) (by kernel_rfl) (by decide) rfl e3) (tab_cons (ti_slice (b := 24) (zv := .agg #[.string ByteArray.empty, .int .i64 0, .bool false]) (by kernel_rfl) (by kernel_rfl) (by kernel_rfl) (by omega) rfl (fun w => ra_agg (e3 w))) ?_)
  refine tab_cons (ti_map (b := 32) (c := 3) (zv := .agg #[.string ByteArray.empty, .int .i64 0, .bool false]) (by kernel_rfl) (by kernel_rfl) (by kernel_rfl) (fun S w hp B V => by unfold RV; exact ⟨[_, _, _], rfl, rl_cons (c1 := [_]) (ra_v rfl) (rl_cons (c1 := [_]) (ra_v rfl) (rl_cons (c1 := [_]) (ra_v rfl) rl_nil))⟩)) ?_
  exact tab_nil
end Go.Proofs.Ytmafbodblpgcjaa.AM
