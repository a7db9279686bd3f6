/- Texts of the machine over data, folded. -/
import Derived.Test.YtodckioppgjbdaaGreatDoorKd5
import Derived.Test.YtodckioppgjbdaaGreatDoorRows
import Derived.WalkKit
import Derived.WalkLawsBesides
import Derived.WalkSpells
import Derived.Lib.Hide
import Derived.Deep.QuietTactic
import Derived.BigQuiet
import Derived.Deep.Draws
import Derived.Deep.Slices
import Derived.Deep.Fields
import Derived.Deep.AppendLies
import Derived.ChangeSame
import Derived.StillTailTactics
import Derived.Laws.BytesArg
import Derived.Deep.RegionHeld3
import Derived.Laws.CopyOwn
import Derived.ProofKit
import Derived.OpenShut
import Derived.ShutString
set_option linter.unusedVariables false
namespace Go.Proofs.YtodckioppgjbdaaGreatDoor.AM
open Go Go.RowKit
theorem aKA {P : Program} : yP P [] := fun t => trivial
theorem xK {P : Program} {t : Nat} {x : TI} {Θ : Tab} (h : vB P t x) (r : yP P Θ) : yP P ((t, x) :: Θ) := fun u => by
 show vB P u (bif Nat.beq t u then x else Tab.look Θ u)
 by_cases e : t = u
 · subst e; simpa using h
 · rw [xY e]; exact r u
theorem aKo {P : Program} {t b : Nat} (hu : P.underlying t = some .string) (hi : (P.info? t).map (fun i => (i.zero, i.size, i.bytes)) = some (some (.string ByteArray.empty), 1, b)) : vB P t .str := by
 obtain ⟨i, h1, h2, h3, _⟩ := info_parts hi
 exact ⟨hu, i, h1, h3, h2⟩
theorem aIM {P : Program} {t b : Nat} {k : IntKind} (hu : P.underlying t = some (.int k)) (hi : (P.info? t).map (fun i => (i.zero, i.size, i.bytes)) = some (some (.int k 0), 1, b)) : vB P t (.int k) := by
 obtain ⟨i, h1, h2, h3, _⟩ := info_parts hi
 exact ⟨hu, i, h1, h3, h2⟩
theorem aKB {P : Program} {t b : Nat} (hu : P.underlying t = some .bool) (hi : (P.info? t).map (fun i => (i.zero, i.size, i.bytes)) = some (some (.bool false), 1, b)) : vB P t .bool := by
 obtain ⟨i, h1, h2, h3, _⟩ := info_parts hi
 exact ⟨hu, i, h1, h3, h2⟩
theorem yw {P : Program} {t e b sz by_ : Nat} {zv : Value} {z : AV} (hu : P.underlying t = some (.slice e)) (hj : (P.info? t).map (fun i => (i.zero, i.size, i.bytes)) = some (some (.slice none 0 0), 1, b)) (hi : (P.info? e).map (fun i => (i.zero, i.size, i.bytes)) = some (some zv, sz, by_))
 (h0 : 0 < sz) (hz : asz z = sz) (hr : ∀ w, RD w z Fa zv.cells.toList) : vB P t (.slice e sz by_ z) := by
 obtain ⟨j, j1, j2, j3, _⟩ := info_parts hj
 obtain ⟨i, h1, h2, h3, h4⟩ := info_parts hi
 exact ⟨hu, ⟨j, j1, j3, j2⟩, i, zv, h1, h2, h3, h4, h0, hz, hr⟩
theorem aKm {P : Program} {t kt vt b c : Nat} {zv : Value} {z : AV} (hu : P.underlying t = some (.map kt vt)) (hk : P.underlying kt = some .string) (hi : (P.info? vt).map (fun i => (i.zero, i.size, i.bytes)) = some (some zv, c, b)) (hz : ∀ S w hp B V, RV S w hp B V z zv) : vB P t (.map kt vt z) := by
 obtain ⟨i, h1, h2, h3, h4⟩ := info_parts hi
 exact ⟨hu, hk, i, zv, h1, h2, hz⟩
def aBP (P : Program) : Nat → List Field → List (Nat × Nat) → Bool
 | _, [], [] => true
 | n, f :: fs, (o, z) :: r => Nat.beq f.offset o && (Nat.beq o n && (Nat.blt 0 z && ((match (P.info? f.type).map (·.size) with | some q => Nat.beq q z | none => false) && aBP P (n + z) fs r)))
 | _, _, _ => false
theorem aEh {P : Program} : ∀ (fs : List Field) (r : List (Nat × Nat)) (n : Nat), aBP P n fs r = true → kJ P n fs r
 | [], [], n, _ => trivial
 | [], _ :: _, n, h => by simp [aBP] at h
 | _ :: _, [], n, h => by simp [aBP] at h
 | f :: fs, (o, z) :: r, n, h => by
  simp only [aBP, Bool.and_eq_true] at h
  obtain ⟨h1, h2, h3, h4, h5⟩ := h
  refine ⟨Nat.eq_of_beq_eq_true h1, Nat.eq_of_beq_eq_true h2, by simpa using h3, ?_, aEh fs r (n + z) h5⟩
  cases hq : (P.info? f.type).map (·.size) with
  | none => rw [hq] at h4; cases h4
  | some q => rw [hq] at h4; rw [Nat.eq_of_beq_eq_true h4]
theorem yZ {P : Program} {t b : Nat} {fs : List (Nat × Nat)} {z : List AV} {cs : Array Value} (hu : P.underlying t = some (.struct (P.fieldsOf t))) (hi : (P.info? t).map (fun i => (i.zero, i.size, i.bytes)) = some (some (.agg cs), sizes fs, b))
 (ho : aBP P 0 (P.fieldsOf t).toList fs = true) (hp : 0 < sizes fs) (hm : z.map asz = fs.map (·.2)) (hr : ∀ w, RDL w z Fa cs.toList) : vB P t (.struct fs z) := by
 obtain ⟨i, h1, h2, h3, _⟩ := info_parts hi
 exact ⟨_, i, cs, hu, aEh _ _ _ ho, h1, h3, hp, hm, h2, hr⟩
theorem jb {S : Nat → Prop} {w : World} {x : AV} {xs : List AV} {c1 c2 : List Value} (h : RA S w x c1) (r : RL S w xs c2) : RL S w (x :: xs) (c1 ++ c2) := by unfold RL; exact ⟨c1, c2, rfl, h, r⟩
theorem aEr {S : Nat → Prop} {w : World} : RL S w [] [] := by unfold RL; rfl
theorem aCx {S : Nat → Prop} {w : World} {x : Value} (h : x.oneCell' = true) : RA S w (.v x) [x] := by unfold RA; exact ⟨rfl, h⟩
theorem aKd {S : Nat → Prop} {w : World} {xs : List AV} {cs : List Value} (h : RL S w xs cs) : RA S w (.agg xs) cs := by unfold RA; exact h
theorem yO {w : World} {x : Value} (h : x.oneCell' = true) : RD w (.v x) Fa [x] := by unfold RD; exact ⟨noF, rfl, h⟩
theorem zk {w : World} {sz : Nat} (h : 0 < sz) : RD w (.lst sz []) Fa [.slice none 0 0] := by
 unfold RD
 refine ⟨_, 0, [], Fa, rfl, World.ownsRow_nil _ _ _ _, by simp, h, by unfold RDL; exact ⟨rfl, noF⟩, fun g => ⟨fun h => h.elim, fun h => ?_⟩, fun g h => ?_⟩
 · rcases h with h | h
   · simp [Value.ownBlock] at h
   · exact h
 · simp [Value.ownBlock] at h
theorem uV {w : World} {xs : List AV} {cs : List Value} (h : RDL w xs Fa cs) : RD w (.agg xs) Fa cs := by unfold RD; exact h
theorem zM {w : World} : RDL w [] Fa [] := by unfold RDL; exact ⟨rfl, noF⟩
theorem xC {w : World} {x : AV} {xs : List AV} {c1 c2 : List Value} (h : RD w x Fa c1) (r : RDL w xs Fa c2) : RDL w (x :: xs) Fa (c1 ++ c2) := by unfold RDL; exact ⟨c1, c2, Fa, Fa, rfl, Split.l0 noF, h, r⟩
theorem aCy {w : World} {x : AV} {u : Value} (h : RD w x Fa [u]) : ∀ m, RDL w (List.replicate m x) Fa (List.replicate m u)
 | 0 => zM
 | m + 1 => by simp only [List.replicate_succ]; exact xC (c1 := [u]) h (aCy h m)
theorem aKn {P : Program} {t b e : Nat} (hu : P.underlying t = some (.pointer e)) (hi : (P.info? t).map (fun i => (i.zero, i.size, i.bytes)) = some (some (.pointer none), 1, b)) : vB P t .ptr := by
 obtain ⟨i, h1, h2, h3, _⟩ := info_parts hi
 exact ⟨⟨e, hu⟩, i, h1, h3, h2⟩
def aJF (P : Program) (t : TypeId) : Bool := match P.underlying t with | some (.func _ _ _) => true | _ => false
theorem aGH {P : Program} {t b : Nat} (hu : aJF P t = true) (hi : (P.info? t).map (fun i => (i.zero, i.size, i.bytes)) = some (some .nilFunc, 1, b)) : vB P t .func := by
 obtain ⟨i, h1, h2, h3, _⟩ := info_parts hi
 refine ⟨?_, i, h1, h3, h2⟩
 unfold aJF at hu
 split at hu
 · rename_i x y z h; exact ⟨x, y, z, h⟩
 · cases hu
theorem aIL {P : Program} {t b e m sz be : Nat} {z : AV} {cs : Array Value} {ze : Option Value} (hu : P.underlying t = some (.array m e)) (hi : (P.info? t).map (fun i => (i.zero, i.size, i.bytes)) = some (some (.agg cs), m * sz, b)) (he : (P.info? e).map (fun i => (i.zero, i.size, i.bytes)) = some (ze, sz, be))
 (hm : 0 < m) (h0 : 0 < sz) (hz : asz z = sz) (hr : ∀ w, RDL w (List.replicate m z) Fa cs.toList) : vB P t (.arr e m sz z) := by
 obtain ⟨i, h1, h2, h3, _⟩ := info_parts hi
 refine ⟨hu, ⟨i, cs, h1, h3, h2, hr⟩, hm, h0, hz, ?_⟩
 cases hj : P.info? e with
 | none => rw [hj] at he; simp at he
 | some j => rw [hj] at he; simp at he; exact ⟨j, rfl, he.2.1⟩
abbrev zS : AV := .v (.string ByteArray.empty)
abbrev zI : AV := .v (.int .i64 0)
abbrev zB : AV := .v (.bool false)
def Th : Tab := [(9, .str), (3, .int .i64), (4, .bool), (5, .int .u8),
 (63, .slice 9 1 16 zS),
 (38, .slice 5 1 1 (.v (.int .u8 0))),
 (101, .struct [(0, 1), (1, 1)] [zS, zI]), (39, .slice 101 2 24 (.agg [zS, zI])),
 (107, .struct [(0, 1), (1, 1), (2, 1)] [zS, zI, zB]), (28, .slice 107 3 32 (.agg [zS, zI, zB])),
 (139, .struct [(0, 1), (1, 1), (2, 1)] [zS, zI, zB]), (22, .slice 139 3 32 (.agg [zS, zI, zB])),
 (156, .slice 101 2 24 (.agg [zS, zI])),
 (168, .slice 107 3 32 (.agg [zS, zI, zB])),
 (117, .slice 3 1 8 zI),
 (119, .struct [(0, 1), (1, 1)] [.lst 1 [], .lst 2 []]), (53, .slice 119 2 48 (.agg [.lst 1 [], .lst 2 []])),
 (288, .slice 4 1 1 zB),
 (153, .struct [(0, 1), (1, 1), (2, 1)] [.lst 1 [], zI, zI]), (93, .ptr),
 (122, .struct [(0, 1), (1, 1), (2, 1), (3, 1)] [zS, zI, zI, zB]), (54, .slice 122 4 40 (.agg [zS, zI, zI, zB])),
 (56, .struct [(0, 1), (1, 1)] [.lst 2 [], .lst 4 []]),
 (69, .struct [(0, 1), (1, 1), (2, 1), (3, 1), (4, 1)] [zI, zI, zS, zS, .lst 3 []]),
 (71, .struct [(0, 1), (1, 1), (2, 1), (3, 1), (4, 1)] [zI, zI, zI, .lst 1 [], .lst 2 []]),
 (304, .struct [(0, 1), (1, 1), (2, 1)] [zI, zI, zB]), (218, .slice 304 3 24 (.agg [zI, zI, zB])),
 (220, .struct [(0, 1), (1, 1), (2, 1)] [zS, zI, .lst 3 []]),
 (30, .struct [(0, 1), (1, 1), (2, 1), (3, 1), (4, 1)] [zI, zS, zS, zS, .lst 3 []]),
 (213, .slice 30 5 80 (.agg [zI, zS, zS, zS, .lst 3 []])),
 (215, .struct [(0, 1), (1, 1), (2, 1), (3, 1), (4, 1), (5, 1), (6, 1), (7, 1), (8, 1)] [.lst 5 [], zI, zI, zI, zI, zI, zI, zI, .lst 2 []]),
 (73, .struct [(0, 1), (1, 1), (2, 1), (3, 5), (8, 5)] [zI, zI, zI, .agg [zI, zI, zS, zS, .lst 3 []], .agg [zI, zI, zI, .lst 1 [], .lst 2 []]]),
 (24, .struct [(0, 1), (1, 1), (2, 1), (3, 1), (4, 1)] [zI, zS, zS, zS, .lst 3 []]),
 (57, .slice 215 9 104 (.agg [.lst 5 [], zI, zI, zI, zI, zI, zI, zI, .lst 2 []])),
 (58, .slice 220 3 48 (.agg [zS, zI, .lst 3 []])),
 (59, .slice 73 13 168 (.agg [zI, zI, zI, .agg [zI, zI, zS, zS, .lst 3 []], .agg [zI, zI, zI, .lst 1 [], .lst 2 []]])),
 (209, .slice 213 1 24 (.lst 5 [])),
 (61, .struct [(0, 2), (2, 1), (3, 1), (4, 1), (5, 1)] [.agg [.lst 2 [], .lst 4 []], .lst 9 [], .lst 3 [], .lst 13 [], zI]),
 (226, .arr 9 19 1 zS),
 (82, .arr 9 7 1 zS),
 (85, .struct [(0, 1), (1, 1)] [.v .nilFunc, .v .nilFunc]), (145, .map 9 85 (.agg [.v .nilFunc, .v .nilFunc])), (80, .func), (83, .func),
 ]
theorem yL : yP Tryz.prog Th := by
 unfold Th
 have e2 : ∀ w, RDL w [zS, zI] Fa [.string ByteArray.empty, .int .i64 0] := fun w => xC (c1 := [_]) (yO rfl) (xC (c1 := [_]) (yO rfl) zM)
 have e3 : ∀ w, RDL w [zS, zI, zB] Fa [.string ByteArray.empty, .int .i64 0, .bool false] := fun w => xC (c1 := [_]) (yO rfl) (xC (c1 := [_]) (yO rfl) (xC (c1 := [_]) (yO rfl) zM))
 have e4 : ∀ w, RDL w [zS, zI, zI, zB] Fa [.string ByteArray.empty, .int .i64 0, .int .i64 0, .bool false] := fun w => xC (c1 := [_]) (yO rfl) (xC (c1 := [_]) (yO rfl) (xC (c1 := [_]) (yO rfl) (xC (c1 := [_]) (yO rfl) zM)))
 have eC : ∀ w, RDL w [.lst 1 [], .lst 2 []] Fa [.slice none 0 0, .slice none 0 0] := fun w => xC (c1 := [_]) (zk (by omega)) (xC (c1 := [_]) (zk (by omega)) zM)
 have eN : ∀ w, RDL w [zI, .lst 1 []] Fa [.int .i64 0, .slice none 0 0] := fun w => xC (c1 := [_]) (yO rfl) (xC (c1 := [_]) (zk (by omega)) zM)
 have eV : ∀ w, RDL w [zI, zI, zB] Fa [.int .i64 0, .int .i64 0, .bool false] := fun w => xC (c1 := [_]) (yO rfl) (xC (c1 := [_]) (yO rfl) (xC (c1 := [_]) (yO rfl) zM))
 have eW : ∀ w, RDL w [zS, zI, .lst 3 []] Fa [.string ByteArray.empty, .int .i64 0, .slice none 0 0] := fun w => xC (c1 := [_]) (yO rfl) (xC (c1 := [_]) (yO rfl) (xC (c1 := [_]) (zk (by omega)) zM))
 have eB : ∀ w, RDL w [.lst 2 [], .lst 4 []] Fa [.slice none 0 0, .slice none 0 0] := fun w => xC (c1 := [_]) (zk (by omega)) (xC (c1 := [_]) (zk (by omega)) zM)
 have eO : ∀ w, RDL w [zI, zI, zS, zS, .lst 3 []] Fa [.int .i64 0, .int .i64 0, .string ByteArray.empty, .string ByteArray.empty, .slice none 0 0] := fun w => xC (c1 := [_]) (yO rfl) (xC (c1 := [_]) (yO rfl) (xC (c1 := [_]) (yO rfl) (xC (c1 := [_]) (yO rfl) (xC (c1 := [_]) (zk (by omega)) zM))))
 have eR : ∀ w, RDL w [zI, zI, zI, .lst 1 [], .lst 2 []] Fa [.int .i64 0, .int .i64 0, .int .i64 0, .slice none 0 0, .slice none 0 0] := fun w => xC (c1 := [_]) (yO rfl) (xC (c1 := [_]) (yO rfl) (xC (c1 := [_]) (yO rfl) (xC (c1 := [_]) (zk (by omega)) (xC (c1 := [_]) (zk (by omega)) zM))))
 have eH : ∀ w, RDL w [zI, zS, zS, zS, .lst 3 []] Fa [.int .i64 0, .string ByteArray.empty, .string ByteArray.empty, .string ByteArray.empty, .slice none 0 0] := fun w => xC (c1 := [_]) (yO rfl) (xC (c1 := [_]) (yO rfl) (xC (c1 := [_]) (yO rfl) (xC (c1 := [_]) (yO rfl) (xC (c1 := [_]) (zk (by omega)) (zM)))))
 have eK : ∀ w, RDL w [.lst 5 [], zI, zI, zI, zI, zI, zI, zI, .lst 2 []] Fa [.slice none 0 0, .int .i64 0, .int .i64 0, .int .i64 0, .int .i64 0, .int .i64 0, .int .i64 0, .int .i64 0, .slice none 0 0] := fun w => xC (c1 := [_]) (zk (by omega)) (xC (c1 := [_]) (yO rfl) (xC (c1 := [_]) (yO rfl) (xC (c1 := [_]) (yO rfl) (xC (c1 := [_]) (yO rfl) (xC (c1 := [_]) (yO rfl) (xC (c1 := [_]) (yO rfl) (xC (c1 := [_]) (yO rfl) (xC (c1 := [_]) (zk (by omega)) (zM)))))))))
 have eM : ∀ w, RDL w [zI, zI, zI, .agg [zI, zI, zS, zS, .lst 3 []], .agg [zI, zI, zI, .lst 1 [], .lst 2 []]] Fa [.int .i64 0, .int .i64 0, .int .i64 0, .int .i64 0, .int .i64 0, .string ByteArray.empty, .string ByteArray.empty, .slice none 0 0, .int .i64 0, .int .i64 0, .int .i64 0, .slice none 0 0, .slice none 0 0] := fun w => xC (c1 := [_]) (yO rfl) (xC (c1 := [_]) (yO rfl) (xC (c1 := [_]) (yO rfl) (xC (c1 := [_, _, _, _, _]) (uV (eO w)) (xC (c1 := [_, _, _, _, _]) (uV (eR w)) zM))))
 have eG : ∀ w, RDL w [.lst 1 [], zI, zI] Fa [.slice none 0 0, .int .i64 0, .int .i64 0] := fun w => xC (c1 := [_]) (zk (by omega)) (xC (c1 := [_]) (yO rfl) (xC (c1 := [_]) (yO rfl) zM))
 refine xK (aKo (b := 16) (by kernel_rfl) (by kernel_rfl)) (xK (aIM (b := 8) (by kernel_rfl) (by kernel_rfl)) (xK (aKB (b := 1) (by kernel_rfl) (by kernel_rfl)) (xK (aIM (b := 1) (by kernel_rfl) (by kernel_rfl)) ?_)))
 refine xK (yw (b := 24) (zv := .string ByteArray.empty) (by kernel_rfl) (by kernel_rfl) (by kernel_rfl) (by omega) rfl (fun w => yO rfl)) ?_
 refine xK (yw (b := 24) (zv := .int .u8 0) (by kernel_rfl) (by kernel_rfl) (by kernel_rfl) (by omega) rfl (fun w => yO rfl)) ?_
 refine xK (yZ (b := 24) (cs := #[.string ByteArray.empty, .int .i64 0]) (by kernel_rfl) (by kernel_rfl) (by kernel_rfl) (by decide) rfl e2) (xK (yw (b := 24) (zv := .agg #[.string ByteArray.empty, .int .i64 0]) (by kernel_rfl) (by kernel_rfl) (by kernel_rfl) (by omega) rfl (fun w => uV (e2 w))) ?_)
 refine xK (yZ (b := 32) (cs := #[.string ByteArray.empty, .int .i64 0, .bool false]) (by kernel_rfl) (by kernel_rfl) (by kernel_rfl) (by decide) rfl e3) (xK (yw (b := 24) (zv := .agg #[.string ByteArray.empty, .int .i64 0, .bool false]) (by kernel_rfl) (by kernel_rfl) (by kernel_rfl) (by omega) rfl (fun w => uV (e3 w))) ?_)
 refine xK (yZ (b := 32) (cs := #[.string ByteArray.empty, .int .i64 0, .bool false]) (by kernel_rfl) (by kernel_rfl) (by kernel_rfl) (by decide) rfl e3) (xK (yw (b := 24) (zv := .agg #[.string ByteArray.empty, .int .i64 0, .bool false]) (by kernel_rfl) (by kernel_rfl) (by kernel_rfl) (by omega) rfl (fun w => uV (e3 w))) ?_)
 refine xK (yw (b := 24) (zv := .agg #[.string ByteArray.empty, .int .i64 0]) (by kernel_rfl) (by kernel_rfl) (by kernel_rfl) (by omega) rfl (fun w => uV (e2 w))) ?_
 refine xK (yw (b := 24) (zv := .agg #[.string ByteArray.empty, .int .i64 0, .bool false]) (by kernel_rfl) (by kernel_rfl) (by kernel_rfl) (by omega) rfl (fun w => uV (e3 w))) ?_
 refine xK (yw (b := 24) (zv := .int .i64 0) (by kernel_rfl) (by kernel_rfl) (by kernel_rfl) (by omega) rfl (fun w => yO rfl)) ?_
 refine xK (yZ (b := 48) (cs := #[.slice none 0 0, .slice none 0 0]) (by kernel_rfl) (by kernel_rfl) (by kernel_rfl) (by decide) rfl eC) (xK (yw (b := 24) (zv := .agg #[.slice none 0 0, .slice none 0 0]) (by kernel_rfl) (by kernel_rfl) (by kernel_rfl) (by omega) rfl (fun w => uV (eC w))) ?_)
 refine xK (yw (b := 24) (zv := .bool false) (by kernel_rfl) (by kernel_rfl) (by kernel_rfl) (by omega) rfl (fun w => yO rfl)) ?_
 refine xK (yZ (b := 40) (cs := #[.slice none 0 0, .int .i64 0, .int .i64 0]) (by kernel_rfl) (by kernel_rfl) (by kernel_rfl) (by decide) rfl eG) (xK (aKn (b := 8) (e := 153) (by kernel_rfl) (by kernel_rfl)) ?_)
 refine xK (yZ (b := 40) (cs := #[.string ByteArray.empty, .int .i64 0, .int .i64 0, .bool false]) (by kernel_rfl) (by kernel_rfl) (by kernel_rfl) (by decide) rfl e4) (xK (yw (b := 24) (zv := .agg #[.string ByteArray.empty, .int .i64 0, .int .i64 0, .bool false]) (by kernel_rfl) (by kernel_rfl) (by kernel_rfl) (by omega) rfl (fun w => uV (e4 w))) ?_)
 refine xK (yZ (b := 48) (cs := #[.slice none 0 0, .slice none 0 0]) (by kernel_rfl) (by kernel_rfl) (by kernel_rfl) (by decide) rfl eB) ?_
 refine xK (yZ (b := 72) (cs := #[.int .i64 0, .int .i64 0, .string ByteArray.empty, .string ByteArray.empty, .slice none 0 0]) (by kernel_rfl) (by kernel_rfl) (by kernel_rfl) (by decide) rfl eO) ?_
 refine xK (yZ (b := 72) (cs := #[.int .i64 0, .int .i64 0, .int .i64 0, .slice none 0 0, .slice none 0 0]) (by kernel_rfl) (by kernel_rfl) (by kernel_rfl) (by decide) rfl eR) ?_
 refine xK (yZ (b := 24) (cs := #[.int .i64 0, .int .i64 0, .bool false]) (by kernel_rfl) (by kernel_rfl) (by kernel_rfl) (by decide) rfl eV) (xK (yw (b := 24) (zv := .agg #[.int .i64 0, .int .i64 0, .bool false]) (by kernel_rfl) (by kernel_rfl) (by kernel_rfl) (by omega) rfl (fun w => uV (eV w))) ?_)
 refine xK (yZ (b := 48) (cs := #[.string ByteArray.empty, .int .i64 0, .slice none 0 0]) (by kernel_rfl) (by kernel_rfl) (by kernel_rfl) (by decide) rfl eW) ?_
 refine xK (yZ (b := 80) (cs := #[.int .i64 0, .string ByteArray.empty, .string ByteArray.empty, .string ByteArray.empty, .slice none 0 0]) (by kernel_rfl) (by kernel_rfl) (by kernel_rfl) (by decide) rfl eH) ?_
 refine xK (yw (b := 24) (zv := .agg #[.int .i64 0, .string ByteArray.empty, .string ByteArray.empty, .string ByteArray.empty, .slice none 0 0]) (by kernel_rfl) (by kernel_rfl) (by kernel_rfl) (by omega) rfl (fun w => uV (eH w))) ?_
 refine xK (yZ (b := 104) (cs := #[.slice none 0 0, .int .i64 0, .int .i64 0, .int .i64 0, .int .i64 0, .int .i64 0, .int .i64 0, .int .i64 0, .slice none 0 0]) (by kernel_rfl) (by kernel_rfl) (by kernel_rfl) (by decide) rfl eK) ?_
 refine xK (yZ (b := 168) (cs := #[.int .i64 0, .int .i64 0, .int .i64 0, .int .i64 0, .int .i64 0, .string ByteArray.empty, .string ByteArray.empty, .slice none 0 0, .int .i64 0, .int .i64 0, .int .i64 0, .slice none 0 0, .slice none 0 0]) (by kernel_rfl) (by kernel_rfl) (by kernel_rfl) (by decide) rfl eM) ?_
 refine xK (yZ (b := 80) (cs := #[.int .i64 0, .string ByteArray.empty, .string ByteArray.empty, .string ByteArray.empty, .slice none 0 0]) (by kernel_rfl) (by kernel_rfl) (by kernel_rfl) (by decide) rfl eH) ?_
 refine xK (yw (b := 24) (zv := .agg #[.slice none 0 0, .int .i64 0, .int .i64 0, .int .i64 0, .int .i64 0, .int .i64 0, .int .i64 0, .int .i64 0, .slice none 0 0]) (by kernel_rfl) (by kernel_rfl) (by kernel_rfl) (by omega) rfl (fun w => uV (eK w))) ?_
 refine xK (yw (b := 24) (zv := .agg #[.string ByteArray.empty, .int .i64 0, .slice none 0 0]) (by kernel_rfl) (by kernel_rfl) (by kernel_rfl) (by omega) rfl (fun w => uV (eW w))) ?_
 refine xK (yw (b := 24) (zv := .agg #[.int .i64 0, .int .i64 0, .int .i64 0, .int .i64 0, .int .i64 0, .string ByteArray.empty, .string ByteArray.empty, .slice none 0 0, .int .i64 0, .int .i64 0, .int .i64 0, .slice none 0 0, .slice none 0 0]) (by kernel_rfl) (by kernel_rfl) (by kernel_rfl) (by omega) rfl (fun w => uV (eM w))) ?_
 refine xK (yw (b := 24) (zv := .slice none 0 0) (by kernel_rfl) (by kernel_rfl) (by kernel_rfl) (by omega) rfl (fun w => zk (by omega))) ?_
 refine xK (yZ (b := 128) (cs := #[.slice none 0 0, .slice none 0 0, .slice none 0 0, .slice none 0 0, .slice none 0 0, .int .i64 0]) (by kernel_rfl) (by kernel_rfl) (by kernel_rfl) (by decide) rfl (fun w => xC (c1 := [_, _]) (uV (eB w)) (xC (c1 := [_]) (zk (by omega)) (xC (c1 := [_]) (zk (by omega)) (xC (c1 := [_]) (zk (by omega)) (xC (c1 := [_]) (yO rfl) zM)))))) ?_
 refine xK (aIL (b := 304) (be := 16) (ze := some (.string ByteArray.empty)) (cs := (List.replicate 19 (.string ByteArray.empty)).toArray) (by kernel_rfl) (by kernel_rfl) (by kernel_rfl) (by omega) (by omega) rfl (fun w => aCy (yO rfl) 19)) ?_
 refine xK (aIL (b := 112) (be := 16) (ze := some (.string ByteArray.empty)) (cs := (List.replicate 7 (.string ByteArray.empty)).toArray) (by kernel_rfl) (by kernel_rfl) (by kernel_rfl) (by omega) (by omega) rfl (fun w => aCy (yO rfl) 7)) ?_
 refine xK (yZ (b := 16) (cs := #[.nilFunc, .nilFunc]) (by kernel_rfl) (by kernel_rfl) (by kernel_rfl) (by decide) rfl (fun w => xC (c1 := [_]) (yO rfl) (xC (c1 := [_]) (yO rfl) zM))) (xK (aKm (b := 16) (c := 2) (zv := .agg #[.nilFunc, .nilFunc]) (by kernel_rfl) (by kernel_rfl) (by kernel_rfl) (fun S w hp B V => by unfold RV; exact ⟨[_, _], rfl, jb (c1 := [_]) (aCx rfl) (jb (c1 := [_]) (aCx rfl) aEr)⟩)) (xK (aGH (b := 8) (by kernel_rfl) (by kernel_rfl)) (xK (aGH (b := 8) (by kernel_rfl) (by kernel_rfl)) ?_)))
 exact aKA
end Go.Proofs.YtodckioppgjbdaaGreatDoor.AM
namespace Go.Proofs.YtodckioppgjbdaaGreatDoor
open Go.RowKit
theorem xg {a b : Bool} (h : a = b) : Ending.returned (.bool a) = .returned (.bool b) := by rw [h]
theorem aDA {k : IntKind} {a b : Int} (h : a = b) : Ending.returned (.int k a) = .returned (.int k b) := by rw [h]
theorem toList_inj {a b : ByteArray} (h : a.toList = b.toList) : a = b := by
 have e : a.data.toList = b.data.toList := by simpa [ByteArray.toList_eq] using h
 cases a; cases b; simp at e; simp [e]
theorem j4 (a b : ByteArray) : (a.toList == b.toList) = decide (a = b) := by
 rw [Bool.eq_iff_iff]; simp
 exact ⟨toList_inj, fun h => by rw [h]⟩
theorem _root_.Go.RowKit.Below.drewN {B : Nat} {a w : World} (h : Below B a w) (n : Nat) : Below B a (w.drewN n) := ⟨h.os, h.tape, h.output, h.size, h.block⟩
theorem vM {w wx w1 : World} (hb : Below w.heap.size w wx) (h1 : Below wx.heap.size wx w1) : Below w.heap.size w w1 := hb.trans (h1.mono hb.size)
theorem cellS {w wx : World} {b o : Nat} {u : Value} (hb : Below w.heap.size w wx) (hl : b < w.heap.size) (h : w.cell? ⟨b, o, none⟩ = some u) : wx.cell? ⟨b, o, none⟩ = some u := (hb.cell (p := ⟨b, o, none⟩) hl).trans h
theorem cellW {w wx : World} {b o : Nat} {u : Value} (hb : Below w.heap.size w wx) (hl : b < w.heap.size) (h : wx.cell? ⟨b, o, none⟩ = some u) : w.cell? ⟨b, o, none⟩ = some u := (hb.cell (p := ⟨b, o, none⟩) hl).symm.trans h
structure Aft (w : World) where
 at_ : World
 below : Below w.heap.size w at_
instance Aft.some_ (w : World) : Nonempty (Aft w) := ⟨⟨w, Below.refl _ _⟩⟩
theorem yA {P : Program} {id : Nat} {Q : Exit → Act → World → Prop} {a : Act} {w : World} {l : List Oper} (hm : P.follows .mixedOrders = true) (hB : Region.lexB .any l.toArray = true)
 (h : wpQuiet P l.toArray (fun w' => ∃ y : Aft w, w' = y.at_) (fun a' => ∀ w', (∃ y : Aft w, w' = y.at_) → Q .normal a' w') l a) : (Code.region id l.toArray true).wp P Q a w :=
 wp_region_quiet (C := fun w' => ∃ y : Aft w, w' = y.at_) hm hB ⟨⟨_, (Below.refl w.heap.size w).drew⟩, rfl⟩ (by simpa using h)
theorem Aft.cell {w : World} {b o : Nat} {u : Value} (hl : b < w.heap.size) (h : w.cell? ⟨b, o, none⟩ = some u) (y : Aft w) : y.at_.cell? ⟨b, o, none⟩ = some u := cellS y.below hl h
theorem Aft.call {P : Program} {f : FuncId} {args : Array Value} {w : World} {y : Aft w} {v : Value} (h : Calls P f args y.at_ fun e w' => e = .returned v ∧ Below y.at_.heap.size y.at_ w') :
 Calls P f args y.at_ fun e w'' => e = .returned v ∧ ∃ y' : Aft w, w'' = y'.at_ :=
 h.mono fun _ _ ⟨he, hb⟩ => ⟨he, ⟨_, vM y.below hb⟩, rfl⟩
theorem Aft.same {P : Program} {f : FuncId} {args : Array Value} {w : World} {y : Aft w} {v : Value} (h : Calls P f args y.at_ fun e w' => e = .returned v ∧ y.at_ = w') :
 Calls P f args y.at_ fun e w'' => e = .returned v ∧ ∃ y' : Aft w, w'' = y'.at_ :=
 h.mono fun _ _ ⟨he, hb⟩ => ⟨he, y, hb.symm⟩
def Rd (w : World) (sz : Nat) (A : Option Addr) (n : Nat) (xs : List Value) : Prop :=
 xs.length = n * sz ∧ (0 < n → ∃ b off, A = some ⟨b, off, none⟩ ∧ b < w.heap.size ∧ ∀ j u, xs[j]? = some u → w.cell? ⟨b, off + j, none⟩ = some u)
section
variable {w w' : World} {sz n : Nat} {A : Option Addr} {xs : List Value}
theorem Rd.nil : Rd w sz A 0 [] := ⟨by simp, fun h => absurd h (by omega)⟩
theorem Rd.below {B : Nat} (h : Rd w sz A n xs) (hb : Below B w w') (hB : w.heap.size ≤ B) : Rd w' sz A n xs :=
 ⟨h.1, fun hn => by
  obtain ⟨b, off, e, hlt, hc⟩ := h.2 hn
  exact ⟨b, off, e, Nat.lt_of_lt_of_le hlt hb.size, fun j u hu => (hb.cell (p := ⟨b, off + j, none⟩) (by show b < B; omega)).trans (hc j u hu)⟩⟩
theorem Rd.alloc (h : Rd w sz A n xs) (o : Obj) : Rd (w.alloc o) sz A n xs := h.below ((Below.refl _ _).alloc (Nat.le_refl _) o) (Nat.le_refl _)
theorem Rd.drew (h : Rd w sz A n xs) : Rd w.drew sz A n xs := h
theorem Rd.drewN (h : Rd w sz A n xs) (k : Nat) : Rd (w.drewN k) sz A n xs := h
end
theorem aEv {P : Program} (src dst e : TypeId) (hs : P.underlying src = some (.slice e)) (he : P.underlying e = some (.int .u8)) (hd : P.underlying dst = some .string) (w : World) (x : Int) :
 (convert src dst (.slice (some ⟨w.heap.size, 0, none⟩) 1 1)).run P (w.alloc (.cells #[.int .u8 x] e)) = .ok (.string (strOfNums [x])) (w.alloc (.cells #[.int .u8 x] e)) :=
 run_convert_bytes_arg (P := P) (w.alloc (.cells #[.int .u8 x] e)) src e hs he w.heap.size 0 1 1 [x] rfl (fun i hi => by
  have : i = 0 := by omega
  subst this
  rw [cell_of_row _ w.heap.size (0 + 0) #[.int .u8 x] e (0, 0) (heap_alloc_new w _)]; rfl) dst hd
def Blk (w : World) (g : Nat) (t : TypeId) (cs : Array Value) : Prop := w.heap[g]? = some (.cells cs t (0, 0))
section
variable {w w' : World} {g : Nat} {t : TypeId} {cs : Array Value}
theorem Blk.lt (h : Blk w g t cs) : g < w.heap.size := by
 rcases Nat.lt_or_ge g w.heap.size with hlt | hge
 · exact hlt
 · unfold Blk at h; rw [Array.getElem?_eq_none hge] at h; cases h
theorem Blk.cell (h : Blk w g t cs) (i : Nat) : w.cell? ⟨g, i, none⟩ = cs[i]? := cell_of_row w g i cs t (0, 0) h
theorem Blk.frozen (h : Blk w g t cs) (i : Nat) : w.frozen? ⟨g, i, none⟩ = false := frozen_of_row w g i cs t h
theorem Blk.new (w : World) (t : TypeId) (cs : Array Value) : Blk (w.alloc (.cells cs t)) w.heap.size t cs := heap_alloc_new w _
theorem Blk.drew (h : Blk w g t cs) : Blk w.drew g t cs := h
theorem Blk.drewN (h : Blk w g t cs) (n : Nat) : Blk (w.drewN n) g t cs := h
theorem Blk.alloc (h : Blk w g t cs) (o : Obj) : Blk (w.alloc o) g t cs := (Below.heap_alloc w o g h.lt).trans h
theorem Blk.set_ (h : Blk w g t cs) (i : Nat) (u : Value) : Blk (w.setCell ⟨g, i, none⟩ u) g t (cs.setIfInBounds i u) := by
 unfold Blk at h ⊢
 simp [World.setCell, Array.getElem?_modify, h]
theorem Blk.far (h : Blk w g t cs) {p : Addr} (hp : g ≠ p.block) (u : Value) : Blk (w.setCell p u) g t cs := (Below.heap_setCell w p u g hp).trans h
theorem Blk.below {B : Nat} (h : Blk w g t cs) (hb : Below B w w') (hg : g < B) : Blk w' g t cs := (hb.block g hg).trans h
theorem Blk.kept (h : Blk w g t cs) (hb : Below w.heap.size w w') : Blk w' g t cs := (hb.block g h.lt).trans h
theorem Blk.own (h : Blk w g t cs) {base sz n cap : Nat} {xs : List Value} (hb : base ≤ g) (hc : n ≤ cap) (hm : cap ≤ maxLen) (hs : cs.size = cap * sz) (ht : cs.toList.take (n * sz) = xs) : w.ownsRow base t sz (.slice (some ⟨g, 0, none⟩) n cap) n xs :=
 ⟨by rw [← ht, List.length_take, Array.length_toList, hs, Nat.min_eq_left (Nat.mul_le_mul_right _ hc)], .inr ⟨g, cap, cs, rfl, hb, h, hc, hm, hs, ht⟩⟩
theorem aFq {base : Nat} {sz n : Nat} {v : Value} {xs : List Value} (h : w.ownsRow base t sz v n xs) : (v = .slice none 0 0 ∧ n = 0 ∧ xs = []) ∨ ∃ g cap cs, v = .slice (some ⟨g, 0, none⟩) n cap ∧ base ≤ g ∧ Blk w g t cs ∧ n ≤ cap ∧ cap ≤ maxLen ∧ cs.size = cap * sz ∧ cs.toList.take (n * sz) = xs := by
 obtain ⟨h1, h2⟩ := h
 rcases h2 with ⟨rfl, rfl⟩ | ⟨g, cap, cur, rfl, r⟩
 · exact .inl ⟨rfl, rfl, List.eq_nil_of_length_eq_zero (by simpa using h1)⟩
 · exact .inr ⟨g, cap, cur, rfl, r⟩
end
theorem aIK (cs : Array Value) (k : Nat) (u v z : Value) (h : k * 3 + 2 < cs.size) : (((cs.setIfInBounds (k * 3) u).setIfInBounds (k * 3 + 1) v).setIfInBounds (k * 3 + 2) z).toList.take ((k + 1) * 3) = cs.toList.take (k * 3) ++ [u, v, z] := by
 rw [show (k + 1) * 3 = k * 3 + 1 + 1 + 1 from by omega]
 rw [List.take_succ_eq_append_getElem (by simpa using h), List.take_succ_eq_append_getElem (by simp; omega), List.take_succ_eq_append_getElem (by simp; omega)]
 simp [List.take_set_of_le]
abbrev Ent := ByteArray × Int
def aLJ (e : Ent) : List Value := [.string e.1, .int .i64 e.2]
def vg (es : List Ent) : List Value := es.flatMap aLJ
theorem jU (e : Ent) (es : List Ent) : vg (e :: es) = .string e.1 :: .int .i64 e.2 :: vg es := rfl
theorem aAi (es : List Ent) : (vg es).length = es.length * 2 := by
 induction es with
 | nil => rfl
 | cons e r ih => rw [jU, List.length_cons, List.length_cons, ih, List.length_cons]; omega
theorem aCL (es : List Ent) (k : Nat) : (vg es).drop (k * 2) = vg (es.drop k) := by
 induction es generalizing k with
 | nil => simp [vg]
 | cons e r ih =>
  match k with
  | 0 => simp
  | k + 1 => rw [show (k + 1) * 2 = k * 2 + 1 + 1 from by omega, jU, List.drop_succ_cons, List.drop_succ_cons, ih, List.drop_succ_cons]
theorem aH4 (es : List Ent) (k : Nat) (h : k < es.length) : (vg es)[k * 2]? = some (.string es[k].1) := by
 have := aCL es k
 rw [List.drop_eq_getElem_cons h, jU] at this
 have h2 : ((vg es).drop (k * 2))[0]? = some (.string es[k].1) := by rw [this]; rfl
 rwa [List.getElem?_drop, Nat.add_zero] at h2
theorem aH5 (es : List Ent) (k : Nat) (h : k < es.length) : (vg es)[k * 2 + 1]? = some (.int .i64 es[k].2) := by
 have := aCL es k
 rw [List.drop_eq_getElem_cons h, jU] at this
 have h2 : ((vg es).drop (k * 2))[1]? = some (.int .i64 es[k].2) := by rw [this]; rfl
 rwa [List.getElem?_drop] at h2
theorem Rd.ent {w wr : World} {A : Option Addr} {n : Nat} {es : List Ent} (h : Rd w 2 A n (vg es)) (hb : Below w.heap.size w wr) {k : Nat} (hk : k < es.length) :
 ∃ b off, A = some ⟨b, off, none⟩ ∧ b < w.heap.size ∧ b < wr.heap.size ∧ wr.cell? ⟨b, off + k * 2, none⟩ = some (.string es[k].1) ∧ wr.cell? ⟨b, off + k * 2 + 1, none⟩ = some (.int .i64 es[k].2) := by
 have hl := aAi es
 obtain ⟨b, off, e, hlt, hc⟩ := h.2 (by have := h.1; omega)
 refine ⟨b, off, e, hlt, Nat.lt_of_lt_of_le hlt hb.size, ?_, ?_⟩
 · exact (hb.cell (p := ⟨b, off + k * 2, none⟩) hlt).trans (hc _ _ (aH4 es k hk))
 · exact (hb.cell (p := ⟨b, off + k * 2 + 1, none⟩) hlt).trans (hc _ _ (aH5 es k hk))
theorem Rd.len {w : World} {A : Option Addr} {n : Nat} {es : List Ent} (h : Rd w 2 A n (vg es)) : es.length = n := by
 have h1 := aAi es; have h2 := h.1; omega
structure Edt where
 key : ByteArray
 val : Int
 gone : Bool
def aKS (e : Edt) : List Value := [.string e.key, .int .i64 e.val, .bool e.gone]
def yI (es : List Edt) : List Value := es.flatMap aKS
theorem wz (e : Edt) (es : List Edt) : yI (e :: es) = .string e.key :: .int .i64 e.val :: .bool e.gone :: yI es := rfl
theorem aET (a b : List Edt) : yI (a ++ b) = yI a ++ yI b := by simp [yI]
theorem jg (es : List Edt) : (yI es).length = es.length * 3 := by
 induction es with
 | nil => rfl
 | cons e r ih => rw [wz, List.length_cons, List.length_cons, List.length_cons, ih, List.length_cons]; omega
theorem aGW (es : List Edt) (k : Nat) : (yI es).drop (k * 3) = yI (es.drop k) := by
 induction es generalizing k with
 | nil => simp [yI]
 | cons e r ih =>
  match k with
  | 0 => simp
  | k + 1 => rw [show (k + 1) * 3 = k * 3 + 1 + 1 + 1 from by omega, wz, List.drop_succ_cons, List.drop_succ_cons, List.drop_succ_cons, ih, List.drop_succ_cons]
theorem aI3 (es : List Edt) (k : Nat) (h : k < es.length) : (yI es)[k * 3]? = some (.string es[k].key) ∧ (yI es)[k * 3 + 1]? = some (.int .i64 es[k].val) ∧ (yI es)[k * 3 + 2]? = some (.bool es[k].gone) := by
 have := aGW es k
 rw [List.drop_eq_getElem_cons h, wz] at this
 refine ⟨?_, ?_, ?_⟩
 · have h2 : ((yI es).drop (k * 3))[0]? = some (.string es[k].key) := by rw [this]; rfl
   rwa [List.getElem?_drop, Nat.add_zero] at h2
 · have h2 : ((yI es).drop (k * 3))[1]? = some (.int .i64 es[k].val) := by rw [this]; rfl
   rwa [List.getElem?_drop] at h2
 · have h2 : ((yI es).drop (k * 3))[2]? = some (.bool es[k].gone) := by rw [this]; rfl
   rwa [List.getElem?_drop] at h2
theorem Rd.edt {w wr : World} {A : Option Addr} {n : Nat} {es : List Edt} (h : Rd w 3 A n (yI es)) (hb : Below w.heap.size w wr) {k : Nat} (hk : k < es.length) :
 ∃ b off, A = some ⟨b, off, none⟩ ∧ b < w.heap.size ∧ b < wr.heap.size ∧ wr.cell? ⟨b, off + k * 3, none⟩ = some (.string es[k].key) ∧ wr.cell? ⟨b, off + k * 3 + 1, none⟩ = some (.int .i64 es[k].val) ∧ wr.cell? ⟨b, off + k * 3 + 2, none⟩ = some (.bool es[k].gone) := by
 have hl := jg es
 obtain ⟨b, off, e, hlt, hc⟩ := h.2 (by have := h.1; omega)
 obtain ⟨e1, e2, e3⟩ := aI3 es k hk
 refine ⟨b, off, e, hlt, Nat.lt_of_lt_of_le hlt hb.size, ?_, ?_, ?_⟩
 · exact (hb.cell (p := ⟨b, off + k * 3, none⟩) hlt).trans (hc _ _ e1)
 · exact (hb.cell (p := ⟨b, off + k * 3 + 1, none⟩) hlt).trans (hc _ _ e2)
 · exact (hb.cell (p := ⟨b, off + k * 3 + 2, none⟩) hlt).trans (hc _ _ e3)
theorem Rd.elen {w : World} {A : Option Addr} {n : Nat} {es : List Edt} (h : Rd w 3 A n (yI es)) : es.length = n := by
 have h1 := jg es; have h2 := h.1; omega
namespace Nm
def letter (c : Int) : Bool := (decide (97 ≤ c) && decide (c ≤ 122)) || (decide (65 ≤ c) && decide (c ≤ 90)) || decide (c = 95)
def digit (c : Int) : Bool := decide (48 ≤ c) && decide (c ≤ 57)
def lettersFrom (l : List UInt8) : Bool := l.all fun c => letter c.toNat || digit c.toNat
def nameOK (l : List UInt8) : Bool :=
 match l with
 | [] => false
 | c :: r => decide (r.length < 12) && letter c.toNat && lettersFrom r
theorem aIc (c : Int) (h : letter c = true) : digit c = false := by
 simp [letter, digit] at *; omega
end Nm
theorem jq (c : Int) (w : World) :
 Calls Tryz.prog 161 #[.int .u8 c] w fun e w' => e = .returned (.bool (Nm.letter c)) ∧ w = w' := by
 go_enter Tryz.func161, Tryz.ntmps161
 go_wp2
 all_goals (go_ret; exact ⟨xg (by rw [Bool.eq_iff_iff]; simp [Nm.letter]; try omega), rfl⟩)
theorem qY (c : Int) (w : World) :
 Calls Tryz.prog 160 #[.int .u8 c] w fun e w' => e = .returned (.bool (Nm.digit c)) ∧ w = w' := by
 go_enter Tryz.func160, Tryz.ntmps160
 go_wp2
 all_goals (go_ret; exact ⟨xg (by rw [Bool.eq_iff_iff]; simp [Nm.digit]; try omega), rfl⟩)
theorem jQ (c : Int) (w : World) :
 Calls Tryz.prog 157 #[.int .u8 c] w fun e w' => e = .returned (.bool (Nm.letter c)) ∧ w = w' := by
 go_enter Tryz.func157, Tryz.ntmps157
 go_wp2
 all_goals (go_ret; exact ⟨xg (by rw [Bool.eq_iff_iff]; simp [Nm.letter]; try omega), rfl⟩)
theorem aE0 (c : Int) (w : World) :
 Calls Tryz.prog 158 #[.int .u8 c] w fun e w' => e = .returned (.bool (Nm.digit c)) ∧ w = w' := by
 go_enter Tryz.func158, Tryz.ntmps158
 go_wp2
 all_goals (go_ret; exact ⟨xg (by rw [Bool.eq_iff_iff]; simp [Nm.digit]; try omega), rfl⟩)
namespace Nm
def okc (c : UInt8) : Bool := letter c.toNat || digit c.toNat
theorem lettersFrom_take (l : List UInt8) (k : Nat) (h : k < l.length) : lettersFrom (l.take (k + 1)) = (lettersFrom (l.take k) && okc l[k]) := by
 unfold lettersFrom okc; rw [List.take_succ_eq_append_getElem h, List.all_append]; simp
theorem lettersFrom_bad (l : List UInt8) (k : Nat) (h : k < l.length) (hb : okc l[k] = false) : lettersFrom l = false := by
 rw [lettersFrom, List.all_eq_false]
 exact ⟨l[k], List.getElem_mem h, by simp only [okc] at hb; simp [hb]⟩
theorem nameOK_eq (l : List UInt8) (h0 : 0 < l.length) (h1 : l.length ≤ 12) : nameOK l = (letter l[0].toNat && lettersFrom l) := by
 match l, h0 with
 | c :: r, _ =>
  have : r.length < 12 := by simp at h1; omega
  simp [nameOK, this, lettersFrom]
  cases letter c.toNat <;> simp
theorem aLA : nameOK [] = false := rfl
theorem nameOK_long (l : List UInt8) (h : 12 < l.length) : nameOK l = false := by
 match l with
 | c :: r =>
  have : ¬ r.length < 12 := by simp at h; omega
  simp [nameOK, this]
theorem aBi (c : Int) (h : digit c = true) : letter c = false := by
 simp [letter, digit] at *; omega
theorem nameOK_digit (l : List UInt8) (h0 : 0 < l.length) (hd : digit l[0].toNat = true) : nameOK l = false := by
 match l, h0 with
 | c :: r, _ =>
  have hd' : letter c.toNat = false := aBi _ hd
  simp [nameOK, hd']
theorem nameOK_letters (l : List UInt8) (h0 : 0 < l.length) (h1 : l.length ≤ 12) (hd : digit l[0].toNat = false) : nameOK l = lettersFrom l := by
 rw [nameOK_eq l h0 h1]
 cases h : letter l[0].toNat with
 | true => rfl
 | false => exact (lettersFrom_bad l 0 h0 (by simp [okc, h, hd])).symm
end Nm
set_option maxHeartbeats 400000 in
theorem aCY (s : ByteArray) (w : World) (hs : s.size ≤ maxLen) :
 Calls Tryz.prog 98 #[.string s] w fun e w' => e = .returned (.bool (Nm.nameOK s.data.toList)) ∧ w = w' := by
 unfold maxLen at hs
 have hl : s.data.toList.length = s.size := by simp
 by_cases h0 : s.size = 0
 · have : s = ByteArray.empty := by simpa using h0
   subst this
   go_enter Tryz.func98, Tryz.ntmps98
   go_wp2
   go_ret
   exact ⟨rfl, rfl⟩
 by_cases h1 : 12 < s.size
 · go_enter Tryz.func98, Tryz.ntmps98
   go_wp2
   go_ret
   exact ⟨xg (Nm.nameOK_long _ (by omega)).symm, rfl⟩
 have e0 : ((s.size : Int) == 0) = false := beq_eq_false_iff_ne.2 (by omega)
 have e1 : decide ((12 : Int) < s.size) = false := decide_eq_false (by omega)
 have p0 : 0 < s.size := by omega
 cases hd : Nm.digit s[0].toNat with
 | true =>
  have hfin : Nm.nameOK s.data.toList = false := Nm.nameOK_digit _ (by rw [hl]; exact p0) hd
  have Hf := Lib.hid hfin; clear hfin
  go_enter Tryz.func98, Tryz.ntmps98
  go_wp2_with (first | (go_at_call 160; refine (qY _ _).mono ?_; rintro e w' ⟨rfl, rfl⟩) | (go_at_call 161; refine (jq _ _).mono ?_; rintro e w' ⟨rfl, rfl⟩))
  go_ret
  exact ⟨xg Hf.out.symm, rfl⟩
 | false =>
  have hfin : Nm.nameOK s.data.toList = Nm.lettersFrom s.data.toList := Nm.nameOK_letters _ (by rw [hl]; exact p0) (by omega) hd
  have Hf := Lib.hid hfin; clear hfin
  have h1' : s.size ≤ 12 := by omega
  clear h1
  go_enter Tryz.func98, Tryz.ntmps98
  go_wp2_with (first | (go_at_call 160; refine (qY _ _).mono ?_; rintro e w' ⟨rfl, rfl⟩) | (go_at_call 161; refine (jq _ _).mono ?_; rintro e w' ⟨rfl, rfl⟩))
  go_loop [3] (fun i => ∃ k : Nat, k ≤ s.size ∧ i = .int .i64 k ∧ Nm.lettersFrom (s.data.toList.take k) = true) (fun i => s.size - (intOf i).toNat)
  case atStart => exact ⟨0, Nat.zero_le _, rfl, rfl⟩
  case round =>
   obtain ⟨k, hk, rfl, hr⟩ := hrel
   have Hr := Lib.hid hr; clear hr
   by_cases hlt : k < s.size
   · have hst : Hid (Nm.lettersFrom (s.data.toList.take (k + 1)) = (Nm.lettersFrom (s.data.toList.take k) && Nm.okc s[k])) := Nm.lettersFrom_take _ k (by omega)
     have hbad : Hid (Nm.okc s[k] = false → Nm.lettersFrom s.data.toList = false) := fun h => Nm.lettersFrom_bad _ k (by omega) h
     have hok : Nm.okc s[k] = (Nm.letter s[k].toNat || Nm.digit s[k].toNat) := rfl
     have Hok := Lib.hid hok; clear hok
     go_wp2_with (first | (go_at_call 160; refine (qY _ _).mono ?_; rintro e w' ⟨rfl, rfl⟩) | (go_at_call 161; refine (jq _ _).mono ?_; rintro e w' ⟨rfl, rfl⟩))
     · go_round
       case rel => exact ⟨k + 1, by omega, by go_num, by rw [hst.out, Hr.out, Hok.out]; simp [*]⟩
       case measure => simp [intOf]; omega
     · go_ret
       exact ⟨xg (by rw [Hf.out, hbad.out]; rw [Hok.out]; simp_all), rfl⟩
     · go_round
       case rel => exact ⟨k + 1, by omega, by go_num, by rw [hst.out, Hr.out, Hok.out]; simp_all⟩
       case measure => simp [intOf]; omega
   · go_wp2
     go_ret
     exact ⟨xg (by rw [Hf.out]; have := Hr.out; rw [List.take_of_length_le (by omega)] at this; exact this.symm), rfl⟩
set_option maxHeartbeats 400000 in
theorem aB9 (s : ByteArray) (w : World) (hs : s.size ≤ maxLen) :
 Calls Tryz.prog 92 #[.string s] w fun e w' => e = .returned (.bool (Nm.nameOK s.data.toList)) ∧ w = w' := by
 unfold maxLen at hs
 have hl : s.data.toList.length = s.size := by simp
 by_cases h0 : s.size = 0
 · have : s = ByteArray.empty := by simpa using h0
   subst this
   go_enter Tryz.func92, Tryz.ntmps92
   go_wp2
   go_ret
   exact ⟨rfl, rfl⟩
 have e2 : decide ((s.size : Int) < 1) = false := decide_eq_false (by omega)
 by_cases h1 : 12 < s.size
 · go_enter Tryz.func92, Tryz.ntmps92
   go_wp2
   go_ret
   exact ⟨xg (Nm.nameOK_long _ (by omega)).symm, rfl⟩
 have e1 : decide ((12 : Int) < s.size) = false := decide_eq_false (by omega)
 have p0 : 0 < s.size := by omega
 cases hd : Nm.letter s[0].toNat with
 | false =>
  have hfin : Nm.nameOK s.data.toList = false := by
   rw [Nm.nameOK_eq _ (by rw [hl]; exact p0) (by omega)]
   have : Nm.letter s.data.toList[0].toNat = false := hd
   rw [this]; rfl
  have Hf := Lib.hid hfin; clear hfin
  go_enter Tryz.func92, Tryz.ntmps92
  go_wp2_with (go_at_call 157; refine (jQ _ _).mono ?_; rintro e w' ⟨rfl, rfl⟩)
  go_ret
  exact ⟨xg Hf.out.symm, rfl⟩
 | true =>
  have hfin : Nm.nameOK s.data.toList = Nm.lettersFrom s.data.toList := by
   rw [Nm.nameOK_eq _ (by rw [hl]; exact p0) (by omega)]
   have : Nm.letter s.data.toList[0].toNat = true := hd
   rw [this]; rfl
  have Hf := Lib.hid hfin; clear hfin
  have hst1 : Hid (Nm.lettersFrom (s.data.toList.take 1) = true) := by
   have e : Nm.lettersFrom (s.data.toList.take (0 + 1)) = (Nm.lettersFrom (s.data.toList.take 0) && Nm.okc s[0]) := Nm.lettersFrom_take _ 0 (by rw [hl]; exact p0)
   show Nm.lettersFrom (s.data.toList.take (0 + 1)) = true
   rw [e, Nm.okc, hd]; rfl
  have h1' : s.size ≤ 12 := by omega
  clear h1
  go_enter Tryz.func92, Tryz.ntmps92
  go_wp2_with (go_at_call 157; refine (jQ _ _).mono ?_; rintro e w' ⟨rfl, rfl⟩)
  go_loop [3] (fun i => ∃ k : Nat, 1 ≤ k ∧ k ≤ s.size ∧ i = .int .i64 k ∧ Nm.lettersFrom (s.data.toList.take k) = true) (fun i => s.size - (intOf i).toNat)
  case atStart => exact ⟨1, Nat.le_refl _, p0, rfl, hst1.out⟩
  case round =>
   obtain ⟨k, hk0, hk, rfl, hr⟩ := hrel
   have Hr := Lib.hid hr; clear hr
   by_cases hlt : k < s.size
   · have hst : Hid (Nm.lettersFrom (s.data.toList.take (k + 1)) = (Nm.lettersFrom (s.data.toList.take k) && Nm.okc s[k])) := Nm.lettersFrom_take _ k (by omega)
     have hbad : Hid (Nm.okc s[k] = false → Nm.lettersFrom s.data.toList = false) := fun h => Nm.lettersFrom_bad _ k (by omega) h
     have hok : Nm.okc s[k] = (Nm.letter s[k].toNat || Nm.digit s[k].toNat) := rfl
     have Hok := Lib.hid hok; clear hok
     go_wp2_with (first | (go_at_call 157; refine (jQ _ _).mono ?_; rintro e w' ⟨rfl, rfl⟩) | (go_at_call 158; refine (aE0 _ _).mono ?_; rintro e w' ⟨rfl, rfl⟩))
     · go_round
       case rel => exact ⟨k + 1, by omega, by omega, by go_num, by rw [hst.out, Hr.out, Hok.out]; simp [*]⟩
       case measure => simp [intOf]; omega
     · go_ret
       exact ⟨xg (by rw [Hf.out, hbad.out]; rw [Hok.out]; simp_all), rfl⟩
     · go_round
       case rel => exact ⟨k + 1, by omega, by omega, by go_num, by rw [hst.out, Hr.out, Hok.out]; simp_all⟩
       case measure => simp [intOf]; omega
   · go_wp2
     go_ret
     exact ⟨xg (by rw [Hf.out]; have := Hr.out; rw [List.take_of_length_le (by omega)] at this; exact this.symm), rfl⟩
end Go.Proofs.YtodckioppgjbdaaGreatDoor
namespace Go.Proofs.YtodckioppgjbdaaGreatDoor
theorem aAd : ∀ (x y : List UInt8), Op.bytesLess x y = decide (x < y)
 | [], [] => by simp [Op.bytesLess]
 | [], _ :: _ => by simp [Op.bytesLess]
 | _ :: _, [] => by simp [Op.bytesLess]
 | a :: xs, b :: ys => by
  rw [Op.bytesLess, aAd xs ys, Bool.eq_iff_iff]
  simp [List.cons_lt_cons_iff]
def klt (a b : ByteArray) : Bool := Op.bytesLess a.toList b.toList
theorem ja (a b : ByteArray) : klt a b = true ↔ a.toList < b.toList := by simp [klt, aAd]
theorem aCU (a : ByteArray) : klt a a = false := by
 cases h : klt a a with
 | false => rfl
 | true => exact absurd ((ja _ _).1 h) (List.lt_irrefl _)
theorem aDW {a b c : ByteArray} (h : klt a b = true) (k : klt b c = true) : klt a c = true :=
 (ja _ _).2 (List.lt_trans ((ja _ _).1 h) ((ja _ _).1 k))
theorem aHa {a b : ByteArray} (h : klt a b = true) : klt b a = false := by
 cases k : klt b a with
 | false => rfl
 | true => have := aDW h k; rw [aCU] at this; cases this
theorem aFg {a b : ByteArray} (h : klt a b = false) (k : a ≠ b) : klt b a = true := by
 rw [ja]
 have h' : ¬ a.toList < b.toList := fun x => by rw [(ja _ _).2 x] at h; cases h
 rcases List.le_iff_lt_or_eq.1 (List.not_lt.1 h') with h2 | h2
 · exact h2
 · exact absurd (toList_inj h2.symm) k
theorem aK5 (a b : ByteArray) : (Op.bytesLess a.toList b.toList || a.toList == b.toList) = !klt b a := by
 have e : Op.bytesLess a.toList b.toList = klt a b := rfl
 rw [e, j4]
 by_cases h : a = b
 · subst h; simp [aCU]
 · cases k : klt a b with
   | true => simp [aHa k]
   | false => simp [aFg k h, h]
def nm (k : ByteArray) : Bool := Nm.nameOK k.data.toList
def aBt (x : Int) : Bool := decide (-1000000 ≤ x) && decide (x ≤ 1000000)
def kAt (es : List Ent) (i : Nat) : ByteArray := (es.getD i (ByteArray.empty, 0)).1
def zJ (es : List Ent) (i : Nat) : Bool := nm (kAt es i) && (decide (i = 0) || klt (kAt es (i - 1)) (kAt es i))
def qA (es : List Ent) : Bool := (List.range es.length).all (zJ es)
theorem aFp {es : List Ent} (h : ∀ i, i < es.length → zJ es i = true) : qA es = true := by
 rw [qA, List.all_eq_true]; intro i hi; exact h i (List.mem_range.1 hi)
theorem aBn {es : List Ent} {i : Nat} (hi : i < es.length) (h : zJ es i = false) : qA es = false := by
 rw [qA, List.all_eq_false]; exact ⟨i, List.mem_range.2 hi, by rw [h]; simp⟩
theorem aFo {es : List Ent} (h : qA es = true) {i : Nat} (hi : i < es.length) : zJ es i = true := List.all_eq_true.1 h i (List.mem_range.2 hi)
def Srt (es : List Ent) : Prop := es.Pairwise fun a b => klt a.1 b.1 = true
def aDj (es : List Ent) (k : ByteArray) (p : Nat) : Prop := p ≤ es.length ∧ (∀ j, (hj : j < es.length) → j < p → klt es[j].1 k = true) ∧ ((hp : p < es.length) → klt es[p].1 k = false)
theorem aDj.take {es : List Ent} {k : ByteArray} {p : Nat} (h : aDj es k p) : es.takeWhile (fun e => klt e.1 k) = es.take p ∧ es.dropWhile (fun e => klt e.1 k) = es.drop p := by
 induction es generalizing p with
 | nil => obtain ⟨h1, _⟩ := h; simp
 | cons e r ih =>
  obtain ⟨h1, h2, h3⟩ := h
  match p, h1, h2, h3 with
  | 0, _, _, h3 => have := h3 (by simp); simp at this; simp [this]
  | p + 1, h1, h2, h3 =>
   have he := h2 0 (by simp) (by omega)
   simp at he
   have := ih (p := p) ⟨by simpa using h1, fun j hj hjp => by have := h2 (j + 1) (by simp; omega) (by omega); simpa using this, fun hp => by have := h3 (by simp; omega); simpa using this⟩
   simp [he, this]
theorem aDj.after {es : List Ent} {k : ByteArray} {p : Nat} (h : aDj es k p) (hs : Srt es) (j : Nat) (hj : j < es.length) (hpj : p < j) : klt k es[j].1 = true := by
 have h1 : klt es[p].1 es[j].1 = true := (List.pairwise_iff_getElem.1 hs) p j (by omega) hj hpj
 by_cases he : es[p].1 = k
 · rw [← he]; exact h1
 · exact aDW (aFg (h.2.2 (by omega)) he) h1
open Go.RowKit
theorem Rd.piece {w : World} {sz n : Nat} {A : Option Addr} {xs : List Value} (h : Rd w sz A n xs) {i m : Nat} (hm : i + m ≤ n) (hpos : 0 < ((xs.drop (i * sz)).take (m * sz)).length) :
 ∃ b off, A = some ⟨b, off, none⟩ ∧ ∀ j v, ((xs.drop (i * sz)).take (m * sz))[j]? = some v → w.cell? ((⟨b, off + i * sz, none⟩ : Addr).add j) = some v := by
 have hn : 0 < n := by
  rcases Nat.eq_zero_or_pos n with h0 | h0
  · subst h0
    have : m = 0 := by omega
    subst this
    simp at hpos
  · exact h0
 obtain ⟨b, off, rfl, _, hc⟩ := h.2 hn
 refine ⟨b, off, rfl, fun j v hj => ?_⟩
 have hadd : (⟨b, off + i * sz, none⟩ : Addr).add j = ⟨b, off + (i * sz + j), none⟩ := by unfold Addr.add; split <;> simp_all [Nat.add_assoc]
 rw [hadd]
 refine hc _ _ ?_
 rw [List.getElem?_take] at hj
 split at hj
 · rw [List.getElem?_drop] at hj; exact hj
 · cases hj
theorem Rd.cut {w : World} {sz n : Nat} {A : Option Addr} {xs : List Value} (h : Rd w sz A n xs) {i m : Nat} (hm : i + m ≤ n) (hpos : 0 < ((xs.drop (i * sz)).take (m * sz)).length) :
 ∃ ad, Option.map (fun x => x.add (i * sz)) A = some ad ∧ ∀ j v, ((xs.drop (i * sz)).take (m * sz))[j]? = some v → w.cell? (ad.add j) = some v := by
 obtain ⟨b, off, rfl, hc⟩ := h.piece hm hpos
 have hadd : (⟨b, off, none⟩ : Addr).add (i * sz) = ⟨b, off + i * sz, none⟩ := by unfold Addr.add; split <;> simp_all
 exact ⟨_, rfl, fun j v hj => by
  show w.cell? (((⟨b, off, none⟩ : Addr).add (i * sz)).add j) = some v
  rw [hadd]; exact hc j v hj⟩
def aKE (b : Bool) (w : World) (e : Ending) (w' : World) : Prop := e = .returned (.bool b) ∧ Below w.heap.size w w'
theorem aF0 (x : Int) (w : World) :
 Calls Tryz.prog 118 #[.int .i64 x] w fun e w' => e = .returned (.bool (decide (-1000000 ≤ x) && decide (x ≤ 1000000))) ∧ w = w' := by
 go_enter Tryz.func118, Tryz.ntmps118
 go_wp2
 all_goals (go_ret; exact ⟨xg (by rw [Bool.eq_iff_iff]; simp; try omega), rfl⟩)
theorem aHc (x a b : Int) (w : World) :
 Calls Tryz.prog 81 #[.int .i64 x, .int .i64 a, .int .i64 b] w fun e w' => e = .returned (.bool (decide (a ≤ x) && decide (x ≤ b))) ∧ w = w' := by
 go_enter Tryz.func81, Tryz.ntmps81
 go_wp2
 all_goals (go_ret; exact ⟨xg (by rw [Bool.eq_iff_iff]; simp; try omega), rfl⟩)
def aF1 (e : TypeId) (r : List Ent × Int) (w : World) (e' : Ending) (w' : World) : Prop := ∃ v, e' = .returned (.tuple #[v, .int .i64 r.2]) ∧ w'.ownsRow w.heap.size e 2 v r.1.length (vg r.1) ∧ Below w.heap.size w w'
theorem aF1.mk {e : TypeId} {r : List Ent × Int} {l : List Ent} {c : Int} {v : Value} {w w' : World} (h : r = (l, c)) (ho : w'.ownsRow w.heap.size e 2 v l.length (vg l)) (hb : Below w.heap.size w w') : aF1 e r w (.returned (.tuple #[v, .int .i64 c])) w' := ⟨v, by rw [h], by rw [h]; exact ho, hb⟩
theorem Blk.two {w : World} {g : Nat} {t : TypeId} {cs : Array Value} (h : Blk w g t cs) {k : Nat} (hk : k * 2 + 1 < cs.size) :
 ∃ y0 y1, w.cell? ⟨g, k * 2, none⟩ = some y0 ∧ w.cell? ⟨g, k * 2 + 1, none⟩ = some y1 ∧ w.frozen? ⟨g, k * 2, none⟩ = false ∧ w.frozen? ⟨g, k * 2 + 1, none⟩ = false :=
 ⟨_, _, (h.cell _).trans (Array.getElem?_eq_getElem (by omega)), (h.cell _).trans (Array.getElem?_eq_getElem hk), h.frozen _, h.frozen _⟩
instance edt_dec : DecidableEq Edt := fun a b => decidable_of_iff (a.key = b.key ∧ a.val = b.val ∧ a.gone = b.gone) ⟨fun ⟨h1, h2, h3⟩ => by cases a; cases b; simp at *; exact ⟨h1, h2, h3⟩, fun h => by subst h; exact ⟨rfl, rfl, rfl⟩⟩
def EqD (a b : Edt) : Bool := decide (a.key = b.key) && (decide (a.val = b.val) && decide (a.gone = b.gone))
theorem aJN (a b : Edt) : EqD a b = decide (a = b) := by
 obtain ⟨a1, a2, a3⟩ := a
 obtain ⟨b1, b2, b3⟩ := b
 rw [Bool.eq_iff_iff]; simp [EqD]
set_option maxRecDepth 100000 in
theorem aGX (k1 k2 : ByteArray) (v1 v2 : Int) (g1 g2 : Bool) (w : World) :
 Calls Tryz.prog 107 #[.agg #[.string k1, .int .i64 v1, .bool g1], .agg #[.string k2, .int .i64 v2, .bool g2]] w fun e w' => e = .returned (.bool (EqD ⟨k1, v1, g1⟩ ⟨k2, v2, g2⟩)) ∧ Below w.heap.size w w' := by
 have hk := j4 k1 k2
 by_cases h1 : k1 = k2 <;> by_cases h2 : v1 = v2 <;> cases g1 <;> cases g2
 all_goals
  go_enter Tryz.func107, Tryz.ntmps107
  go_wp2
  go_ret
  exact ⟨xg (by simp [EqD, h1, h2]), ((Below.refl _ _).alloc (Nat.le_refl _) _).alloc (by simp) _⟩
set_option maxRecDepth 100000 in
theorem aFS (A : Option Addr) (n c : Nat) (es : List Edt) (A' : Option Addr) (n' c' : Nat) (es' : List Edt) (w : World) (hr : Rd w 3 A n (yI es)) (hr' : Rd w 3 A' n' (yI es')) (hm : n ≤ maxLen) (hm' : n' ≤ maxLen) (hsame : es = es') :
 Calls Tryz.prog 45 #[.slice A n c, .slice A' n' c'] w (aKE true w) := by
 subst hsame
 have hne : n = n' := by rw [← hr.elen, ← hr'.elen]
 unfold maxLen at hm hm'
 have hlen := hr.elen
 have Hlen := Lib.hid hlen; clear hlen
 subst hne
 go_enter Tryz.func45, Tryz.ntmps45
 go_wp2
 go_loopw [5] (fun i wr => ∃ k : Nat, k ≤ n ∧ i = .int .i64 k ∧ Below w.heap.size w wr) (fun i _ => n - (intOf i).toNat)
 case atStart => exact ⟨0, Nat.zero_le _, rfl, Below.refl _ _⟩
 case round =>
  obtain ⟨k, hk, rfl, hb⟩ := hrel
  by_cases hlt : k < n
  · have hke : k < es.length := by rw [Hlen.out]; exact hlt
    obtain ⟨b, off, rfl, hbl, hbl2, hc1, hc2, hc3⟩ := hr.edt hb hke
    obtain ⟨b', off', rfl, hbl', hbl2', hc1', hc2', hc3'⟩ := hr'.edt hb hke
    generalize es[k] = ek at *
    obtain ⟨k1, v1, g1⟩ := ek
    have hcall : Hid (∀ W : World, Calls Tryz.prog 107 #[.agg #[.string k1, .int .i64 v1, .bool g1], .agg #[.string k1, .int .i64 v1, .bool g1]] W fun e w' => e = .returned (.bool true) ∧ Below W.heap.size W w') := fun W => by
     have h := aGX k1 k1 v1 v1 g1 g1 W
     rw [aJN, decide_eq_true rfl] at h; exact h
    go_wp2
    go_still_tail 8, (by kernel_rfl)
    change wpList _ _ _ _ _ wr.drew
    generalize hw2 : wr.drew = w2
    have hb2 : Below w.heap.size w w2 := by rw [← hw2]; exact hb.drew
    clear hw2 hb
    go_wp2_with fail
    refine (hcall.out _).mono ?_
    rintro e w3 ⟨rfl, hb3⟩
    go_wp2
    go_roundw
    case rel => exact ⟨k + 1, by omega, by go_num, hb2.trans (hb3.mono hb2.size)⟩
    case measure => simp [intOf]; omega
  · go_wp2
    go_ret
    exact ⟨rfl, hb⟩
theorem Blk.three {w : World} {g : Nat} {t : TypeId} {cs : Array Value} (h : Blk w g t cs) {k : Nat} (hk : k * 3 + 2 < cs.size) :
 ∃ y0 y1 y2, w.cell? ⟨g, k * 3, none⟩ = some y0 ∧ w.cell? ⟨g, k * 3 + 1, none⟩ = some y1 ∧ w.cell? ⟨g, k * 3 + 2, none⟩ = some y2 ∧ w.frozen? ⟨g, k * 3, none⟩ = false ∧ w.frozen? ⟨g, k * 3 + 1, none⟩ = false ∧ w.frozen? ⟨g, k * 3 + 2, none⟩ = false :=
 ⟨_, _, _, (h.cell _).trans (Array.getElem?_eq_getElem (by omega)), (h.cell _).trans (Array.getElem?_eq_getElem (by omega)), (h.cell _).trans (Array.getElem?_eq_getElem hk), h.frozen _, h.frozen _, h.frozen _⟩
def qX : Nat → Int → ByteArray → ByteArray
 | 0, _, t => t
 | f + 1, j, t => if 0 < j then qX f (j / 10) (strOfNums [48 + j % 10] ++ t) else t
def vk (k : Int) : ByteArray := if 0 < k then ⟨#[109]⟩ ++ qX k.toNat k ⟨#[]⟩ else ⟨#[109, 48]⟩
theorem aHY (f : Nat) (t : ByteArray) : qX f 0 t = t := by cases f <;> simp [qX]
theorem aGB {a b : ByteArray} (h : a = b) : Ending.returned (.string a) = .returned (.string b) := by rw [h]
set_option maxRecDepth 100000 in
theorem aAu (k : Int) (w : World) (h0 : 0 ≤ k) (h1 : k ≤ 1099511627776) :
 Calls Tryz.prog 113 #[.int .i64 k] w fun e w' => e = .returned (.string (vk k)) ∧ Below w.heap.size w w' := by
 by_cases hk : k ≤ 0
 · have hfin : Hid (vk k = ⟨#[109, 48]⟩) := by show vk k = _; unfold vk; rw [if_neg (by omega)]
   go_enter Tryz.func113, Tryz.ntmps113
   go_wp2
   go_ret
   exact ⟨aGB hfin.out.symm, Below.refl _ _⟩
 have hk' : 0 < k := by omega
 have hfin : Hid (vk k = ⟨#[109]⟩ ++ qX k.toNat k ⟨#[]⟩) := by show vk k = _; unfold vk; rw [if_pos hk']
 have hcv := aEv (P := Tryz.prog) 38 9 5 Tryz.underlying38 Tryz.underlying5 Tryz.underlying9
 clear hk
 go_enter Tryz.func113, Tryz.ntmps113
 go_wp2
 go_loopw [0, 3] (fun x out wr => ∃ (j : Int) (t : ByteArray) (f : Nat), x = .int .i64 j ∧ out = .string t ∧ 0 ≤ j ∧ (t.size : Int) + j ≤ k ∧ j ≤ f ∧ qX f j t = qX k.toNat k ⟨#[]⟩ ∧ Below w.heap.size w wr) (fun x _ _ => (intOf x).toNat)
 case atStart => exact ⟨k, ⟨#[]⟩, k.toNat, rfl, rfl, by omega, by show ((0 : Nat) : Int) + k ≤ k; omega, by omega, rfl, Below.refl _ _⟩
 case round =>
  obtain ⟨j, t, f, rfl, rfl, hj0, hj1, hjf, hd, hb⟩ := hrel
  have HD := Lib.hid hd; clear hd
  by_cases hlt : 0 < j
  · have hone : (strOfNums [48 + j % 10]).size ≤ 1 := Nat.le_refl 1
    obtain ⟨f', hf'⟩ : ∃ f', f = f' + 1 := ⟨f - 1, by omega⟩
    have hst : Hid (qX f' (j / 10) (strOfNums [48 + j % 10] ++ t) = qX k.toNat k ⟨#[]⟩) := by
     have h := HD.out
     rw [hf', qX, if_pos hlt] at h; exact h
    have hsz : Hid ((strOfNums [48 + j % 10] ++ t).size = 1 + t.size) := by
     show (strOfNums [48 + j % 10] ++ t).size = 1 + t.size
     rw [ByteArray.size_append]; rfl
    have hfj : j ≤ (f' : Int) + 1 := by omega
    clear hf' hjf
    go_wp2
    go_roundw
    case rel => exact ⟨_, _, f', rfl, rfl, by omega, by rw [hsz.out]; omega, by omega, hst.out, hb.alloc hb.size _⟩
    case measure => simp [intOf]; omega
  · have hz : j = 0 := by omega
    subst hz
    have hone : t.size ≤ 1099511627776 := by omega
    go_wp2
    go_ret
    exact ⟨aGB (by rw [hfin.out, ← HD.out, aHY]), hb⟩
def marked : Nat → Int → List Ent
 | 0, _ => []
 | n + 1, k => (vk k, k + 1) :: marked n (k + 2)
theorem qo {w w' : World} (h : Below w.heap.size w w') (row : Option Nat) : w.grownBy w' row := ⟨h.os, h.tape, h.output, h.size, fun i hi _ => h.block i hi⟩
theorem aG0 {a b c : World} {row : Option Nat} (h : a.grownBy b row) (k : Below b.heap.size b c) : a.grownBy c row :=
 ⟨k.os.trans h.os, k.tape.trans h.tape, k.output.trans h.output, Nat.le_trans h.size k.size, fun i hi hne => (k.block i (Nat.lt_of_lt_of_le hi h.size)).trans (h.block i hi hne)⟩
theorem jO {a w : World} {g : Nat} (h : a.grownBy w (some g)) {p : Addr} (hp : p.block = g) (u : Value) : a.grownBy (w.setCell p u) (some g) :=
 ⟨h.os, h.tape, h.output, by simpa [World.setCell] using h.size, fun i hi hne => (Below.heap_setCell w p u i (by rintro rfl; exact hne (by rw [hp]))).trans (h.block i hi hne)⟩
def y5 : Nat → Int → List Edt
 | 0, _ => []
 | n + 1, k => ⟨vk k, k + 1, (k + 2) % 3 == 0⟩ :: y5 n (k + 3)
theorem wI (n : Nat) (k : Int) : (y5 n k).length = n := by
 induction n generalizing k with
 | zero => rfl
 | succ n ih => simp [y5, ih]
theorem aE8 (n : Nat) (k : Int) : y5 (n + 1) k = y5 n k ++ [⟨vk (k + 3 * n), k + 3 * n + 1, (k + 3 * n + 2) % 3 == 0⟩] := by
 induction n generalizing k with
 | zero => simp [y5]
 | succ n ih =>
  rw [y5, ih, y5, List.cons_append]
  have e : k + 3 + 3 * (n : Int) = k + 3 * ((n + 1 : Nat) : Int) := by omega
  rw [e]
theorem aFW (n : Nat) (k0 : Int) (k : Nat) (h : k < n) : (y5 n k0)[k]'(by rw [wI]; exact h) = ⟨vk (k0 + 3 * k), k0 + 3 * k + 1, (k0 + 3 * k + 2) % 3 == 0⟩ := by
 induction n generalizing k0 k with
 | zero => omega
 | succ n ih =>
  cases k with
  | zero => simp [y5]
  | succ k =>
   have := ih (k0 + 3) k (by omega)
   have e : k0 + 3 * ((k + 1 : Nat) : Int) = k0 + 3 + 3 * (k : Int) := by omega
   rw [e, ← this]; simp [y5]
set_option maxHeartbeats 1000000 in
set_option maxRecDepth 100000 in
theorem aDh (base n : Nat) (v : Value) (xs : List Value) (k0 : Int) (w : World) (ho : w.ownsRow base 107 3 v n xs) (hm : n ≤ 1048600) (h0 : 0 ≤ k0) (h1 : k0 ≤ 8388608) :
 Calls Tryz.prog 50 #[v, .int .i64 k0] w fun e w' => e = .returned (.int .i64 (k0 + 3 * n)) ∧ w'.ownsRow base 107 3 v n (yI (y5 n k0)) ∧ w.grownBy w' v.ownBlock := by
 rcases aFq ho with ⟨rfl, rfl, rfl⟩ | ⟨g, cap, cs, rfl, hbg, hblk, hc, hcm, hsz, _⟩
 · go_enter Tryz.func50, Tryz.ntmps50
   go_wp2
   go_loopw [1, 5] (fun k i wr => k = .int .i64 k0 ∧ i = .int .i64 0 ∧ wr = w) (fun _ i _ => 1)
   case atStart => exact ⟨rfl, rfl, rfl⟩
   case round =>
    obtain ⟨rfl, rfl, rfl⟩ := hrel
    go_wp2
    go_ret
    exact ⟨aDA (by simp), ho, qo (Below.refl _ _) _⟩
 have Ho := Lib.hid ho; clear ho
 have HSZ := Lib.hid hsz; clear hsz
 have HB0 := Lib.hid hblk; clear hblk
 clear hcm hbg
 go_enter Tryz.func50, Tryz.ntmps50
 go_wp2
 go_loopw [1, 5] (fun kk i wr => ∃ (k : Nat) (cs : Array Value), k ≤ n ∧ i = .int .i64 k ∧ kk = .int .i64 (k0 + 3 * k) ∧ Blk wr g 107 cs ∧ cs.size = cap * 3 ∧ cs.toList.take (k * 3) = yI (y5 k k0) ∧ w.grownBy wr (some g)) (fun _ i _ => n - (intOf i).toNat)
 case atStart => exact ⟨0, cs, Nat.zero_le _, rfl, by simp, HB0.out, HSZ.out, by simp [yI, y5], qo (Below.refl _ _) _⟩
 case round =>
  obtain ⟨k, cs, hk, rfl, rfl, hblk, hsz, htk, hg⟩ := hrel
  have HT := Lib.hid htk; clear htk
  have HS := Lib.hid hsz; clear hsz
  have HB := Lib.hid hblk; clear hblk
  by_cases hlt : k < n
  · go_wp2_with fail
    refine (aAu _ _ (by omega) (by omega)).mono ?_
    rintro e w1 ⟨rfl, hb1⟩
    have hblk1 : Blk w1 g 107 cs := HB.out.kept hb1
    obtain ⟨y0, y1, y2, hx0, hx1, hx2, hf0, hf1, hf2⟩ := hblk1.three (k := k) (by have := HS.out; omega)
    generalize hmb : vk (k0 + 3 * (k : Int)) = mb
    have HMB := Lib.hid hmb; clear hmb
    have HB1 := Lib.hid hblk1; clear hblk1
    have hpos3 : 0 ≤ k0 + 3 * (k : Int) + 1 + 1 := by omega
    go_wp2
    go_roundw
    case rel =>
     refine ⟨k + 1, _, by omega, by go_num, ?_, ((HB1.out.set_ _ _).set_ _ _).set_ _ _, by simpa using HS.out, ?_, ?_⟩
     · rw [show k0 + 3 * (k : Int) + 1 + 1 + 1 = k0 + 3 * ((k + 1 : Nat) : Int) from by omega]
     · rw [aIK _ _ _ _ _ (by have := HS.out; omega), HT.out, aE8, aET, HMB.out, show k0 + 3 * (k : Int) + 1 + 1 = k0 + 3 * (k : Int) + 2 from by omega]; rfl
     · exact jO (jO (jO (aG0 hg hb1) rfl _) rfl _) rfl _
    case measure => simp [intOf]; omega
  · have hkn : k = n := by omega
    have HKN := Lib.hid hkn; clear hkn
    go_wp2
    go_ret
    refine ⟨aDA (by rw [HKN.out]), HB.out.own ?_ hc ?_ HS.out ?_, hg⟩
    · exact (Ho.out.lt g rfl).1
    · rcases aFq Ho.out with ⟨h, _⟩ | ⟨g', cap', cs', h, _, _, _, h2, _⟩
      · cases h
      · cases h; exact h2
    · rw [← HKN.out]; exact HT.out
set_option maxHeartbeats 1000000 in
set_option maxRecDepth 100000 in
theorem aDf (A : Option Addr) (n c : Nat) (k0 : Int) (w : World) (hr : Rd w 3 A n (yI (y5 n k0))) (hm : n ≤ 1048600) (h0 : 0 ≤ k0) (h1 : k0 ≤ 8388608) :
 Calls Tryz.prog 51 #[.slice A n c, .int .i64 k0] w fun e w' => e = .returned (.int .i64 (k0 + 3 * n)) ∧ Below w.heap.size w w' := by
 have hlen := hr.elen
 have Hlen := Lib.hid hlen; clear hlen
 go_enter Tryz.func51, Tryz.ntmps51
 go_wp2
 go_loopw [1, 5] (fun kk i wr => ∃ (k : Nat), k ≤ n ∧ i = .int .i64 k ∧ kk = .int .i64 (k0 + 3 * k) ∧ Below w.heap.size w wr) (fun _ i _ => n - (intOf i).toNat)
 case atStart => exact ⟨0, Nat.zero_le _, rfl, by simp, Below.refl _ _⟩
 case round =>
  obtain ⟨k, hk, rfl, rfl, hb⟩ := hrel
  by_cases hlt : k < n
  · have hke : k < (y5 n k0).length := by rw [wI]; exact hlt
    obtain ⟨b, off, rfl, hbl, hbl2, hc1, hc2, hc3⟩ := hr.edt hb hke
    rw [aFW n k0 k hlt] at hc1 hc2 hc3
    have hcW2 := cellW hb hbl hc2
    have hcW3 := cellW hb hbl hc3
    simp only at hc1 hcW2 hcW3
    clear hc2 hc3
    have hA0 := fun y : Aft wr => y.cell hbl2 hc1
    have hcall : Hid (∀ W : World, Calls Tryz.prog 113 #[.int .i64 (k0 + 3 * (k : Int))] W fun e w' => e = .returned (.string (vk (k0 + 3 * (k : Int)))) ∧ Below W.heap.size W w') := fun W => aAu _ W (by omega) (by omega)
    generalize vk (k0 + 3 * (k : Int)) = mb at *
    have ht : (!(mb.toList == mb.toList)) = false := by simp
    have hpos3 : 0 ≤ k0 + 3 * (k : Int) + 1 + 1 := by omega
    have he2 : k0 + 3 * (k : Int) + 2 = k0 + 3 * (k : Int) + 1 + 1 := by omega
    rw [he2] at hcW3
    clear he2
    go_wp2
    refine yA (by kernel_rfl) (by kernel_rfl) ?_
    repeat (go_big_quiet_step ((first | (go_at_call 113; exact Aft.call (hcall.out _)))))
    refine wpQuiet_nil ?_
    rintro _ ⟨y, rfl⟩
    have hbb := vM hb y.below
    generalize y.at_ = w3 at *
    have hc2' := cellS hbb hbl hcW2
    have hc3' := cellS hbb hbl hcW3
    go_wp2
    go_roundw
    case rel =>
     refine ⟨k + 1, by omega, by go_num, ?_, hbb⟩
     rw [show k0 + 3 * (k : Int) + 1 + 1 + 1 = k0 + 3 * ((k + 1 : Nat) : Int) from by omega]
    case measure => simp [intOf]; omega
  · go_wp2
    go_ret
    exact ⟨aDA (by omega), hb⟩
end Go.Proofs.YtodckioppgjbdaaGreatDoor
namespace Go.Proofs.YtodckioppgjbdaaGreatDoor.AM
open Go Go.RowKit
def xP (k : ByteArray) : AV := .v (.string k)
def aK3 (x : Int) : AV := .v (.int .i64 x)
def aKT (e : Ent) : AV := .agg [.v (.string e.1), .v (.int .i64 e.2)]
def x9 (e : Edt) : AV := .agg [.v (.string e.key), .v (.int .i64 e.val), .v (.bool e.gone)]
theorem xR {α : Type} {f : α → AV} (h : ∀ a, yM (f a)) : ∀ l : List α, zH (l.map f)
 | [] => by simp only [List.map_nil]; unfold zH; trivial
 | a :: l => by simp only [List.map_cons]; unfold zH; exact ⟨h a, xR h l⟩
theorem aFe : ∀ ob ∈ ([] : List OB), kE ob := fun ob h => by cases h
theorem aCq {t sz : Nat} {xs : List AV} (h : zH xs) : ∀ ob ∈ [(⟨.s t, sz, xs⟩ : OB)], kE ob := fun ob hm => by rw [List.mem_singleton] at hm; subst hm; exact h
theorem aFf {t sz t' sz' : Nat} {xs xs' : List AV} (h : zH xs) (h' : zH xs') : ∀ ob ∈ [(⟨.s t, sz, xs⟩ : OB), ⟨.s t', sz', xs'⟩], kE ob := fun ob hm => by
 rcases List.mem_cons.1 hm with rfl | hm
 · exact h
 · exact aCq h' ob hm
theorem kR (e : Ent) : yM (aKT e) := by unfold aKT; simp [yM, zH]
theorem kQ (e : Edt) : yM (x9 e) := by unfold x9; simp [yM, zH]
theorem kV (e : ByteArray) : yM (xP e) := by unfold xP; simp [yM]
section
variable {S : Nat → Prop} {w : World}
theorem aAC : ∀ {es : List Edt} {cs : List Value}, RL S w (es.map x9) cs ↔ cs = yI es
 | [], cs => by simp only [List.map_nil]; unfold RL; simp [yI]
 | e :: es, cs => by
  simp only [List.map_cons]
  constructor
  · intro h
    unfold RL at h
    obtain ⟨c1, c2, rfl, h1, h2⟩ := h
    rw [aAC.1 h2, wz]
    unfold x9 at h1
    simp only [RA, RL] at h1
    obtain ⟨a, b, rfl, ⟨rfl, _⟩, d1, d2, rfl, ⟨rfl, _⟩, f1, f2, rfl, ⟨rfl, _⟩, rfl⟩ := h1
    rfl
  · intro h
    unfold RL
    refine ⟨[.string e.key, .int .i64 e.val, .bool e.gone], yI es, by rw [h, wz]; rfl, ?_, aAC.2 rfl⟩
    exact aKd (jb (c1 := [_]) (aCx rfl) (jb (c1 := [_]) (aCx rfl) (jb (c1 := [_]) (aCx rfl) aEr)))
theorem aF7 (es : List Edt) : ∀ x ∈ es.map x9, asz x = 3 := fun x hx => by obtain ⟨e, _, rfl⟩ := List.mem_map.1 hx; rfl
theorem kM {S0 : Nat → Prop} {hp B V} (hS : ∀ b, S0 b → b < w.heap.size) {es : List Edt} {u : Value} (h : RV S0 w hp B V (.lst 3 (es.map x9)) u) : ∃ A c, u = .slice A es.length c ∧ es.length ≤ c ∧ c ≤ maxLen ∧ Rd w 3 A es.length (yI es) := by
 unfold RV at h
 unfold RA at h
 obtain ⟨A, c, e, h1, h2, _, _, h4⟩ := h
 simp only [List.cons.injEq, and_true, List.length_map] at e h1
 refine ⟨A, c, e, h1, h2, by rw [jg], fun hn => ?_⟩
 rcases h4 with h4 | ⟨b, off, us, rfl, hb, hr, hc⟩
 · have := List.map_eq_nil_iff.1 h4; subst this; simp at hn
 · rw [aAC.1 hr] at hc
   exact ⟨b, off, rfl, hS b hb, hc⟩
theorem aDk {S0 : Nat → Prop} {hp B V} {x u : Value} (h : RV S0 w hp B V (.v x) u) : u = x := by unfold RV at h; exact h.1
theorem kL {S0 : Nat → Prop} {hp B V} {x : AV} {us : List Value} (h : RVs S0 w hp B V [x] us) : ∃ u, us = [u] ∧ RV S0 w hp B V x u := by
 unfold RVs at h; obtain ⟨u, us', rfl, h1, h2⟩ := h; unfold RVs at h2; subst h2; exact ⟨u, rfl, h1⟩
theorem aKh {S0 : Nat → Prop} {hp B V} {x : AV} {xs : List AV} {us : List Value} (h : RVs S0 w hp B V (x :: xs) us) : ∃ u us', us = u :: us' ∧ RV S0 w hp B V x u ∧ RVs S0 w hp B V xs us' := by
 unfold RVs at h; exact h
end
section
variable {P : Program} {f : FuncId} {fn : Func} {args : List AV}
theorem uU (hf : P.funcs[f]? = some fn) (hnm : (fn.name == "runtime.NumGoroutine") = false) (hb : fn.body.isNone = false) : ∀ vs w, (callFunc f vs).run P w = .ok (.enter f vs) w := fun vs w => by
 simp only [callFunc, Sem.run_bind, run_program, Result.andThen_ok, hf, hnm, hb]; rfl
theorem jB {S : Nat → Prop} {w : World} {hp hp' : Nat → Option OB} {B B' : Nat → Nat} {V V' : Nat → Value} {xs : List AV} {vs : List Value} (hn : ∀ l, hp l = none) (h : RVs S w hp B V xs vs) : RVs S w hp' B' V' xs vs :=
 RVs.carry (fun _ h => h) (fun _ _ => rfl) _ _ (fun l _ ob e => by rw [hn] at e; cases e) h
theorem aIC {S : Nat → Prop} {w : World} {hp hp' : Nat → Option OB} {B B' : Nat → Nat} {V V' : Nat → Value} {xs : List AV} {vs : List Value} (hn : yC (fun _ => false) xs = true) (h : RVs S w hp B V xs vs) : RVs S w hp' B' V' xs vs :=
 RVs.carry (fun _ h => h) (fun _ _ => rfl) _ _ (fun l hl ob e => by have := uH _ hn hl; cases this) h
theorem zm {S : Nat → Prop} {w : World} {hp : Nat → Option OB} {B : Nat → Nat} {V : Nat → Value} {T : Nat → Nat → Prop} {lo : Nat → Prop} (hn : ∀ l, hp l = none) : Rows S w hp (fun _ => none) B V T lo :=
 ⟨fun l ob e => (by rw [hn] at e; cases e), fun l ob g e => (by rw [hn] at e; cases e), fun l ob g e => (by rw [hn] at e; cases e), fun l l' o1 o2 g e => (by rw [hn] at e; cases e), fun l es e => (by cases e)⟩
theorem wh (l : Nat) : zh [] l = none := by simp [zh]
theorem aIk {w : World} {b t sz n : Nat} {v : Value} {cs : List Value} (h : w.ownsRow b t sz v n cs) : w.ownsRow 0 t sz v n cs := by
 refine ⟨h.1, ?_⟩
 rcases h.2 with k | ⟨g, cap, cur, e, hb, r⟩
 · exact .inl k
 · exact .inr ⟨g, cap, cur, e, Nat.zero_le _, r⟩
theorem aH6 {a b : World} {M M' : Nat → Prop} (h : Grown a b M) (hs : ∀ g, M g → M' g) : Grown a b M' := ⟨h.os, h.tape, h.output, h.size, fun k hk hn => h.block k hk (fun e => hn (hs k e))⟩
theorem jd {r : Value} (hent : ∀ vs w, (callFunc f vs).run P w = .ok (.enter f vs) w) (h1 : r.oneCell' = true)
 (h : ∀ (w : World) (S0 : Nat → Prop) (vs : List Value), (∀ b, S0 b → b < w.heap.size) → RVs S0 w (fun _ => none) (fun _ => 0) (fun _ => undef) args vs → Calls P f vs.toArray w fun e w' => e = .returned r ∧ Below w.heap.size w w') : AC P f args ⟨.v r, []⟩ :=
 ⟨hent, fun w S0 B0 V0 T0 vs hS _ _ hv => (h w S0 vs hS (jB (fun _ => rfl) hv)).mono fun e w' ⟨he, hb⟩ => ⟨r, S0, fun _ => 0, fun _ => undef, fun _ => Fa, fun _ => Fa, he, Grown.of hb _, fun _ h => h, fun b hb' => ⟨Nat.lt_of_lt_of_le (hS b hb') hb.size, .inl hb'⟩, by unfold RV; exact ⟨rfl, h1⟩, zm wh, zm (fun _ => rfl), fun l l' ob ob' g e => (by rw [wh] at e; cases e)⟩⟩
theorem aEu {S : Nat → Prop} {w' : World} {base : Nat} {t sz : Nat} {xs : List AV} {v : Value} {cs : List Value} {lo : Nat → Prop} (hlo : ∀ g, base ≤ g → lo g) (hS : ∀ b, S b → b < base) (ho : w'.ownsRow base t sz v xs.length cs) (ha : ∀ x ∈ xs, asz x = sz) (h0 : 0 < sz) (hr : RL S w' xs cs) : Rows S w' (zh [⟨.s t, sz, xs⟩]) (fun _ => none) (fun _ => (v.ownBlock).getD 0) (fun _ => v) (fun _ => Fa) lo := by
 have h0' : ∀ l ob, zh [(⟨.s t, sz, xs⟩ : OB)] l = some ob → l = 0 ∧ ob = ⟨.s t, sz, xs⟩ := fun l ob e => by
  cases l with
  | zero => simp [zh] at e; exact ⟨rfl, e.symm⟩
  | succ l => simp [zh] at e
 refine ⟨fun l ob e => ?_, fun l ob g e hb => ?_, fun l ob g e _ hb => hb.elim, fun l l' o1 o2 g e1 e2 _ _ => ?_, fun l es e => by cases e⟩
 · obtain ⟨rfl, rfl⟩ := h0' l ob e
   exact ⟨t, cs, ⟨fun t' e => by cases e; rfl, trivial⟩, hr, ha, h0, aIk ho, fun g hg => by rw [hg]; rfl⟩
 · rcases hb with hb | hb
   · have := ho.lt g hb
     exact ⟨fun hs => by have := hS g hs; omega, this.2, hlo g this.1⟩
   · exact hb.elim
 · rw [(h0' l o1 e1).1, (h0' l' o2 e2).1]
theorem aKI {e : TypeId} {sz : Nat} {xs : List AV} {cs : List Value} (hent : ∀ vs w, (callFunc f vs).run P w = .ok (.enter f vs) w) (ha : ∀ x ∈ xs, asz x = sz) (h0 : 0 < sz) (hr : ∀ S w, RL S w xs cs)
 (h : ∀ (w : World) (S0 : Nat → Prop) (vs : List Value), (∀ b, S0 b → b < w.heap.size) → RVs S0 w (fun _ => none) (fun _ => 0) (fun _ => undef) args vs → Calls P f vs.toArray w fun en w' => ∃ v, en = .returned v ∧ w'.ownsRow w.heap.size e sz v xs.length cs ∧ Below w.heap.size w w') : AC P f args ⟨.own 0, [⟨.s e, sz, xs⟩]⟩ :=
 ⟨hent, fun w S0 B0 V0 T0 vs hS _ _ hv => (h w S0 vs hS (jB (fun _ => rfl) hv)).mono fun en w' ⟨v, he, ho, hb⟩ =>
  ⟨v, S0, fun _ => (v.ownBlock).getD 0, fun _ => v, fun _ => Fa, fun _ => Fa, he, Grown.of hb _, fun _ h => h, fun b hb' => ⟨Nat.lt_of_lt_of_le (hS b hb') hb.size, .inl hb'⟩, by unfold RV; exact ⟨⟨_, rfl⟩, rfl⟩, aEu (fun g hg => .inl hg) hS ho ha h0 (hr _ _), zm (fun _ => rfl), fun l l' ob ob' g _ e => by cases e⟩⟩
theorem aKJ {t sz : Nat} {xs xs' : List AV} {cs' : List Value} {v : Value} (hent : ∀ vs w, (callFunc f vs).run P w = .ok (.enter f vs) w) (ha : ∀ x ∈ xs', asz x = sz) (hr : ∀ S w, RL S w xs' cs') (hl : xs'.length = xs.length)
 (h : ∀ (w : World) (S0 : Nat → Prop) (V : Value) (cs : List Value) (vs : List Value), (∀ b, S0 b → b < w.heap.size) → RL S0 w xs cs → w.ownsRow 0 t sz V xs.length cs → RVs S0 w (fun _ => none) (fun _ => 0) (fun _ => undef) args vs →
  Calls P f (V :: vs).toArray w fun e w' => e = .returned v ∧ w'.ownsRow 0 t sz V xs.length cs' ∧ w.grownBy w' V.ownBlock) (h1 : v.oneCell' = true := by rfl) (hlb : yC (fun _ => false) args = true := by rfl) : ACM P f ⟨.s t, sz, xs⟩ xs' args v :=
 ⟨hent, fun w S0 B0 V0 T0 vs hS _ hro hv => by
  obtain ⟨t0, cs, r1, r2, r3, r4, r5, r6⟩ := hro.ro 0 _ rfl
  have := r1.1 t rfl
  subst this
  unfold RVs at hv
  obtain ⟨u, us, rfl, hu, hv⟩ := hv
  unfold RV at hu
  obtain ⟨_, rfl⟩ := hu
  have hrow : ∀ l (o : OB), xH 0 [(⟨.s t0, sz, xs'⟩ : OB)] l = some o → l = 0 ∧ o = ⟨.s t0, sz, xs'⟩ := fun l o e => by
   simp only [xH] at e
   by_cases h : l = 0
   · subst h; simp at e; exact ⟨rfl, e.symm⟩
   · rw [xY h] at e; cases e
  refine (h w S0 (V0 0) cs us hS r2 r5 (aIC hlb hv)).mono fun e w' ⟨he, ho, hg⟩ => ?_
  refine ⟨v, S0, fun _ => 0, fun _ => undef, fun _ => Fa, fun _ => Fa, he, aH6 (Grown.by hg) (fun g e => ⟨0, _, rfl, .inl e⟩), fun _ h => h, fun b hb' => ⟨Nat.lt_of_lt_of_le (hS b hb') hg.size, .inl hb'⟩, by unfold RV; exact ⟨rfl, h1⟩, zm wh, ⟨fun l o e => ?_, fun l o g e hb => ?_, fun l o g e _ hb => hb.elim, fun l l' o1 o2 g e1 e2 _ _ => ?_, fun l es e => by cases e⟩, fun l l' ob ob' g e => (by rw [wh] at e; cases e)⟩
  · obtain ⟨rfl, rfl⟩ := hrow l o e
    exact ⟨t0, cs', ⟨fun t' e => by cases e; rfl, trivial⟩, hr _ _, ha, r4, by show w'.ownsRow 0 t0 sz (V0 0) xs'.length cs'; rw [hl]; exact ho, r6⟩
  · obtain ⟨rfl, rfl⟩ := hrow l o e
    rcases hb with hb | hb
    · obtain ⟨q1, q2, _⟩ := hro.me 0 _ g rfl (.inl hb)
      exact ⟨q1, Nat.lt_of_lt_of_le q2 hg.size, .inr ⟨0, _, rfl, .inl hb⟩⟩
    · exact hb.elim
  · rw [(hrow l o1 e1).1, (hrow l' o2 e2).1]⟩
end
theorem aKU : ∀ vs w, (callFunc 50 vs).run Tryz.prog w = .ok (.enter 50 vs) w := uU Tryz.func50 (by kernel_rfl) (by kernel_rfl)
theorem aKV : ∀ vs w, (callFunc 51 vs).run Tryz.prog w = .ok (.enter 51 vs) w := uU Tryz.func51 (by kernel_rfl) (by kernel_rfl)
theorem aGL {es : List Edt} (hm : es.length ≤ maxLen) : AC Tryz.prog 45 [.lst 3 (es.map x9), .lst 3 (es.map x9)] ⟨.v (.bool true), []⟩ :=
 jd (uU Tryz.func45 (by kernel_rfl) (by kernel_rfl)) rfl fun w S0 vs hS hv => by
  obtain ⟨u, us, rfl, h1, hv⟩ := aKh hv
  obtain ⟨u', rfl, h2⟩ := kL hv
  obtain ⟨A, c, rfl, _, _, hr⟩ := kM hS h1
  obtain ⟨A', c', rfl, _, _, hr'⟩ := kM hS h2
  exact aFS A _ c es A' _ c' es w hr hr' hm hm rfl
theorem aDv {n : Nat} {k : Int} (hm : n ≤ 1048600) (h0 : 0 ≤ k) (h1 : k ≤ 8388608) : AC Tryz.prog 51 [.lst 3 ((y5 n k).map x9), .v (.int .i64 k)] ⟨.v (.int .i64 (k + 3 * n)), []⟩ :=
 jd aKV rfl fun w S0 vs hS hv => by
  obtain ⟨u, us, rfl, h1', hv⟩ := aKh hv
  obtain ⟨u', rfl, h2⟩ := kL hv
  obtain ⟨A, c, rfl, _, _, hr⟩ := kM hS h1'
  rw [aDk h2]
  rw [wI] at hr ⊢
  exact aDf A n c k w hr hm h0 h1
theorem aDy {xs : List AV} {n : Nat} {k : Int} (hn : xs.length = n) (hm : n ≤ 1048600) (h0 : 0 ≤ k) (h1 : k ≤ 8388608) : ACM Tryz.prog 50 ⟨107, 3, xs⟩ ((y5 n k).map x9) [.v (.int .i64 k)] (.int .i64 (k + 3 * n)) :=
 aKJ (cs' := yI (y5 n k)) aKU (aF7 _) (fun S w => aAC.2 rfl) (by rw [List.length_map, wI, hn]) fun w S0 V cs vs hS hr ho hv => by
  obtain ⟨u', rfl, h2⟩ := kL hv
  rw [aDk h2]
  simp only [hn] at ho ⊢
  exact aDh 0 n V cs k w ho hm h0 h1
end Go.Proofs.YtodckioppgjbdaaGreatDoor.AM
namespace Go.Proofs.YtodckioppgjbdaaGreatDoor
open Go.RowKit Go.ChangeShapes Go.WideShapes Go.Deep
theorem aLR : ownKnob Tryz.prog.godebug = none := by kernel_rfl
theorem aE1 : laidOutB Tryz.prog = true := by kernel_rfl
section
variable {H : Type} {enc : TypeId × Value → H} {P : Program} {w : World} {base : Nat} {spare : Nat → Bool} {held : Bool}
end
section
variable {H : Type} {enc : TypeId × Value → H} {P : Program} {w : World} {base : Nat} {held : Bool}
end
end Go.Proofs.YtodckioppgjbdaaGreatDoor
namespace Go.Proofs.YtodckioppgjbdaaGreatDoor.AM
open Go Go.RowKit Go.ChangeShapes Go.WideShapes Go.Deep
section
variable {H : Type} {enc : TypeId × Value → H} {P : Program} {w : World} {base : Nat} {spare : Nat → Bool} {held : Bool}
end
section
variable {w : World} {hp : Nat → Option OB} {B : Nat → Nat} {V : Nat → Value}
def InW (w : World) : Nat → Prop := fun b => b < w.heap.size
theorem rv_one {x : Value} (h : x.oneCell' = true) : RV (InW w) w hp B V (.v x) x := by unfold RV; exact ⟨rfl, h⟩
theorem rvs_nil : RVs (InW w) w hp B V [] [] := by unfold RVs; rfl
theorem rvs_cons {x : AV} {xs : List AV} {u : Value} {us : List Value} (h : RV (InW w) w hp B V x u) (r : RVs (InW w) w hp B V xs us) : RVs (InW w) w hp B V (x :: xs) (u :: us) := by
 unfold RVs; exact ⟨u, us, rfl, h, r⟩
theorem law_calls {P : Program} {f : FuncId} {args : List AV} {vs : List Value} {r : Value} (h : AC P f args ⟨.v r, []⟩) (hv : RVs (InW w) w (fun _ => none) (fun _ => 0) (fun _ => undef) args vs) (hG : ∀ g y, GT g = some y → RG (InW w) w g y := by intro g y e; cases e) : Calls P f vs.toArray w fun e w' => e = .returned r ∧ Below w.heap.size w w' :=
 (h.2 w (InW w) (fun _ => 0) (fun _ => undef) (fun _ => Fa) vs (fun b hb => hb) hG (zm (fun _ => rfl)) (jB (fun _ => rfl) hv)).mono fun e w' ⟨v, S, B, V, T, T1, h1, h2, _, _, h5, _⟩ => by
  unfold RV at h5
  exact ⟨by rw [h1, h5.1], h2.below (fun g ⟨l, ob, e, _⟩ => by cases e)⟩
end
end Go.Proofs.YtodckioppgjbdaaGreatDoor.AM
