/- Texts of the machine over data, folded. -/
import Derived.Test.YtoaifonjemlfcaaDoorKa5
import Derived.Test.YtoaifonjemlfcaaDoorKa6
import Derived.Test.YtoaifonjemlfcaaDoorCards
import Derived.Test.YtoaifonjemlfcaaDoorTie
import Derived.ProofKit
import Derived.OpenShut
import Derived.ShutString
import Derived.LaidMore
import Derived.Lay
import Derived.OpenVars
import Derived.SevenTiedAt
import Derived.Stop.Joined
import Derived.ChangeOld
import Derived.Below
import Derived.Laws.RangeString
import Derived.Lib.OthersKept
set_option linter.unusedVariables false
set_option linter.unusedSimpArgs false
set_option maxRecDepth 100000
namespace Go.Proofs.YtoaifonjemlfcaaDoor.AM
open Go Go.RowKit
theorem aIQ {P : Program} {w : World} {t : TypeId} {a b : Bool} (d : Nat) (h : P.underlying t = some .bool) : (Op.equalIn (d + 1) t (.bool a) (.bool b)).run P w = .ok (a == b) w := by
 simp [Op.equalIn, run_underlying h]
theorem aJy {P : Program} {w : World} {t : TypeId} {a b : Bool} (h : P.underlying t = some .bool) : (Op.equal t (.bool a) (.bool b)).run P w = .ok (a == b) w := by
 exact aIQ 9999 h
theorem vz {P : Program} {t : TypeId} {x y : Operand} {a b : Bool} (h : P.underlying t = some .bool) : yZ P .neq t x y (.bool a) (.bool b) (.bool (a != b)) := fun w => by
 simp [eqGuard, binOp, aJy h]; cases a <;> cases b <;> rfl
theorem aAG {P : Program} {Θ : Tab} {s : St} {d : Option Tmp} {ty : TypeId} {pos : String} {after : Array Edge} {g : Option (Nat × Bool)} {α : Type} {f : α → AV} {t : TypeId} {x y : Operand} {el sz b h : Nat} {k : IntKind} {z : AV} {xs : List α} (hh : h ≤ xs.length) (ht : Θ.look t = .slice el sz b z) (hx : s.ev x = .lst sz (xs.map f)) (hy : s.ev y = .v (.int k (h : Int))) : Pre P Θ ⟨d, .slice t x none (some y) none, ty, pos, after, g⟩ s ⟨.lst sz ((xs.take h).map f), none⟩ := by
 have := aIi (P := P) (Θ := Θ) (s := s) (d := d) (ty := ty) (pos := pos) (after := after) (g := g) (t := t) (x := x) (lo := none) (hi := some y) (l := 0) (h := h) (xs := xs.map f) (Nat.zero_le _) (by simpa using hh) ht hx rfl ⟨k, hy⟩
 rw [List.drop_zero, ← List.map_take] at this
 exact this
def aCJ (n : Nat) (ps : List Int) (i : Nat) : Prop := ∃ h : i < ps.length, 1 ≤ ps[i] ∧ ps[i] ≤ n ∧ ps[i] ∉ ps.take i
def aE5 (n : Nat) (ps : List Int) : Prop := ps.length ≤ 2 ∧ (ps.length = 0 ↔ n = 0) ∧ ∀ i, i < ps.length → aCJ n ps i
open Classical in
noncomputable def wh (n : Nat) (ps : List Int) : Bool := decide (aE5 n ps)
noncomputable def kI (n : Nat) (c : Cmt) : Bool := yX c.2 && wh n c.1
noncomputable def wC : Nat → List Cmt → Bool
 | _, [] => true
 | n, c :: cs => kI n c && wC (n + 1) cs
noncomputable def aBM (cs : List Cmt) : Bool := decide (1 ≤ cs.length ∧ cs.length ≤ 60) && wC 0 cs
theorem aAH {n : Nat} {ps : List Int} (h : ¬ aE5 n ps) : wh n ps = false := by unfold wh; simpa using h
theorem aHy {n : Nat} {ps : List Int} (h : aE5 n ps) : wh n ps = true := by unfold wh; simpa using h
theorem aC5 {n : Nat} {cs : List Cmt} {k : Nat} (h : k < cs.length) : wC n (cs.drop k) = (kI n cs[k] && wC (n + 1) (cs.drop (k + 1))) := by
 rw [List.drop_eq_getElem_cons h, wC]
theorem aEp : ∀ {cs : List Cmt} {n : Nat}, wC n cs = true → ∀ i (h : i < cs.length), kI (n + i) cs[i] = true
 | [], n, _, i, h => by simp at h
 | c :: cs, n, hb, 0, h => by
  unfold wC at hb
  simp only [Bool.and_eq_true] at hb
  exact hb.1
 | c :: cs, n, hb, i + 1, h => by
  unfold wC at hb
  simp only [Bool.and_eq_true] at hb
  have := aEp hb.2 i (by simpa using h)
  simpa [Nat.add_assoc, Nat.add_comm 1 i] using this
attribute [local irreducible] xM xO xg yE y7 Pre ACG
theorem zh {x lo hi : Int} (h : lo ≤ x) (h' : x ≤ hi) : AC Tryd.prog 18 [.v (.int .i64 x), .v (.int .i64 lo), .v (.int .i64 hi)] ⟨.v (.bool true), []⟩ := by
 refine qrf Tryd.func18 Tryd.ntmps18 Tryd.results18 ?_; conv => whnf
 repeat ((refine qz ?_; conv => whnf))
 exact xA rfl trivial
theorem jY {x lo hi : Int} (h : ¬ (lo ≤ x ∧ x ≤ hi)) : AC Tryd.prog 18 [.v (.int .i64 x), .v (.int .i64 lo), .v (.int .i64 hi)] ⟨.v (.bool false), []⟩ := by
 by_cases h1 : lo ≤ x
 · refine qrf Tryd.func18 Tryd.ntmps18 Tryd.results18 ?_; conv => whnf
   repeat ((refine qz ?_; conv => whnf))
   exact xA rfl trivial
 · refine qrf Tryd.func18 Tryd.ntmps18 Tryd.results18 ?_; conv => whnf
   repeat ((refine qz ?_; conv => whnf))
   exact xA rfl trivial
theorem aEe {pre : List Cmt} {c : Cmt} (hn : pre.length ≤ maxLen) (hm : c.1.length ≤ maxLen) (hm2 : c.2.length ≤ maxLen) (hk : ∀ e ∈ c.2, e.1.size ≤ maxLen) : AC Tryd.prog 83 [.lst 2 (pre.map xP), xP c] ⟨.v (.bool (kI pre.length c)), []⟩ := by
 have hn' := hn
 unfold maxLen at hn'
 unfold kI
 cases hmo : yX c.2 with
 | false =>
  refine qrf Tryd.func83 Tryd.ntmps83 Tryd.results83 ?_; conv => whnf
  repeat ((first | refine qz ?_ | refine qc (wm hmo hm2 hk) ?_); conv => whnf)
  exact xA rfl trivial
 | true =>
  rw [Bool.true_and]
  by_cases h2 : c.1.length ≤ 2
  case neg =>
   rw [aAH (fun h => h2 h.1)]
   refine qrf Tryd.func83 Tryd.ntmps83 Tryd.results83 ?_; conv => whnf
   repeat ((first | refine qz ?_ | refine qc (wm hmo hm2 hk) ?_); conv => whnf)
   exact xA rfl trivial
  by_cases h3 : c.1.length = 0 ↔ pre.length = 0
  case neg =>
   rw [aAH (fun h => h3 h.2.1)]
   by_cases h4 : c.1.length = 0
   · have h5 : ¬ pre.length = 0 := fun e => h3 ⟨fun _ => e, fun _ => h4⟩
     refine qrf Tryd.func83 Tryd.ntmps83 Tryd.results83 ?_; conv => whnf
     repeat ((first | refine qz ?_ | refine qc (wm hmo hm2 hk) ?_ | refine qp (xG (vz Tryd.underlying4) rfl rfl rfl) ?_); conv => whnf)
     exact xA rfl trivial
   · have h5 : pre.length = 0 := Classical.byContradiction fun e => h3 ⟨fun q => absurd q h4, fun q => absurd q e⟩
     refine qrf Tryd.func83 Tryd.ntmps83 Tryd.results83 ?_; conv => whnf
     repeat ((first | refine qz ?_ | refine qc (wm hmo hm2 hk) ?_ | refine qp (xG (vz Tryd.underlying4) rfl rfl rfl) ?_); conv => whnf)
     exact xA rfl trivial
  have fin : ∀ k, k ≤ c.1.length → ¬ k < c.1.length → (∀ i, i < k → aCJ pre.length c.1 i) → wh pre.length c.1 = true := fun k h1 h2' h3' => aHy ⟨h2, h3, fun i hi => h3' i (by omega)⟩
  have bad : ∀ k, k < c.1.length → ¬ aCJ pre.length c.1 k → wh pre.length c.1 = false := fun k h1 h2' => aAH (fun h => h2' (h.2.2 k h1))
  by_cases h4 : c.1.length = 0
  · have h5 : pre.length = 0 := h3.1 h4
    rw [fin 0 (by omega) (by omega) (fun i h => by omega)]
    refine qrf Tryd.func83 Tryd.ntmps83 Tryd.results83 ?_; conv => whnf
    repeat ((first | refine qz ?_ | refine qc (wm hmo hm2 hk) ?_ | refine qp (xG (vz Tryd.underlying4) rfl rfl rfl) ?_); conv => whnf)
    refine xZ (ι := Unit) (fun _ => ⟨[(5, .v (.int .i64 (c.1.length : Int))), (6, .v (.int .i64 0))], []⟩) (fun _ => 0) () ⟨trivial, .inl ⟨rfl, rfl⟩, .inl ⟨rfl, rfl⟩, trivial⟩ ?_
    rintro ⟨⟩
    conv => whnf
    repeat ((refine qz ?_; conv => whnf))
    exact xA rfl trivial
  · have h5 : ¬ pre.length = 0 := fun e => h4 (h3.2 e)
    refine qrf Tryd.func83 Tryd.ntmps83 Tryd.results83 ?_; conv => whnf
    repeat ((first | refine qz ?_ | refine qc (wm hmo hm2 hk) ?_ | refine qp (xG (vz Tryd.underlying4) rfl rfl rfl) ?_); conv => whnf)
    refine xZ (ι := { k : Nat // k ≤ c.1.length ∧ ∀ i, i < k → aCJ pre.length c.1 i }) (fun k => ⟨[(0, .lst 2 (pre.map xP)), (3, .optr 4 0 [] 0), (5, .v (.int .i64 (c.1.length : Int))), (6, .v (.int .i64 (k.1 : Int)))], [(4, ⟨28, 2, [xP c]⟩)]⟩) (fun k => c.1.length - k.1) ⟨0, Nat.zero_le _, fun i h => by omega⟩ ⟨⟨rfl, trivial⟩, .inl ⟨rfl, rfl⟩, .inl ⟨rfl, rfl⟩, .inl ⟨rfl, rfl⟩, .inl ⟨rfl, rfl⟩, trivial⟩ ?_
    rintro ⟨k, hk', hg⟩
    dsimp only at hk' hg ⊢
    conv => whnf
    by_cases hlt : k < c.1.length
    case neg =>
     rw [fin k hk' hlt hg]
     repeat ((refine qz ?_; conv => whnf))
     exact xA rfl trivial
    have h0 : 0 < c.1.length := by omega
    by_cases hin : 1 ≤ c.1[k] ∧ c.1[k] ≤ (pre.length : Int)
    case neg =>
     rw [bad k hlt (fun ⟨_, q1, q2, _⟩ => hin ⟨q1, q2⟩)]
     repeat ((refine qz ?_; conv => whnf))
     refine .inl ⟨by kernel_rfl, ?_⟩
     conv => whnf
     repeat ((first | refine qz ?_ | refine qc (jY hin) ?_); conv => whnf)
     exact xA rfl trivial
    by_cases hk0 : k = 0
    · subst hk0
      repeat ((refine qz ?_; conv => whnf))
      refine .inl ⟨by kernel_rfl, ?_⟩
      conv => whnf
      repeat ((first | refine qz ?_ | refine qc (zh hin.1 hin.2) ?_); conv => whnf)
      exact ⟨⟨0 + 1, hlt, fun i hi => by
       have : i = 0 := by omega
       subst this; exact ⟨hlt, hin.1, hin.2, by simp⟩⟩, by exact qle, by simp; omega⟩
    · have hk1 : k = 1 := by omega
      subst hk1
      have htk : c.1.take 1 = [c.1[0]] := by
       rw [show (1 : Nat) = 0 + 1 from rfl, List.take_succ_eq_append_getElem h0]; simp
      by_cases hne : c.1[1] = c.1[0]
      · rw [bad 1 hlt (fun ⟨_, _, _, q⟩ => q (by rw [htk, hne]; simp))]
        repeat ((refine qz ?_; conv => whnf))
        refine .inl ⟨by kernel_rfl, ?_⟩
        conv => whnf
        repeat ((first | refine qz ?_ | refine qc (zh hin.1 hin.2) ?_ | refine qp (jU (j := 0) (vB _ h0) rfl rfl rfl) ?_); conv => whnf)
        exact xA rfl trivial
      · repeat ((refine qz ?_; conv => whnf))
        refine .inl ⟨by kernel_rfl, ?_⟩
        conv => whnf
        repeat ((first | refine qz ?_ | refine qc (zh hin.1 hin.2) ?_ | refine qp (jU (j := 0) (vB _ h0) rfl rfl rfl) ?_); conv => whnf)
        exact ⟨⟨1 + 1, hlt, fun i hi => by
         rcases Nat.lt_or_ge i 1 with h | h
         · exact hg i h
         · have : i = 1 := by omega
           subst this; exact ⟨hlt, hin.1, hin.2, by rw [htk]; simpa using hne⟩⟩, by exact qle, by simp; omega⟩
theorem aI1 {cs : List Cmt} (hn : cs.length ≤ maxLen) (hc : ∀ c ∈ cs, c.1.length ≤ maxLen ∧ c.2.length ≤ maxLen ∧ ∀ e ∈ c.2, e.1.size ≤ maxLen) : AC Tryd.prog 71 [.lst 2 (cs.map xP)] ⟨.v (.bool (aBM cs)), []⟩ := by
 have hn' := hn
 unfold maxLen at hn'
 unfold aBM
 by_cases hin : (1 : Int) ≤ (cs.length : Int) ∧ (cs.length : Int) ≤ 60
 case neg =>
  have : decide (1 ≤ cs.length ∧ cs.length ≤ 60) = false := by simp; omega
  rw [this, Bool.false_and]
  refine qrf Tryd.func71 Tryd.ntmps71 Tryd.results71 ?_; conv => whnf
  repeat ((first | refine qz ?_ | refine qc (jY hin) ?_); conv => whnf)
  exact xA rfl trivial
 have : decide (1 ≤ cs.length ∧ cs.length ≤ 60) = true := by simp; omega
 rw [this, Bool.true_and]
 refine qrf Tryd.func71 Tryd.ntmps71 Tryd.results71 ?_; conv => whnf
 repeat ((first | refine qz ?_ | refine qc (zh hin.1 hin.2) ?_); conv => whnf)
 refine xZ (ι := { k : Nat // k ≤ cs.length ∧ wC k (cs.drop k) = wC 0 cs }) (fun k => ⟨[(0, .lst 2 (cs.map xP)), (3, .v (.int .i64 (k.1 : Int)))], []⟩) (fun k => cs.length - k.1) ⟨0, Nat.zero_le _, rfl⟩ (by exact qle) ?_
 rintro ⟨k, hk', hd⟩
 dsimp only at hk' hd ⊢
 conv => whnf
 by_cases hlt : k < cs.length
 case neg =>
  rw [← hd, List.drop_eq_nil_of_le (by omega)]
  repeat ((refine qz ?_; conv => whnf))
  exact xA rfl trivial
 obtain ⟨q1, q2, q3⟩ := hc _ (List.getElem_mem hlt)
 rw [aC5 hlt] at hd
 have hl : (cs.take k).length = k := by simp; omega
 have hac := aEe (pre := cs.take k) (c := cs[k]) (by omega) q1 q2 q3
 rw [hl] at hac
 cases hb : kI k cs[k] with
 | false =>
  rw [hb, Bool.false_and] at hd
  rw [hb] at hac
  rw [← hd]
  repeat ((refine qz ?_; conv => whnf))
  refine .inl ⟨by kernel_rfl, ?_⟩
  conv => whnf
  repeat ((first | refine qz ?_ | refine qc (hac) ?_ | refine qp (aAG (h := k) (xs := cs) (f := xP) (by omega) rfl rfl rfl) ?_); conv => whnf)
  exact xA rfl trivial
 | true =>
  rw [hb, Bool.true_and] at hd
  rw [hb] at hac
  repeat ((refine qz ?_; conv => whnf))
  refine .inl ⟨by kernel_rfl, ?_⟩
  conv => whnf
  repeat ((first | refine qz ?_ | refine qc (hac) ?_ | refine qp (aAG (h := k) (xs := cs) (f := xP) (by omega) rfl rfl rfl) ?_); conv => whnf)
  exact ⟨⟨k + 1, hlt, hd⟩, by exact qle, by simp; omega⟩
end Go.Proofs.YtoaifonjemlfcaaDoor.AM
namespace Go.Proofs.YtoaifonjemlfcaaDoor.AM
open Go Go.RowKit
def jv : List Int → Int → Nat → Int
 | [], _, _ => -1
 | y :: l, x, k => if x = y then k else jv l x (k + 1)
theorem aEy : ∀ {l : List Int} {x : Int} {k : Nat}, x ∈ l → 0 ≤ jv l x k
 | y :: l, x, k, h => by
  unfold jv
  split
  · omega
  · rename_i hne
    rcases List.mem_cons.1 h with e | e
    · exact absurd e hne
    · exact aEy e
theorem aEz : ∀ {l : List Int} {x : Int} {k : Nat}, x ∉ l → jv l x k = -1
 | [], x, k, h => rfl
 | y :: l, x, k, h => by
  unfold jv
  rw [List.mem_cons, not_or] at h
  rw [if_neg h.1]; exact aEz h.2
theorem aHd {l : List Int} {x : Int} {k : Nat} (h : k < l.length) : jv (l.drop k) x k = if x = l[k] then (k : Int) else jv (l.drop (k + 1)) x (k + 1) := by
 rw [List.drop_eq_getElem_cons h, jv]
attribute [local irreducible] xM xO xg yE y7 Pre ACG
theorem aEc {l : List Int} {x : Int} (hm : l.length ≤ maxLen) : AC Tryd.prog 90 [.lst 1 (l.map xu), .v (.int .i64 x)] ⟨.v (.int .i64 (jv l x 0)), []⟩ := by
 unfold maxLen at hm
 refine qrf Tryd.func90 Tryd.ntmps90 Tryd.results90 ?_; conv => whnf
 repeat ((refine qz ?_; conv => whnf))
 refine xZ (ι := { k : Nat // k ≤ l.length ∧ jv (l.drop k) x k = jv l x 0 }) (fun k => ⟨[(0, .lst 1 (l.map xu)), (1, .v (.int .i64 x)), (7, .v (.int .i64 (l.length : Int))), (8, .v (.int .i64 (k.1 : Int)))], []⟩) (fun k => l.length - k.1) ⟨0, Nat.zero_le _, rfl⟩ (by exact qle) ?_
 rintro ⟨k, hk, hd⟩
 dsimp only at hk hd ⊢
 conv => whnf
 by_cases hlt : k < l.length
 · rw [aHd hlt] at hd
   by_cases he : x = l[k]
   · rw [if_pos he] at hd
     rw [← hd]
     repeat ((refine qz ?_; conv => whnf))
     exact xA rfl trivial
   · rw [if_neg he] at hd
     repeat ((refine qz ?_; conv => whnf))
     exact ⟨⟨k + 1, hlt, hd⟩, by exact qle, by simp; omega⟩
 · rw [← hd, List.drop_eq_nil_of_le (by omega)]
   repeat ((refine qz ?_; conv => whnf))
   exact xA rfl trivial
theorem aEO {l : List Int} {x : Int} (hm : l.length ≤ maxLen) (h : x ∈ l) : AC Tryd.prog 80 [.lst 1 (l.map xu), .v (.int .i64 x)] ⟨.v (.bool true), []⟩ := by
 have hge := aEy (k := 0) h
 refine qrf Tryd.func80 Tryd.ntmps80 Tryd.results80 ?_; conv => whnf
 repeat ((first | refine qz ?_ | refine qc (aEc hm) ?_); conv => whnf)
 exact xA rfl trivial
theorem aEN {l : List Int} {x : Int} (hm : l.length ≤ maxLen) (h : x ∉ l) : AC Tryd.prog 80 [.lst 1 (l.map xu), .v (.int .i64 x)] ⟨.v (.bool false), []⟩ := by
 have hge := aEz (k := 0) h
 have hac := aEc (x := x) hm
 rw [hge] at hac
 refine qrf Tryd.func80 Tryd.ntmps80 Tryd.results80 ?_; conv => whnf
 repeat ((first | refine qz ?_ | refine qc (hac) ?_); conv => whnf)
 exact xA rfl trivial
theorem aEj {n : Nat} {ps : List Int} (hn : n ≤ 1048576) (hm : ps.length ≤ maxLen) : AC Tryd.prog 69 [.lst 1 (ps.map xu), .v (.int .i64 ((n : Int) + 1))] ⟨.v (.bool (wh n ps)), []⟩ := by
 have hm' := hm
 unfold maxLen at hm'
 by_cases h2 : ps.length ≤ 2
 case neg =>
  rw [aAH (fun h => h2 h.1)]
  refine qrf Tryd.func69 Tryd.ntmps69 Tryd.results69 ?_; conv => whnf
  by_cases h5 : n = 0
  · repeat ((refine qz ?_; conv => whnf))
    exact xA rfl trivial
  · repeat ((refine qz ?_; conv => whnf))
    exact xA rfl trivial
 by_cases h3 : ps.length = 0 ↔ n = 0
 case neg =>
  rw [aAH (fun h => h3 h.2.1)]
  by_cases h4 : ps.length = 0
  · have h5 : ¬ n = 0 := fun e => h3 ⟨fun _ => e, fun _ => h4⟩
    refine qrf Tryd.func69 Tryd.ntmps69 Tryd.results69 ?_; conv => whnf
    repeat ((first | refine qz ?_ | refine qp (xG (vz Tryd.underlying4) rfl rfl rfl) ?_); conv => whnf)
    exact xA rfl trivial
  · have h5 : n = 0 := Classical.byContradiction fun e => h3 ⟨fun q => absurd q h4, fun q => absurd q e⟩
    refine qrf Tryd.func69 Tryd.ntmps69 Tryd.results69 ?_; conv => whnf
    repeat ((first | refine qz ?_ | refine qp (xG (vz Tryd.underlying4) rfl rfl rfl) ?_); conv => whnf)
    exact xA rfl trivial
 have fin : ∀ k, k ≤ ps.length → ¬ k < ps.length → (∀ i, i < k → aCJ n ps i) → wh n ps = true := fun k h1 h2' h3' => aHy ⟨h2, h3, fun i hi => h3' i (by omega)⟩
 have bad : ∀ k, k < ps.length → ¬ aCJ n ps k → wh n ps = false := fun k h1 h2' => aAH (fun h => h2' (h.2.2 k h1))
 have loop : ∀ (s : St), s.le ⟨[(0, .lst 1 (ps.map xu)), (1, .v (.int .i64 ((n : Int) + 1))), (20, .lst 1 (ps.map xu)), (21, .v (.int .i64 (ps.length : Int))), (22, .v (.int .i64 0))], []⟩ → True := fun _ _ => trivial
 by_cases h4 : ps.length = 0
 · have h5 : n = 0 := h3.1 h4
   rw [fin 0 (by omega) (by omega) (fun i h => by omega)]
   refine qrf Tryd.func69 Tryd.ntmps69 Tryd.results69 ?_; conv => whnf
   repeat ((first | refine qz ?_ | refine qp (xG (vz Tryd.underlying4) rfl rfl rfl) ?_); conv => whnf)
   refine xZ (ι := Unit) (fun _ => ⟨[(21, .v (.int .i64 (ps.length : Int))), (22, .v (.int .i64 0))], []⟩) (fun _ => 0) () ⟨trivial, .inl ⟨rfl, rfl⟩, .inl ⟨rfl, rfl⟩, trivial⟩ ?_
   rintro ⟨⟩
   conv => whnf
   repeat ((refine qz ?_; conv => whnf))
   exact xA rfl trivial
 · have h5 : ¬ n = 0 := fun e => h4 (h3.2 e)
   refine qrf Tryd.func69 Tryd.ntmps69 Tryd.results69 ?_; conv => whnf
   repeat ((first | refine qz ?_ | refine qp (xG (vz Tryd.underlying4) rfl rfl rfl) ?_); conv => whnf)
   refine xZ (ι := { k : Nat // k ≤ ps.length ∧ ∀ i, i < k → aCJ n ps i }) (fun k => ⟨[(0, .lst 1 (ps.map xu)), (1, .v (.int .i64 ((n : Int) + 1))), (20, .lst 1 (ps.map xu)), (21, .v (.int .i64 (ps.length : Int))), (22, .v (.int .i64 (k.1 : Int)))], []⟩) (fun k => ps.length - k.1) ⟨0, Nat.zero_le _, fun i h => by omega⟩ (by exact qle) ?_
   rintro ⟨k, hk', hg⟩
   dsimp only at hk' hg ⊢
   conv => whnf
   by_cases hlt : k < ps.length
   case neg =>
    rw [fin k hk' hlt hg]
    repeat ((refine qz ?_; conv => whnf))
    exact xA rfl trivial
   have hl : (ps.take k).length ≤ maxLen := by unfold maxLen; simp; omega
   by_cases h1 : ps[k] < 1
   · rw [bad k hlt (fun ⟨_, q1, q2, _⟩ => by omega)]
     repeat ((refine qz ?_; conv => whnf))
     exact xA rfl trivial
   by_cases h6 : ps[k] ≥ (n : Int) + 1
   · rw [bad k hlt (fun ⟨_, q1, q2, _⟩ => by omega)]
     repeat ((refine qz ?_; conv => whnf))
     exact xA rfl trivial
   by_cases h7 : ps[k] ∈ ps.take k
   · rw [bad k hlt (fun ⟨_, _, _, q⟩ => q h7)]
     repeat ((first | refine qz ?_ | refine qp (aAG (h := k) (xs := ps) (f := xu) (by omega) rfl rfl rfl) ?_ | refine qc (aEO hl h7) ?_); conv => whnf)
     exact xA rfl trivial
   · repeat ((first | refine qz ?_ | refine qp (aAG (h := k) (xs := ps) (f := xu) (by omega) rfl rfl rfl) ?_ | refine qc (aEN hl h7) ?_); conv => whnf)
     exact ⟨⟨k + 1, hlt, fun i hi => by
      rcases Nat.lt_or_ge i k with h | h
      · exact hg i h
      · have : i = k := by omega
        subst this; exact ⟨hlt, by omega, by omega, h7⟩⟩, by exact qle, by simp; omega⟩
theorem qV {n : Nat} {c : Cmt} (hn : n ≤ 1048576) (hm : c.1.length ≤ maxLen) (hm2 : c.2.length ≤ maxLen) (hk : ∀ e ∈ c.2, e.1.size ≤ maxLen) : AC Tryd.prog 53 [xP c, .v (.int .i64 ((n : Int) + 1))] ⟨.v (.bool (kI n c)), []⟩ := by
 have hp := aEj (ps := c.1) hn hm
 unfold kI
 cases hb : wh n c.1 with
 | false =>
  rw [hb] at hp
  rw [Bool.and_false]
  refine qrf Tryd.func53 Tryd.ntmps53 Tryd.results53 ?_; conv => whnf
  repeat ((first | refine qz ?_ | refine qc (hp) ?_); conv => whnf)
  exact xA rfl trivial
 | true =>
  rw [hb] at hp
  rw [Bool.and_true]
  refine qrf Tryd.func53 Tryd.ntmps53 Tryd.results53 ?_; conv => whnf
  repeat ((first | refine qz ?_ | refine qc (hp) ?_ | refine qc (aEb hm2 hk) ?_); conv => whnf)
  exact xA rfl trivial
theorem aE9 {cs : List Cmt} (hn : cs.length ≤ maxLen) (hc : ∀ c ∈ cs, c.1.length ≤ maxLen ∧ c.2.length ≤ maxLen ∧ ∀ e ∈ c.2, e.1.size ≤ maxLen) : AC Tryd.prog 74 [.lst 2 (cs.map xP)] ⟨.v (.bool (decide (cs.length ≤ 60) && wC 0 cs)), []⟩ := by
 have hn' := hn
 unfold maxLen at hn'
 by_cases hin : cs.length ≤ 60
 case neg =>
  have : decide (cs.length ≤ 60) = false := by simpa using hin
  rw [this, Bool.false_and]
  refine qrf Tryd.func74 Tryd.ntmps74 Tryd.results74 ?_; conv => whnf
  repeat ((refine qz ?_; conv => whnf))
  exact xA rfl trivial
 have : decide (cs.length ≤ 60) = true := by simpa using hin
 rw [this, Bool.true_and]
 refine qrf Tryd.func74 Tryd.ntmps74 Tryd.results74 ?_; conv => whnf
 repeat ((refine qz ?_; conv => whnf))
 refine xZ (ι := { k : Nat // k ≤ cs.length ∧ wC k (cs.drop k) = wC 0 cs }) (fun k => ⟨[(8, .lst 2 (cs.map xP)), (9, .v (.int .i64 (cs.length : Int))), (10, .v (.int .i64 (k.1 : Int)))], []⟩) (fun k => cs.length - k.1) ⟨0, Nat.zero_le _, rfl⟩ (by exact qle) ?_
 rintro ⟨k, hk', hd⟩
 dsimp only at hk' hd ⊢
 conv => whnf
 by_cases hlt : k < cs.length
 case neg =>
  rw [← hd, List.drop_eq_nil_of_le (by omega)]
  repeat ((refine qz ?_; conv => whnf))
  exact xA rfl trivial
 obtain ⟨q1, q2, q3⟩ := hc _ (List.getElem_mem hlt)
 rw [aC5 hlt] at hd
 have hac := qV (n := k) (c := cs[k]) (by omega) q1 q2 q3
 cases hb : kI k cs[k] with
 | false =>
  rw [hb, Bool.false_and] at hd
  rw [hb] at hac
  rw [← hd]
  repeat (first | (refine qz ?_; conv => whnf) | (refine qc (hac) ?_; conv => whnf) | (refine qr (vE rfl rfl rfl rfl rfl (by conv => lhs; whnf) rfl) ?_; conv => whnf))
  exact xA rfl trivial
 | true =>
  rw [hb, Bool.true_and] at hd
  rw [hb] at hac
  repeat (first | (refine qz ?_; conv => whnf) | (refine qc (hac) ?_; conv => whnf) | (refine qr (vE rfl rfl rfl rfl rfl (by conv => lhs; whnf) rfl) ?_; conv => whnf))
  exact ⟨⟨k + 1, hlt, hd⟩, by exact qle, by simp; omega⟩
theorem aFg {cs : List Cmt} (hn : cs.length ≤ maxLen) (hc : ∀ c ∈ cs, c.1.length ≤ maxLen ∧ c.2.length ≤ maxLen ∧ ∀ e ∈ c.2, e.1.size ≤ maxLen) : AC Tryd.prog 63 [.lst 2 (cs.map xP)] ⟨.v (.bool (aBM cs)), []⟩ := by
 have hn' := hn
 unfold maxLen at hn'
 unfold aBM
 by_cases h0 : 1 ≤ cs.length
 · have : decide (1 ≤ cs.length ∧ cs.length ≤ 60) = decide (cs.length ≤ 60) := by simp [h0]
   rw [this]
   refine qrf Tryd.func63 Tryd.ntmps63 Tryd.results63 ?_; conv => whnf
   repeat ((first | refine qz ?_ | refine qc (aE9 hn hc) ?_); conv => whnf)
   exact xA rfl trivial
 · have : decide (1 ≤ cs.length ∧ cs.length ≤ 60) = false := by simp [h0]
   rw [this, Bool.false_and]
   refine qrf Tryd.func63 Tryd.ntmps63 Tryd.results63 ?_; conv => whnf
   repeat ((refine qz ?_; conv => whnf))
   exact xA rfl trivial
def aC4 (N : Nat) (cs : List Cmt) : Prop := ∀ c ∈ cs, c.1.length ≤ N ∧ c.2.length ≤ N ∧ ∀ e ∈ c.2, e.1.size ≤ N
theorem aC4.le {N M : Nat} {cs : List Cmt} (h : aC4 N cs) (k : N ≤ M) : aC4 M cs := fun c hc => ⟨Nat.le_trans (h c hc).1 k, Nat.le_trans (h c hc).2.1 k, fun e he => Nat.le_trans ((h c hc).2.2 e he) k⟩
end Go.Proofs.YtoaifonjemlfcaaDoor.AM
namespace Go.Proofs.YtoaifonjemlfcaaDoor.AM
open Go Go.RowKit Go.ChangeShapes Go.WideShapes Go.Deep
section
variable {S : Nat → Prop} {w : World}
theorem aG1 : ∀ (l : List Int), RL S w (l.map xu) (l.map fun x => .int .i64 x)
 | [] => by simp only [List.map_nil]; exact aIN
 | x :: l => by simp only [List.map_cons]; exact aD4 (c1 := [_]) (aIp rfl) (aG1 l)
end
section
variable {H : Type} {enc : TypeId × Value → H} {P : Program} {w : World} {base : Nat} {held : Bool}
end
end Go.Proofs.YtoaifonjemlfcaaDoor.AM
namespace Go.Proofs.YtoaifonjemlfcaaDoor.AM
open Go.ChangeShapes Go.WideShapes Go.ChangeAt Go.RowKit
def lsL : List Int := [0, 128, 16384, 2097152]
theorem aB2 : ownKnob Tryd.prog.godebug = none := by kernel_rfl
theorem wS : laidOutB Tryd.prog = true := by kernel_rfl
def aJC (w : World) : Prop := 0 < w.heap.size ∧ ∀ k, k < 4 → w.cell? ⟨0, k, none⟩ = some (.int .i64 (lsL.getD k 0))
theorem kg {W : World} (h : laidMetH Tryd.prog [("loop.example/g00737/impl.leastOfSizes", Rows.laid_loop_example_g00737_impl_leastOfSizes)] W) : aJC W := by
 have hd0 : (Rows.laid_loop_example_g00737_impl_leastOfSizes : DataW Unit) = .agg (lsL.map fun s => .lit (.int .i64 s)) := by kernel_rfl
 rw [MakeChecks.laidMetH_plain _ _ _ (by kernel_rfl)] at h
 obtain ⟨ps, ⟨g, t, cs, fuel, p, q, hg, ht, hv, hd, _, _⟩, _, _⟩ := h
 obtain rfl := Option.some.inj ((show Tryd.prog.globalNamed "loop.example/g00737/impl.leastOfSizes" = some 0 by kernel_rfl).symm.trans hg)
 obtain rfl := Option.some.inj ((show (Tryd.prog.globals[0]?).map (·.type) = some 45 by kernel_rfl).symm.trans ht)
 obtain ⟨xs, m, _, ex, _, hl, hel⟩ := DataW.trod_array Tryd.underlying45 hd
 have c9 : Tryd.prog.cellsOf 3 = 1 := by kernel_rfl
 have hlen : lsL.length = 4 := rfl
 have hblk : 0 < W.heap.size := by
  have hv' := hv
  unfold World.var? at hv'
  rw [hg] at hv'
  simp only [Option.bind_some] at hv'
  cases hh : W.heap[0]? with
  | none => rw [hh] at hv'; cases hv'
  | some o => exact (Array.getElem?_eq_some_iff.1 hh).1
 refine ⟨hblk, fun r hr => ?_⟩
 have hE := hel r hr
 rw [c9, Nat.mul_one, List.getElem?_eq_getElem (by omega)] at hE
 obtain ⟨z, e1, e2, _⟩ := DataW.trod_int Tryd.underlying3 hE
 have e3 : (xs.map (·.1)) = lsL.map fun s => .lit (.int .i64 s) := by
  have := (Prod.mk.inj ex).1
  rw [hd0] at this
  exact (DataW.agg.inj this).symm
 have e4 : (xs.map (·.1))[r]? = (lsL.map fun s => (DataW.lit (.int .i64 s) : DataW Unit))[r]? := by rw [e3]
 rw [List.getElem?_map, List.getElem?_map, List.getElem?_eq_getElem (by omega : r < xs.length), List.getElem?_eq_getElem (by omega : r < lsL.length), e2] at e4
 have hz : z = lsL.getD r 0 := by
  simp only [Option.map_some, Option.some.injEq, DataW.lit.injEq, Lit.int.injEq] at e4
  have h1 : lsL.getD r 0 = lsL[r]'(by omega) := by rw [List.getD_eq_getElem?_getD, List.getElem?_eq_getElem (by omega)]; rfl
  rw [h1]
  exact e4.2
 rw [World.var?_cell hg hv r, ← hz]
 have : cs.toList[r]? = some (.int .i64 z) := by
  have h0 : ((cs.toList.drop r).take 1)[0]? = some (.int .i64 z) := by rw [e1]; rfl
  simpa using h0
 simpa using this
theorem j4 {W : World} (h : aJC W) : ∀ g y, GT g = some y → RA (InW W) W (.ptr y) [.pointer (some ⟨g, 0, none⟩)] := by
 intro g y e
 have hg : g = 0 ∧ y = .agg (lsL.map xu) := by
  unfold GT GTl at e
  cases hb : Nat.beq 0 g with
  | false => simp [List.find?, hb] at e
  | true => simp [List.find?, hb] at e; exact ⟨(Nat.eq_of_beq_eq_true hb).symm, e.symm⟩
 obtain ⟨rfl, rfl⟩ := hg
 unfold RA
 refine ⟨0, 0, lsL.map fun x => .int .i64 x, rfl, h.1, aIF (aG1 lsL), fun j u hu => ?_⟩
 rw [List.getElem?_map] at hu
 obtain ⟨x, hx, rfl⟩ := Option.map_eq_some_iff.1 hu
 obtain ⟨hj, hx⟩ := List.getElem?_eq_some_iff.1 hx
 have h1 : lsL.getD j 0 = x := by rw [List.getD_eq_getElem?_getD, List.getElem?_eq_getElem hj, hx]; rfl
 rw [Nat.zero_add, ← h1]
 exact h.2 j hj
end Go.Proofs.YtoaifonjemlfcaaDoor.AM
namespace Go.Proofs.YtoaifonjemlfcaaDoor.AM
open Go Go.RowKit
def ACP (P : Program) (f : FuncId) (args : List AV) (rin : List OB) (pv : Value) : Prop :=
 (∀ vs w, (callFunc f vs).run P w = .ok (.enter f vs) w) ∧
 ∀ (w : World) (S0 : Nat → Prop) (B0 : Nat → Nat) (V0 : Nat → Value) (T0 : Nat → Nat → Prop) (vs : List Value), (∀ b, S0 b → b < w.heap.size) → (∀ g y, GT g = some y → RA S0 w (.ptr y) [.pointer (some ⟨g, 0, none⟩)]) →
  Rows S0 w (xC 0 rin) (fun _ => none) B0 V0 T0 (fun _ => True) → RVs S0 w (xC 0 rin) B0 V0 args vs →
  Calls P f vs.toArray w fun e w' => e = .panicked [{ v := pv, recovered := false }] ∧ Grown w w' (HB (xC 0 rin) V0 T0)
def ACL (P : Program) (f : FuncId) (args : List AV) (rin : List OB) (v : Value) : Prop :=
 (∀ vs w, (callFunc f vs).run P w = .ok (.enter f vs) w) ∧
 ∀ (w : World) (S0 : Nat → Prop) (B0 : Nat → Nat) (V0 : Nat → Value) (T0 : Nat → Nat → Prop) (vs : List Value), (∀ b, S0 b → b < w.heap.size) → (∀ g y, GT g = some y → RA S0 w (.ptr y) [.pointer (some ⟨g, 0, none⟩)]) →
  Rows S0 w (xC 0 rin) (fun _ => none) B0 V0 T0 (fun _ => True) → RVs S0 w (xC 0 rin) B0 V0 args vs →
  Calls P f vs.toArray w fun e w' => e = .returned v ∧ Grown w w' (HB (xC 0 rin) V0 T0)
structure HandC (s : St) (A args : List AV) (rin : List OB) (Ls : List Nat) : Prop where
 dat : s.datHL Ls A = aAh Ls args
 hd : handed s Ls Ls rin
 nd : Ls.Nodup
 ok : uZ s Ls A = true
 wi : yC (fun l => (xC 0 rin l).isSome) args = true
 we : (rin.all fun ob => zO (fun l => (xC 0 rin l).isSome) ob.e) = true
 rd : zX Ls (xY A) = []
def vk (P : Program) (s : St) (pv : Value) (o : Oper) : Prop :=
 match o.op with
 | .call c => match c.callee with
  | .value g => ∃ f xs ys args rin Ls, s.ev g = .fn f xs ys ∧ vU c.args.toList ∧ ACP P f args rin pv ∧ HandC s (xs ++ c.args.toList.map s.ev ++ ys) args rin Ls
  | _ => False
 | _ => False
section
variable {P : Program} {Θ : Tab} {W : World} {M : Hand} {S0 : Nat → Prop} {n : Nat} {s : St} {a : Act} {w : World} {S : Nat → Prop} {B : Nat → Nat} {V : Nat → Value} {T : Nat → Nat → Prop} {tmps : Array Value} {pv : Value} {ops : Array Oper}
theorem aDs (h : SimW W M S0 s a.tmps w S B V T) {A args : List AV} {rin : List OB} {Ls : List Nat} {VS : List Value} (hA : RVs S w s.hp B V A VS) (hc : HandC s A args rin Ls) :
 Rows S w (xC 0 rin) (fun _ => none) (fun l => B (xS 0 Ls l)) (fun l => V (xS 0 Ls l)) (fun l => T (xS 0 Ls l)) (fun _ => True) ∧ RVs S w (xC 0 rin) (fun l => B (xS 0 Ls l)) (fun l => V (xS 0 Ls l)) args VS ∧ ∀ l ob, xC 0 rin l = some ob → xS 0 Ls l ∈ Ls ∧ s.hp (xS 0 Ls l) = some (um Ls ob) := by
 obtain ⟨hrows, hmem⟩ := aGF h hc.hd hc.nd (fun ob ho => List.all_eq_true.1 hc.we ob ho) (fun _ h => h) (fun l _ ob g ho hg => (h.rows.me l ob g ho hg).1)
 have hdat := jD h (Ls := Ls) (fun _ h => h) A VS (fun l hl => by rw [hc.rd] at hl; simp at hl) hc.ok hA
 rw [hc.dat] at hdat
 refine ⟨hrows, (RVs.map (S := S) (w := w) (hp := xC 0 rin) (hp' := s.hp) (B := fun l => B (xS 0 Ls l)) (B' := B) (V := fun l => V (xS 0 Ls l)) (V' := V) (ρ := xS 0 Ls) args VS (fun l hl => ?_)).2 hdat, hmem⟩
 have := zq args hc.wi hl
 obtain ⟨o, ho⟩ := Option.isSome_iff_exists.1 this
 exact ⟨o, um Ls o, ho, (hmem l o ho).2, rfl, rfl, rfl⟩
theorem aDl (hs : Sim W M S0 n s a w) {o : Oper} (h : vk P s pv o) {K : Act → World → Prop} {Q : Exit → Act → World → Prop} (hQ : ∀ w', Grown W w' M.bl → Q (.panic [{ v := pv, recovered := false }]) a w') : o.wp P a w K Q := by
 obtain ⟨hn, hdf, S, B, V, T, hw⟩ := hs
 obtain ⟨dst, op, ty, pos, after, guard⟩ := o
 unfold vk at h
 split at h
 · rename_i c hop
   subst hop
   obtain ⟨callee, ags, ts⟩ := c
   split at h
   · rename_i g hcal
     dsimp only at hcal h
     subst hcal
     obtain ⟨f, xs, ys, args, rin, Ls, hg, hcs, hac, hc⟩ := h
     have hgv := yY hw hg (fun c => by simp)
     unfold RV at hgv
     obtain ⟨us, vs, eg, r1, r2⟩ := hgv
     obtain ⟨hrows, hargs, hmem⟩ := aDs hw (RVs.app (RVs.app r1 (jo hw _ hcs)) r2) hc
     unfold Oper.wp
     rw [aBL eg hac.1]
     show Calls P f _ w _
     refine (hac.2 w S _ _ _ _ (fun b hb => (hw.slt b hb).1) (fun g y hg => hw.glob (fun _ h => h) hg) hrows hargs).mono ?_
     rintro e w' ⟨rfl, hgr⟩
     refine hQ w' (hw.below.trans hgr (fun g hg hlt => ?_))
     obtain ⟨l, ob, ho, hb⟩ := hg
     obtain ⟨_, ho2⟩ := hmem l ob ho
     exact ((hw.rows.me _ _ g ho2 hb).2.2).resolve_left (by omega)
   · exact h.elim
 · exact h.elim
def u7 (P : Program) (Θ : Tab) (n : Nat) (ops : Array Oper) (pv : Value) : List Oper → St → Prop
 | [], _ => False
 | o :: r, s => inN n o.dst = true ∧
  match xN ops s o with
  | some true => vk P s pv o ∨ ∃ e, Pre P Θ o s e ∧ u7 P Θ n ops pv r (s.app o.dst e)
  | some false => u7 P Θ n ops pv r (s.put o.dst (.tup []))
  | none => False
def DAny (P : Program) (Θ : Tab) (n : Nat) (ops : Array Oper) (pv : Value) : Nat → Array Bool → St → Prop
 | 0, _, _ => False
 | fuel + 1, listed, s => Region.ready .any ops listed ≠ [] ∧ ∀ i ∈ Region.ready .any ops listed, ∃ o, ops[i]? = some o ∧
  ((inN n o.dst = true ∧ xN ops s o = some true ∧ vk P s pv o) ∨ ∃ v, u6 P Θ n ops o s v ∧ DAny P Θ n ops pv fuel (listed.setIfInBounds i true) (s.put o.dst v))
def z8 (P : Program) (Θ : Tab) (n : Nat) (ops : Array Oper) (pv : Value) : Nat → List Oper → St → Prop
 | _, [], _ => False
 | k, o :: r, s => inN n o.dst = true ∧
  match xN ops s o with
  | some true => (tied ops k = true ∧ vk P s pv o) ∨ ∃ v, Pre P Θ o s ⟨v, none⟩ ∧ z8 P Θ n ops pv (k + 1) r (s.put o.dst v)
  | some false => z8 P Θ n ops pv (k + 1) r (s.put o.dst (.tup []))
  | none => False
theorem HandC.of_hp {s s' : St} (hh : s.hp = s'.hp) {A args : List AV} {rin : List OB} {Ls : List Nat} (h : HandC s A args rin Ls) : HandC s' A args rin Ls :=
 ⟨by rw [← wP hh]; exact h.dat, (jr hh Ls _ _).1 h.hd, h.nd, by rw [← wM hh]; exact h.ok, h.wi, h.we, h.rd⟩
theorem aFj {s s' : St} (hh : s.hp = s'.hp) {o : Oper} (he : ∀ x ∈ o.op.operands, s.ev x = s'.ev x) (h : vk P s pv o) : vk P s' pv o := by
 obtain ⟨dst, op, ty, pos, after, guard⟩ := o
 unfold vk at h ⊢
 split at h
 · rename_i c hop
   dsimp only at hop
   subst hop
   try dsimp only
   obtain ⟨callee, ags, ts⟩ := c
   split at h
   · rename_i g hcal
     dsimp only at hcal h
     subst hcal
     obtain ⟨f, xs, ys, args, rin, Ls, hg, hcs, hac, hc⟩ := h
     have hgm : g ∈ (Op.call ⟨.value g, ags, ts⟩).operands := by simp [Op.operands, Call.operands]
     have ham : ∀ x ∈ ags.toList, x ∈ (Op.call ⟨.value g, ags, ts⟩).operands := fun x hx => by simp [Op.operands, Call.operands]; first | exact .inr (by simpa using hx) | exact .inl (by simpa using hx)
     have e1 : ags.toList.map s.ev = ags.toList.map s'.ev := List.map_congr_left fun x hx => he x (ham x hx)
     refine ⟨f, xs, ys, args, rin, Ls, by rw [← he g hgm]; exact hg, hcs, hac, ?_⟩
     try dsimp only
     rw [← e1]
     exact hc.of_hp hh
   · exact h.elim
 · exact h.elim
theorem aH6 {d : Option Tmp} {v : AV} {o : Oper} (h : ∀ t, d = some t → t ∉ o.looksAt ops) (hd : vk P (s.put d v) pv o) : vk P s pv o := by
 have hev : ∀ x ∈ o.op.operands, (s.put d v).ev x = s.ev x := fun x hx => aHb fun t ht hxt => h t ht (by
  subst hxt
  exact List.mem_append_left _ (List.mem_filterMap.2 ⟨.tmp t, by simpa using hx, rfl⟩))
 exact aFj jG hev hd
theorem aCS {i : Nat} {oi : Oper} {v : AV} (hi : ops[i]? = some oi) : ∀ (fuel : Nat) (listed : Array Bool) (s : St),
 Closed ops listed → (∀ j oj, ops[j]? = some oj → j ≠ i → listed.getD j true = false → (∀ e ∈ oj.after, Region.binds .any e = true → e.on ≠ i) → oi.apart ops oj = true) →
 i ∈ Region.ready .any ops listed → u6 P Θ n ops oi s v → DAny P Θ n ops pv fuel (listed.setIfInBounds i true) (s.put oi.dst v) → DAny P Θ n ops pv (fuel + 1) listed s := by
 intro fuel
 induction fuel with
 | zero => intro listed s hcl _ hr hy H; exact H.elim
 | succ fuel ih =>
  intro listed s hcl hfree hr hy H
  refine ⟨fun h => (by rw [h] at hr; cases hr), fun j hj => ?_⟩
  by_cases hji : j = i
  · subst hji; exact ⟨oi, hi, .inr ⟨v, hy, H⟩⟩
  · obtain ⟨oj', hoj', h1⟩ := H.2 j (ready_mono hj hji)
    obtain ⟨hjun, oj, hoj, hall⟩ := mem_ready.1 hj
    obtain rfl : oj = oj' := by rw [hoj] at hoj'; exact Option.some.inj hoj'
    have hnot : ∀ e ∈ oj.after, Region.binds .any e = true → e.on ≠ i := fun e he hb heq => by
     have h1 := hall e he hb
     have h0 := (mem_ready.1 hr).1
     rw [heq] at h1
     rcases Nat.lt_or_ge i listed.size with h' | h'
     · simp [h'] at h0 h1; rw [h0] at h1; cases h1
     · simp [Array.getElem?_eq_none h'] at h1
    obtain ⟨a1, a2, a3⟩ := Oper.apart_spec (hfree j oj hoj hji hjun hnot)
    have hfree' : ∀ k ok, ops[k]? = some ok → k ≠ i → (listed.setIfInBounds j true).getD k true = false →
     (∀ e ∈ ok.after, Region.binds .any e = true → e.on ≠ i) → oi.apart ops ok = true := fun k ok hk hki hun hno => by
     refine hfree k ok hk hki ?_ hno
     by_cases hjk : j = k
     · subst hjk; exact hjun
     · rw [getD_set_ne true hjk] at hun; exact hun
    have hcomm : (listed.setIfInBounds i true).setIfInBounds j true = (listed.setIfInBounds j true).setIfInBounds i true := Array.setIfInBounds_comm _ _ (Ne.symm hji)
    refine ⟨oj, hoj, ?_⟩
    rcases h1 with ⟨q1, q2, q3⟩ | ⟨u, q1, q2⟩
    · exact .inl ⟨q1, by rw [kL a1] at q2; exact q2, aH6 a1 q3⟩
    · have hyj : u6 P Θ n ops oj s u := by
       refine ⟨q1.1, ?_⟩
       have := q1.2
       rw [kL a1, aAI a1] at this
       exact this
      refine .inr ⟨u, hyj, ih (listed.setIfInBounds j true) (s.put oj.dst u) (hcl.list hj) hfree' (ready_mono hr (Ne.symm hji)) (hy.put a3) ?_⟩
      rw [← hcomm, put_comm s u v (fun d h1 h2 => a2 d h2 h1)]
      exact q2
theorem aE8 : ∀ (l : List Oper) (k : Nat) (listed : Array Bool) (s : St), Closed ops listed → (∀ m, listed.getD m false = Nat.blt m k) → (∀ j, l[j]? = ops[k + j]?) → Region.lexFrom .any ops l.length k listed = true → z8 P Θ n ops pv k l s → DAny P Θ n ops pv l.length listed s
 | [], _, _, _, _, _, _, hB, h => h.elim
 | o :: l, k, listed, s, hcl, hls, hl, hB, h => by
  have h0 : ops[k]? = some o := by simpa using (hl 0).symm
  simp only [List.length_cons, Region.lexFrom, Bool.and_eq_true] at hB
  obtain ⟨⟨hr, hf⟩, hB'⟩ := hB
  have hr' : k ∈ Region.ready .any ops listed := by simpa using hr
  have hrest : ∀ s', z8 P Θ n ops pv (k + 1) l s' → DAny P Θ n ops pv l.length (listed.setIfInBounds k true) s' := fun s' h' =>
   aE8 l (k + 1) _ s' (hcl.list hr') (fun m => by
    have hsz : k < listed.size := by
     have := (mem_ready.1 hr').1
     rcases Nat.lt_or_ge k listed.size with h' | h'
     · exact h'
     · simp [Array.getElem?_eq_none h'] at this
    by_cases hmk : k = m
    · subst hmk
      have h1 : (listed.setIfInBounds k true).getD k false = true := by simp [hsz]
      rw [h1]; simp
    · rw [getD_set_ne false hmk, hls]
      rw [jZ, jZ, decide_eq_decide]; omega) (fun j => by have := hl (j + 1); simpa [Nat.add_assoc, Nat.add_comm 1 j] using this) hB' h'
  unfold z8 at h
  obtain ⟨hin, h⟩ := h
  cases hg : xN ops s o with
  | none => rw [hg] at h; exact h.elim
  | some b =>
   cases b with
   | true =>
    rw [hg] at h
    rcases h with ⟨ht, hd⟩ | ⟨v, hp, h⟩
    · refine ⟨fun h => (by rw [h] at hr'; cases hr'), fun j hj => ?_⟩
      have := uX hcl hr' hj ht
      subst this
      exact ⟨o, h0, .inl ⟨hin, hg, hd⟩⟩
    · exact aCS h0 l.length listed s hcl (Region.free_spec h0 hf) hr' ⟨hin, .inl ⟨hg, hp⟩⟩ (hrest _ h)
   | false =>
    rw [hg] at h
    exact aCS h0 l.length listed s hcl (Region.free_spec h0 hf) hr' ⟨hin, .inr ⟨hg, rfl⟩⟩ (hrest _ h)
theorem aAX (hΘ : yF P Θ) {Q : Exit → Act → World → Prop} (hQ : ∀ a w', a.defers = [] → Grown W w' M.bl → Q (.panic [{ v := pv, recovered := false }]) a w') : ∀ (l : List Oper) (s : St) (a : Act) (w : World), Sim W M S0 n s a w → u7 P Θ n ops pv l s → wpList P ops Q l a w
 | [], s, a, w, hs, h => h.elim
 | o :: l, s, a, w, hs, h => by
  unfold u7 at h
  obtain ⟨hin, h⟩ := h
  unfold wpList
  cases hg : xN ops s o with
  | none => rw [hg] at h; exact h.elim
  | some b =>
   rw [hg] at h
   rw [zG hs hg]
   cases b with
   | true =>
    rw [if_pos rfl]
    rcases h with h | ⟨e, hp, h⟩
    · exact .inl (aDl hs h fun w' hw => hQ a w' hs.2.1 hw)
    · exact .inl (vZ hΘ hs hp hin fun a' w' hs' => aAX hΘ hQ l _ _ _ hs' h)
   | false =>
    rw [if_neg (by simp)]
    exact aAX hΘ hQ l _ _ _ (qJ hs hin) h
theorem aAV (hΘ : yF P Θ) {Q : Exit → Act → World → Prop} (hQ : ∀ a w', a.defers = [] → Grown W w' M.bl → Q (.panic [{ v := pv, recovered := false }]) a w') : ∀ (fuel : Nat) (listed : Array Bool) (s : St) (a : Act) (w : World), Sim W M S0 n s a w → DAny P Θ n ops pv fuel listed s → ∀ m, fuel ≤ m → wpAny P .any ops Q m listed a w
 | 0, listed, s, a, w, hs, h, m, hm => h.elim
 | fuel + 1, listed, s, a, w, hs, h, m, hm => by
  obtain ⟨k, rfl⟩ : ∃ k, m = k + 1 := ⟨m - 1, by omega⟩
  refine ⟨fun hr => absurd hr h.1, fun i hi => ?_⟩
  obtain ⟨o, ho, h1⟩ := h.2 i hi
  unfold wpOp
  simp only [ho]
  rcases h1 with ⟨hin, hg, hd⟩ | ⟨v, ⟨hin, hy⟩, h2⟩
  · rw [zG hs hg, if_pos rfl]
    exact .inl (aDl hs hd fun w' hw => hQ a w' hs.2.1 hw)
  · rcases hy with ⟨hg, hp⟩ | ⟨hg, rfl⟩
    · rw [zG hs hg, if_pos rfl]
      exact .inl (vZ hΘ hs hp hin fun a' w' hs' => aAV hΘ hQ fuel _ _ _ _ hs' h2 k (by omega))
    · rw [zG hs hg, if_neg (by simp)]
      exact aAV hΘ hQ fuel _ _ _ _ (qJ hs hin) h2 k (by omega)
def yM (P : Program) (Θ : Tab) (n : Nat) (pv : Value) : Code → St → Prop
 | .region id ops draw, s => (draw = false ∧ u7 P Θ n ops pv ops.toList s) ∨ (draw = true ∧ Region.lexB .any ops = true ∧ z8 P Θ n ops pv 0 ops.toList s)
 | .seq a b, s => yM P Θ n pv a s ∨ xM P Θ n a (AEx.then (yM P Θ n pv b) (fun _ _ => False)) s
 | .cond c x y, s => ∃ b, s.ev c = .v (.bool b) ∧ (match b with | true => yM P Θ n pv x s | false => yM P Θ n pv y s)
 | .block _ c, s => yM P Θ n pv c s
 | .loop c, s => ∃ (ι : Type) (I : ι → InvM) (μ : ι → Nat), (∃ i, s.leM (I i)) ∧ ∀ i, yM P Θ n pv c (I i).st ∨ xM P Θ n c (AEx.then (fun s' => ∃ j, s'.leM (I j) ∧ μ j < μ i) (fun _ _ => False)) (I i).st
 | _, _ => False
def aJB (W : World) (M : Hand) (pv : Value) (e : Exit) (a : Act) (w : World) : Prop := e = .panic [{ v := pv, recovered := false }] ∧ a.defers = [] ∧ Grown W w M.bl
theorem aEm (hΘ : yF P Θ) (hm : P.follows .mixedOrders = true) : ∀ (c : Code) (s : St) (a : Act) (w : World), Sim W M S0 n s a w → yM P Θ n pv c s → WpN P c (aJB W M pv) a w := by
 intro c
 induction c with
 | region id ops draw =>
  intro s a w hs h
  rcases h with ⟨rfl, h⟩ | ⟨rfl, hB, h⟩
  · exact .of <| wp_region_list (aAX hΘ (fun a w' hd hw => ⟨rfl, hd, hw⟩) _ _ _ _ hs h)
  · refine .of (wp_region_any hm ?_)
    have hs' : Sim W M S0 n s a { w with drawn := w.drawn + 1 } := by
     obtain ⟨hn, hdf, S, B, V, T, h⟩ := hs
     exact ⟨hn, hdf, S, B, V, T, h.world ((Below.refl _ _).drew)⟩
    simp only [Region.lexB, Bool.and_eq_true] at hB
    have hcl : Closed ops (Array.replicate ops.size false) := fun j o ho hl => by
     have : (Array.replicate ops.size false).getD j false = false := by simp [Array.getD_eq_getD_getElem?, Array.getElem?_replicate]; split <;> rfl
     rw [this] at hl; cases hl
    have := aE8 (P := P) (Θ := Θ) (n := n) ops.toList 0 (Array.replicate ops.size false) s hcl (fun m => by
     have : (Array.replicate ops.size false).getD m false = false := by simp [Array.getD_eq_getD_getElem?, Array.getElem?_replicate]; split <;> rfl
     rw [this]; rfl) (by simp) (by simpa using hB.2) h
    exact aAV hΘ (fun a w' hd hw => ⟨rfl, hd, hw⟩) _ _ _ _ _ hs' this _ (by simp)
 | seq x y ihx ihy =>
  intro s a w hs h
  rcases h with h | h
  · refine WpN.seq ?_
    intro b hb k cs
    obtain ⟨e, a', w', ⟨rfl, h2, h3⟩, harr⟩ := ihx s a w hs h b hb k cs
    exact ⟨.panic [{ v := pv, recovered := false }], a', w', ⟨rfl, h2, h3⟩, harr⟩
  · refine WpN.seq (qX hΘ hm x (AEx.then (yM P Θ n pv y) (fun _ _ => False)) _ s a w hs (fun e s a w hs he => ?_) h)
    cases e with
    | normal => exact ihy s a w hs he
    | exit id => exact False.elim he
    | ret => exact False.elim he
 | cond c x y ihx ihy =>
  intro s a w hs h
  obtain ⟨b, hc, h⟩ := h
  have hev : a.eval c = .bool b := by
   obtain ⟨_, _, S, B, V, _, h1⟩ := hs
   exact uR h1 hc
  cases b with
  | true => exact WpN.cond hev (ihx s a w hs h)
  | false => exact WpN.cond hev (ihy s a w hs h)
 | block id c ih =>
  intro s a w hs h
  refine WpN.block ?_
  intro b hb k cs
  obtain ⟨e, a', w', ⟨rfl, h2, h3⟩, harr⟩ := ih s a w hs h b hb k cs
  exact ⟨.panic [{ v := pv, recovered := false }], a', w', ⟨rfl, h2, h3⟩, harr⟩
 | loop c ih =>
  intro s a w hs h
  obtain ⟨ι, I, μ, ⟨i0, h0⟩, hround⟩ := h
  have key : ∀ m i a w, μ i = m → Sim W M S0 n (I i).st a w → ∀ (b : Frame), b.kind = .normal → ∀ (k : List Item) (cs : List Frame),
   ∃ e a' w', aJB W M pv e a' w' ∧ Arrives P (lone (b.at a (.code c :: .inLoop c :: k)) cs w) b k cs e a' w' := by
   intro m
   induction m using Nat.strongRecOn with
   | _ m ihm =>
    intro i a w hmi hsi b hbk k cs
    rcases hround i with hd | hr
    · obtain ⟨e, a₁, w₁, ⟨rfl, h2, h3⟩, harr⟩ := ih (I i).st a w hsi hd b hbk (.inLoop c :: k) cs
      exact ⟨_, a₁, w₁, ⟨rfl, h2, h3⟩, .pass (x := .inLoop c) rfl (fun _ _ => .inl (by simp)) harr⟩
    · obtain ⟨e, a₁, w₁, hq1, harr⟩ := qX hΘ hm c (AEx.then (fun s' => ∃ j, s'.leM (I j) ∧ μ j < μ i) (fun _ _ => False)) (fun e a' w' => e = .normal ∧ ∃ j, Sim W M S0 n (I j).st a' w' ∧ μ j < μ i) (I i).st a w hsi (fun e s a w hs he => by
       cases e with
       | normal => obtain ⟨j, hl, hlt⟩ := he; exact ⟨rfl, j, aBC hs hl, hlt⟩
       | exit id => exact False.elim he
       | ret => exact False.elim he) hr b hbk (.inLoop c :: k) cs
      obtain ⟨rfl, j, hsj, hlt⟩ := hq1
      obtain ⟨e₂, a₂, w₂, hq₂, harr₂⟩ := ihm (μ j) (hmi ▸ hlt) j a₁ w₁ rfl hsj b hbk k cs
      exact ⟨e₂, a₂, w₂, hq₂, .of_steps (Steps.trans harr (.one step_inLoop)) harr₂⟩
  intro b hbk k cs
  obtain ⟨e, a', w', hq', harr⟩ := key _ i0 a w rfl (aBC hs h0) b hbk k cs
  exact ⟨e, a', w', hq', .of_steps (.one step_loop) harr⟩
 | skip => intro s a w hs h; exact h.elim
 | label _ => intro s a w hs h; exact h.elim
 | exit id => intro s a w hs h; exact h.elim
 | ret => intro s a w hs h; exact h.elim
 | rangeFunc _ _ _ _ => intro s a w hs h; exact h.elim
 | scope _ => intro s a w hs h; exact h.elim
 | goto _ => intro s a w hs h; exact h.elim
 | refuse _ => intro s a w hs h; exact h.elim
theorem uJ (hΘ : yF P Θ) (hm : P.follows .mixedOrders = true) {f : FuncId} {fn : Func} {c : Code} {n : Nat} (hf : P.funcs[f]? = some fn) (hb : fn.body = some c) (hnt : fn.ntmps = n) (hnm : (fn.name == "runtime.NumGoroutine") = false)
 {args : List AV} {rin : List OB} (hlen : args.length ≤ n) (h : yM P Θ n pv c (St.initG rin args)) : ACP P f args rin pv := by
 refine ⟨fun vs w => by simp only [callFunc, Sem.run_bind, run_program, Result.andThen_ok, hf, hnm, hb]; rfl, fun w S0 B0 V0 T0 vs hS0 hG hrows hargs => ?_⟩
 have hvl := RVs.len _ _ hargs
 let M : Hand := ⟨HB (xC 0 rin) V0 T0, fun l => (xC 0 rin l).map fun _ => (B0 l, V0 l)⟩
 have hsim : Sim w M S0 n (St.initG rin args) { tmps := vs.toArray ++ Array.replicate (fn.ntmps - vs.toArray.size) undef, defers := [] } w := by
  refine ⟨by simp; omega, rfl, S0, B0, V0, T0, ⟨Grown.refl _ _, fun _ h => h, fun b hb => ⟨hS0 b hb, .inl hb⟩, fun t => ?_, ⟨hrows.ro, fun l ob g ho hg => ⟨(hrows.me l ob g ho hg).1, (hrows.me l ob g ho hg).2.1, .inr ⟨l, ob, ho, hg⟩⟩, hrows.nd, hrows.ds, fun l es e => by cases e⟩, fun l b u e => ?_, ⟨fun b hb => ⟨fun ⟨l, ob, ho, hb'⟩ => (hrows.me l ob b ho hb').1 hb, hS0 b hb⟩, hG⟩⟩⟩
  · rw [aEx]; exact RVs.get args vs t hargs
  · obtain ⟨ob, ho, e⟩ := Option.map_eq_some_iff.1 e
    cases e
    exact ⟨aCd ho, rfl, rfl⟩
 refine aAs hf hb ?_
 intro b hb k cs
 obtain ⟨e, a', w', ⟨rfl, h2, h3⟩, harr⟩ := aEm (M := M) (W := w) (S0 := S0) hΘ hm c _ _ _ hsim h b hb k cs
 exact ⟨.panic [{ v := pv, recovered := false }], a', w', ⟨h2, rfl, h3⟩, harr⟩
end
section
variable {P : Program} {Θ : Tab} {n : Nat} {ops : Array Oper} {pv : Value} {s : St}
def aBa (P : Program) (Θ : Tab) (n : Nat) (ops : Array Oper) (pv : Value) : List Oper → St → Prop
 | [], _ => False
 | o :: r, s =>
  match inN n o.dst with
  | false => False
  | true => match xN ops s o with
   | some false => aBa P Θ n ops pv r (s.put o.dst (.tup []))
   | some true => match zC Θ false o s with
    | some s' => aBa P Θ n ops pv r s'
    | none => u7 P Θ n ops pv (o :: r) s
   | none => False
theorem kr : ∀ (l : List Oper) (s : St), aBa P Θ n ops pv l s → u7 P Θ n ops pv l s
 | [], s, h => h.elim
 | o :: r, s, h => by
  unfold aBa at h
  cases hin : inN n o.dst with
  | false => rw [hin] at h; exact h.elim
  | true =>
   rw [hin] at h
   simp only at h
   cases hg : xN ops s o with
   | none => rw [hg] at h; exact h.elim
   | some b => cases b with
    | false => rw [hg] at h; unfold u7; simp only [hin, hg]; exact ⟨trivial, kr r _ h⟩
    | true =>
     rw [hg] at h
     simp only at h
     cases hs : zC Θ false o s with
     | none => rw [hs] at h; exact h
     | some s' =>
      rw [hs] at h
      obtain ⟨e, hp, _, he⟩ := kU (P := P) hs
      unfold u7
      simp only [hin, hg]
      exact ⟨trivial, .inr ⟨e, hp, by rw [he]; exact kr r _ h⟩⟩
def aBb (P : Program) (Θ : Tab) (n : Nat) (ops : Array Oper) (pv : Value) : Nat → List Oper → St → Prop
 | _, [], _ => False
 | k, o :: r, s =>
  match inN n o.dst with
  | false => False
  | true => match xN ops s o with
   | some false => aBb P Θ n ops pv (k + 1) r (s.put o.dst (.tup []))
   | some true => match zC Θ true o s with
    | some s' => aBb P Θ n ops pv (k + 1) r s'
    | none => z8 P Θ n ops pv k (o :: r) s
   | none => False
theorem ku : ∀ (l : List Oper) (k : Nat) (s : St), aBb P Θ n ops pv k l s → z8 P Θ n ops pv k l s
 | [], k, s, h => h.elim
 | o :: r, k, s, h => by
  unfold aBb at h
  cases hin : inN n o.dst with
  | false => rw [hin] at h; exact h.elim
  | true =>
   rw [hin] at h
   simp only at h
   cases hg : xN ops s o with
   | none => rw [hg] at h; exact h.elim
   | some b => cases b with
    | false => rw [hg] at h; unfold z8; simp only [hin, hg]; exact ⟨trivial, ku r _ _ h⟩
    | true =>
     rw [hg] at h
     simp only at h
     cases hs : zC Θ true o s with
     | none => rw [hs] at h; exact h
     | some s' =>
      rw [hs] at h
      obtain ⟨⟨u, up⟩, hp, hu, he⟩ := kU (P := P) hs
      have : up = none := hu rfl
      subst this
      unfold z8
      simp only [hin, hg]
      exact ⟨trivial, .inr ⟨u, hp, ku r _ _ (by rw [show s.put o.dst u = s' from he]; exact h)⟩⟩
variable {k : Nat} {r : List Oper} {d : Option Tmp} {op : Op} {ty : TypeId} {pos : String} {after : Array Edge} {g : Option (Nat × Bool)}
theorem jI {v : AV} (hp : Pre P Θ ⟨d, op, ty, pos, after, g⟩ s ⟨v, none⟩) (hg : xN ops s ⟨d, op, ty, pos, after, g⟩ = some true) (hin : inN n d = true) (h : aBa P Θ n ops pv r (s.put d v)) : u7 P Θ n ops pv (⟨d, op, ty, pos, after, g⟩ :: r) s := by
 unfold u7; simp only [hg]; exact ⟨hin, .inr ⟨_, hp, kr _ _ h⟩⟩
theorem yT (hd : vk P s pv ⟨d, op, ty, pos, after, g⟩) (hg : xN ops s ⟨d, op, ty, pos, after, g⟩ = some true) (hin : inN n d = true) : u7 P Θ n ops pv (⟨d, op, ty, pos, after, g⟩ :: r) s := by
 unfold u7; simp only [hg]; exact ⟨hin, .inl hd⟩
theorem aIO {v : AV} (hp : Pre P Θ ⟨d, op, ty, pos, after, g⟩ s ⟨v, none⟩) (hg : xN ops s ⟨d, op, ty, pos, after, g⟩ = some true) (hin : inN n d = true) (h : aBb P Θ n ops pv (k + 1) r (s.put d v)) : z8 P Θ n ops pv k (⟨d, op, ty, pos, after, g⟩ :: r) s := by
 unfold z8; simp only [hg]; exact ⟨hin, .inr ⟨_, hp, ku _ _ _ h⟩⟩
theorem aKn (hd : vk P s pv ⟨d, op, ty, pos, after, g⟩) (hg : xN ops s ⟨d, op, ty, pos, after, g⟩ = some true) (hin : inN n d = true) (ht : tied ops k = true) : z8 P Θ n ops pv k (⟨d, op, ty, pos, after, g⟩ :: r) s := by
 unfold z8; simp only [hg]; exact ⟨hin, .inl ⟨ht, hd⟩⟩
theorem yw {f : FuncId} {xs ys : List AV} {x : Operand} {ags : Array Operand} {ts : Array TypeId} {args : List AV} {rin : List OB} (Ls : List Nat) (hac : ACP P f args rin pv) (hx : s.ev x = .fn f xs ys) (ha : s.datHL Ls (xs ++ ags.toList.map s.ev ++ ys) = aAh Ls args) (hh : handed s Ls Ls rin) (hnd : aDX Ls = true)
 (hok : uZ s Ls (xs ++ ags.toList.map s.ev ++ ys) = true) (hwi : yC (fun l => (xC 0 rin l).isSome) args = true) (hwe : rin.all (fun ob => zO (fun l => (xC 0 rin l).isSome) ob.e) = true) (hfl : (zX Ls (xY (xs ++ ags.toList.map s.ev ++ ys))).isEmpty = true) (hc : kJ ags.toList = true) :
 vk P s pv ⟨d, .call ⟨.value x, ags, ts⟩, ty, pos, after, g⟩ :=
 ⟨f, xs, ys, args, rin, Ls, hx, zb hc, hac, ha, hh, aB0 hnd, hok, hwi, hwe, by simpa using hfl⟩
theorem xV {a b : Code} (h : kT P Θ n a (AEx.then (yM P Θ n pv b) (fun _ _ => False)) s) : yM P Θ n pv (.seq a b) s := .inr (xE _ _ _ h)
theorem yN {a b : Code} (h : yM P Θ n pv a s) : yM P Θ n pv (.seq a b) s := .inl h
theorem zD {id : Nat} (h : aBa P Θ n ops pv ops.toList s) : yM P Θ n pv (.region id ops false) s := .inl ⟨rfl, kr _ _ h⟩
theorem aKU {id : Nat} (hB : Region.lexB .any ops = true) (h : aBb P Θ n ops pv 0 ops.toList s) : yM P Θ n pv (.region id ops true) s := .inr ⟨rfl, hB, ku _ _ _ h⟩
theorem vK {id : Nat} {c : Code} (h : yM P Θ n pv c s) : yM P Θ n pv (.block id c) s := h
theorem aC7 {c : Code} {ι : Type} (I : ι → Inv) (μ : ι → Nat) (i0 : ι) (h0 : s.le (I i0)) (h : ∀ i, yM P Θ n pv c (I i).st ∨ kT P Θ n c (AEx.then (fun s' => ∃ j, s'.le (I j) ∧ μ j < μ i) (fun _ _ => False)) (I i).st) : yM P Θ n pv (.loop c) s :=
 ⟨ι, fun i => (I i).m, μ, ⟨i0, h0, trivial⟩, fun i => (h i).imp id fun h => uw (Q := AEx.then (fun s' => ∃ j, s'.le (I j) ∧ μ j < μ i) (fun _ _ => False)) c _ (fun e s he => by
  cases e with
  | normal => obtain ⟨j, h1, h2⟩ := he; exact ⟨j, ⟨h1, trivial⟩, h2⟩
  | _ => exact he) (xE _ _ _ h)⟩
end
def uN (P : Program) (n : Nat) (ops : Array Oper) (l : List Oper) (s : St) (K : St → Prop) : Prop :=
 ∀ (W : World) (M : Hand) (S0 : Nat → Prop) (a : Act) (w : World), Sim W M S0 n s a w → wpList P ops (fun e a' w' => e = .normal ∧ ∃ s', K s' ∧ Sim W M S0 n s' a' w') l a w
section
variable {P : Program} {Θ : Tab} {n : Nat} {ops : Array Oper} {s : St} {K : St → Prop} {r : List Oper} {d : Option Tmp} {op : Op} {ty : TypeId} {pos : String} {after : Array Edge} {g : Option (Nat × Bool)}
theorem wz {id : Nat} (h : uN P n ops ops.toList s K) : aBw P n id ops s K := fun W M S0 a w hs => .of (wp_region_list (h W M S0 a w hs))
theorem aFE (h : K s) : uN P n ops [] s K := fun W M S0 a w hs => ⟨rfl, s, h, hs⟩
theorem aJe {e : Eff} (hΘ : yF P Θ) (hp : Pre P Θ ⟨d, op, ty, pos, after, g⟩ s e) (hg : xN ops s ⟨d, op, ty, pos, after, g⟩ = some true) (hin : inN n d = true) (h : uN P n ops r (s.app d e) K) : uN P n ops (⟨d, op, ty, pos, after, g⟩ :: r) s K := fun W M S0 a w hs => by
 unfold wpList
 rw [zG hs hg, if_pos rfl]
 exact .inl (vZ hΘ hs hp hin fun a' w' hs' => h W M S0 a' w' hs')
theorem aJd (hg : xN ops s ⟨d, op, ty, pos, after, g⟩ = some false) (hin : inN n d = true) (h : uN P n ops r (s.put d (.tup [])) K) : uN P n ops (⟨d, op, ty, pos, after, g⟩ :: r) s K := fun W M S0 a w hs => by
 unfold wpList
 rw [zG hs hg, if_neg (by simp)]
 exact h W M S0 _ _ (qJ hs hin)
theorem aE3 {s' : St} (hg : xN ops s ⟨d, op, ty, pos, after, g⟩ = some true) (hw : ∀ (W : World) (M : Hand) (S0 : Nat → Prop) (a : Act) (w : World), Sim W M S0 n s a w → ∀ (K' : Act → World → Prop) (Q : Exit → Act → World → Prop), (∀ a' w', Sim W M S0 n s' a' w' → K' a' w') → (⟨d, op, ty, pos, after, g⟩ : Oper).wp P a w K' Q) (h : uN P n ops r s' K) : uN P n ops (⟨d, op, ty, pos, after, g⟩ :: r) s K := fun W M S0 a w hs => by
 unfold wpList
 rw [zG hs hg, if_pos rfl]
 exact .inl (hw W M S0 a w hs _ _ fun a' w' hs' => h W M S0 a' w' hs')
def aHH (P : Program) (Θ : Tab) (n : Nat) (ops : Array Oper) : List Oper → St → (St → Prop) → Prop
 | [], s, K => K s
 | o :: r, s, K => match inN n o.dst with
  | false => False
  | true => match xN ops s o with
   | some false => aHH P Θ n ops r (s.put o.dst (.tup [])) K
   | some true => match zC Θ false o s with
    | some s' => aHH P Θ n ops r s' K
    | none => uN P n ops (o :: r) s K
   | none => False
theorem za (hΘ : yF P Θ) : ∀ (l : List Oper) (s : St), aHH P Θ n ops l s K → uN P n ops l s K
 | [], s, h => aFE h
 | o :: r, s, h => by
  unfold aHH at h
  cases hin : inN n o.dst with
  | false => rw [hin] at h; exact h.elim
  | true =>
   rw [hin] at h
   simp only at h
   cases hg : xN ops s o with
   | none => rw [hg] at h; exact h.elim
   | some b => cases b with
    | false => rw [hg] at h; exact aJd hg hin (za hΘ r _ h)
    | true =>
     rw [hg] at h
     simp only at h
     cases hs : zC Θ false o s with
     | none => rw [hs] at h; exact h
     | some s' =>
      rw [hs] at h
      obtain ⟨e, hp, _, he⟩ := kU (P := P) hs
      exact aJe hΘ hp hg hin (by rw [he]; exact za hΘ r _ h)
end
section
variable {P : Program} {Θ : Tab} {n : Nat}
def qG (stop : Array Oper → Bool) (P : Program) (Θ : Tab) (n : Nat) : Code → (AEx → St → Prop) → St → Prop
 | .region id ops false, Q, s => bif stop ops then aBw P n id ops s (Q .normal) else runK P Θ n ops false 0 ops.toList s (Q .normal)
 | .seq a b, Q, s => qG stop P Θ n a (AEx.then (qG stop P Θ n b Q) Q) s
 | .cond c x y, Q, s => match s.ev c with
  | .v (.bool true) => qG stop P Θ n x Q s
  | .v (.bool false) => qG stop P Θ n y Q s
  | _ => xM P Θ n (.cond c x y) Q s
 | .block id c, Q, s => qG stop P Θ n c (AEx.inBlock id Q) s
 | c, Q, s => kT P Θ n c Q s
theorem wI {stop : Array Oper → Bool} : ∀ (c : Code) (Q : AEx → St → Prop) (s : St), qG stop P Θ n c Q s → xM P Θ n c Q s := by
 intro c
 induction c with
 | region id ops draw =>
  intro Q s h
  cases draw with
  | false =>
   simp only [qG] at h
   cases hc : stop ops with
   | true => rw [hc] at h; exact .inr (.inr ⟨rfl, h⟩)
   | false => rw [hc] at h; exact .inl ⟨(fun e => by cases e), uW _ _ _ h⟩
  | true => exact xE _ Q s h
 | seq a b iha ihb =>
  intro Q s h
  exact .inl (uw a s (fun e s he => by cases e <;> first | exact ihb Q s he | exact he) (iha _ s h))
 | cond c x y ihx ihy =>
  intro Q s h
  simp only [qG] at h
  split at h
  · rename_i hc; exact ⟨true, hc, ihx Q s h⟩
  · rename_i hc; exact ⟨false, hc, ihy Q s h⟩
  · exact h
 | block id c ih => intro Q s h; exact ih _ s h
 | _ => intro Q s h; exact xE _ Q s h
theorem aJx {stop : Array Oper → Bool} {c : Code} {Q : AEx → St → Prop} {s : St} {ι : Type} (I : ι → Inv) (μ : ι → Nat) (i0 : ι) (h0 : s.le (I i0)) (h : ∀ i, qG stop P Θ n c (AEx.then (fun s' => ∃ j, s'.le (I j) ∧ μ j < μ i) Q) (I i).st) : xM P Θ n (.loop c) Q s :=
 aEo (fun i => (I i).m) μ i0 ⟨h0, trivial⟩ fun i => uw (Q := AEx.then (fun s' => ∃ j, s'.le (I j) ∧ μ j < μ i) Q) c _ (fun e s he => by
  cases e with
  | normal => obtain ⟨j, h1, h2⟩ := he; exact ⟨j, ⟨h1, trivial⟩, h2⟩
  | _ => exact he) (wI _ _ _ (h i))
theorem aGB {stop : Array Oper → Bool} {pv : Value} {s : St} {a b : Code} (h : qG stop P Θ n a (AEx.then (yM P Θ n pv b) (fun _ _ => False)) s) : yM P Θ n pv (.seq a b) s := .inr (wI _ _ _ h)
theorem aJ7 {stop : Array Oper → Bool} {pv : Value} {s : St} {c : Code} {ι : Type} (I : ι → Inv) (μ : ι → Nat) (i0 : ι) (h0 : s.le (I i0)) (h : ∀ i, yM P Θ n pv c (I i).st ∨ qG stop P Θ n c (AEx.then (fun s' => ∃ j, s'.le (I j) ∧ μ j < μ i) (fun _ _ => False)) (I i).st) : yM P Θ n pv (.loop c) s :=
 ⟨ι, fun i => (I i).m, μ, ⟨i0, h0, trivial⟩, fun i => (h i).imp id fun h => uw (Q := AEx.then (fun s' => ∃ j, s'.le (I j) ∧ μ j < μ i) (fun _ _ => False)) c _ (fun e s he => by
  cases e with
  | normal => obtain ⟨j, h1, h2⟩ := he; exact ⟨j, ⟨h1, trivial⟩, h2⟩
  | _ => exact he) (wI _ _ _ h)⟩
end
def aLC (t : ByteArray) (i : Nat) : AbsR where
 rel w b T := (∀ g, T g ↔ g = b) ∧ w.heap[b]? = some (.stringIter t i)
 frame := by
  rintro w w' b T h ⟨h1, h2⟩
  exact ⟨h1, (h b ((h1 b).2 rfl)).trans h2⟩
abbrev wE (t : ByteArray) (i : Nat) : OB := ⟨.c (aLC t i), 1, []⟩
theorem aJw {t : ByteArray} {i : Nat} {S : Nat → Prop} {w : World} {hp : Nat → Option OB} {B : Nat → Nat} {V : Nat → Value} {T : Nat → Prop} {b : Nat} (hT : ∀ g, T g ↔ g = b) (hb : w.heap[b]? = some (.stringIter t i)) : RO S w hp B V T (wE t i) b (.slice none 0 0) :=
 ⟨0, [], ⟨fun t' e => (by cases e), hT, hb⟩, ⟨rfl, rfl, fun g hg => by rw [(hT g).1 hg]; exact (Array.getElem?_eq_some_iff.1 hb).1⟩, fun x hx => (by cases hx), Nat.succ_pos 0, World.ownsRow_nil _ _ _ _, fun g hg => by simp [Value.ownBlock] at hg⟩
section
variable {P : Program} {Θ : Tab} {n : Nat} {ops : Array Oper} {s : St} {K : St → Prop} {r : List Oper} {ty : TypeId} {pos : String} {after : Array Edge}
variable {W : World} {M : Hand} {S0 : Nat → Prop} {S : Nat → Prop} {B : Nat → Nat} {V : Nat → Value} {T : Nat → Nat → Prop} {tmps : Array Value} {w : World} {t : ByteArray} {i : Nat}
theorem SimW.newIter (h : SimW W M S0 s tmps w S B V T) {d : Nat} (hok : okL d = true) (hf : s.hp d = none) :
 SimW W M S0 (s.set d (some (wE t 0))) tmps (w.iter t 0) S (upd B d w.heap.size) (upd V d (.slice none 0 0)) (upd T d (fun g => g = w.heap.size)) := by
 have hb : Below w.heap.size w (w.iter t 0) := (Below.refl _ _).alloc (Nat.le_refl _) _
 obtain ⟨hn1, hn2⟩ := wR h hf
 have hnew : (w.iter t 0).heap[w.heap.size]? = some (.stringIter t 0) := heap_alloc_new w (.stringIter t 0)
 have hlt := (Array.getElem?_eq_some_iff.1 hnew).1
 exact h.repl (l := d) (ob' := wE t 0) (b' := w.heap.size) (v' := .slice none 0 0) (T' := fun g => g = w.heap.size) hok hn1 (fun j o _ ho => hn2 j o ho) (Grown.of hb _) (aJw (fun g => Iff.rfl) hnew) (fun g hg => by
  rcases hg with hg | hg
  · simp [Value.ownBlock] at hg
  · exact ⟨by rw [hg]; exact hlt, .inl (.inl (by rw [hg]; exact Nat.le_refl _))⟩) (fun g hg => by simp [Value.ownBlock] at hg)
theorem SimW.iter (h : SimW W M S0 s tmps w S B V T) {l : Nat} (hl : s.hp l = some (wE t i)) (i' : Nat) :
 w.heap[B l]? = some (.stringIter t i) ∧ ∃ T', SimW W M S0 (s.set l (some (wE t i'))) tmps (w.iterAt (B l) t i') S B V T' := by
 obtain ⟨t0, cs, ⟨_, r0⟩, r2, r3, r4, r5, r6⟩ := h.rows.ro l _ hl
 obtain ⟨hT, hb⟩ := r0
 refine ⟨hb, ?_⟩
 have hlt := (Array.getElem?_eq_some_iff.1 hb).1
 have hTb : T l (B l) := (hT _).2 rfl
 have hnew := Lib.iterAt_heap w (B l) t i i' hb
 have hoth : ∀ g, g ≠ B l → (w.iterAt (B l) t i').heap[g]? = w.heap[g]? := fun g hg => by
  simp [World.iterAt, Array.getElem?_setIfInBounds_ne (Ne.symm hg)]
 have hown : ∀ g, ¬ (V l).ownBlock = some g := fun g e => by
  have := r6 g e
  subst this
  exact h.rows.nd l _ _ hl e hTb
 have hgr : Grown w (w.iterAt (B l) t i') (Blk V T l) := ⟨rfl, rfl, rfl, by simp [World.iterAt], fun g _ hg => hoth g (fun e => hg (by rw [e]; exact .inr hTb))⟩
 refine ⟨_, h.inpl (ob' := wE t i') hl rfl hgr ?_ (fun g hg => hg)⟩
 exact ⟨t0, [], ⟨fun t' e => (by cases e), hT, hnew⟩, ⟨rfl, rfl, fun g hg => by rw [(hT g).1 hg]; exact (Array.getElem?_eq_some_iff.1 hnew).1⟩, fun x hx => (by cases hx), Nat.succ_pos 0, by
  have := jT (w' := w.iterAt (B l) t i') r5 (fun g hg => absurd hg (hown g))
  exact ⟨rfl, this.2.imp id (fun ⟨g, cap1, cur, q1, q2⟩ => absurd (show (V l).ownBlock = some g by rw [q1]; rfl) (hown g))⟩, r6⟩
theorem aGC {a : Act} (h : SimW W M S0 s a.tmps w S B V T) {l : Nat} (hl : s.hp l = some (wE t i)) {x : Operand} (hx : s.ev x = .optr l 0 [] 0) : a.eval x = .pointer (some ⟨B l, 0, none⟩) := by
 have := yY h hx (fun c => by simp)
 unfold RV at this
 obtain ⟨ob, ho1, e⟩ := this
 rw [hl] at ho1; cases ho1
 exact e
theorem aFF {d : Nat} {x : Operand} {xt : TypeId} (hx : s.ev x = .v (.string t)) (hu : P.underlying xt = some .string) (hf : s.hp (d + 1) = none) (hin : inN n (some d) = true) (h : uN P n ops r ((s.set (d + 1) (some (wE t 0))).put (some d) (.optr (d + 1) 0 [] 0)) K) (hok : okL (d + 1) = true := by rfl) : uN P n ops (⟨some d, .range xt x, ty, pos, after, none⟩ :: r) s K := by
 refine aE3 rfl (fun W M S0 a w hs K' Q hK => ?_) h
 obtain ⟨hn, hdf, S, B, V, T, hw⟩ := hs
 have hex := uE hw (x := x) (b := .string t) (by rw [hx]; rfl)
 refine yQ (v := .pointer (some ⟨w.heap.size, 0, none⟩)) (w1 := w.iter t 0) ?_ (hK _ _ (Sim.put hn hdf (hw.newIter hok hf) (some d) (by unfold RV; exact ⟨_, yV, by simp [upd_same]⟩) hin))
 simp only [execOp, hex, Sem.run_bind, run_range_string w xt t hu, Result.andThen_ok, Sem.run_pure]
theorem aDQ {d l : Nat} {x : Operand} (hx : s.ev x = .optr l 0 [] 0) (hl : s.hp l = some (wE t i)) (hi : i < t.size) (h8 : (t[i]'hi).toNat < 128) (hin : inN n (some d) = true) (h : uN P n ops r ((s.set l (some (wE t (i + 1)))).put (some d) (.tup [.v (.bool true), .v (.int .i64 (i : Int)), .v (.int .i32 ((t[i]'hi).toNat : Int))])) K) : uN P n ops (⟨some d, .next x true, ty, pos, after, none⟩ :: r) s K := by
 refine aE3 rfl (fun W M S0 a w hs K' Q hK => ?_) h
 obtain ⟨hn, hdf, S, B, V, T, hw⟩ := hs
 have hex := aGC hw hl hx
 obtain ⟨hb, T', hsim⟩ := hw.iter hl (i + 1)
 refine yQ (v := .tuple #[.bool true, .int .i64 i, .int .i32 (t[i]'hi).toNat]) (w1 := w.iterAt (B l) t (i + 1)) ?_ (hK _ _ (Sim.put hn hdf hsim (some d) ?_ hin))
 · simp only [execOp, hex, Sem.run_bind, Lib.run_next_ascii_at w (B l) t i ty hb hi h8, Result.andThen_ok, Sem.run_pure]
 · unfold RV
   refine ⟨[.bool true, .int .i64 i, .int .i32 (t[i]'hi).toNat], rfl, ?_⟩
   unfold RVs
   refine ⟨_, _, rfl, by unfold RV; exact ⟨rfl, rfl⟩, ?_⟩
   unfold RVs
   refine ⟨_, _, rfl, by unfold RV; exact ⟨rfl, rfl⟩, ?_⟩
   unfold RVs
   refine ⟨_, _, rfl, by unfold RV; exact ⟨rfl, rfl⟩, ?_⟩
   unfold RVs; rfl
theorem aIf {d l : Nat} {x : Operand} (hx : s.ev x = .optr l 0 [] 0) (hl : s.hp l = some (wE t i)) (hi : ¬ i < t.size) (hin : inN n (some d) = true) (h : uN P n ops r (s.put (some d) (.tup [.v (.bool false)])) K) : uN P n ops (⟨some d, .next x true, ty, pos, after, none⟩ :: r) s K := by
 refine aE3 rfl (fun W M S0 a w hs K' Q hK => ?_) h
 obtain ⟨hn, hdf, S, B, V, T, hw⟩ := hs
 have hex := aGC hw hl hx
 obtain ⟨hb, _, _⟩ := hw.iter hl i
 refine yQ (v := .tuple #[.bool false]) (w1 := w) ?_ (hK _ _ (Sim.put hn hdf hw (some d) ?_ hin))
 · simp only [execOp, hex, Sem.run_bind, Lib.run_next_end_at w (B l) t i ty hb hi, Result.andThen_ok, Sem.run_pure]
 · unfold RV
   refine ⟨[.bool false], rfl, ?_⟩
   unfold RVs
   refine ⟨_, _, rfl, by unfold RV; exact ⟨rfl, rfl⟩, ?_⟩
   unfold RVs; rfl
end
def aE1 : List Nat → St → St
 | [], s => s
 | l :: r, s => aE1 r (s.drop l)
section
variable {P : Program} {Θ : Tab} {n : Nat} {ops : Array Oper} {s : St} {K : St → Prop} {r : List Oper} {ty : TypeId} {pos : String} {after : Array Edge}
variable {W : World} {M : Hand} {S0 : Nat → Prop} {S : Nat → Prop} {B : Nat → Nat} {V : Nat → Value} {T : Nat → Nat → Prop} {tmps : Array Value} {w w' : World}
theorem SimW.ext (h : SimW W M S0 s tmps w S B V T) {D : Nat → Prop} (hg : Grown w w' D) (hS : ∀ g, S g → ¬ D g) (hR : ∀ l ob g, s.hp l = some ob → Blk V T l g → ¬ D g) (hD : ∀ g, D g → g < W.heap.size → M.bl g) : SimW W M S0 s tmps w' S B V T := by
 have hsame : ∀ b, S b → w'.heap[b]? = w.heap[b]? := fun b hb => hg.block b (h.slt b hb).1 (hS b hb)
 have hrow : ∀ l ob g, s.hp l = some ob → Blk V T l g → w'.heap[g]? = w.heap[g]? := fun l ob g ho hb => hg.block g (h.rows.me l ob g ho hb).2.1 (hR l ob g ho hb)
 refine ⟨h.below.trans hg hD, h.s0, fun b hs => ⟨Nat.lt_of_lt_of_le (h.slt b hs).1 hg.size, (h.slt b hs).2⟩, fun t => ?_, ⟨fun l ob ho => ?_, fun l ob g ho hg' => ?_, h.rows.nd, h.rows.ds, fun l es e => ?_⟩, h.pin, h.gl⟩
 · exact RV.carry (fun _ h => h) hsame _ _ (fun l _ => Same.refl l) (h.sl t)
 · exact (h.rows.ro l ob ho).carry (fun _ h => h) hsame (fun l _ => Same.refl l) (fun g hg' => hrow l ob g ho (.inr hg')) (fun g hg' => hrow l ob g ho (.inl hg'))
 · obtain ⟨a, b, c⟩ := h.rows.me l ob g ho hg'
   exact ⟨a, Nat.lt_of_lt_of_le b hg.size, c⟩
 · obtain ⟨⟨t, ho⟩, k1, arr, clock, k2, k3⟩ := h.rows.mp l es e
   exact ⟨⟨t, ho⟩, k1, arr, clock, (hrow l _ _ ho (.inr k1)).trans k2, k3⟩
theorem aDm : ∀ (Ls : List Nat) {s : St}, Ls.all okL = true → SimW W M S0 s tmps w S B V T → SimW W M S0 (aE1 Ls s) tmps w S B V T
 | [], s, _, h => h
 | l :: r, s, hk, h => by
  simp only [List.all_cons, Bool.and_eq_true] at hk
  exact aDm r hk.2 (h.drop l hk.1)
theorem aEt : ∀ (Ls : List Nat) {s : St} {l : Nat} {o : OB}, (aE1 Ls s).hp l = some o → l ∉ Ls ∧ ∃ o', s.hp l = some o'
 | [], s, l, o, h => ⟨by simp, o, h⟩
 | a :: r, s, l, o, h => by
  obtain ⟨h1, o', h2⟩ := aEt r h
  have h3 : (bif Nat.beq l a then none else xR a (s.hp l)) = some o' := h2
  cases hb : Nat.beq l a with
  | true => rw [hb] at h3; cases h3
  | false =>
   rw [hb] at h3
   have hne : l ≠ a := fun e => by rw [e] at hb; simp at hb
   refine ⟨by simp only [List.mem_cons, not_or]; exact ⟨hne, h1⟩, ?_⟩
   cases hs : s.hp l with
   | none => rw [hs] at h3; cases h3
   | some q => exact ⟨q, rfl⟩
theorem aGJ {f : FuncId} {xs ys : List AV} {d : Nat} {x : Operand} {ags : Array Operand} {ts : Array TypeId} {args : List AV} {rin : List OB} {v : Value} (Ls : List Nat) (hac : ACL P f args rin v) (hv : v.oneCell' = true) (hx : s.ev x = .fn f xs ys) (ha : s.datHL Ls (xs ++ ags.toList.map s.ev ++ ys) = aAh Ls args) (hh : handed s Ls Ls rin) (hnd : aDX Ls = true)
 (hok : uZ s Ls (xs ++ ags.toList.map s.ev ++ ys) = true) (hwi : yC (fun l => (xC 0 rin l).isSome) args = true) (hwe : rin.all (fun ob => zO (fun l => (xC 0 rin l).isSome) ob.e) = true) (hfl : (zX Ls (xY (xs ++ ags.toList.map s.ev ++ ys))).isEmpty = true) (hc : kJ ags.toList = true)
 (hL : Ls.all okL = true) (hin : inN n (some d) = true) (h : uN P n ops r ((aE1 Ls s).put (some d) (.v v)) K) : uN P n ops (⟨some d, .call ⟨.value x, ags, ts⟩, ty, pos, after, none⟩ :: r) s K := by
 refine aE3 rfl (fun W M S0 a w hs K' Q hK => ?_) h
 obtain ⟨hn, hdf, S, B, V, T, hw⟩ := hs
 have hgv := yY hw hx (fun c => by simp)
 unfold RV at hgv
 obtain ⟨us, vs, eg, r1, r2⟩ := hgv
 have hcc : HandC s (xs ++ ags.toList.map s.ev ++ ys) args rin Ls := ⟨ha, hh, aB0 hnd, hok, hwi, hwe, by simpa using hfl⟩
 obtain ⟨hrows, hargs, hmem⟩ := aDs hw (RVs.app (RVs.app r1 (jo hw _ (zb hc))) r2) hcc
 unfold Oper.wp
 rw [aBL eg hac.1]
 show Calls P f _ w _
 refine (hac.2 w S _ _ _ _ (fun b hb => (hw.slt b hb).1) (fun g y hg => hw.glob (fun _ h => h) hg) hrows hargs).mono ?_
 rintro e w' ⟨rfl, hgr⟩
 show K' (a.put (some d) v) w'
 have hD : ∀ g, HB (xC 0 rin) (fun l => V (xS 0 Ls l)) (fun l => T (xS 0 Ls l)) g → ∃ l ob, l ∈ Ls ∧ s.hp l = some ob ∧ Blk V T l g := by
  rintro g ⟨l, ob, ho, hb⟩
  obtain ⟨k1, k2⟩ := hmem l ob ho
  exact ⟨_, _, k1, k2, hb⟩
 have hsim := (aDm Ls hL hw).ext hgr (fun g hg hd => by
  obtain ⟨l, ob, _, k2, k3⟩ := hD g hd
  exact (hw.rows.me l ob g k2 k3).1 hg) (fun l ob g ho hb hd => by
  obtain ⟨l', ob', k1, k2, k3⟩ := hD g hd
  obtain ⟨q1, o2, q2⟩ := aEt Ls ho
  exact q1 (hw.rows.ds l l' o2 ob' g q2 k2 hb k3 ▸ k1)) (fun g hd hlt => by
  obtain ⟨l, ob, _, k2, k3⟩ := hD g hd
  exact ((hw.rows.me l ob g k2 k3).2.2).resolve_left (by omega))
 exact hK _ _ (Sim.put hn hdf hsim (some d) (by unfold RV; exact ⟨rfl, hv⟩) hin)
end
section
variable {P : Program} {t : TypeId} {x y : Operand} {a b c : Int}
theorem jC (h0 : 0 ≤ a) (hb : 0 < b) (hc : a % b = c) : yZ P .rem t x y (.int .i64 a) (.int .i64 b) (.int .i64 c) := fun w => by
 have hb0 : b ≠ 0 := by omega
 have hr : (Op.intDiv .rem .i64 a b).run P w = .ok (.int .i64 (a.tmod b)) w := by simp [Op.intDiv, hb0]
 subst hc
 rw [← Int.tmod_eq_emod_of_nonneg h0]
 simp [eqGuard, binOp, hr]
theorem aH2 (h0 : 0 ≤ a) (h1 : a ≤ 9223372036854775807) (hb : 1 < b) (hc : a / b = c) : yZ P .quo t x y (.int .i64 a) (.int .i64 b) (.int .i64 c) := fun w => by
 have hb0 : b ≠ 0 := by omega
 have hle : a / b ≤ a := Int.ediv_le_self b h0
 have hnn : 0 ≤ a / b := Int.ediv_nonneg h0 (by omega)
 have hw : IntKind.i64.wrap (a.tdiv b) = c := by rw [Int.tdiv_eq_ediv_of_nonneg h0, IntKind.wrap_i64, hc]; omega
 have hr : (Op.intDiv .quo .i64 a b).run P w = .ok (.int .i64 c) w := by simp [Op.intDiv, hb0, hw]
 simp [eqGuard, binOp, hr]
theorem wO (h : a * b = c) (hl : -9223372036854775808 ≤ c) (hu : c ≤ 9223372036854775807) : yZ P .mul t x y (.int .i64 a) (.int .i64 b) (.int .i64 c) := fun w => by
 have hw : IntKind.i64.wrap (a * b) = c := by rw [IntKind.wrap_i64, h]; omega
 simp [eqGuard, binOp, Op.intArith, hw]
end
section
variable {Θ : Tab} {s : St} {d : Option Tmp} {ty : TypeId} {pos : String} {after : Array Edge} {g : Option (Nat × Bool)}
theorem qR {x : Operand} {n : Nat} (hx : s.ev x = .v (.int .u8 (n : Int))) (hn : n < 256) : Pre Tryd.prog Θ ⟨d, .convert 5 3 x, ty, pos, after, g⟩ s ⟨.v (.int .i64 (n : Int)), none⟩ :=
 aJO (fun w => by
  have hw : IntKind.i64.wrap (n : Int) = n := by rw [IntKind.wrap_i64]; omega
  have h1 : (underlying 5).run Tryd.prog w = .ok (.int .u8) w := run_underlying Tryd.underlying5 w
  have h2 : (underlying 3).run Tryd.prog w = .ok (.int .i64) w := run_underlying Tryd.underlying3 w
  simp [convert, h1, h2, Conv.intToInt, hw]) hx rfl
end
structure Rf where
 name : ByteArray
 head : Int
 ver : Int
 gone : Bool
def xh (r : Rf) : AV := .agg [.v (.string r.name), .v (.int .i64 r.head), .v (.int .i64 r.ver), .v (.bool r.gone)]
theorem aCD (e : Rf) : yI (xh e) := by unfold xh; simp [yI, zH]
theorem aJu {a b : Rf} : a = b ↔ a.name = b.name ∧ a.head = b.head ∧ a.ver = b.ver ∧ a.gone = b.gone := by
 cases a; cases b; simp
theorem aEX {P : Program} {t : TypeId} {x y : Operand} {a b c : Int} (h0 : 0 ≤ a) (hb : 0 < b) (h1 : b ≤ 1000) (h2 : a ≤ 1000000000) (hc : c = a % b) : yZ P .rem t x y (.int .i64 a) (.int .i64 b) (.int .i64 c) := fun w => by
 have hb0 : b ≠ 0 := by omega
 have hr : (Op.intDiv .rem .i64 a b).run P w = .ok (.int .i64 (a.tmod b)) w := by simp [Op.intDiv, hb0]
 subst hc
 rw [← Int.tmod_eq_emod_of_nonneg h0]
 simp [eqGuard, binOp, hr]
theorem aDD {α : Type} {xs : List α} {k : Nat} {y : α} (h : k < xs.length) : (xs.set k y)[k]? = some y := by simp [h]
attribute [local irreducible] xM xO xg yE y7 Pre ACG
theorem aI0 {c : Rf} : AC Tryd.prog 65 [xh c, xh c] ⟨.v (.bool true), []⟩ := by
 have hb : (c.gone != c.gone) = false := by simp
 refine qrf Tryd.func65 Tryd.ntmps65 Tryd.results65 ?_; conv => whnf
 repeat (first | (refine qp (xG (aBV rfl) rfl rfl rfl) ?_; conv => whnf) | (refine qz ?_; conv => whnf) | (refine qp (xG (vz Tryd.underlying4) rfl rfl rfl) ?_; rw [hb]; conv => whnf))
 exact xA rfl trivial
theorem aHR {l : List Rf} (hm : l.length ≤ maxLen) : AC Tryd.prog 39 [.lst 4 (l.map xh), .lst 4 (l.map xh)] ⟨.v (.bool true), []⟩ := by
 unfold maxLen at hm
 refine qrf Tryd.func39 Tryd.ntmps39 Tryd.results39 ?_; conv => whnf
 repeat ((refine qz ?_; conv => whnf))
 refine xZ (ι := { k : Nat // k ≤ l.length }) (fun k => ⟨[(0, .lst 4 (l.map xh)), (1, .lst 4 (l.map xh)), (5, .v (.int .i64 (k.1 : Int)))], []⟩) (fun k => l.length - k.1) ⟨0, Nat.zero_le _⟩ (by exact qle) ?_
 rintro ⟨k, hk⟩
 dsimp only
 conv => whnf
 by_cases hlt : k < l.length
 · repeat ((refine qz ?_; conv => whnf))
   refine .inl ⟨by kernel_rfl, ?_⟩
   conv => whnf
   repeat ((first | refine qz ?_ | refine qc (aI0 (c := l[k])) ?_); conv => whnf)
   exact ⟨⟨k + 1, hlt⟩, by exact qle, by simp; omega⟩
 · repeat ((refine qz ?_; conv => whnf))
   exact xA rfl trivial
end Go.Proofs.YtoaifonjemlfcaaDoor.AM
