/- Texts of the machine over data, folded. -/
import Derived.Test.YtfomjajdfaoogaaGreatDoorKa5
import Derived.Test.YtfomjajdfaoogaaGreatDoorKa7
import Derived.Test.YtfomjajdfaoogaaGreatDoorCards
import Derived.Test.YtfomjajdfaoogaaGreatDoorTie
import Derived.ProofKit
import Derived.OpenShut
import Derived.ShutString
import Derived.LaidMore
import Derived.Lay
import Derived.OpenVars
import Derived.SevenTiedAt
import Derived.Stop.Joined
import Derived.ChangeOld
import Derived.Below
import Derived.Test.YtfomjajdfaoogaaGreatDoorKa6
import Derived.Laws.StructEq
set_option linter.unusedVariables false
set_option linter.unusedSimpArgs false
set_option maxRecDepth 100000
namespace Go.Proofs.YtfomjajdfaoogaaGreatDoor.AM
open Go Go.RowKit
def aBs : List Int → Int → Nat → Int
 | [], _, _ => -1
 | y :: l, x, k => if x = y then k else aBs l x (k + 1)
theorem aJl : ∀ {l : List Int} {x : Int} {k : Nat}, x ∈ l → 0 ≤ aBs l x k
 | y :: l, x, k, h => by
  unfold aBs
  split
  · omega
  · rename_i hne
    rcases List.mem_cons.1 h with e | e
    · exact absurd e hne
    · exact aJl e
theorem aJm : ∀ {l : List Int} {x : Int} {k : Nat}, x ∉ l → aBs l x k = -1
 | [], x, k, h => rfl
 | y :: l, x, k, h => by
  unfold aBs
  rw [List.mem_cons, not_or] at h
  rw [if_neg h.1]; exact aJm h.2
theorem aNx {l : List Int} {x : Int} {k : Nat} (h : k < l.length) : aBs (l.drop k) x k = if x = l[k] then (k : Int) else aBs (l.drop (k + 1)) x (k + 1) := by
 rw [List.drop_eq_getElem_cons h, aBs]
attribute [local irreducible] xI xO xQ xX yG Pre ACG
theorem aJL {l : List Int} {x : Int} (hm : l.length ≤ maxLen) : AC Tryz.prog 145 [.lst 1 (l.map yo), .v (.int .i64 x)] ⟨.v (.int .i64 (aBs l x 0)), []⟩ := by
 unfold maxLen at hm
 refine qrf Tryz.func145 Tryz.ntmps145 Tryz.results145 ?_; conv => whnf
 repeat ((refine qz ?_; conv => whnf))
 refine xZ (ι := { k : Nat // k ≤ l.length ∧ aBs (l.drop k) x k = aBs l x 0 }) (fun k => ⟨[(0, .lst 1 (l.map yo)), (1, .v (.int .i64 x)), (7, .v (.int .i64 (l.length : Int))), (8, .v (.int .i64 (k.1 : Int)))], []⟩) (fun k => l.length - k.1) ⟨0, Nat.zero_le _, rfl⟩ (by exact qle) ?_
 rintro ⟨k, hk, hd⟩
 dsimp only at hk hd ⊢
 conv => whnf
 by_cases hlt : k < l.length
 · rw [aNx hlt] at hd
   by_cases he : x = l[k]
   · rw [if_pos he] at hd
     rw [← hd]
     repeat ((refine qz ?_; conv => whnf))
     exact xD rfl trivial
   · rw [if_neg he] at hd
     repeat ((refine qz ?_; conv => whnf))
     exact ⟨⟨k + 1, hlt, hd⟩, by exact qle, by simp; omega⟩
 · rw [← hd, List.drop_eq_nil_of_le (by omega)]
   repeat ((refine qz ?_; conv => whnf))
   exact xD rfl trivial
theorem aIf {l : List Int} {x : Int} (hm : l.length ≤ maxLen) (h : x ∈ l) : AC Tryz.prog 132 [.lst 1 (l.map yo), .v (.int .i64 x)] ⟨.v (.bool true), []⟩ := by
 have hge := aJl (k := 0) h
 refine qrf Tryz.func132 Tryz.ntmps132 Tryz.results132 ?_; conv => whnf
 repeat ((first | refine qz ?_ | refine qc (aJL hm) ?_); conv => whnf)
 exact xD rfl trivial
theorem aIe {l : List Int} {x : Int} (hm : l.length ≤ maxLen) (h : x ∉ l) : AC Tryz.prog 132 [.lst 1 (l.map yo), .v (.int .i64 x)] ⟨.v (.bool false), []⟩ := by
 have hge := aJm (k := 0) h
 have hac := aJL (x := x) hm
 rw [hge] at hac
 refine qrf Tryz.func132 Tryz.ntmps132 Tryz.results132 ?_; conv => whnf
 repeat ((first | refine qz ?_ | refine qc (hac) ?_); conv => whnf)
 exact xD rfl trivial
theorem aJV {n : Nat} {ps : List Int} (hn : n ≤ 1048576) (hm : ps.length ≤ maxLen) : AC Tryz.prog 106 [.lst 1 (ps.map yo), .v (.int .i64 ((n : Int) + 1))] ⟨.v (.bool (jq n ps)), []⟩ := by
 have hm' := hm
 unfold maxLen at hm'
 by_cases h2 : ps.length ≤ 2
 case neg =>
  rw [aCv (fun h => h2 h.1)]
  refine qrf Tryz.func106 Tryz.ntmps106 Tryz.results106 ?_; conv => whnf
  by_cases h5 : n = 0
  · repeat ((refine qz ?_; conv => whnf))
    exact xD rfl trivial
  · repeat ((refine qz ?_; conv => whnf))
    exact xD rfl trivial
 by_cases h3 : ps.length = 0 ↔ n = 0
 case neg =>
  rw [aCv (fun h => h3 h.2.1)]
  by_cases h4 : ps.length = 0
  · have h5 : ¬ n = 0 := fun e => h3 ⟨fun _ => e, fun _ => h4⟩
    refine qrf Tryz.func106 Tryz.ntmps106 Tryz.results106 ?_; conv => whnf
    repeat ((first | refine qz ?_ | refine qp (xC (aCP Tryz.underlying4) rfl rfl rfl) ?_); conv => whnf)
    exact xD rfl trivial
  · have h5 : n = 0 := Classical.byContradiction fun e => h3 ⟨fun q => absurd q h4, fun q => absurd q e⟩
    refine qrf Tryz.func106 Tryz.ntmps106 Tryz.results106 ?_; conv => whnf
    repeat ((first | refine qz ?_ | refine qp (xC (aCP Tryz.underlying4) rfl rfl rfl) ?_); conv => whnf)
    exact xD rfl trivial
 have fin : ∀ k, k ≤ ps.length → ¬ k < ps.length → (∀ i, i < k → aFi n ps i) → jq n ps = true := fun k h1 h2' h3' => aCB ⟨h2, h3, fun i hi => h3' i (by omega)⟩
 have bad : ∀ k, k < ps.length → ¬ aFi n ps k → jq n ps = false := fun k h1 h2' => aCv (fun h => h2' (h.2.2 k h1))
 have loop : ∀ (s : St), s.le ⟨[(0, .lst 1 (ps.map yo)), (1, .v (.int .i64 ((n : Int) + 1))), (20, .lst 1 (ps.map yo)), (21, .v (.int .i64 (ps.length : Int))), (22, .v (.int .i64 0))], []⟩ → True := fun _ _ => trivial
 by_cases h4 : ps.length = 0
 · have h5 : n = 0 := h3.1 h4
   rw [fin 0 (by omega) (by omega) (fun i h => by omega)]
   refine qrf Tryz.func106 Tryz.ntmps106 Tryz.results106 ?_; conv => whnf
   repeat ((first | refine qz ?_ | refine qp (xC (aCP Tryz.underlying4) rfl rfl rfl) ?_); conv => whnf)
   refine xZ (ι := Unit) (fun _ => ⟨[(21, .v (.int .i64 (ps.length : Int))), (22, .v (.int .i64 0))], []⟩) (fun _ => 0) () ⟨trivial, .inl ⟨rfl, rfl⟩, .inl ⟨rfl, rfl⟩, trivial⟩ ?_
   rintro ⟨⟩
   conv => whnf
   repeat ((refine qz ?_; conv => whnf))
   exact xD rfl trivial
 · have h5 : ¬ n = 0 := fun e => h4 (h3.2 e)
   refine qrf Tryz.func106 Tryz.ntmps106 Tryz.results106 ?_; conv => whnf
   repeat ((first | refine qz ?_ | refine qp (xC (aCP Tryz.underlying4) rfl rfl rfl) ?_); conv => whnf)
   refine xZ (ι := { k : Nat // k ≤ ps.length ∧ ∀ i, i < k → aFi n ps i }) (fun k => ⟨[(0, .lst 1 (ps.map yo)), (1, .v (.int .i64 ((n : Int) + 1))), (20, .lst 1 (ps.map yo)), (21, .v (.int .i64 (ps.length : Int))), (22, .v (.int .i64 (k.1 : Int)))], []⟩) (fun k => ps.length - k.1) ⟨0, Nat.zero_le _, fun i h => by omega⟩ (by exact qle) ?_
   rintro ⟨k, hk', hg⟩
   dsimp only at hk' hg ⊢
   conv => whnf
   by_cases hlt : k < ps.length
   case neg =>
    rw [fin k hk' hlt hg]
    repeat ((refine qz ?_; conv => whnf))
    exact xD rfl trivial
   have hl : (ps.take k).length ≤ maxLen := by unfold maxLen; simp; omega
   by_cases h1 : ps[k] < 1
   · rw [bad k hlt (fun ⟨_, q1, q2, _⟩ => by omega)]
     repeat ((refine qz ?_; conv => whnf))
     exact xD rfl trivial
   by_cases h6 : ps[k] ≥ (n : Int) + 1
   · rw [bad k hlt (fun ⟨_, q1, q2, _⟩ => by omega)]
     repeat ((refine qz ?_; conv => whnf))
     exact xD rfl trivial
   by_cases h7 : ps[k] ∈ ps.take k
   · rw [bad k hlt (fun ⟨_, _, _, q⟩ => q h7)]
     repeat ((first | refine qz ?_ | refine qp (aCu (h := k) (xs := ps) (f := yo) (by omega) rfl rfl rfl) ?_ | refine qc (aIf hl h7) ?_); conv => whnf)
     exact xD rfl trivial
   · repeat ((first | refine qz ?_ | refine qp (aCu (h := k) (xs := ps) (f := yo) (by omega) rfl rfl rfl) ?_ | refine qc (aIe hl h7) ?_); conv => whnf)
     exact ⟨⟨k + 1, hlt, fun i hi => by
      rcases Nat.lt_or_ge i k with h | h
      · exact hg i h
      · have : i = k := by omega
        subst this; exact ⟨hlt, by omega, by omega, h7⟩⟩, by exact qle, by simp; omega⟩
theorem aC1 {n : Nat} {c : Cmt} (hn : n ≤ 1048576) (hm : c.1.length ≤ maxLen) (hm2 : c.2.length ≤ maxLen) (hk : ∀ e ∈ c.2, e.1.size ≤ maxLen) : AC Tryz.prog 66 [xS c, .v (.int .i64 ((n : Int) + 1))] ⟨.v (.bool (u6 n c)), []⟩ := by
 have hp := aJV (ps := c.1) hn hm
 unfold u6
 cases hb : jq n c.1 with
 | false =>
  rw [hb] at hp
  rw [Bool.and_false]
  refine qrf Tryz.func66 Tryz.ntmps66 Tryz.results66 ?_; conv => whnf
  repeat ((first | refine qz ?_ | refine qc (hp) ?_); conv => whnf)
  exact xD rfl trivial
 | true =>
  rw [hb] at hp
  rw [Bool.and_true]
  refine qrf Tryz.func66 Tryz.ntmps66 Tryz.results66 ?_; conv => whnf
  repeat ((first | refine qz ?_ | refine qc (hp) ?_ | refine qc (aDr hm2 hk) ?_); conv => whnf)
  exact xD rfl trivial
theorem aJH {cs : List Cmt} (hn : cs.length ≤ maxLen) (hc : ∀ c ∈ cs, c.1.length ≤ maxLen ∧ c.2.length ≤ maxLen ∧ ∀ e ∈ c.2, e.1.size ≤ maxLen) : AC Tryz.prog 119 [.lst 2 (cs.map xS)] ⟨.v (.bool (decide (cs.length ≤ 60) && vN 0 cs)), []⟩ := by
 have hn' := hn
 unfold maxLen at hn'
 by_cases hin : cs.length ≤ 60
 case neg =>
  have : decide (cs.length ≤ 60) = false := by simpa using hin
  rw [this, Bool.false_and]
  refine qrf Tryz.func119 Tryz.ntmps119 Tryz.results119 ?_; conv => whnf
  repeat ((refine qz ?_; conv => whnf))
  exact xD rfl trivial
 have : decide (cs.length ≤ 60) = true := by simpa using hin
 rw [this, Bool.true_and]
 refine qrf Tryz.func119 Tryz.ntmps119 Tryz.results119 ?_; conv => whnf
 repeat ((refine qz ?_; conv => whnf))
 refine xZ (ι := { k : Nat // k ≤ cs.length ∧ vN k (cs.drop k) = vN 0 cs }) (fun k => ⟨[(8, .lst 2 (cs.map xS)), (9, .v (.int .i64 (cs.length : Int))), (10, .v (.int .i64 (k.1 : Int)))], []⟩) (fun k => cs.length - k.1) ⟨0, Nat.zero_le _, rfl⟩ (by exact qle) ?_
 rintro ⟨k, hk', hd⟩
 dsimp only at hk' hd ⊢
 conv => whnf
 by_cases hlt : k < cs.length
 case neg =>
  rw [← hd, List.drop_eq_nil_of_le (by omega)]
  repeat ((refine qz ?_; conv => whnf))
  exact xD rfl trivial
 obtain ⟨q1, q2, q3⟩ := hc _ (List.getElem_mem hlt)
 rw [aGO hlt] at hd
 have hac := aC1 (n := k) (c := cs[k]) (by omega) q1 q2 q3
 cases hb : u6 k cs[k] with
 | false =>
  rw [hb, Bool.false_and] at hd
  rw [hb] at hac
  rw [← hd]
  repeat (first | (refine qz ?_; conv => whnf) | (refine qc (hac) ?_; conv => whnf) | (refine qr (y8 rfl rfl rfl rfl rfl (by conv => lhs; whnf) rfl) ?_; conv => whnf))
  exact xD rfl trivial
 | true =>
  rw [hb, Bool.true_and] at hd
  rw [hb] at hac
  repeat (first | (refine qz ?_; conv => whnf) | (refine qc (hac) ?_; conv => whnf) | (refine qr (y8 rfl rfl rfl rfl rfl (by conv => lhs; whnf) rfl) ?_; conv => whnf))
  exact ⟨⟨k + 1, hlt, hd⟩, by exact qle, by simp; omega⟩
theorem aC2 {cs : List Cmt} (hn : cs.length ≤ maxLen) (hc : ∀ c ∈ cs, c.1.length ≤ maxLen ∧ c.2.length ≤ maxLen ∧ ∀ e ∈ c.2, e.1.size ≤ maxLen) : AC Tryz.prog 81 [.lst 2 (cs.map xS)] ⟨.v (.bool (uO cs)), []⟩ := by
 have hn' := hn
 unfold maxLen at hn'
 unfold uO
 by_cases h0 : 1 ≤ cs.length
 · have : decide (1 ≤ cs.length ∧ cs.length ≤ 60) = decide (cs.length ≤ 60) := by simp [h0]
   rw [this]
   refine qrf Tryz.func81 Tryz.ntmps81 Tryz.results81 ?_; conv => whnf
   repeat ((first | refine qz ?_ | refine qc (aJH hn hc) ?_); conv => whnf)
   exact xD rfl trivial
 · have : decide (1 ≤ cs.length ∧ cs.length ≤ 60) = false := by simp [h0]
   rw [this, Bool.false_and]
   refine qrf Tryz.func81 Tryz.ntmps81 Tryz.results81 ?_; conv => whnf
   repeat ((refine qz ?_; conv => whnf))
   exact xD rfl trivial
def comOK (N : Nat) (cs : List Cmt) : Prop := ∀ c ∈ cs, c.1.length ≤ N ∧ c.2.length ≤ N ∧ ∀ e ∈ c.2, e.1.size ≤ N
theorem comOK.le {N M : Nat} {cs : List Cmt} (h : comOK N cs) (k : N ≤ M) : comOK M cs := fun c hc => ⟨Nat.le_trans (h c hc).1 k, Nat.le_trans (h c hc).2.1 k, fun e he => Nat.le_trans ((h c hc).2.2 e he) k⟩
end Go.Proofs.YtfomjajdfaoogaaGreatDoor.AM
namespace Go.Proofs.YtfomjajdfaoogaaGreatDoor.AM
open Go Go.RowKit Go.ChangeShapes Go.WideShapes Go.Deep
section
variable {S : Nat → Prop} {w : World}
theorem aHg : ∀ (l : List Int), RL S w (l.map yo) (l.map fun x => .int .i64 x)
 | [] => by simp only [List.map_nil]; exact aGy
 | x :: l => by simp only [List.map_cons]; exact aAi (c1 := [_]) (aFk rfl) (aHg l)
end
section
variable {H : Type} {enc : TypeId × Value → H} {P : Program} {w : World} {base : Nat} {held : Bool}
theorem open_ints {t e : TypeId} {v : Value} {k : Nat} {y : DataW H × List MemPlace} (ht : P.underlying t = some (.slice e)) (he : P.underlying e = some (.int .i64)) (hC : P.cellsOf e = 1) (h : DataW.trod enc P w base (fun _ => true) held k t [v] = some y) :
 ∃ l : List Int, RA (InW w) w (.lst 1 (l.map yo)) [v] ∧ l.length ≤ maxLen := by
 rcases open_slice ht h with ⟨hcs, _⟩ | ⟨a, len, cap, m, n, D, Pl, hcs, hb, hl, hm, hmm, hx, hi⟩
 · exact ⟨[], by rw [hcs]; exact aTQ (by omega), Nat.zero_le _⟩
 · rw [hcs]
   simp at hmm
   subst hmm
   rcases Nat.eq_zero_or_pos len with h0 | hpos
   · subst h0
     refine ⟨[], ?_, Nat.zero_le _⟩
     simp only [List.map_nil]
     unfold RA
     exact ⟨_, _, rfl, Nat.zero_le _, hm, by simp, by omega, .inl rfl⟩
   have hall : ∀ i, i < len → ∃ x : Int, w.cell? (a.add i) = some (.int .i64 x) := fun i hil => by
    obtain ⟨cs', hc, ht'⟩ := hi i (by omega)
    rw [hC, Nat.mul_one] at hc
    obtain ⟨_, hcl, hat⟩ := World.cells?_some hc
    obtain ⟨x, hx, _⟩ := DataW.trod_int he ht'
    subst hx
    have := hat 0 (by omega)
    rw [aDx] at this
    exact ⟨x, this⟩
   obtain ⟨x0, hx0⟩ := hall 0 hpos
   rw [aDx] at hx0
   have hsp := aEX hx0
   obtain ⟨b, off, sp⟩ := a
   simp at hsp
   subst hsp
   have hadd : ∀ j, (⟨b, off, none⟩ : Addr).add j = ⟨b, off + j, none⟩ := fun j => by unfold Addr.add; split <;> simp_all
   obtain ⟨l, hll, hq⟩ := aRS (α := Int) len (fun i x => w.cell? ⟨b, off + i, none⟩ = some (.int .i64 x)) (fun i hil => by
    obtain ⟨x, hx⟩ := hall i hil
    rw [hadd] at hx; exact ⟨x, hx⟩)
   refine ⟨l, ?_, by omega⟩
   unfold RA
   refine ⟨_, _, by rw [List.length_map, hll], by rw [List.length_map]; omega, hm, aQs l, by omega, .inr ⟨b, off, _, rfl, World.block_lt_of_cell? w _ hx0, aHg l, fun j u hu => ?_⟩⟩
   rw [List.getElem?_map] at hu
   obtain ⟨x, hx, rfl⟩ := Option.map_eq_some_iff.1 hu
   obtain ⟨hj, hx⟩ := List.getElem?_eq_some_iff.1 hx
   rw [← hx]; exact hq j hj
end
end Go.Proofs.YtfomjajdfaoogaaGreatDoor.AM
namespace Go.Proofs.YtfomjajdfaoogaaGreatDoor.AM
open Go.ChangeShapes Go.WideShapes Go.ChangeAt Go.RowKit
def lsL : List Int := [0, 128, 16384, 2097152]
theorem aQX : ownKnob Tryz.prog.godebug = none := by kernel_rfl
theorem aGc : laidOutB Tryz.prog = true := by kernel_rfl
def aQJ (w : World) : Prop := 0 < w.heap.size ∧ ∀ k, k < 4 → w.cell? ⟨0, k, none⟩ = some (.int .i64 (lsL.getD k 0))
theorem aKf {W : World} (h : laidMetH Tryz.prog [("loop.example/g00737/impl.leastOfSizes", Rows.laid_loop_example_g00737_impl_leastOfSizes)] W) : aQJ W := by
 have hd0 : (Rows.laid_loop_example_g00737_impl_leastOfSizes : DataW Unit) = .agg (lsL.map fun s => .lit (.int .i64 s)) := by kernel_rfl
 rw [MakeChecks.laidMetH_plain _ _ _ (by kernel_rfl)] at h
 obtain ⟨ps, ⟨g, t, cs, fuel, p, q, hg, ht, hv, hd, _, _⟩, _, _⟩ := h
 obtain rfl := Option.some.inj ((show Tryz.prog.globalNamed "loop.example/g00737/impl.leastOfSizes" = some 0 by kernel_rfl).symm.trans hg)
 obtain rfl := Option.some.inj ((show (Tryz.prog.globals[0]?).map (·.type) = some 59 by kernel_rfl).symm.trans ht)
 obtain ⟨xs, m, _, ex, _, hl, hel⟩ := DataW.trod_array Tryz.underlying59 hd
 have c9 : Tryz.prog.cellsOf 3 = 1 := by kernel_rfl
 have hlen : lsL.length = 4 := rfl
 have hblk : 0 < W.heap.size := by
  have hv' := hv
  unfold World.var? at hv'
  rw [hg] at hv'
  simp only [Option.bind_some] at hv'
  cases hh : W.heap[0]? with
  | none => rw [hh] at hv'; cases hv'
  | some o => exact (Array.getElem?_eq_some_iff.1 hh).1
 refine ⟨hblk, fun r hr => ?_⟩
 have hE := hel r hr
 rw [c9, Nat.mul_one, List.getElem?_eq_getElem (by omega)] at hE
 obtain ⟨z, e1, e2, _⟩ := DataW.trod_int Tryz.underlying3 hE
 have e3 : (xs.map (·.1)) = lsL.map fun s => .lit (.int .i64 s) := by
  have := (Prod.mk.inj ex).1
  rw [hd0] at this
  exact (DataW.agg.inj this).symm
 have e4 : (xs.map (·.1))[r]? = (lsL.map fun s => (DataW.lit (.int .i64 s) : DataW Unit))[r]? := by rw [e3]
 rw [List.getElem?_map, List.getElem?_map, List.getElem?_eq_getElem (by omega : r < xs.length), List.getElem?_eq_getElem (by omega : r < lsL.length), e2] at e4
 have hz : z = lsL.getD r 0 := by
  simp only [Option.map_some, Option.some.injEq, DataW.lit.injEq, Lit.int.injEq] at e4
  have h1 : lsL.getD r 0 = lsL[r]'(by omega) := by rw [List.getD_eq_getElem?_getD, List.getElem?_eq_getElem (by omega)]; rfl
  rw [h1]
  exact e4.2
 rw [World.var?_cell hg hv r, ← hz]
 have : cs.toList[r]? = some (.int .i64 z) := by
  have h0 : ((cs.toList.drop r).take 1)[0]? = some (.int .i64 z) := by rw [e1]; rfl
  simpa using h0
 simpa using this
theorem aL3 {W : World} (h : aQJ W) : ∀ g y, GT g = some y → RA (InW W) W (.ptr y) [.pointer (some ⟨g, 0, none⟩)] := by
 intro g y e
 have hg : g = 0 ∧ y = .agg (lsL.map yo) := by
  unfold GT GTl at e
  cases hb : Nat.beq 0 g with
  | false => simp [List.find?, hb] at e
  | true => simp [List.find?, hb] at e; exact ⟨(Nat.eq_of_beq_eq_true hb).symm, e.symm⟩
 obtain ⟨rfl, rfl⟩ := hg
 unfold RA
 refine ⟨0, 0, lsL.map fun x => .int .i64 x, rfl, h.1, aKV (aHg lsL), fun j u hu => ?_⟩
 rw [List.getElem?_map] at hu
 obtain ⟨x, hx, rfl⟩ := Option.map_eq_some_iff.1 hu
 obtain ⟨hj, hx⟩ := List.getElem?_eq_some_iff.1 hx
 have h1 : lsL.getD j 0 = x := by rw [List.getD_eq_getElem?_getD, List.getElem?_eq_getElem hj, hx]; rfl
 rw [Nat.zero_add, ← h1]
 exact h.2 j hj
end Go.Proofs.YtfomjajdfaoogaaGreatDoor.AM
namespace Go.Proofs.YtfomjajdfaoogaaGreatDoor.AM
open Go Go.RowKit
structure Rf where
 name : ByteArray
 head : Int
 ver : Int
 gone : Bool
def yL (r : Rf) : AV := .agg [.v (.string r.name), .v (.int .i64 r.head), .v (.int .i64 r.ver), .v (.bool r.gone)]
theorem aA3 (e : Rf) : yj (yL e) := by unfold yL; simp [yj, uJ]
theorem aLr {a b : Rf} : a = b ↔ a.name = b.name ∧ a.head = b.head ∧ a.ver = b.ver ∧ a.gone = b.gone := by
 cases a; cases b; simp
theorem aOn {α : Type} {xs : List α} {k : Nat} {y : α} (h : k < xs.length) : (xs.set k y)[k]? = some y := by simp [h]
attribute [local irreducible] xI xO xQ xX yG Pre ACG
end Go.Proofs.YtfomjajdfaoogaaGreatDoor.AM
namespace Go.Proofs.YtfomjajdfaoogaaGreatDoor
open Go.RowKit Go.ChangeShapes Go.WideShapes Go.Deep
section
variable {H : Type} {enc : TypeId × Value → H} {P : Program} {w : World} {base : Nat} {held : Bool}
end
section
variable {H : Type} {enc : TypeId × Value → H} {P : Program} {w : World} {base : Nat} {held : Bool}
theorem aFU {t e : TypeId} {A : Option Addr} {n c : Nat} {d : DataW H} {p : List MemPlace} (ht : P.underlying t = some (.slice e)) (he : P.underlying e = some (.int .u8)) (hC : P.cellsOf e = 1)
 (h : DataW.Trod enc P w base (fun _ => true) held t (.slice A n c) d p) :
 ∃ bs : List UInt8, Rd w 1 A n (bs.map fun b => .int .u8 b.toNat) ∧ n ≤ maxLen := by
 obtain ⟨fuel, hf⟩ := h
 rcases open_ints ht he hC hf with ⟨hcs, _⟩ | ⟨a, len, cap, zs, hcs, _, hl, hm, hzl, _, hcell, hwf⟩
 · simp [Value.cells] at hcs
   obtain ⟨rfl, rfl, rfl⟩ := hcs
   exact ⟨[], ⟨by simp, fun h => absurd h (by omega)⟩, Nat.zero_le _⟩
 · simp [Value.cells] at hcs
   obtain ⟨rfl, rfl, rfl⟩ := hcs
   simp at hzl
   refine ⟨(zs.take n).map fun z => UInt8.ofNat z.toNat, ⟨by simp; omega, fun hn => ?_⟩, Nat.le_trans hl hm⟩
   have h0 := hcell 0 (by omega)
   rw [aDx] at h0
   have hsp := aEX h0
   obtain ⟨b, off, sp⟩ := a
   simp at hsp
   subst hsp
   have hadd : ∀ j, (⟨b, off, none⟩ : Addr).add j = ⟨b, off + j, none⟩ := fun j => by unfold Addr.add; split <;> simp_all
   refine ⟨b, off, rfl, World.block_lt_of_cell? w _ h0, fun j u hu => ?_⟩
   rw [List.map_map, List.getElem?_map] at hu
   have hj : j < (zs.take n).length := by
    rcases Nat.lt_or_ge j (zs.take n).length with h | h
    · exact h
    · rw [List.getElem?_eq_none h] at hu; cases hu
   rw [List.getElem?_eq_getElem hj] at hu
   have hjz : j < zs.length := by rw [List.length_take] at hj; omega
   have hz : (zs.take n)[j] = zs[j] := by simp
   rw [hz] at hu
   have hc := hcell j hjz
   rw [hadd] at hc
   rw [hc, ← Option.some.inj hu]
   have hw := hwf zs[j] (List.getElem_mem hjz)
   have hr : 0 ≤ zs[j] ∧ zs[j] ≤ 255 := by simpa [Lit.wf, IntKind.min, IntKind.max, IntKind.signed, IntKind.bits] using hw
   have e1 : zs.getD j 0 = zs[j] := by simp [hjz]
   rw [e1]
   have e2 : ((UInt8.ofNat zs[j].toNat).toNat : Int) = zs[j] := by
    have : (UInt8.ofNat zs[j].toNat).toNat = zs[j].toNat := by
     rw [UInt8.toNat_ofNat']; exact Nat.mod_eq_of_lt (by omega)
    rw [this]; omega
   simp only [Function.comp, e2]
end
end Go.Proofs.YtfomjajdfaoogaaGreatDoor
namespace Go.Proofs.YtfomjajdfaoogaaGreatDoor.AM
open Go Go.RowKit
def uM (b : UInt8) : AV := .v (.int .u8 b.toNat)
theorem aQq (l : List UInt8) : ∀ x ∈ l.map uM, asz x = 1 := fun x hx => by obtain ⟨_, _, rfl⟩ := List.mem_map.1 hx; rfl
theorem aLt {S : Nat → Prop} {w : World} : ∀ (l : List UInt8), RL S w (l.map uM) (l.map fun b => .int .u8 b.toNat)
 | [] => by simp only [List.map_nil]; exact aGy
 | x :: l => by simp only [List.map_cons]; exact aAi (c1 := [_]) (aFk rfl) (aLt l)
theorem aLi {S : Nat → Prop} {w : World} : ∀ {l : List UInt8} {cs : List Value}, RL S w (l.map uM) cs → cs = l.map fun b => .int .u8 b.toNat
 | [], cs, h => by simp only [List.map_nil] at h; unfold RL at h; exact h
 | x :: l, cs, h => by
  simp only [List.map_cons] at h
  unfold RL at h
  obtain ⟨c1, c2, rfl, h1, h2⟩ := h
  rw [aLi h2]
  unfold uM RA at h1
  rw [h1.1]; rfl
section
variable {P : Program} {t : TypeId} {x y : Operand} {a b c : Int}
theorem vE (h0 : 0 ≤ a) (hb : 0 < b) (hc : a % b = c) : yh P .rem t x y (.int .i64 a) (.int .i64 b) (.int .i64 c) := fun w => by
 have hb0 : b ≠ 0 := by omega
 have hr : (Op.intDiv .rem .i64 a b).run P w = .ok (.int .i64 (a.tmod b)) w := by simp [Op.intDiv, hb0]
 subst hc
 rw [← Int.tmod_eq_emod_of_nonneg h0]
 simp [eqGuard, binOp, hr]
theorem aGJ (h0 : 0 ≤ a) (h1 : a ≤ 9223372036854775807) (hb : 1 < b) (hc : a / b = c) : yh P .quo t x y (.int .i64 a) (.int .i64 b) (.int .i64 c) := fun w => by
 have hb0 : b ≠ 0 := by omega
 have hle : a / b ≤ a := Int.ediv_le_self b h0
 have hnn : 0 ≤ a / b := Int.ediv_nonneg h0 (by omega)
 have hw : IntKind.i64.wrap (a.tdiv b) = c := by rw [Int.tdiv_eq_ediv_of_nonneg h0, IntKind.wrap_i64, hc]; omega
 have hr : (Op.intDiv .quo .i64 a b).run P w = .ok (.int .i64 c) w := by simp [Op.intDiv, hb0, hw]
 simp [eqGuard, binOp, hr]
theorem uh (h : a * b = c) (hl : -9223372036854775808 ≤ c) (hu : c ≤ 9223372036854775807) : yh P .mul t x y (.int .i64 a) (.int .i64 b) (.int .i64 c) := fun w => by
 have hw : IntKind.i64.wrap (a * b) = c := by rw [IntKind.wrap_i64, h]; omega
 simp [eqGuard, binOp, Op.intArith, hw]
theorem qQ {a b : ByteArray} (h : a.size + b.size ≤ 9223372036854775807) : yh P .add t x y (.string a) (.string b) (.string (a ++ b)) := aGK fun w => by
 unfold Op.stringOp
 have : ¬ ((((a.size + b.size : Nat) : Int)) > IntKind.i64.max) := by
  have e : IntKind.i64.max = 9223372036854775807 := by decide
  rw [e]; omega
 simp only [this, if_false]; rfl
end
section
variable {Θ : Tab} {s : St} {d : Option Tmp} {ty : TypeId} {pos : String} {after : Array Edge} {g : Option (Nat × Bool)}
theorem aCY {x : Operand} {n : Nat} (hx : s.ev x = .v (.int .u8 (n : Int))) (hn : n < 256) : Pre Tryz.prog Θ ⟨d, .convert 5 3 x, ty, pos, after, g⟩ s ⟨.v (.int .i64 (n : Int)), none⟩ :=
 aMo (fun w => by
  have hw : IntKind.i64.wrap (n : Int) = n := by rw [IntKind.wrap_i64]; omega
  have h1 : (underlying 5).run Tryz.prog w = .ok (.int .u8) w := run_underlying Tryz.underlying5 w
  have h2 : (underlying 3).run Tryz.prog w = .ok (.int .i64) w := run_underlying Tryz.underlying3 w
  simp [convert, h1, h2, Conv.intToInt, hw]) hx rfl
theorem aGo {x : Operand} {n : Int} {b : UInt8} (hb : n = (b.toNat : Int)) (hx : s.ev x = .v (.int .i64 n)) : Pre Tryz.prog Θ ⟨d, .convert 3 5 x, ty, pos, after, g⟩ s ⟨.v (.int .u8 (b.toNat : Int)), none⟩ :=
 aMo (fun w => by
  have hlt := b.toNat_lt
  subst hb
  have hw : IntKind.u8.wrap (b.toNat : Int) = b.toNat := by rw [IntKind.wrap_u8]; omega
  have h1 : (underlying 5).run Tryz.prog w = .ok (.int .u8) w := run_underlying Tryz.underlying5 w
  have h2 : (underlying 3).run Tryz.prog w = .ok (.int .i64) w := run_underlying Tryz.underlying3 w
  simp [convert, h1, h2, Conv.intToInt, hw]) hx rfl
theorem aOO (l : List UInt8) : strOfNums (l.map fun b => ((b.toNat : Nat) : Int)) = ⟨l.toArray⟩ := by
 unfold strOfNums
 congr 2
 rw [List.map_map]
 have : ((fun n : Int => UInt8.ofNat n.toNat) ∘ fun b : UInt8 => ((b.toNat : Nat) : Int)) = id := by
  funext b; simp
 rw [this, List.map_id]
theorem aHx (l : List UInt8) : aIo Tryz.prog 22 9 (.lst 1 (l.map uM)) (.string ⟨l.toArray⟩) := by
 intro S w hp B V u h
 unfold RV RA at h
 obtain ⟨A, c, e, h1, h2, _, _, h4⟩ := h
 simp only [List.cons.injEq, and_true, List.length_map] at e h1
 subst e
 rcases h4 with h4 | ⟨b, off, us, rfl, hb, hr, hc⟩
 · have h0 := List.map_eq_nil_iff.1 h4
   subst h0
   cases A with
   | none => exact run_convert_bytes_nil w 22 5 Tryz.underlying22 Tryz.underlying5 _ _ 9 Tryz.underlying9
   | some a =>
    rw [run_convert_bytes_string w 22 9 5 _ _ _ Tryz.underlying22 Tryz.underlying5 Tryz.underlying9, run_bytesToString w a _ c [] (by rfl)]
    rfl
 · have hus := aLi hr
   rw [← aOO]
   refine run_convert_bytes_arg w 22 5 Tryz.underlying22 Tryz.underlying5 b off l.length c (l.map fun b => ((b.toNat : Nat) : Int)) (by simp) (fun i hi => ?_) 9 Tryz.underlying9
   have := hc i (.int .u8 ((l[i]).toNat : Int)) (by rw [hus]; simp [hi])
   rw [this]
   simp [List.getD, hi]
end
theorem rv_byts {w : World} {hp : Nat → Option OB} {B : Nat → Nat} {V : Nat → Value} {A : Option Addr} {n c : Nat} {bs : List UInt8} (hc : n ≤ c ∧ c ≤ maxLen) (h : Rd w 1 A n (bs.map fun b => .int .u8 b.toNat)) : RV (InW w) w hp B V (.lst 1 (bs.map uM)) (.slice A n c) := by
 have hl : bs.length = n := by have := h.1; simpa using this
 unfold RV RA
 refine ⟨A, c, by rw [List.length_map, hl], by rw [List.length_map, hl]; exact hc.1, hc.2, aQq bs, by omega, ?_⟩
 rcases Nat.eq_zero_or_pos n with h0 | h0
 · left
   rw [List.eq_nil_of_length_eq_zero (hl.trans h0)]; rfl
 · obtain ⟨b, off, rfl, hlt, hcl⟩ := aTk h h0
   exact .inr ⟨b, off, _, rfl, hlt, aLt bs, hcl⟩
structure Src where
 at_ : Nat
 seed : Int
def aUD (c : List UInt8) (s : Src) : AV := .agg [.lst 1 (c.map uM), .v (.int .i64 s.at_), .v (.int .i64 s.seed)]
abbrev zu (c : List UInt8) (s : Src) : OB := ⟨98, 3, [aUD c s]⟩
def Src.ok (s : Src) (K : Nat) : Prop := s.at_ ≤ K ∧ 0 ≤ s.seed ∧ s.seed < 2147483648
def aFD (x : Int) : Int := x % 2147483648
theorem aCK (x : Int) : 0 ≤ aFD x ∧ aFD x < 2147483648 := ⟨Int.emod_nonneg _ (by decide), Int.emod_lt_of_pos _ (by decide)⟩
def qx (c : List UInt8) (s : Src) : Int × Src :=
 if h : s.at_ < c.length then (((c[s.at_]).toNat : Int), ⟨s.at_ + 1, aFD (s.seed * 31 + ((c[s.at_]).toNat : Int) + 7)⟩)
 else if 3000 < s.at_ + 1 then (0, ⟨s.at_ + 1, s.seed⟩)
 else (aFD (s.seed * 1103515245 + 12345) / 65536 % 256, ⟨s.at_ + 1, aFD (s.seed * 1103515245 + 12345)⟩)
theorem aJ3 {c : List UInt8} {s : Src} {K : Nat} (h : s.ok K) : (qx c s).2.ok (K + 1) ∧ 0 ≤ (qx c s).1 ∧ (qx c s).1 < 256 := by
 obtain ⟨h1, h2, h3⟩ := h
 unfold qx
 split
 · rename_i hl
   refine ⟨⟨by simp; omega, (aCK _).1, (aCK _).2⟩, by simp, ?_⟩
   have := (c[s.at_]).toNat_lt
   show ((c[s.at_]).toNat : Int) < 256
   omega
 · split
   · exact ⟨⟨by simp; omega, h2, h3⟩, by simp, by simp⟩
   · exact ⟨⟨by simp; omega, (aCK _).1, (aCK _).2⟩, Int.emod_nonneg _ (by decide), Int.emod_lt_of_pos _ (by decide)⟩
section
variable {P : Program} {t : TypeId} {x y : Operand} {a b c : Int}
end
theorem aH7 {Θ : Tab} {s : St} {d : Option Tmp} {ty : TypeId} {pos : String} {after : Array Edge} {g : Option (Nat × Bool)} {x : Operand} {n : Nat} (hx : s.ev x = .v (.int .u8 (n : Int))) (hn : n < 256) : Pre Tryz.prog Θ ⟨d, .convert 5 3 x, ty, pos, after, g⟩ s ⟨.v (.int .i64 (n : Int)), none⟩ := by
 refine .inl ⟨.int .u8 n, .int .i64 n, by rw [hx]; rfl, fun w => ?_, rfl, rfl⟩
 have hw : IntKind.i64.wrap (n : Int) = n := by rw [IntKind.wrap_i64]; omega
 have h1 : (underlying 5).run Tryz.prog w = .ok (.int .u8) w := run_underlying Tryz.underlying5 w
 have h2 : (underlying 3).run Tryz.prog w = .ok (.int .i64) w := run_underlying Tryz.underlying3 w
 simp [convert, h1, h2, Conv.intToInt, hw]
theorem j5 {s : St} {Θ : Tab} {r : Nat} {v : Value} {o1 : OB} (h1 : s.sl r = .v v) (h2 : s.hp 0 = some o1) : xX Θ [.tmp r] [o1] ⟨.v v, []⟩ .ret s := ⟨⟨h2, trivial⟩, [], by simp, trivial, ⟨trivial, trivial⟩, trivial, ⟨.inl ⟨h1, rfl⟩, trivial⟩⟩
attribute [local irreducible] xI xO xQ xX yG Pre ACG
set_option maxHeartbeats 8000000 in
theorem aQb {c : List UInt8} {s : Src} {K : Nat} (hc : c.length ≤ maxLen) (hs : s.ok K) (hK : K ≤ 1000000000) : ACG Tryz.prog 100 [.optr 0 0 [] 0] [zu c s] [zu c (qx c s).2] ⟨.v (.int .i64 (qx c s).1), []⟩ := by
 unfold maxLen at hc
 obtain ⟨h1, h2, h3⟩ := hs
 have hlen : (s.at_ + 1 : Nat) ≤ 1000000001 := by omega
 unfold qx
 refine xL (rs := [.tmp 2]) xH (by kernel_rfl) Tryz.func100 rfl Tryz.ntmps100 (by rw [Tryz.results100]) (by kernel_rfl) (by simp) rfl rfl (xA _ _ _ ?_)
 conv => whnf
 by_cases h : s.at_ < c.length
 · rw [dif_pos h]
   have hb : (c[s.at_]).toNat < 256 := (c[s.at_]).toNat_lt
   repeat ((first | refine qp (xC (zN (c := ((s.at_ + 1 : Nat) : Int)) (by omega) (by omega) (by omega)) rfl rfl rfl) ?_ | refine qp (xC (yU (c := (s.at_ : Int)) (by omega) (by omega) (by omega)) rfl rfl rfl) ?_ | refine qp (xC (uh rfl (by omega) (by omega)) rfl rfl rfl) ?_ | refine qp (xC (vE (by omega) (by omega) rfl) rfl rfl rfl) ?_ | refine qp (aH7 rfl hb) ?_ | refine qz ?_ | refine qdr ?_ | refine qst ?_); conv => whnf)
   exact j5 rfl rfl
 rw [dif_neg h]
 by_cases h3 : 3000 < s.at_ + 1
 · rw [if_pos h3]
   repeat ((first | refine qp (xC (zN (c := ((s.at_ + 1 : Nat) : Int)) (by omega) (by omega) (by omega)) rfl rfl rfl) ?_ | refine qz ?_ | refine qdr ?_ | refine qst ?_); conv => whnf)
   exact j5 rfl rfl
 · rw [if_neg h3]
   have hst := aCK (s.seed * 1103515245 + 12345)
   repeat ((first | refine qp (xC (zN (c := ((s.at_ + 1 : Nat) : Int)) (by omega) (by omega) (by omega)) rfl rfl rfl) ?_ | refine qp (xC (uh rfl (by omega) (by omega)) rfl rfl rfl) ?_ | refine qp (xC (vE (c := aFD (s.seed * 1103515245 + 12345)) (by omega) (by omega) rfl) rfl rfl rfl) ?_ | refine qp (xC (aGJ hst.1 (by omega) (by omega) rfl) rfl rfl rfl) ?_ | refine qp (xC (vE (Int.ediv_nonneg hst.1 (by decide)) (by omega) rfl) rfl rfl rfl) ?_ | refine qz ?_ | refine qdr ?_ | refine qst ?_); conv => whnf)
   exact j5 rfl rfl
end Go.Proofs.YtfomjajdfaoogaaGreatDoor.AM
namespace Go.Proofs.YtfomjajdfaoogaaGreatDoor
def kv (es : List Edt) : List Ent := es.map fun e => (e.key, e.val)
theorem aIQ (es : List Edt) : (kv es).length = es.length := by simp [kv]
def aSh (e : Edt) : Bool := aDj e.val && (!e.gone || decide (e.val = 0))
def aGX (es : List Edt) (i : Nat) : Bool := aSh (es.getD i ⟨ByteArray.empty, 0, false⟩)
theorem aP3 (es : List Edt) (k : Nat) (h : k < es.length) : aGX es k = (aDj es[k].val && (!es[k].gone || decide (es[k].val = 0))) := by simp [aGX, aSh, h]
def aM8 (es : List Edt) : Bool := (List.range es.length).all (aGX es)
def aHU (es : List Edt) : Bool := decide (es.length ≤ 6) && (aA8 (kv es) && aM8 es)
theorem aP4 {es : List Edt} (h : ∀ i, i < es.length → aGX es i = true) : aM8 es = true := by
 rw [aM8, List.all_eq_true]; intro i hi; exact h i (List.mem_range.1 hi)
theorem aM7 {es : List Edt} (h0 : es.length ≤ 6) (h : ∀ i, i < es.length → uR (kv es) i = true ∧ aGX es i = true) : aHU es = true := by
 rw [aHU, aEn (fun i hi => (h i (by rw [aIQ] at hi; exact hi)).1), aP4 fun i hi => (h i hi).2, decide_eq_true h0]; rfl
def kR (m : List Ent) (e : Edt) : List Ent := if e.gone then aDQ m e.key else uq m e.key e.val
def yR (es : List Ent) (xs : List Edt) : List Ent := xs.foldl kR es
theorem aFI (es : List Ent) (xs : List Edt) (k : Nat) (h : k < xs.length) : yR es (xs.take (k + 1)) = kR (yR es (xs.take k)) xs[k] := by
 rw [yR, List.take_succ_eq_append_getElem h, List.foldl_append]; rfl
theorem aKu (es : List Ent) (xs : List Edt) (k : Nat) (h : k < xs.length) (hg : xs[k].gone = true) : yR es (xs.take (k + 1)) = aDQ (yR es (xs.take k)) xs[k].key := by
 rw [aFI es xs k h, kR, hg]; rfl
theorem aMX (es : List Ent) (xs : List Edt) (k : Nat) (h : k < xs.length) (hg : xs[k].gone = false) : yR es (xs.take (k + 1)) = uq (yR es (xs.take k)) xs[k].key xs[k].val := by
 rw [aFI es xs k h, kR, hg]; rfl
theorem aAq (es : List Ent) (k : ByteArray) (v : Int) : (uq es k v).length ≤ es.length + 1 := by
 have h1 : es.length = (es.takeWhile fun e => klt e.1 k).length + (es.dropWhile fun e => klt e.1 k).length := by
  rw [← List.length_append, List.takeWhile_append_dropWhile]
 rw [uq, List.length_append, List.length_cons]
 exact Nat.le_trans (Nat.add_le_add_left (Nat.succ_le_succ (List.length_filter_le _ _)) _) (by omega)
theorem aKx (es : List Ent) (k : ByteArray) : (aDQ es k).length ≤ es.length := List.length_filter_le _ _
theorem aDk (es : List Ent) (xs : List Edt) : (yR es xs).length ≤ es.length + xs.length := by
 induction xs generalizing es with
 | nil => exact Nat.le_refl _
 | cons x r ih =>
  have h := ih (kR es x)
  have h1 : (kR es x).length ≤ es.length + 1 := by
   unfold kR
   split
   · have := aKx es x.key; omega
   · exact aAq _ _ _
  show (yR (kR es x) r).length ≤ es.length + (r.length + 1)
  omega
theorem aKO (e : Ent) (r : List Ent) (k : ByteArray) (v : Int) (h : klt e.1 k = true) : uq (e :: r) k v = e :: uq r k v := by simp [uq, h]
theorem aKN (e : Ent) (r : List Ent) (k : ByteArray) (v : Int) (h : klt e.1 k = false) : uq (e :: r) k v = (k, v) :: (e :: r).filter (fun e => decide (e.1 ≠ k)) := by
 rw [uq, List.takeWhile_cons_of_neg (by simp [h]), List.dropWhile_cons_of_neg (by simp [h])]; rfl
theorem aJy {es : List Ent} {k : ByteArray} {v : Int} {x : Ent} (h : x ∈ uq es k v) : x = (k, v) ∨ x ∈ es := by
 rw [uq, List.mem_append, List.mem_cons] at h
 rcases h with h | h | h
 · exact .inr ((List.takeWhile_sublist _).mem h)
 · exact .inl h
 · exact .inr ((List.dropWhile_sublist _).mem (List.mem_filter.1 h).1)
theorem aQF {es : List Ent} (h : Srt es) (k : ByteArray) (v : Int) : Srt (uq es k v) := by
 induction es with
 | nil => simp [uq, Srt]
 | cons e r ih =>
  rw [Srt, List.pairwise_cons] at h
  cases hk : klt e.1 k with
  | true =>
   rw [aKO e r k v hk, Srt, List.pairwise_cons]
   refine ⟨fun x hx => ?_, ih h.2⟩
   rcases aJy hx with rfl | hx
   · exact hk
   · exact h.1 x hx
  | false =>
   rw [aKN e r k v hk, Srt, List.pairwise_cons]
   refine ⟨fun x hx => ?_, (List.pairwise_cons.2 h).filter _⟩
   rw [List.mem_filter, List.mem_cons] at hx
   obtain ⟨hx, hne⟩ := hx
   rcases hx with rfl | hx
   · exact aCr hk (by simpa using hne)
   · exact aOB hk (h.1 x hx)
theorem aQE {es : List Ent} (h : Srt es) (k : ByteArray) : Srt (aDQ es k) := List.Pairwise.filter _ h
theorem mapOK_le {es : List Ent} (h : yV es = true) : es.length ≤ 12 := by
 rcases Nat.lt_or_ge 12 es.length with h2 | h2
 · rw [aBS h2] at h; cases h
 · exact h2
end Go.Proofs.YtfomjajdfaoogaaGreatDoor
namespace Go.Proofs.YtfomjajdfaoogaaGreatDoor.AM
open Go Go.RowKit
def wD : List ByteArray := [⟨#[97]⟩, ⟨#[98]⟩, ⟨#[99]⟩, ⟨#[100]⟩, ⟨#[101]⟩, ⟨#[107, 49]⟩, ⟨#[107, 50]⟩, ⟨#[122, 122]⟩]
theorem aPe : (wD.all fun k => nm k && decide (k.size ≤ 12)) = true := by kernel_rfl
theorem aBw {k : ByteArray} (h : k ∈ wD) : nm k = true ∧ k.size ≤ 12 := by
 have := List.all_eq_true.1 aPe k h
 simpa using this
def Good (es : List Ent) : Prop := Srt es ∧ ∀ e ∈ es, e.1 ∈ wD ∧ 0 ≤ e.2 ∧ e.2 < 9
theorem Good.nil : Good [] := ⟨List.Pairwise.nil, by simp⟩
theorem Good.put {es : List Ent} (h : Good es) {k : ByteArray} (hk : k ∈ wD) {v : Int} (h0 : 0 ≤ v) (h1 : v < 9) : Good (uq es k v) :=
 ⟨aQF h.1 k v, fun e he => by
  rcases aJy he with rfl | he
  · exact ⟨hk, h0, h1⟩
  · exact h.2 e he⟩
theorem Good.del {es : List Ent} (h : Good es) (k : ByteArray) : Good (aDQ es k) := ⟨aQE h.1 k, fun e he => h.2 e (List.mem_filter.1 he).1⟩
theorem aFV {es : List Ent} (h : Srt es) (hn : ∀ e ∈ es, nm e.1 = true) : aA8 es = true := aEn fun i hi => by
 rw [uR, aBv es i hi, hn _ (List.getElem_mem hi), Bool.true_and]
 rcases Nat.eq_zero_or_pos i with h0 | h0
 · rw [decide_eq_true h0]; rfl
 · have h2 := (List.pairwise_iff_getElem.1 h) (i - 1) i (by omega) hi (by omega)
   rw [aBv es (i - 1) (by omega), h2, Bool.or_true]
theorem Good.ok {es : List Ent} (h : Good es) (hl : es.length ≤ 12) : yV es = true :=
 aFe hl fun i hi => by
  have he := h.2 _ (List.getElem_mem hi)
  refine ⟨aEm (aFV h.1 fun e he => (aBw (h.2 e he).1).1) hi, ?_⟩
  have e1 : vD es i = aDj es[i].2 := by simp [vD, hi]
  rw [e1, aDj, decide_eq_true (by omega), decide_eq_true (by omega)]; rfl
theorem Good.small {es : List Ent} (h : Good es) : ∀ e ∈ es, e.1.size ≤ maxLen := fun e he => by
 have := (aBw (h.2 e he).1).2
 unfold maxLen; omega
def jC (xs : List Edt) : Prop := xs.Pairwise (fun a b => klt a.key b.key = true) ∧ ∀ e ∈ xs, e.key ∈ wD ∧ 0 ≤ e.val ∧ e.val < 9 ∧ (e.gone = true → e.val = 0)
theorem jC.nil : jC [] := ⟨List.Pairwise.nil, by simp⟩
theorem jC.small {xs : List Edt} (h : jC xs) : ∀ e ∈ xs, e.key.size ≤ maxLen := fun e he => by
 have := (aBw (h.2 e he).1).2
 unfold maxLen; omega
theorem Good.apply : ∀ (xs : List Edt) {es : List Ent}, Good es → (∀ e ∈ xs, e.key ∈ wD ∧ 0 ≤ e.val ∧ e.val < 9) → Good (yR es xs)
 | [], _, h, _ => h
 | e :: xs, es, h, hx => by
  show Good (yR (kR es e) xs)
  refine Good.apply xs ?_ (fun x hx' => hx x (by simp [hx']))
  obtain ⟨h1, h2, h3⟩ := hx e (by simp)
  unfold kR
  split
  · exact h.del _
  · exact h.put h1 h2 h3
theorem Good.applyE {xs : List Edt} {es : List Ent} (h : Good es) (hx : jC xs) : Good (yR es xs) := h.apply xs fun e he => ⟨(hx.2 e he).1, (hx.2 e he).2.1, (hx.2 e he).2.2.1⟩
end Go.Proofs.YtfomjajdfaoogaaGreatDoor.AM
namespace Go.Proofs.YtfomjajdfaoogaaGreatDoor
open Go.RowKit
end Go.Proofs.YtfomjajdfaoogaaGreatDoor
namespace Go.Proofs.YtfomjajdfaoogaaGreatDoor.AM
open Go Go.RowKit
attribute [local irreducible] xI xO xQ xX yG Pre ACG
theorem aC3 {es : List Ent} {xs : List Edt} (hm : es.length + xs.length ≤ 4000) : AC Tryz.prog 60 [.lst 2 (es.map yB), .lst 3 (xs.map uf)] ⟨.own 0, [⟨74, 2, (yR es xs).map yB⟩]⟩ := by
 refine qrf Tryz.func60 Tryz.ntmps60 Tryz.results60 ?_; conv => whnf
 refine qr (aGm (f := yB) (xs := ([] : List Ent)) (ys := es) (by simp; omega) rfl rfl rfl rfl rfl rfl) ?_
 conv => whnf
 refine xZ (ι := { k : Nat // k ≤ xs.length }) (fun k => ⟨[(0, .own 7), (1, .lst 3 (xs.map uf)), (5, .v (.int .i64 (k.1 : Int)))], [(7, ⟨74, 2, (yR es (xs.take k.1)).map yB⟩)]⟩) (fun k => xs.length - k.1) ⟨0, Nat.zero_le _⟩ (by exact qle) ?_
 rintro ⟨k, hk⟩
 dsimp only
 conv => whnf
 have hlL := aDk es (xs.take k)
 rw [List.length_take] at hlL
 by_cases hlt : k < xs.length
 · have hg1 := aKu es xs k hlt
   have hg2 := aMX es xs k hlt
   cases hg : xs[k].gone with
   | true =>
    repeat ((refine qz ?_; conv => whnf))
    rw [hg]
    conv => whnf
    repeat ((refine qz ?_; conv => whnf))
    refine qC (aJO (es := yR es (xs.take k)) (k := xs[k].key) (by omega)) ?_
    refine qr (aIz 7 rfl rfl rfl) ?_; conv => whnf
    rw [← hg1 hg]
    repeat ((refine qz ?_; conv => whnf))
    exact ⟨⟨k + 1, hlt⟩, by exact qle, by simp; omega⟩
   | false =>
    repeat ((refine qz ?_; conv => whnf))
    rw [hg]
    conv => whnf
    refine .inl ⟨by kernel_rfl, ?_⟩
    conv => whnf
    repeat ((refine qz ?_; conv => whnf))
    refine qC (aDs (es := yR es (xs.take k)) (k := xs[k].key) (v := xs[k].val) (by omega)) ?_
    refine qr (aIz 7 rfl rfl rfl) ?_; conv => whnf
    rw [← hg2 hg]
    repeat ((refine qz ?_; conv => whnf))
    exact ⟨⟨k + 1, hlt⟩, by exact qle, by simp; omega⟩
 · have hkk : k = xs.length := by omega
   subst hkk
   repeat ((refine qz ?_; conv => whnf))
   exact aET rfl (by show some (OB.mk _ _ _) = _; rw [List.take_length])
def aHX (es : List Edt) (k : ByteArray) : Option Edt := es.find? fun e => decide (e.key = k)
def zE : Edt := ⟨ByteArray.empty, 0, false⟩
theorem aDJ {es : List Edt} {k : ByteArray} {o : Option Edt} (ho : aHX es k = o) (hm : es.length ≤ 1048576) : AC Tryz.prog 103 [.lst 3 (es.map uf), .v (.string k)] ⟨.tup [uf (o.getD zE), .v (.bool o.isSome)], []⟩ := by
 refine qrf Tryz.func103 Tryz.ntmps103 Tryz.results103 ?_; conv => whnf
 refine xZ (ι := { i : Nat // i ≤ es.length ∧ aHX (es.drop i) k = o }) (fun i => ⟨[(0, .lst 3 (es.map uf)), (1, .v (.string k)), (4, .optr 5 0 [] 0), (6, .v (.int .i64 (i.1 : Int)))], [(5, ⟨140, 3, [uf zE]⟩)]⟩) (fun i => es.length - i.1) ⟨0, Nat.zero_le _, ho⟩ (by exact qle) ?_
 rintro ⟨i, hi, hf⟩
 dsimp only
 conv => whnf
 by_cases hlt : i < es.length
 · rw [List.drop_eq_getElem_cons hlt, aHX, List.find?_cons] at hf
   by_cases hk : es[i].key = k
   · simp only [hk, decide_true] at hf
     subst hf
     repeat (first | (refine qz ?_; conv => whnf) | (refine qp (xC (aE9 hk) rfl rfl rfl) ?_; conv => whnf) | (refine qr (y8 rfl rfl rfl rfl rfl (by conv => lhs; whnf) rfl) ?_; conv => whnf))
     trace_state
     exact vI rfl rfl rfl rfl trivial rfl
   · simp only [hk, decide_false] at hf
     repeat ((first | refine qz ?_ | refine qp (xC (aE8 hk) rfl rfl rfl) ?_); conv => whnf)
     exact ⟨⟨i + 1, hlt, hf⟩, by exact qle, by simp; omega⟩
 · have hkk : i = es.length := by omega
   subst hkk
   rw [List.drop_length] at hf
   have hf' : o = none := hf.symm
   subst hf'
   repeat (first | (refine qz ?_; conv => whnf) | (refine qr (y8 rfl rfl rfl rfl rfl (by conv => lhs; whnf) rfl) ?_; conv => whnf))
   exact vI rfl rfl rfl rfl trivial rfl
def aBu (l : List Edt) (e : Edt) : Bool := (aHX l e.key).isNone
def qG (l : List Edt) (e : Edt) : Bool := match aHX l e.key with | none => false | some x => decide (x ≠ e)
def aBW (l r : List Edt) : List Edt := r.filter (aBu l)
def aAy (l r : List Edt) : List ByteArray := aIv (r.filter (qG l))
theorem aNK (l r : List Edt) (k : Nat) (h : k < r.length) : aBW l (r.take (k + 1)) = if aBu l r[k] then aBW l (r.take k) ++ [r[k]] else aBW l (r.take k) := by
 unfold aBW
 rw [List.take_succ_eq_append_getElem h, List.filter_append]
 by_cases c : aBu l r[k] <;> simp [List.filter_cons, c]
theorem aKw (l r : List Edt) (k : Nat) (h : k < r.length) : aAy l (r.take (k + 1)) = if qG l r[k] then aAy l (r.take k) ++ [r[k].key] else aAy l (r.take k) := by
 unfold aAy
 rw [List.take_succ_eq_append_getElem h, List.filter_append]
 by_cases c : qG l r[k] <;> simp [List.filter_cons, c, aIv]
theorem aCM (l r : List Edt) : (aBW l r).length ≤ r.length := List.length_filter_le _ _
theorem aDl (l r : List Edt) : (aAy l r).length ≤ r.length := by unfold aAy; rw [aJo]; exact List.length_filter_le _ _
def qX (base a b : List Ent) : List Ent := yR a (aBW (zw base a) (zw base b))
def aBJ (base a b : List Ent) : List ByteArray := aAy (zw base a) (zw base b)
theorem aC4 {base a b : List Ent} (h0 : base.length ≤ 500) (h1 : a.length ≤ 500) (h2 : b.length ≤ 500) : AC Tryz.prog 63 [.lst 2 (base.map yB), .lst 2 (a.map yB), .lst 2 (b.map yB)] ⟨.tup [.own 0, .own 1], [⟨74, 2, (qX base a b).map yB⟩, ⟨9, 1, (aBJ base a b).map qA⟩]⟩ := by
 have d1 := aCR base a
 have d2 := aCR base b
 unfold qX aBJ
 refine qrf Tryz.func63 Tryz.ntmps63 Tryz.results63 ?_; conv => whnf
 repeat ((first | refine qz ?_ | refine qc (aGA (es := base) (es' := a) (by omega) (by omega)) ?_ | refine qc (aGA (es := base) (es' := b) (by omega) (by omega)) ?_); conv => whnf)
 generalize zw base a = L at *
 generalize zw base b = R at *
 refine xZ (ι := { k : Nat // k ≤ R.length }) (fun k => ⟨[(1, .lst 2 (a.map yB)), (8, .lst 3 (L.map uf)), (9, .lst 3 (R.map uf)), (10, .own 22), (11, .own 23), (12, .v (.int .i64 (k.1 : Int)))], [(22, ⟨9, 1, (aAy L (R.take k.1)).map qA⟩), (23, ⟨140, 3, (aBW L (R.take k.1)).map uf⟩)]⟩) (fun k => R.length - k.1) ⟨0, Nat.zero_le _⟩ (by exact qle) ?_
 rintro ⟨k, hk⟩
 dsimp only
 conv => whnf
 by_cases hlt : k < R.length
 · have ht := aNK L R k hlt
   have hc := aKw L R k hlt
   have lt := aCM L (R.take k)
   have lc := aDl L (R.take k)
   rw [List.length_take] at lt lc
   cases hf : aHX L R[k].key with
   | none =>
    have t1 : aBu L R[k] = true := by unfold aBu; rw [hf]; rfl
    have c1 : qG L R[k] = false := by unfold qG; rw [hf]
    rw [if_pos t1] at ht
    rw [c1, if_neg (by simp)] at hc
    repeat (first | (refine qz ?_; conv => whnf) | (refine qc (aDJ hf (by omega)) ?_; conv => whnf) | (refine qr (y8 rfl rfl rfl rfl rfl (by conv => lhs; whnf) rfl) ?_; conv => whnf) | (refine qr (vH _ _ ht.symm (by omega) rfl rfl rfl rfl rfl rfl rfl) ?_; conv => whnf))
    rw [← hc]
    exact ⟨⟨k + 1, hlt⟩, by exact qle, by simp; omega⟩
   | some x =>
    have t1 : aBu L R[k] = false := by unfold aBu; rw [hf]; rfl
    rw [t1, if_neg (by simp)] at ht
    by_cases hx : x = R[k]
    · have c1 : qG L R[k] = false := by unfold qG; rw [hf]; simp [hx]
      rw [c1, if_neg (by simp)] at hc
      have hb := @aHP x R[k]
      repeat (first | (refine qz ?_; conv => whnf) | (refine qc (aDJ hf (by omega)) ?_; conv => whnf) | (refine qr (y8 rfl rfl rfl rfl rfl (by conv => lhs; whnf) rfl) ?_; conv => whnf) | (refine .inl ⟨by kernel_rfl, ?_⟩; conv => whnf) | (refine qp (aGn (aHP (a := x) (b := R[k]) (r := false) (by simp [hx])) rfl rfl rfl) ?_; conv => whnf))
      rw [← ht, ← hc]
      exact ⟨⟨k + 1, hlt⟩, by exact qle, by simp; omega⟩
    · have c1 : qG L R[k] = true := by unfold qG; rw [hf]; simp [hx]
      rw [if_pos c1] at hc
      repeat (first | (refine qz ?_; conv => whnf) | (refine qc (aDJ hf (by omega)) ?_; conv => whnf) | (refine qr (y8 rfl rfl rfl rfl rfl (by conv => lhs; whnf) rfl) ?_; conv => whnf) | (refine .inl ⟨by kernel_rfl, ?_⟩; conv => whnf) | (refine qp (aGn (aHP (a := x) (b := R[k]) (r := true) (by simp [hx])) rfl rfl rfl) ?_; conv => whnf) | (refine qr (vH _ _ hc.symm (by omega) rfl rfl rfl rfl rfl rfl rfl) ?_; conv => whnf))
      rw [← ht]
      exact ⟨⟨k + 1, hlt⟩, by exact qle, by simp; omega⟩
 · have hkk : k = R.length := by omega
   subst hkk
   rw [List.take_length]
   have lt := aCM L R
   repeat ((first | refine qz ?_ | refine qc (aC3 (es := a) (xs := aBW L R) (by omega)) ?_); conv => whnf)
   exact aRg rfl rfl rfl rfl rfl
end Go.Proofs.YtfomjajdfaoogaaGreatDoor.AM
namespace Go.Proofs.YtfomjajdfaoogaaGreatDoor.AM
open Go Go.RowKit
def aSI (es : List Edt) : Prop := es.Pairwise fun a b => klt a.key b.key = true
theorem aBm (k : ByteArray) : ∀ (f : Nat) (a b : List Ent), (∀ x ∈ a, klt k x.1 = true) → (∀ y ∈ b, klt k y.1 = true) → ∀ e ∈ yO f a b, klt k e.key = true := by
 intro f
 induction f with
 | zero => intro a b _ _ e he; simp [yO] at he
 | succ f ih =>
  intro a b ha hb e he
  match a, b with
  | [], [] => simp [yO] at he
  | x :: a, [] =>
   rw [yO] at he
   rcases List.mem_cons.1 he with rfl | he
   · exact ha x (by simp)
   · exact ih a [] (fun y hy => ha y (by simp [hy])) hb e he
  | [], y :: b =>
   rw [yO] at he
   rcases List.mem_cons.1 he with rfl | he
   · exact hb y (by simp)
   · exact ih [] b ha (fun z hz => hb z (by simp [hz])) e he
  | x :: a, y :: b =>
   rw [yO] at he
   have ha' : ∀ z ∈ a, klt k z.1 = true := fun z hz => ha z (by simp [hz])
   have hb' : ∀ z ∈ b, klt k z.1 = true := fun z hz => hb z (by simp [hz])
   split at he
   · rcases List.mem_cons.1 he with rfl | he
     · exact ha x (by simp)
     · exact ih a (y :: b) ha' hb e he
   · split at he
     · rcases List.mem_cons.1 he with rfl | he
       · exact hb y (by simp)
       · exact ih (x :: a) b ha hb' e he
     · rcases List.mem_append.1 he with he | he
       · split at he
         · cases he
         · rcases List.mem_singleton.1 he with rfl
           exact hb y (by simp)
       · exact ih a b ha' hb' e he
theorem aOw : ∀ (f : Nat) (a b : List Ent), Srt a → Srt b → aSI (yO f a b) := by
 intro f
 induction f with
 | zero => intro a b _ _; exact List.Pairwise.nil
 | succ f ih =>
  intro a b ha hb
  match a, b with
  | [], [] => exact List.Pairwise.nil
  | x :: a, [] =>
   rw [yO]
   have h := List.pairwise_cons.1 ha
   exact List.pairwise_cons.2 ⟨aBm _ _ _ _ h.1 (by simp), ih a [] h.2 hb⟩
  | [], y :: b =>
   rw [yO]
   have h := List.pairwise_cons.1 hb
   exact List.pairwise_cons.2 ⟨aBm _ _ _ _ (by simp) h.1, ih [] b ha h.2⟩
  | x :: a, y :: b =>
   rw [yO]
   have h := List.pairwise_cons.1 ha
   have h' := List.pairwise_cons.1 hb
   split
   · rename_i hxy
     refine List.pairwise_cons.2 ⟨aBm _ _ _ _ h.1 (fun z hz => ?_), ih a (y :: b) h.2 hb⟩
     rcases List.mem_cons.1 hz with rfl | hz
     · exact hxy
     · exact aBD hxy (h'.1 z hz)
   · split
     · rename_i hyx
       refine List.pairwise_cons.2 ⟨aBm _ _ _ _ (fun z hz => ?_) h'.1, ih (x :: a) b ha h'.2⟩
       rcases List.mem_cons.1 hz with rfl | hz
       · exact hyx
       · exact aBD hyx (h.1 z hz)
     · rename_i hxy hyx
       have he : x.1 = y.1 := Classical.byContradiction fun hne => by
        have := aCr (by simpa using hxy) hne
        exact hyx this
       split
       · exact ih a b h.2 h'.2
       · refine List.pairwise_cons.2 ⟨aBm _ _ _ _ (fun z hz => ?_) h'.1, ih a b h.2 h'.2⟩
         show klt y.1 z.1 = true
         rw [← he]; exact h.1 z hz
theorem aOx {a b : List Ent} (ha : Srt a) (hb : Srt b) : aSI (zw a b) := aOw _ _ _ ha hb
attribute [local irreducible] xI xO xQ xX yG Pre ACG
def aAY (m : List Ent) (c : List ByteArray) : List Ent × List ByteArray × Int :=
 if 0 < c.length then ([], c, 11) else if 12 < m.length then ([], [], 7) else (m, [], 0)
theorem aGB {m : List Ent} {c : List ByteArray} (h0 : m.length ≤ 4000) (h1 : c.length ≤ 4000) : AC Tryz.prog 147 [.lst 2 (m.map yB), .lst 1 (c.map qA)] ⟨.tup [.lst 2 ((aAY m c).1.map yB), .lst 1 ((aAY m c).2.1.map qA), .v (.int .i64 (aAY m c).2.2)], []⟩ := by
 unfold aAY
 refine qrf Tryz.func147 Tryz.ntmps147 Tryz.results147 ?_; conv => whnf
 by_cases hc : 0 < c.length
 · rw [if_pos hc]
   repeat ((refine qz ?_; conv => whnf))
   exact aGu (aCd rfl rfl) (wW rfl trivial) (wW rfl trivial)
 · rw [if_neg hc]
   by_cases hm : 12 < m.length
   · rw [if_pos hm]
     repeat ((refine qz ?_; conv => whnf))
     exact aGu (aCd rfl rfl) (aCd rfl rfl) (wW rfl trivial)
   · rw [if_neg hm]
     repeat ((refine qz ?_; conv => whnf))
     exact aGu (wW rfl trivial) (aCd rfl rfl) (wW rfl trivial)
theorem mapOK_le {es : List Ent} (h : yV es = true) : es.length ≤ 12 := by
 rcases Nat.lt_or_ge 12 es.length with h' | h'
 · rw [aBS h'] at h; cases h
 · exact h'
theorem aFT (base a b : List Ent) : (qX base a b).length ≤ a.length + (base.length + b.length) := by
 have h1 := aDk a (aBW (zw base a) (zw base b))
 have h2 := aCM (zw base a) (zw base b)
 have h3 := aCR base b
 unfold qX; omega
theorem aFK (base a b : List Ent) : (aBJ base a b).length ≤ base.length + b.length := by
 have h2 := aDl (zw base a) (zw base b)
 have h3 := aCR base b
 unfold aBJ; omega
end Go.Proofs.YtfomjajdfaoogaaGreatDoor.AM
namespace Go.Proofs.YtfomjajdfaoogaaGreatDoor.AM
open Go Go.RowKit
theorem aKl (m : List Ent) {c : List ByteArray} (h : c.length ≤ 100) : (aAY m c).1.length ≤ 12 ∧ (aAY m c).2.1.length ≤ 100 := by
 unfold aAY
 split
 · exact ⟨by simp, h⟩
 · split
   · exact ⟨by simp, by simp⟩
   · rename_i h2; exact ⟨by show m.length ≤ 12; omega, by simp⟩
attribute [local irreducible] xI xO xQ xX yG Pre ACG
end Go.Proofs.YtfomjajdfaoogaaGreatDoor.AM
namespace Go.Proofs.YtfomjajdfaoogaaGreatDoor.AM
open Go Go.RowKit
def xB (c : List UInt8) (s : Src) (n : Nat) : Nat × Src := if n ≤ 1 then (0, s) else ((qx c s).1.toNat % n, (qx c s).2)
theorem yC {c : List UInt8} {s : Src} {K n : Nat} (h : s.ok K) (hn : 0 < n) : (xB c s n).2.ok (K + 1) ∧ (xB c s n).1 < n := by
 obtain ⟨h1, h2, h3⟩ := aJ3 (c := c) h
 unfold xB
 split
 · exact ⟨⟨by have := h.1; simp; omega, h.2.1, h.2.2⟩, hn⟩
 · exact ⟨h1, Nat.mod_lt _ hn⟩
theorem Src.ok.le {s : Src} {K L : Nat} (h : s.ok K) (k : K ≤ L) : s.ok L := ⟨Nat.le_trans h.1 k, h.2⟩
abbrev aHp (l : List ByteArray) : OB := ⟨9, 1, l.map qA⟩
abbrev aM9 (l : List Ent) : OB := ⟨74, 2, l.map yB⟩
abbrev aSi (l : List Edt) : OB := ⟨140, 3, l.map uf⟩
theorem aPr {s : St} {Θ : Tab} {r : Nat} {v : Value} {o1 o2 : OB} (h1 : s.sl r = .v v) (h2 : s.hp 0 = some o1) (h3 : s.hp 1000000 = some o2) : xX Θ [.tmp r] [o1, o2] ⟨.v v, []⟩ .ret s := ⟨⟨h2, h3, trivial⟩, [], by simp, trivial, ⟨trivial, trivial⟩, trivial, ⟨.inl ⟨h1, rfl⟩, trivial⟩⟩
theorem aH9 {s : St} {t l : Nat} {ob o0 : OB} {Θ : Tab} (h1 : s.sl t = .own l) (ho : s.hp l = some ob) (h0 : s.hp 0 = some o0) (hok : okL l = true := by rfl) (hsh : ob.e.shut = true := by rfl) : xX Θ [.tmp t] [o0] ⟨.own 0, [ob]⟩ .ret s :=
 ⟨⟨h0, trivial⟩, [l], by simp, ⟨⟨ho, hok, hsh⟩, trivial⟩, ⟨trivial, trivial⟩, trivial, ⟨.inl ⟨h1, rfl⟩, trivial⟩⟩
attribute [local irreducible] xI xO xQ xX yG Pre ACG
theorem vF {c : List UInt8} {s : Src} {K n : Nat} (hc : c.length ≤ maxLen) (hs : s.ok K) (hK : K ≤ 1000000000) (hn : n ≤ 256) : ACG Tryz.prog 58 [.optr 0 0 [] 0, .v (.int .i64 (n : Int))] [zu c s] [zu c (xB c s n).2] ⟨.v (.int .i64 ((xB c s n).1 : Int)), []⟩ := by
 obtain ⟨_, b2, b3⟩ := aJ3 (c := c) hs
 have hb := aQb hc hs hK
 unfold xB
 by_cases h1 : n ≤ 1
 · rw [if_pos h1]
   refine xL (rs := [.tmp 4]) xH (by kernel_rfl) Tryz.func58 rfl Tryz.ntmps58 (by rw [Tryz.results58]) (by kernel_rfl) (by simp) rfl rfl (xA _ _ _ ?_); conv => whnf
   repeat ((refine qz ?_; conv => whnf))
   exact j5 rfl rfl
 · rw [if_neg h1]
   have hmod : (qx c s).1 % (n : Int) = (((qx c s).1.toNat % n : Nat) : Int) := by
    rw [Int.natCast_emod, Int.toNat_of_nonneg b2]
   refine xL (rs := [.tmp 4]) xH (by kernel_rfl) Tryz.func58 rfl Tryz.ntmps58 (by rw [Tryz.results58]) (by kernel_rfl) (by simp) rfl rfl (xA _ _ _ ?_); conv => whnf
   repeat ((first | refine qz ?_ | refine qg [0] (hb) ?_ | refine qp (xC (vE b2 (by omega) hmod) rfl rfl rfl) ?_); conv => whnf)
   exact j5 rfl rfl
theorem aDp {c : List UInt8} {s : Src} {K n : Nat} (hc : c.length ≤ maxLen) (hs : s.ok K) (hK : K ≤ 1000000000) (hn : n ≤ 256) (h0 : 0 < n) : ACG Tryz.prog 62 [.optr 0 0 [] 0, .v (.int .i64 (n : Int))] [zu c s] [zu c (xB c s n).2] ⟨.v (.bool (decide ((xB c s n).1 = n - 1))), []⟩ := by
 have hb := vF hc hs hK hn
 obtain ⟨_, hlt⟩ := yC (c := c) hs h0
 by_cases h : (xB c s n).1 = n - 1
 · rw [decide_eq_true h]
   refine xL (rs := [.tmp 4]) xH (by kernel_rfl) Tryz.func62 rfl Tryz.ntmps62 (by rw [Tryz.results62]) (by kernel_rfl) (by simp) rfl rfl (xA _ _ _ ?_); conv => whnf
   repeat ((first | refine qz ?_ | refine qg [0] (hb) ?_); conv => whnf)
   exact j5 rfl rfl
 · rw [decide_eq_false h]
   refine xL (rs := [.tmp 4]) xH (by kernel_rfl) Tryz.func62 rfl Tryz.ntmps62 (by rw [Tryz.results62]) (by kernel_rfl) (by simp) rfl rfl (xA _ _ _ ?_); conv => whnf
   repeat ((first | refine qz ?_ | refine qg [0] (hb) ?_); conv => whnf)
   exact j5 rfl rfl
def wm (c : List UInt8) (s : Src) (l : List ByteArray) : ByteArray × Src := (l.getD (xB c s l.length).1 ByteArray.empty, (xB c s l.length).2)
theorem aLL {c : List UInt8} {s : Src} {K : Nat} {l : List ByteArray} (hc : c.length ≤ maxLen) (hs : s.ok K) (hK : K ≤ 1000000000) (hn : l.length ≤ 256) (h0 : 0 < l.length) : ACG Tryz.prog 129 [.optr 0 0 [] 0, .own 1000000] [zu c s, aHp l] [zu c (wm c s l).2, aHp l] ⟨.v (.string (wm c s l).1), []⟩ := by
 obtain ⟨_, hlt⟩ := yC (c := c) hs h0
 have hb := vF (n := l.length) hc hs hK hn
 have hg : (l.map qA)[(xB c s l.length).1]? = some (.v (.string (wm c s l).1)) := by simp [wm, qA, hlt]
 refine xL (rs := [.tmp 4]) xH (by kernel_rfl) Tryz.func129 rfl Tryz.ntmps129 (by rw [Tryz.results129]) (by kernel_rfl) (by simp) rfl rfl (xA _ _ _ ?_); conv => whnf
 repeat (first | (refine qz ?_; conv => whnf) | (refine qg [0] (hb) ?_; conv => whnf) | (refine qP (zX (by simpa using hlt) rfl rfl rfl rfl rfl) ?_; refine qp (zO rfl rfl hg rfl rfl rfl rfl) ?_; conv => whnf))
 exact aPr rfl rfl rfl
def uT (c : List UInt8) (s : Src) : ByteArray × Src := wm c s wD
theorem aEh {c : List UInt8} {s : Src} {K : Nat} (h : s.ok K) : (uT c s).2.ok (K + 1) ∧ (uT c s).1 ∈ wD := by
 obtain ⟨h1, h2⟩ := yC (c := c) (n := wD.length) h (by decide)
 refine ⟨h1, ?_⟩
 have e : (uT c s).1 = wD[(xB c s wD.length).1] := by simp [uT, wm, h2]
 rw [e]; exact List.getElem_mem h2
theorem aJM {c : List UInt8} {s : Src} {K : Nat} (hc : c.length ≤ maxLen) (hs : s.ok K) (hK : K ≤ 1000000000) : ACG Tryz.prog 99 [.optr 0 0 [] 0] [zu c s] [zu c (uT c s).2] ⟨.v (.string (uT c s).1), []⟩ := by
 have hb : ACG Tryz.prog 129 [.optr 0 0 [] 0, .own 1000000] [zu c s, aHp wD] [zu c (uT c s).2, aHp wD] ⟨.v (.string (uT c s).1), []⟩ := aLL hc hs hK (by decide) (by decide)
 refine xL (rs := [.tmp 2]) xH (by kernel_rfl) Tryz.func99 rfl Tryz.ntmps99 (by rw [Tryz.results99]) (by kernel_rfl) (by simp) rfl rfl (xA _ _ _ ?_); conv => whnf
 (refine qg [0,5] (hb) ?_; conv => whnf)
 repeat ((refine qz ?_; conv => whnf))
 exact j5 rfl rfl
def aAB (c : List UInt8) : Nat → Src → List Ent → List Ent × Src
 | 0, s, m => (m, s)
 | n + 1, s, m => aAB c n (xB c (uT c s).2 9).2 (uq m (uT c s).1 (xB c (uT c s).2 9).1)
theorem aHV {c : List UInt8} : ∀ (n : Nat) (s : Src) (m : List Ent) (K : Nat), s.ok K → Good m → (aAB c n s m).2.ok (K + 2 * n) ∧ Good (aAB c n s m).1 ∧ (aAB c n s m).1.length ≤ m.length + n
 | 0, s, m, K, h, hm => ⟨h, hm, Nat.le_refl _⟩
 | n + 1, s, m, K, h, hm => by
  obtain ⟨h1, h2⟩ := aEh (c := c) h
  obtain ⟨h3, h4⟩ := yC (c := c) (n := 9) h1 (by omega)
  obtain ⟨a1, a2, a3⟩ := aHV (c := c) n _ (uq m (uT c s).1 (xB c (uT c s).2 9).1) (K + 1 + 1) h3 (hm.put h2 (by omega) (by omega))
  have := aAq m (uT c s).1 (xB c (uT c s).2 9).1
  refine ⟨a1.le (by omega), a2, ?_⟩
  show (aAB c n _ _).1.length ≤ _
  omega
def uS (c : List UInt8) (s : Src) : List Ent × Src := aAB c (xB c s 6).1 (xB c s 6).2 []
theorem aEc {c : List UInt8} {s : Src} {K : Nat} (h : s.ok K) : (uS c s).2.ok (K + 11) ∧ Good (uS c s).1 ∧ (uS c s).1.length ≤ 5 := by
 obtain ⟨h1, h2⟩ := yC (c := c) (n := 6) h (by omega)
 obtain ⟨a1, a2, a3⟩ := aHV (c := c) (xB c s 6).1 _ [] _ h1 Good.nil
 exact ⟨a1.le (by omega), a2, by unfold uS; simp at a3; omega⟩
theorem aFx {c : List UInt8} {s : Src} {K : Nat} (hc : c.length ≤ maxLen) (hs : s.ok K) (hK : K ≤ 900000000) : ACG Tryz.prog 57 [.optr 0 0 [] 0] [zu c s] [zu c (uS c s).2] ⟨.own 0, [aM9 (uS c s).1]⟩ := by
 have hb := vF (n := 6) hc hs (by omega) (by omega)
 obtain ⟨n1, n2⟩ := yC (c := c) (n := 6) hs (by omega)
 refine xL (rs := [.tmp 2]) xH (by kernel_rfl) Tryz.func57 rfl Tryz.ntmps57 (by rw [Tryz.results57]) (by kernel_rfl) (by simp) rfl rfl (xA _ _ _ ?_); conv => whnf
 repeat ((first | refine qz ?_ | refine qg [0] (hb) ?_); conv => whnf)
 unfold uS
 generalize (xB c s 6).2 = s1 at n1 ⊢
 generalize hn0 : (xB c s 6).1 = n0 at n2 ⊢
 refine xZ (ι := { p : Nat × Src × List Ent // p.2.1.ok (K + 1 + 2 * (5 - p.1)) ∧ p.1 ≤ 5 ∧ Good p.2.2 ∧ p.2.2.length + p.1 ≤ 5 ∧ aAB c p.1 p.2.1 p.2.2 = aAB c n0 s1 [] }) (fun p => ⟨[(0, .optr 0 0 [] 0), (3, .own 6), (4, .v (.int .i64 (p.1.1 : Int)))], [(0, zu c p.1.2.1), (6, aM9 p.1.2.2)]⟩) (fun p => p.1.1) ⟨(n0, s1, []), n1.le (by omega), by omega, Good.nil, by simp; omega, rfl⟩ (by exact qle) ?_
 rintro ⟨⟨n, s2, m⟩, h1, h2, h3, h4, h5⟩
 dsimp only at h1 h2 h3 h4 h5 ⊢
 conv => whnf
 cases n with
 | zero =>
  rw [← h5]
  repeat ((refine qz ?_; conv => whnf))
  exact aH9 rfl rfl rfl
 | succ n =>
  obtain ⟨k1, k2⟩ := aEh (c := c) h1
  obtain ⟨k3, k4⟩ := yC (c := c) (n := 9) k1 (by omega)
  have hk := aJM (c := c) hc h1 (by omega)
  have hx := vF (n := 9) hc k1 (by omega) (by omega)
  have hl := aAq m (uT c s2).1 (xB c (uT c s2).2 9).1
  have hp := aDs (es := m) (k := (uT c s2).1) (v := (xB c (uT c s2).2 9).1) (by omega)
  repeat ((first | refine qz ?_ | refine qg [0] (hk) ?_ | refine qg [0] (hx) ?_); conv => whnf)
  refine qC (hp) ?_
  refine qr (aIz 6 rfl rfl rfl) ?_; conv => whnf
  repeat ((first | refine qp (xC (yU (c := (n : Int)) (by omega) (by omega) (by omega)) rfl rfl rfl) ?_ | refine qz ?_); conv => whnf)
  exact ⟨⟨(n, (xB c (uT c s2).2 9).2, uq m (uT c s2).1 (xB c (uT c s2).2 9).1), k3.le (by omega), by omega, h3.put k2 (by omega) (by omega), by simp; omega, h5⟩, by exact qle, by simp⟩
end Go.Proofs.YtfomjajdfaoogaaGreatDoor.AM
namespace Go.Proofs.YtfomjajdfaoogaaGreatDoor
open Go.RowKit
theorem aG6 : Tryz.prog.stoodInHeld 74 = false := by kernel_rfl
theorem aFL : Tryz.prog.eqGuardType Tryz.prog.depth 74 = false := by kernel_rfl
set_option maxHeartbeats 1000000 in
set_option maxRecDepth 100000 in
theorem aLD (A : Option Addr) (n c : Nat) (es : List Ent) (A' : Option Addr) (n' c' : Nat) (es' : List Ent) (w : World) (hr : Rd w 2 A n (yK es)) (hr' : Rd w 2 A' n' (yK es')) (hm : n ≤ maxLen) (hm' : n' ≤ maxLen) :
 Calls Tryz.prog 148 #[.slice A n c, .slice A' n' c'] w fun e w' => e = .returned (.bool (decide (es = es'))) ∧ Below w.heap.size w w' := by
 unfold maxLen at hm hm'
 have hlen := hr.len
 have hlen' := hr'.len
 have Hlen := Lib.hid hlen; clear hlen
 have Hlen' := Lib.hid hlen'; clear hlen'
 by_cases hne : n = n'
 case neg =>
  have hfin : Hid (decide (es = es') = false) := decide_eq_false (fun h => hne (by rw [← Hlen.out, ← Hlen'.out, h]))
  have hb : ((n : Int) != n') = true := by rw [bne_iff_ne]; omega
  go_enter Tryz.func148, Tryz.ntmps148
  go_wp2
  go_ret
  exact ⟨xw hfin.out.symm, Below.refl _ _⟩
 subst hne
 go_enter Tryz.func148, Tryz.ntmps148
 go_wp2
 go_loopw [5] (fun i wr => ∃ k : Nat, k ≤ n ∧ i = .int .i64 k ∧ es.take k = es'.take k ∧ Below w.heap.size w wr) (fun i _ => n - (intOf i).toNat)
 case atStart => exact ⟨0, Nat.zero_le _, rfl, rfl, Below.refl _ _⟩
 case round =>
  obtain ⟨k, hk, rfl, heq, hb⟩ := hrel
  have Heq := Lib.hid heq; clear heq
  by_cases hlt : k < n
  · have hke : k < es.length := by rw [Hlen.out]; exact hlt
    have hke' : k < es'.length := by rw [Hlen'.out]; exact hlt
    obtain ⟨b, off, rfl, hbl, hbl2, hc1, hc2⟩ := hr.ent hb hke
    obtain ⟨b', off', rfl, hbl', hbl2', hc1', hc2'⟩ := hr'.ent hb hke'
    have hA0 := fun y : Aft wr => y.cell hbl2 hc1
    have hA1 := fun y : Aft wr => y.cell hbl2 hc2
    have hA2 := fun y : Aft wr => y.cell hbl2' hc1'
    have hA3 := fun y : Aft wr => y.cell hbl2' hc2'
    have hyes : Hid (es[k] = es'[k] → es.take (k + 1) = es'.take (k + 1)) := by
     intro h'
     rw [List.take_succ_eq_append_getElem hke, List.take_succ_eq_append_getElem hke', Heq.out, h']
    have hno : Hid (es[k] ≠ es'[k] → decide (es = es') = false) := by
     intro h
     refine decide_eq_false (fun e => ?_)
     subst e
     exact h rfl
    generalize es[k] = ek at *
    generalize es'[k] = ek' at *
    obtain ⟨k1, v1⟩ := ek
    obtain ⟨k2, v2⟩ := ek'
    have hsh := aG6
    have hsg := aFL
    by_cases hkk : k1 = k2
    · subst hkk
      by_cases hvv : v1 = v2
      · subst hvv
        have hyes' := Lib.hid (hyes.out rfl)
        clear hyes hno
        go_wp2
        refine xW (by kernel_rfl) (by kernel_rfl) ?_
        repeat (go_big_quiet_step (fail))
        refine wpQuiet_nil ?_
        rintro _ ⟨y, rfl⟩
        have hb3 := um hb y.below
        generalize y.at_ = w3 at *
        go_wp2
        go_roundw
        case rel => exact ⟨k + 1, by omega, by go_num, hyes'.out, hb3⟩
        case measure => simp [intOf]; omega
      · have hno' := Lib.hid (hno.out (fun h => hvv (by cases h; rfl)))
        clear hyes hno
        go_wp2
        refine xW (by kernel_rfl) (by kernel_rfl) ?_
        repeat (go_big_quiet_step (fail))
        refine wpQuiet_nil ?_
        rintro _ ⟨y, rfl⟩
        have hb3 := um hb y.below
        generalize y.at_ = w3 at *
        go_wp2
        go_ret
        exact ⟨xw hno'.out.symm, hb3⟩
    · have hno' := Lib.hid (hno.out (fun h => hkk (by cases h; rfl)))
      have hkl : ¬ k1.toList = k2.toList := fun h => hkk (toList_inj h)
      clear hyes hno
      go_wp2
      refine xW (by kernel_rfl) (by kernel_rfl) ?_
      repeat (go_big_quiet_step (fail))
      refine wpQuiet_nil ?_
      rintro _ ⟨y, rfl⟩
      have hb3 := um hb y.below
      generalize y.at_ = w3 at *
      go_wp2
      go_ret
      exact ⟨xw hno'.out.symm, hb3⟩
  · have hfin : Hid (decide (es = es') = true) := by
     have h := Heq.out
     rw [List.take_of_length_le (by rw [Hlen.out]; omega), List.take_of_length_le (by rw [Hlen'.out]; omega)] at h
     exact decide_eq_true h
    go_wp2
    go_ret
    exact ⟨xw hfin.out.symm, hb⟩
set_option maxHeartbeats 1000000 in
set_option maxRecDepth 100000 in
theorem aHD (A : Option Addr) (n c : Nat) (es : List Ent) (A' : Option Addr) (n' c' : Nat) (es' : List Ent) (w : World) (hr : Rd w 2 A n (yK es)) (hr' : Rd w 2 A' n' (yK es')) (hm : n ≤ maxLen) (hm' : n' ≤ maxLen) :
 Calls Tryz.prog 37 #[.slice A n c, .slice A' n' c'] w fun e w' => e = .returned (.bool (decide (es = es'))) ∧ Below w.heap.size w w' := by
 unfold maxLen at hm hm'
 have hlen := hr.len
 have hlen' := hr'.len
 have Hlen := Lib.hid hlen; clear hlen
 have Hlen' := Lib.hid hlen'; clear hlen'
 by_cases hne : n = n'
 case neg =>
  have hfin : Hid (decide (es = es') = false) := decide_eq_false (fun h => hne (by rw [← Hlen.out, ← Hlen'.out, h]))
  have hb : ((n : Int) != n') = true := by rw [bne_iff_ne]; omega
  go_enter Tryz.func37, Tryz.ntmps37
  go_wp2
  go_ret
  exact ⟨xw hfin.out.symm, Below.refl _ _⟩
 subst hne
 go_enter Tryz.func37, Tryz.ntmps37
 go_wp2
 go_loopw [5, 13] (fun _ i wr => ∃ k : Nat, k ≤ n ∧ i = .int .i64 k ∧ es.take k = es'.take k ∧ Below w.heap.size w wr) (fun _ i _ => n - (intOf i).toNat)
 case atStart => exact ⟨0, Nat.zero_le _, rfl, rfl, Below.refl _ _⟩
 case round =>
  obtain ⟨k, hk, rfl, heq, hb⟩ := hrel
  have Heq := Lib.hid heq; clear heq
  by_cases hlt : k < n
  · have hke : k < es.length := by rw [Hlen.out]; exact hlt
    have hke' : k < es'.length := by rw [Hlen'.out]; exact hlt
    obtain ⟨b, off, rfl, hbl, hbl2, hc1, hc2⟩ := hr.ent hb hke
    obtain ⟨b', off', rfl, hbl', hbl2', hc1', hc2'⟩ := hr'.ent hb hke'
    have hA0 := fun y : Aft wr => y.cell hbl2 hc1
    have hA1 := fun y : Aft wr => y.cell hbl2 hc2
    have hA2 := fun y : Aft wr => y.cell hbl2' hc1'
    have hA3 := fun y : Aft wr => y.cell hbl2' hc2'
    have hyes : Hid (es[k] = es'[k] → es.take (k + 1) = es'.take (k + 1)) := by
     intro h'
     rw [List.take_succ_eq_append_getElem hke, List.take_succ_eq_append_getElem hke', Heq.out, h']
    have hno : Hid (es[k] ≠ es'[k] → decide (es = es') = false) := by
     intro h
     refine decide_eq_false (fun e => ?_)
     subst e
     exact h rfl
    generalize es[k] = ek at *
    generalize es'[k] = ek' at *
    obtain ⟨k1, v1⟩ := ek
    obtain ⟨k2, v2⟩ := ek'
    have hsh := aG6
    have hsg := aFL
    by_cases hkk : k1 = k2
    · subst hkk
      by_cases hvv : v1 = v2
      · subst hvv
        have hyes' := Lib.hid (hyes.out rfl)
        clear hyes hno
        go_wp2
        refine xW (by kernel_rfl) (by kernel_rfl) ?_
        repeat (go_big_quiet_step (fail))
        refine wpQuiet_nil ?_
        rintro _ ⟨y, rfl⟩
        have hb3 := um hb y.below
        generalize y.at_ = w3 at *
        go_wp2
        go_roundw
        case rel => exact ⟨k + 1, by omega, by go_num, hyes'.out, hb3⟩
        case measure => simp [intOf]; omega
      · have hno' := Lib.hid (hno.out (fun h => hvv (by cases h; rfl)))
        clear hyes hno
        go_wp2
        refine xW (by kernel_rfl) (by kernel_rfl) ?_
        repeat (go_big_quiet_step (fail))
        refine wpQuiet_nil ?_
        rintro _ ⟨y, rfl⟩
        have hb3 := um hb y.below
        generalize y.at_ = w3 at *
        go_wp2
        go_ret
        exact ⟨xw hno'.out.symm, hb3⟩
    · have hno' := Lib.hid (hno.out (fun h => hkk (by cases h; rfl)))
      have hkl : ¬ k1.toList = k2.toList := fun h => hkk (toList_inj h)
      clear hyes hno
      go_wp2
      refine xW (by kernel_rfl) (by kernel_rfl) ?_
      repeat (go_big_quiet_step (fail))
      refine wpQuiet_nil ?_
      rintro _ ⟨y, rfl⟩
      have hb3 := um hb y.below
      generalize y.at_ = w3 at *
      go_wp2
      go_ret
      exact ⟨xw hno'.out.symm, hb3⟩
  · have hfin : Hid (decide (es = es') = true) := by
     have h := Heq.out
     rw [List.take_of_length_le (by rw [Hlen.out]; omega), List.take_of_length_le (by rw [Hlen'.out]; omega)] at h
     exact decide_eq_true h
    go_wp2
    go_ret
    exact ⟨xw hfin.out.symm, hb⟩
end Go.Proofs.YtfomjajdfaoogaaGreatDoor
namespace Go.Proofs.YtfomjajdfaoogaaGreatDoor.AM
open Go Go.RowKit
attribute [local irreducible] xI xO xQ xX yG Pre ACG
theorem aRK : ∀ vs w, (callFunc 148 vs).run Tryz.prog w = .ok (.enter 148 vs) w := wR Tryz.func148 (by kernel_rfl) (by kernel_rfl)
theorem aSo : ∀ vs w, (callFunc 37 vs).run Tryz.prog w = .ok (.enter 37 vs) w := wR Tryz.func37 (by kernel_rfl) (by kernel_rfl)
theorem aMP {es es' : List Ent} (hm : es.length ≤ maxLen) (hm' : es'.length ≤ maxLen) : AC Tryz.prog 148 [.lst 2 (es.map yB), .lst 2 (es'.map yB)] ⟨.v (.bool (decide (es = es'))), []⟩ :=
 aCi aRK rfl fun w S0 vs hS hv => by
  obtain ⟨u, us, rfl, h1, hv⟩ := aHj hv
  obtain ⟨u', rfl, h2⟩ := aDb hv
  obtain ⟨A, c, rfl, _, _, hr⟩ := kS hS h1
  obtain ⟨A', c', rfl, _, _, hr'⟩ := kS hS h2
  exact aLD A _ c es A' _ c' es' w hr hr' hm hm'
theorem aFy {es es' : List Ent} (hm : es.length ≤ maxLen) (hm' : es'.length ≤ maxLen) : AC Tryz.prog 37 [.lst 2 (es.map yB), .lst 2 (es'.map yB)] ⟨.v (.bool (decide (es = es'))), []⟩ :=
 aCi aSo rfl fun w S0 vs hS hv => by
  obtain ⟨u, us, rfl, h1, hv⟩ := aHj hv
  obtain ⟨u', rfl, h2⟩ := aDb hv
  obtain ⟨A, c, rfl, _, _, hr⟩ := kS hS h1
  obtain ⟨A', c', rfl, _, _, hr'⟩ := kS hS h2
  exact aHD A _ c es A' _ c' es' w hr hr' hm hm'
theorem aJi {α : Type} {a b : List α} (h : a.length = b.length) (he : ∀ i, i < a.length → ∃ (h1 : i < a.length) (h2 : i < b.length), a[i] = b[i]) : a = b :=
 List.ext_getElem h fun i h1 h2 => (he i h1).2.2
def Agree {α : Type} (a b : List α) (k : Nat) : Prop := ∀ i, i < k → ∃ (h1 : i < a.length) (h2 : i < b.length), a[i] = b[i]
theorem Agree.snoc {α : Type} {a b : List α} {k : Nat} (h : Agree a b k) (h1 : k < a.length) (h2 : k < b.length) (he : a[k] = b[k]) : Agree a b (k + 1) := fun i hi => by
 rcases Nat.lt_or_ge i k with h' | h'
 · exact h i h'
 · have : i = k := by omega
   subst this; exact ⟨h1, h2, he⟩
theorem aMM {a b : List Int} (hm : a.length ≤ maxLen) (hm' : b.length ≤ maxLen) : AC Tryz.prog 126 [.lst 1 (a.map yo), .lst 1 (b.map yo)] ⟨.v (.bool (decide (a = b))), []⟩ := by
 unfold maxLen at hm hm'
 by_cases hl : a.length = b.length
 case neg =>
  rw [decide_eq_false (fun e => hl (by rw [e]))]
  refine qrf Tryz.func126 Tryz.ntmps126 Tryz.results126 ?_; conv => whnf
  repeat ((refine qz ?_; conv => whnf))
  exact xD rfl trivial
 refine qrf Tryz.func126 Tryz.ntmps126 Tryz.results126 ?_; conv => whnf
 repeat ((refine qz ?_; conv => whnf))
 refine xZ (ι := { k : Nat // k ≤ a.length ∧ Agree a b k }) (fun k => ⟨[(0, .lst 1 (a.map yo)), (1, .lst 1 (b.map yo)), (12, .v (.int .i64 (a.length : Int))), (13, .v (.int .i64 (k.1 : Int)))], []⟩) (fun k => a.length - k.1) ⟨0, Nat.zero_le _, fun i h => by omega⟩ (by exact qle) ?_
 rintro ⟨k, hk, hg⟩
 dsimp only at hk hg ⊢
 conv => whnf
 by_cases hlt : k < a.length
 case neg =>
  rw [decide_eq_true (aJi hl (fun i hi => hg i (by omega)))]
  repeat ((refine qz ?_; conv => whnf))
  exact xD rfl trivial
 have hlt' : k < b.length := by omega
 by_cases he : a[k] = b[k]
 · repeat ((refine qz ?_; conv => whnf))
   refine .inl ⟨by kernel_rfl, ?_⟩
   conv => whnf
   repeat ((refine qz ?_; conv => whnf))
   exact ⟨⟨k + 1, hlt, hg.snoc hlt hlt' he⟩, by exact qle, by simp; omega⟩
 · rw [decide_eq_false (fun e => he (by subst e; rfl))]
   repeat ((refine qz ?_; conv => whnf))
   refine .inl ⟨by kernel_rfl, ?_⟩
   conv => whnf
   repeat ((refine qz ?_; conv => whnf))
   exact xD rfl trivial
theorem aQx {a b : Cmt} : a = b ↔ a.1 = b.1 ∧ a.2 = b.2 := ⟨fun h => by subst h; exact ⟨rfl, rfl⟩, fun ⟨h1, h2⟩ => Prod.ext h1 h2⟩
theorem aIj {a b : Cmt} (hm : a.1.length ≤ maxLen) (hm' : b.1.length ≤ maxLen) (hn : a.2.length ≤ maxLen) (hn' : b.2.length ≤ maxLen) : AC Tryz.prog 93 [xS a, xS b] ⟨.v (.bool (decide (a = b))), []⟩ := by
 have h1 := aMM hm hm'
 have h2 := aFy hn hn'
 by_cases he : a.1 = b.1
 · have : decide (a = b) = decide (a.2 = b.2) := by simp [aQx, he]
   rw [this]
   rw [decide_eq_true he] at h1
   refine qrf Tryz.func93 Tryz.ntmps93 Tryz.results93 ?_; conv => whnf
   repeat ((first | refine qz ?_ | refine qc (h1) ?_ | refine qc (h2) ?_); conv => whnf)
   exact xD rfl trivial
 · rw [decide_eq_false (fun e => he (by rw [e]))]
   rw [decide_eq_false he] at h1
   refine qrf Tryz.func93 Tryz.ntmps93 Tryz.results93 ?_; conv => whnf
   repeat ((first | refine qz ?_ | refine qc (h1) ?_ | refine qc (h2) ?_); conv => whnf)
   exact xD rfl trivial
theorem aJJ {a b : List Cmt} (hm : a.length ≤ maxLen) (hm' : b.length ≤ maxLen) (hc : comOK maxLen a) (hc' : comOK maxLen b) : AC Tryz.prog 92 [.lst 2 (a.map xS), .lst 2 (b.map xS), .fn 93 [] []] ⟨.v (.bool (decide (a = b))), []⟩ := by
 unfold maxLen at hm hm'
 by_cases hl : a.length = b.length
 case neg =>
  rw [decide_eq_false (fun e => hl (by rw [e]))]
  refine qrf Tryz.func92 Tryz.ntmps92 Tryz.results92 ?_; conv => whnf
  repeat ((refine qz ?_; conv => whnf))
  exact xD rfl trivial
 refine qrf Tryz.func92 Tryz.ntmps92 Tryz.results92 ?_; conv => whnf
 repeat ((refine qz ?_; conv => whnf))
 refine xZ (ι := { k : Nat // k ≤ a.length ∧ Agree a b k }) (fun k => ⟨[(1, .lst 2 (b.map xS)), (2, .fn 93 [] []), (15, .lst 2 (a.map xS)), (16, .v (.int .i64 (a.length : Int))), (17, .v (.int .i64 (k.1 : Int)))], []⟩) (fun k => a.length - k.1) ⟨0, Nat.zero_le _, fun i h => by omega⟩ (by exact qle) ?_
 rintro ⟨k, hk, hg⟩
 dsimp only at hk hg ⊢
 conv => whnf
 by_cases hlt : k < a.length
 case neg =>
  rw [decide_eq_true (aJi hl (fun i hi => hg i (by omega)))]
  repeat ((refine qz ?_; conv => whnf))
  exact xD rfl trivial
 have hlt' : k < b.length := by omega
 have hac := aIj (a := a[k]) (b := b[k]) (hc _ (List.getElem_mem hlt)).1 (hc' _ (List.getElem_mem hlt')).1 (hc _ (List.getElem_mem hlt)).2.1 (hc' _ (List.getElem_mem hlt')).2.1
 by_cases he : a[k] = b[k]
 · rw [decide_eq_true he] at hac
   repeat (first | (refine qz ?_; conv => whnf) | (refine qr (y8 rfl rfl rfl rfl rfl (by conv => lhs; whnf) rfl) ?_; conv => whnf) | (refine qr (aEq hac rfl rfl (.inl rfl) trivial rfl rfl) ?_; conv => whnf))
   exact ⟨⟨k + 1, hlt, hg.snoc hlt hlt' he⟩, by exact qle, by simp; omega⟩
 · rw [decide_eq_false he] at hac
   rw [decide_eq_false (fun e => he (by subst e; rfl))]
   repeat (first | (refine qz ?_; conv => whnf) | (refine qr (y8 rfl rfl rfl rfl rfl (by conv => lhs; whnf) rfl) ?_; conv => whnf) | (refine qr (aEq hac rfl rfl (.inl rfl) trivial rfl rfl) ?_; conv => whnf))
   exact xD rfl trivial
noncomputable def aNE (a b : List Cmt) : Bool := uO a && (uO b && decide (a = b))
theorem aIg {a b : List Cmt} (hm : a.length ≤ maxLen) (hm' : b.length ≤ maxLen) (hc : comOK maxLen a) (hc' : comOK maxLen b) : AC Tryz.prog 52 [.lst 2 (a.map xS), .lst 2 (b.map xS)] ⟨.v (.bool (aNE a b)), []⟩ := by
 have h1 := aC2 hm hc
 have h2 := aC2 hm' hc'
 have h3 := aJJ hm hm' hc hc'
 unfold aNE
 generalize uO a = x at h1
 generalize uO b = y at h2
 cases x <;> cases y <;> simp only [Bool.false_and, Bool.true_and]
 all_goals
  refine qrf Tryz.func52 Tryz.ntmps52 Tryz.results52 ?_; conv => whnf
  repeat ((first | refine qz ?_ | refine qc (h1) ?_ | refine qc (h2) ?_ | refine qc (h3) ?_); conv => whnf)
  exact xD rfl trivial
end Go.Proofs.YtfomjajdfaoogaaGreatDoor.AM
