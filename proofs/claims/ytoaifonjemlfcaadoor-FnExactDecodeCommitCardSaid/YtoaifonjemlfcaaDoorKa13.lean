/- Texts of the machine over data, folded. -/
import Derived.Test.YtoaifonjemlfcaaDoorKa12
import Derived.Test.YtoaifonjemlfcaaDoorKa5
import Derived.Test.YtoaifonjemlfcaaDoorKa9
import Derived.Test.YtoaifonjemlfcaaDoorKa8
set_option linter.unusedVariables false
set_option linter.unusedSimpArgs false
set_option maxRecDepth 100000
namespace Go.Proofs.YtoaifonjemlfcaaDoor.AM
open Go Go.RowKit
theorem aF5 {S : Nat → Prop} {w w' : World} {hp : Nat → Option OB} {B : Nat → Nat} {V : Nat → Value} {T : Nat → Nat → Prop} {lo D : Nat → Prop} (h : Rows S w hp (fun _ => none) B V T lo) (hg : Grown w w' D) (hS : ∀ g, S g → g < w.heap.size ∧ ¬ D g) (hR : ∀ l ob g, hp l = some ob → Blk V T l g → ¬ D g) : Rows S w' hp (fun _ => none) B V T lo := by
 have hsame : ∀ b, S b → w'.heap[b]? = w.heap[b]? := fun b hb => hg.block b (hS b hb).1 (hS b hb).2
 have hrow : ∀ l ob g, hp l = some ob → Blk V T l g → w'.heap[g]? = w.heap[g]? := fun l ob g ho hb => hg.block g (h.me l ob g ho hb).2.1 (hR l ob g ho hb)
 refine ⟨fun l ob ho => ?_, fun l ob g ho hg' => ?_, h.nd, h.ds, fun l es e => (by cases e)⟩
 · exact (h.ro l ob ho).carry (fun _ h => h) hsame (fun l _ => Same.refl l) (fun g hg' => hrow l ob g ho (.inr hg')) (fun g hg' => hrow l ob g ho (.inl hg'))
 · obtain ⟨a, b, c⟩ := h.me l ob g ho hg'
   exact ⟨a, Nat.lt_of_lt_of_le b hg.size, c⟩
theorem aIH {S : Nat → Prop} {w : World} {hp : Nat → Option OB} {B : Nat → Nat} {V : Nat → Value} {T : Nat → Prop} {b j : Nat} {v : Value} {t : ByteArray} (h : RO S w hp B V T (rdP t j) b v) : w.cell? ⟨b, 0, none⟩ = some (.string t) ∧ w.cell? ⟨b, 1, none⟩ = some (.int .i64 (j : Int)) := by
 obtain ⟨tt, cs, cap, cur, h0, hr, ha, hpos, hV, hheap, _, _, _, ht⟩ := h.block (by simp)
 have hr' : RL S w [.agg [.v (.string t), .v (.int .i64 (j : Int))]] cs := hr
 unfold RL at hr'
 obtain ⟨c1, c2, rfl, h1, h2⟩ := hr'
 unfold RL at h2
 subst h2
 unfold RA RL at h1
 obtain ⟨d1, d2, rfl, k1, k2⟩ := h1
 unfold RL at k2
 obtain ⟨d3, d4, rfl, k3, k4⟩ := k2
 unfold RL at k4
 subst k4
 unfold RA at k1 k3
 obtain ⟨rfl, _⟩ := k1
 obtain ⟨rfl, _⟩ := k3
 exact ⟨vH hheap ht rfl, vH hheap ht rfl⟩
theorem aH8 : ∀ vs w, (callFunc 22 vs).run Tryd.prog w = .ok (.enter 22 vs) w := wQ Tryd.func22 (by kernel_rfl) (by kernel_rfl)
section
variable {w : World} {S0 : Nat → Prop} {B0 : Nat → Nat} {V0 : Nat → Value} {T0 : Nat → Nat → Prop} {rin : List OB}
theorem aFP {o : Obj} {ys : List AV} {vs : List Value} (hS : ∀ b, S0 b → b < w.heap.size) (hG : ∀ g y, GT g = some y → RA S0 w (.ptr y) [.pointer (some ⟨g, 0, none⟩)]) (hrows : Rows S0 w (xC 0 rin) (fun _ => none) B0 V0 T0 (fun _ => True)) (hargs : RVs S0 w (xC 0 rin) B0 V0 ys vs) :
 (∀ b, S0 b → b < (w.alloc o).heap.size) ∧ (∀ g y, GT g = some y → RA S0 (w.alloc o) (.ptr y) [.pointer (some ⟨g, 0, none⟩)]) ∧ Rows S0 (w.alloc o) (xC 0 rin) (fun _ => none) B0 V0 T0 (fun _ => True) ∧ RVs S0 (w.alloc o) (xC 0 rin) B0 V0 ys vs := by
 have hb : Below w.heap.size w (w.alloc o) := (Below.refl _ _).alloc (Nat.le_refl _) _
 have hsame : ∀ b, S0 b → (w.alloc o).heap[b]? = w.heap[b]? := fun b hb' => hb.block b (hS b hb')
 exact ⟨fun b hb' => Nat.lt_of_lt_of_le (hS b hb') hb.size, fun g y e => RA.mono (fun _ h => h) hsame _ _ (hG g y e), aF5 (D := fun _ => False) hrows (Grown.of hb _) (fun g hg => ⟨hS g hg, fun h => h⟩) (fun _ _ _ _ _ h => h), RVs.carry (fun _ h => h) hsame _ _ (fun l _ => Same.refl l) hargs⟩
theorem hb_lt {rin : List OB} (hrows : Rows S0 w (xC 0 rin) (fun _ => none) B0 V0 T0 (fun _ => True)) {g : Nat} (hg : HB (xC 0 rin) V0 T0 g) : g < w.heap.size := by
 obtain ⟨l, ob, ho, hb⟩ := hg
 exact (hrows.me l ob g ho hb).2.1
end
theorem aCc {w w1 w2 : World} {M : Nat → Prop} (hb : Below w.heap.size w w1) (hg : Grown w1 w2 M) (v : Value) : Grown w ((w2.setCell ⟨w.heap.size, 0, none⟩ v)) M := by
 have hsz : (w2.setCell ⟨w.heap.size, 0, none⟩ v).heap.size = w2.heap.size := by simp [World.setCell]
 refine ⟨hg.os.trans hb.os, hg.tape.trans hb.tape, hg.output.trans hb.output, by rw [hsz]; exact Nat.le_trans hb.size hg.size, fun k hk hM => ?_⟩
 rw [← hb.block k hk, ← hg.block k (Nat.lt_of_lt_of_le hk hb.size) hM]
 have hne : ¬ w.heap.size = k := by omega
 simp [World.setCell, Array.getElem?_modify, hne]
theorem aEl {f : FuncId} {ys : List AV} {rin : List OB} (hac : ACP Tryd.prog f ys rin pvM) : ACL Tryd.prog 22 [.optr 0 0 [] 0, .fn f [] ys] rin (.bool false) := by
 refine ⟨aH8, fun w S0 B0 V0 T0 vs hS hG hrows hargs => ?_⟩
 unfold RVs at hargs
 obtain ⟨u, us, rfl, hu, hargs⟩ := hargs
 unfold RVs at hargs
 obtain ⟨u2, us2, rfl, hu2, hargs⟩ := hargs
 unfold RVs at hargs
 subst hargs
 unfold RV at hu2
 obtain ⟨q1, caps, rfl, hq1, hcaps⟩ := hu2
 unfold RVs at hq1
 subst hq1
 have hb : Below w.heap.size w (w.alloc (.cells #[.bool false] 4)) := (Below.refl _ _).alloc (Nat.le_refl _) _
 have hnew := heap_alloc_new w (.cells #[.bool false] 4)
 have hlt1 := (Array.getElem?_eq_some_iff.1 hnew).1
 obtain ⟨k1, k2, k3, k4⟩ := aFP (o := .cells #[.bool false] 4) hS hG hrows hcaps
 have hf := hac.2 _ S0 B0 V0 T0 caps k1 k2 k3 k4
 refine (aIb f caps.toArray u w (fun w' => Grown (w.alloc (.cells #[.bool false] 4)) w' (HB (xC 0 rin) V0 T0)) (fun a w => hac.1 a w) (hf.mono fun e w' ⟨he, hg⟩ => ?_)).mono ?_
 · have hk : w'.heap[w.heap.size]? = some (.cells #[.bool false] 4 (0, 0)) := by
    rw [hg.block w.heap.size hlt1 (fun h => by have := hb_lt hrows h; omega)]; exact hnew
   exact ⟨he, ⟨by rw [Lib.cell_of_heap hk]; rfl, Lib.frozen_of_heap hk 0⟩, hg⟩
 · rintro e w' ⟨rfl, w2, hg, rfl⟩
   exact ⟨rfl, aCc hb hg _⟩
theorem aBR {f : FuncId} {ys : List AV} {R R' : List OB} {t : ByteArray} {i j : Nat} (hac : ACG Tryd.prog f ys (rdP t i :: R) (rdP t j :: R') ⟨.tup [], []⟩) :
 ACG Tryd.prog 22 [.optr 0 0 [] 0, .fn f [] ys] (rdP t i :: R) (rdP t j :: R') ⟨.v (.bool ((j : Int) == (t.size : Int))), []⟩ := by
 refine ⟨aH8, fun w S0 B0 V0 T0 vs hS hG hrows hargs => ?_⟩
 unfold RVs at hargs
 obtain ⟨u, us, rfl, hu, hargs⟩ := hargs
 unfold RVs at hargs
 obtain ⟨u2, us2, rfl, hu2, hargs⟩ := hargs
 unfold RVs at hargs
 subst hargs
 unfold RV at hu hu2
 obtain ⟨ob0, ho0, rfl⟩ := hu
 obtain ⟨q1, caps, rfl, hq1, hcaps⟩ := hu2
 unfold RVs at hq1
 subst hq1
 have hb : Below w.heap.size w (w.alloc (.cells #[.bool false] 4)) := (Below.refl _ _).alloc (Nat.le_refl _) _
 have hnew := heap_alloc_new w (.cells #[.bool false] 4)
 have hlt1 := (Array.getElem?_eq_some_iff.1 hnew).1
 have hs1 : (w.alloc (.cells #[.bool false] 4)).heap.size = w.heap.size + 1 := by simp
 obtain ⟨k1, k2, k3, k4⟩ := aFP (o := .cells #[.bool false] 4) hS hG hrows hcaps
 have hf := hac.2 _ S0 B0 V0 T0 caps k1 k2 k3 k4
 have hnk : ¬ HB (xC 0 (rdP t i :: R)) V0 T0 w.heap.size := fun h => by have := hb_lt hrows h; omega
 simp only [Nat.zero_mul, Nat.add_zero]
 refine (aIc f caps.toArray (B0 0) w (fun w' => ∃ S T1, Grown (w.alloc (.cells #[.bool false] 4)) w' (HB (xC 0 (rdP t i :: R)) V0 T0) ∧ (∀ b, S0 b → S b) ∧ (∀ b, S b → b < w'.heap.size ∧ (S0 b ∨ (w.alloc (.cells #[.bool false] 4)).heap.size ≤ b ∨ HB (xC 0 (rdP t i :: R)) V0 T0 b)) ∧ Rows S w' (xC 0 (rdP t j :: R')) (fun _ => none) B0 V0 T1 (fun g => (w.alloc (.cells #[.bool false] 4)).heap.size ≤ g ∨ HB (xC 0 (rdP t i :: R)) V0 T0 g)) t j (fun a w => hac.1 a w) (hf.mono fun e w' h => ?_)).mono ?_
 · obtain ⟨v, S, B, V, T, T1, rfl, hg, h1, h2, hv, _, h3, _⟩ := h
   unfold RV RVs at hv
   obtain ⟨us, rfl, rfl⟩ := hv
   have hk : w'.heap[w.heap.size]? = some (.cells #[.bool false] 4 (0, 0)) := by
    rw [hg.block w.heap.size hlt1 hnk]; exact hnew
   exact ⟨rfl, ⟨⟨by rw [Lib.cell_of_heap hk]; rfl, Lib.frozen_of_heap hk 0⟩, aIH (h3.ro 0 _ rfl)⟩, S, T1, hg, h1, h2, h3⟩
 · rintro e w' ⟨rfl, w2, ⟨S, T1, hg, h1, h2, h3⟩, rfl⟩
   have hgw := aCc hb hg (.bool ((j : Int) == (t.size : Int)))
   have hnS : ¬ S w.heap.size := fun h => by
    rcases (h2 _ h).2 with q | q | q
    · have := hS _ q; omega
    · omega
    · exact hnk q
   have hg2 : Grown w2 (w2.setCell ⟨w.heap.size, 0, none⟩ (.bool ((j : Int) == (t.size : Int)))).drew (fun g => g = w.heap.size) := by
    have hsz : (w2.setCell ⟨w.heap.size, 0, none⟩ (.bool ((j : Int) == (t.size : Int)))).heap.size = w2.heap.size := by simp [World.setCell]
    refine ⟨rfl, rfl, rfl, Nat.le_of_eq hsz.symm, fun k hk hM => ?_⟩
    have hne : ¬ w.heap.size = k := fun e => hM e.symm
    show (w2.setCell ⟨w.heap.size, 0, none⟩ (.bool ((j : Int) == (t.size : Int)))).heap[k]? = _
    simp [World.setCell, Array.getElem?_modify, hne]
   have hrw := aF5 (D := fun g => g = w.heap.size) h3 hg2 (fun g hg' => ⟨(h2 g hg').1, fun e => hnS (e ▸ hg')⟩) (fun l ob g ho hb' e => by
    have hlo := (h3.me l ob g ho hb').2.2
    rw [e] at hlo
    rcases hlo with q | q
    · omega
    · exact hnk q)
   have hgd : Grown w (w2.setCell ⟨w.heap.size, 0, none⟩ (.bool ((j : Int) == (t.size : Int)))).drew (HB (xC 0 (rdP t i :: R)) V0 T0) := ⟨hgw.os, hgw.tape, hgw.output, hgw.size, hgw.block⟩
   refine ⟨_, S, fun _ => 0, fun _ => undef, fun _ => Fa, T1, rfl, hgd, h1, fun b hb' => ?_, (by unfold RV; exact ⟨rfl, rfl⟩), kC j6, ⟨hrw.ro, fun l ob g ho hb' => ?_, hrw.nd, hrw.ds, fun l es e => (by cases e)⟩, fun l l' ob ob' g e => by rw [j6] at e; cases e⟩
   · have h := h2 b hb'
     refine ⟨Nat.lt_of_lt_of_le h.1 hg2.size, ?_⟩
     rcases h.2 with q | q | q
     · exact .inl q
     · exact .inr (.inl (by omega))
     · exact .inr (.inr q)
   · obtain ⟨a, b, c⟩ := hrw.me l ob g ho hb'
     exact ⟨a, b, c.imp (fun q => by omega) id⟩
attribute [local irreducible] xM xO xg yE y7 Pre ACG
noncomputable def jL (t : ByteArray) : Bas × Int := if 65536 < t.size then (⟨[], []⟩, 2) else (if dK t = 0 then dB t else ⟨[], []⟩, dK t)
theorem aBy {t : ByteArray} (ht : t.size ≤ maxLen) : AC Tryd.prog 13 [.v (.string t)] ⟨.tup [vP (jL t).1, .v (.int .i64 (jL t).2)], []⟩ := by
 unfold maxLen at ht
 unfold jL
 by_cases h : 65536 < t.size
 · rw [if_pos h]
   refine qrf Tryd.func13 Tryd.ntmps13 Tryd.results13 ?_; conv => whnf
   repeat ((first | refine qz ?_ | refine qst ?_); conv => whnf)
   exact yu rfl rfl rfl rfl trivial rfl
 · rw [if_neg h]
   have c1 := aGd (t := t) (by omega)
   generalize (if dK t = 0 then dB t else ⟨[], []⟩) = b at c1 ⊢
   generalize dK t = k at c1 ⊢
   refine qrf Tryd.func13 Tryd.ntmps13 Tryd.results13 ?_; conv => whnf
   repeat ((first | refine qz ?_ | refine qc (c1) ?_ | refine qst ?_); conv => whnf)
   exact yu rfl rfl rfl rfl trivial rfl
theorem qj {c : Cmt} {k0 : Int} (hm : c.1.length ≤ 1048576) (hm2 : c.2.length ≤ 1048576) (h0 : 0 ≤ k0) (h1 : k0 ≤ 4194304) : AC Tryd.prog 12 [xP (yG c.1.length k0, marked c.2.length (k0 + c.1.length)), .v (.int .i64 k0)] ⟨.v (.int .i64 (k0 + c.1.length + 2 * c.2.length)), []⟩ := by
 have g1 := aBh (n := c.1.length) (k0 := k0) (by omega) (by omega) (by omega)
 have g2 := aAj (n := c.2.length) (k := k0 + c.1.length) (by omega) (by omega) (by omega)
 refine qrf Tryd.func12 Tryd.ntmps12 Tryd.results12 ?_; conv => whnf
 repeat ((first | refine qz ?_ | refine qc (g1) ?_ | refine qc (g2) ?_); conv => whnf)
 exact xA rfl trivial
theorem aCW {k0 : Int} : AC Tryd.prog 11 [xP ([], []), .v (.int .i64 k0)] ⟨.v (.int .i64 k0), []⟩ := by
 have g1 : AC Tryd.prog 28 [.lst 1 [], .v (.int .i64 k0)] ⟨.v (.int .i64 k0), []⟩ := by
  refine qrf Tryd.func28 Tryd.ntmps28 Tryd.results28 ?_; conv => whnf
  refine xZ (ι := Unit) (fun _ => ⟨[(0, .lst 1 []), (1, .v (.int .i64 k0)), (5, .v (.int .i64 0))], []⟩) (fun _ => 0) () (by exact qle) ?_
  rintro ⟨⟩
  try dsimp only
  conv => whnf
  repeat ((first | refine qp (xG (wN (by simp)) rfl rfl rfl) ?_ | refine qz ?_); conv => whnf)
  exact xA rfl trivial
 have g2 : AC Tryd.prog 29 [.lst 2 [], .v (.int .i64 k0)] ⟨.v (.int .i64 k0), []⟩ := by
  refine qrf Tryd.func29 Tryd.ntmps29 Tryd.results29 ?_; conv => whnf
  refine xZ (ι := Unit) (fun _ => ⟨[(0, .lst 2 []), (1, .v (.int .i64 k0)), (5, .v (.int .i64 0))], []⟩) (fun _ => 0) () (by exact qle) ?_
  rintro ⟨⟩
  try dsimp only
  conv => whnf
  repeat ((first | refine qp (xG (wN (by simp)) rfl rfl rfl) ?_ | refine qz ?_); conv => whnf)
  exact xA rfl trivial
 refine qrf Tryd.func11 Tryd.ntmps11 Tryd.results11 ?_; conv => whnf
 repeat ((first | refine qz ?_ | refine qc (g1) ?_ | refine qc (g2) ?_); conv => whnf)
 exact xA rfl trivial
theorem aCl {t : ByteArray} {k : Int} (ht : t.size ≤ 1048576) (hk0 : 0 ≤ k) (hk1 : k ≤ 1000)
 (h1 : AC Tryd.prog 8 [.v (.string t)] ⟨.tup [xP ([], []), .v (.int .i64 k)], []⟩)
 (h2 : AC Tryd.prog 9 [.v (.string t)] ⟨.tup [xP ([], []), .v (.int .i64 k)], []⟩) : AC Tryd.prog 4 [.v (.string t)] ⟨.v (.bool true), []⟩ := by
 have e2 := qW (c := ([], [])) (Nat.zero_le _) (Nat.zero_le _)
 have m1 := aCW (k0 := 1)
 have d1 := qj (c := ([], [])) (k0 := 1) (by simp) (by simp) (by omega) (by omega)
 have d2 : AC Tryd.prog 12 [xP ([], []), .v (.int .i64 1)] ⟨.v (.int .i64 1), []⟩ := by simpa [yG, marked] using d1
 refine qrf Tryd.func4 Tryd.ntmps4 Tryd.results4 ?_; conv => whnf
 repeat ((first | refine qz ?_ | refine qc (h1) ?_ | refine qc (h2) ?_ | refine qc (e2) ?_ | refine qc (m1) ?_ | refine qc (d2) ?_ | refine qst ?_); conv => whnf)
 exact xA rfl trivial
theorem aIY : ∀ {l : List Cmt}, (∀ c ∈ l, CmtS c ∧ c.1.length ≤ 2 ∧ c.2.length ≤ 12) → uo l ≤ 14 * l.length
 | [], h => by simp [uo]
 | c :: l, h => by
  have h1 := h c (by simp)
  have h2 := aIY (l := l) (fun x hx => h x (by simp [hx]))
  simp only [uo, List.length_cons]; omega
theorem aCk {t : ByteArray} {k : Int} (ht : t.size ≤ 1048576) (hk0 : 0 ≤ k) (hk1 : k ≤ 1000)
 (h1 : AC Tryd.prog 13 [.v (.string t)] ⟨.tup [vP ⟨[], []⟩, .v (.int .i64 k)], []⟩)
 (h2 : AC Tryd.prog 14 [.v (.string t)] ⟨.tup [vP ⟨[], []⟩, .v (.int .i64 k)], []⟩) : AC Tryd.prog 5 [.v (.string t)] ⟨.v (.bool true), []⟩ := by
 have hB : (⟨[], []⟩ : Bas).ok maxLen := ⟨Nat.zero_le _, (fun c hc => (by cases hc)), Nat.zero_le _, (fun r hr => (by cases hr))⟩
 have e0 := aDe hB
 have m1 := aEf (k0 := 1)
 have d1 := aBg (L := []) (n := 0) (k0 := 1) (by simp) (by simp [uo]) (by omega) (by omega) (by omega) (by simp [kA]) (by simp [kA])
 have d2 : AC Tryd.prog 17 [vP ⟨[], []⟩, .v (.int .i64 1)] ⟨.v (.int .i64 1), []⟩ := by simpa [xw, yA, kA] using d1
 refine qrf Tryd.func5 Tryd.ntmps5 Tryd.results5 ?_; conv => whnf
 repeat ((first | refine qz ?_ | refine qc (h1) ?_ | refine qc (h2) ?_ | refine qc (e0) ?_ | refine qc (m1) ?_ | refine qc (d2) ?_ | refine qst ?_); conv => whnf)
 exact xA rfl trivial
theorem aHn {c : Cmt} (h : c.1.length = 0) : kI 0 c = qf c := by
 have hc : c.1 = [] := List.eq_nil_of_length_eq_zero h
 have hp : wh 0 c.1 = true := by unfold wh; simp only [decide_eq_true_eq]; exact ⟨by omega, by simp [h], fun i hi => by omega⟩
 unfold kI qf
 rw [hp, hc]
 rfl
theorem aHm {c : Cmt} (h : ¬ c.1.length = 0) : kI 60 c = qf c := by
 unfold kI qf
 congr 1
 obtain ⟨ps, m⟩ := c
 dsimp only at h ⊢
 unfold wh
 match ps, h with
 | [p], _ =>
  have e : qC ((([p] : List Int)[0]?).getD 0) 0 [p] = decide (1 ≤ p ∧ p ≤ 60) := by simp [qC, aDR]
  rw [e]
  rw [show decide (([p] : List Int).length ≤ 2) = true from rfl, Bool.true_and, decide_eq_decide]
  constructor
  · rintro ⟨_, _, h3⟩
    obtain ⟨_, g1, g2, _⟩ := h3 0 (by simp)
    exact ⟨by simpa using g1, by simpa using g2⟩
  · rintro ⟨h1, h2⟩
    refine ⟨by simp, by simp, fun i hi => ?_⟩
    have : i = 0 := by simp at hi; exact hi
    subst this
    exact ⟨by simp, by simpa using h1, by simpa using h2, by simp⟩
 | [p, q], _ =>
  have e : qC ((([p, q] : List Int)[0]?).getD 0) 0 [p, q] = decide ((1 ≤ p ∧ p ≤ 60) ∧ (1 ≤ q ∧ q ≤ 60) ∧ ¬ q = p) := by
   simp [qC, aDR, Bool.decide_and]
  rw [e]
  rw [show decide (([p, q] : List Int).length ≤ 2) = true from rfl, Bool.true_and, decide_eq_decide]
  constructor
  · rintro ⟨_, _, h3⟩
    obtain ⟨_, g1, g2, _⟩ := h3 0 (by simp)
    obtain ⟨_, k1, k2, k3⟩ := h3 1 (by simp)
    exact ⟨⟨by simpa using g1, by simpa using g2⟩, ⟨by simpa using k1, by simpa using k2⟩, by simpa using k3⟩
  · rintro ⟨⟨h1, h2⟩, ⟨h3, h4⟩, h5⟩
    refine ⟨by simp, by simp, fun i hi => ?_⟩
    have : i = 0 ∨ i = 1 := by simp at hi; omega
    rcases this with rfl | rfl
    · exact ⟨by simp, by simpa using h1, by simpa using h2, by simp⟩
    · exact ⟨by simp, by simpa using h3, by simpa using h4, by simpa using h5⟩
 | p :: q :: r :: l, _ =>
  have h1 : decide ((p :: q :: r :: l).length ≤ 2) = false := by simp
  rw [h1, Bool.false_and, decide_eq_false_iff_not]
  rintro ⟨h2, _⟩
  simp at h2
theorem aAo {c : Cmt} (hm : c.1.length ≤ maxLen) (hn : c.2.length ≤ maxLen) (hk : ∀ e ∈ c.2, e.1.size ≤ maxLen) : AC Tryd.prog 25 [xP c] ⟨.v (.bool (qf c)), []⟩ := by
 by_cases h0 : c.1.length = 0
 · have c1 := qV (n := 0) (by omega) hm hn hk
   rw [aHn h0] at c1
   generalize qf c = q at c1 ⊢
   refine qrf Tryd.func25 Tryd.ntmps25 Tryd.results25 ?_; conv => whnf
   repeat ((first | refine qz ?_ | refine qc (c1) ?_); conv => whnf)
   exact xA rfl trivial
 · have c1 := qV (n := 60) (by omega) hm hn hk
   rw [aHm h0] at c1
   generalize qf c = q at c1 ⊢
   unfold maxLen at hm
   refine qrf Tryd.func25 Tryd.ntmps25 Tryd.results25 ?_; conv => whnf
   repeat ((first | refine qz ?_ | refine qc (c1) ?_); conv => whnf)
   exact xA rfl trivial
end Go.Proofs.YtoaifonjemlfcaaDoor.AM
namespace Go.Proofs.YtoaifonjemlfcaaDoor.AM
open Go Go.RowKit
abbrev rV (X : AV) : OB := ⟨.o (some 51) 0 (.optr 0 0 [] 0), 1, [X]⟩
abbrev zCm : OB := ⟨.z 28, 2, [.agg [.lst 1 [], .lst 2 []]]⟩
abbrev dCm (c : Cmt) : OB := ⟨.d 28, 2, [xP c]⟩
theorem aJp {s : St} {Θ : Tab} {o1 o2 o3 : OB} (h0 : s.hp 0 = some o1) (h1 : s.hp 1000000 = some o2) (h2 : s.hp 2000000 = some o3) : yE Θ [] [o1, o2, o3] ⟨.tup [], []⟩ .normal s := ⟨⟨h0, h1, h2, trivial⟩, [], by simp, trivial, trivial, ⟨_, rfl⟩, trivial⟩
attribute [local irreducible] xM xO xg yE y7 Pre ACG
attribute [local irreducible] yM u7 z8 ACP uN aBw ACL
theorem aHP {t : ByteArray} {X : AV} (ht : t.size ≤ 65536) (h : (rdM t (0, false)).2.2 = false) : ACG Tryd.prog 23 [.optr 1000000 0 [] 0, .optr 2000000 0 [] 0] [rdP t 0, rV X, zCm] [rdP t (rdM t (0, false)).2.1, rV X, dCm (rdM t (0, false)).1] ⟨.tup [], []⟩ := by
 have c1 := aGe (i := 0) ht (Nat.zero_le _) h
 generalize rdM t (0, false) = R at c1 ⊢
 obtain ⟨c, j, bad⟩ := R
 dsimp only at c1 ⊢
 refine xX (rs := []) xJ (by kernel_rfl) Tryd.func23 rfl Tryd.ntmps23 (by rw [Tryd.results23]) (by kernel_rfl) (by simp) rfl rfl (xE _ _ _ ?_)
 conv => whnf
 repeat ((first | refine qz ?_ | refine qr (xB [0] (c1) rfl rfl (by first | exact ⟨rfl, trivial⟩ | exact ⟨rfl, rfl, trivial⟩ | exact ⟨rfl, rfl, rfl, trivial⟩) rfl rfl (by first | exact trivial | exact ⟨⟨rfl, rfl, rfl⟩, trivial⟩ | exact ⟨⟨rfl, rfl, rfl⟩, ⟨rfl, rfl, rfl⟩, trivial⟩ | exact ⟨⟨rfl, rfl, rfl⟩, ⟨rfl, rfl, rfl⟩, ⟨rfl, rfl, rfl⟩, trivial⟩) rfl rfl rfl (.inl rfl) rfl) ?_); conv => whnf)
 refine kY (xW rfl rfl rfl rfl rfl rfl) rfl rfl (fun e => by cases e) (Gh.s2d 4 rfl aDW (Gh.s2d 1004 rfl aDV (Gh.fold 2000000 4 [0] rfl rfl rfl rfl rfl rfl (Gh.fold 2000000 1004 [1] rfl rfl rfl rfl rfl rfl (Gh.shut 2000000 (z := .agg [.lst 1 [], .lst 2 []]) (y' := xP c) rfl rfl (Gh.done ?_))))))
 conv => whnf
 exact aJp rfl rfl rfl
theorem aJX {t : ByteArray} {X : AV} (ht : t.size ≤ 65536) (h : (rdM t (0, false)).2.2 = true) : ACP Tryd.prog 23 [.optr 1000000 0 [] 0, .optr 2000000 0 [] 0] [rdP t 0, rV X, zCm] pvM := by
 have d1 := aH0 (i := 0) ht (Nat.zero_le _) h
 refine uJ xJ (by kernel_rfl) Tryd.func23 rfl Tryd.ntmps23 (by kernel_rfl) (by simp) ?_
 refine zD ?_
 conv => whnf
 exact yT (yw [0] d1 rfl rfl (by first | exact ⟨rfl, trivial⟩ | exact ⟨rfl, rfl, trivial⟩ | exact ⟨rfl, rfl, rfl, trivial⟩) rfl rfl rfl rfl rfl rfl) rfl rfl
def aJK (ops : Array Oper) : Bool := ops.toList.any fun o => match o.op with | .makeFunc _ _ _ => true | _ => false
set_option maxHeartbeats 2000000 in
theorem aDf {t : ByteArray} (ht : t.size ≤ maxLen) (h : 65536 < t.size ∨ jl t = false) : AC Tryd.prog 9 [.v (.string t)] ⟨.tup [xP ([], []), .v (.int .i64 (aAu t))], []⟩ := by
 unfold maxLen at ht
 unfold aAu
 by_cases h0 : 65536 < t.size
 · rw [if_pos h0]
   refine xX (rs := [.cell 2 28, .tmp 3]) xJ (by kernel_rfl) Tryd.func9 rfl Tryd.ntmps9 (by rw [Tryd.results9]) (by kernel_rfl) (by simp) rfl rfl (xE _ _ _ ?_)
   conv => whnf
   repeat ((first | refine qz ?_ | refine qst ?_); conv => whnf)
   exact yu rfl rfl rfl rfl trivial rfl
 rw [if_neg h0]
 have ht2 : t.size ≤ 65536 := by omega
 have hd : jl t = false := by rcases h with h | h; exact absurd h h0; exact h
 have hok : yH t (0, false) := ⟨by omega, Nat.zero_le _⟩
 have r1 := fun (X : AV) h => aBR (aHP (X := X) ht2 h)
 have d1 := fun (X : AV) h => aEl (aJX (X := X) ht2 h)
 obtain ⟨m1, m2, m3, m4⟩ := kR hok
 unfold jl at hd
 generalize rdM t (0, false) = R at r1 d1 m1 m2 m3 m4 hd
 obtain ⟨c, a, bad⟩ := R
 dsimp only at r1 d1 m1 m2 m3 m4 hd
 have c2 := aAo (c := c) (by unfold maxLen; omega) (by unfold maxLen; omega) (fun e he => by have := m4 e he; unfold maxLen; omega)
 have ha := m1.2
 dsimp only at ha
 cases bad
 case true =>
  refine xX (rs := [.cell 2 28, .tmp 3]) xJ (by kernel_rfl) Tryd.func9 rfl Tryd.ntmps9 (by rw [Tryd.results9]) (by kernel_rfl) (by simp) rfl rfl (wI (stop := aJK) _ _ _ ?_)
  conv => whnf
  have d1 := fun X => d1 X rfl
  repeat ((first | refine qz ?_ | refine qst ?_ | refine qr (uV rfl rfl rfl rfl) ?_); conv => whnf)
  refine wz (za xJ _ _ ?_)
  conv => whnf
  refine aGJ [13, 6, 5] (d1 _) rfl rfl rfl (by first | exact ⟨rfl, trivial⟩ | exact ⟨rfl, rfl, trivial⟩ | exact ⟨rfl, rfl, rfl, trivial⟩) rfl rfl rfl rfl rfl rfl rfl rfl (za xJ _ _ ?_)
  conv => whnf
  repeat ((first | refine qz ?_ | refine qst ?_); conv => whnf)
  exact yu rfl rfl rfl rfl trivial rfl
 have r1 := fun X => r1 X rfl
 simp only [Bool.not_false, Bool.true_and] at hd
 by_cases hsz : a = t.size
 case neg =>
  have hb : ((a : Int) == (t.size : Int)) = false := by simp; omega
  rw [hb] at r1
  refine xX (rs := [.cell 2 28, .tmp 3]) xJ (by kernel_rfl) Tryd.func9 rfl Tryd.ntmps9 (by rw [Tryd.results9]) (by kernel_rfl) (by simp) rfl rfl (xE _ _ _ ?_)
  conv => whnf
  repeat ((first | refine qz ?_ | refine qst ?_ | refine qr (uV rfl rfl rfl rfl) ?_ | refine qr (xB [13, 6, 5] (r1 _) rfl rfl (by first | exact ⟨rfl, trivial⟩ | exact ⟨rfl, rfl, trivial⟩ | exact ⟨rfl, rfl, rfl, trivial⟩) rfl rfl (by first | exact trivial | exact ⟨⟨rfl, rfl, rfl⟩, trivial⟩ | exact ⟨⟨rfl, rfl, rfl⟩, ⟨rfl, rfl, rfl⟩, trivial⟩ | exact ⟨⟨rfl, rfl, rfl⟩, ⟨rfl, rfl, rfl⟩, ⟨rfl, rfl, rfl⟩, trivial⟩) rfl rfl rfl (.inl rfl) rfl) ?_); conv => whnf)
  exact yu rfl rfl rfl rfl trivial rfl
 have hb : ((a : Int) == (t.size : Int)) = true := by simp [hsz]
 rw [hb] at r1
 rw [decide_eq_true hsz, Bool.true_and] at hd
 rw [hd] at c2
 refine xX (rs := [.cell 2 28, .tmp 3]) xJ (by kernel_rfl) Tryd.func9 rfl Tryd.ntmps9 (by rw [Tryd.results9]) (by kernel_rfl) (by simp) rfl rfl (xE _ _ _ ?_)
 conv => whnf
 repeat ((first | refine qz ?_ | refine qst ?_ | refine qr (uV rfl rfl rfl rfl) ?_ | refine kY (xB [13, 6, 5] (r1 _) rfl rfl (by first | exact ⟨rfl, trivial⟩ | exact ⟨rfl, rfl, trivial⟩ | exact ⟨rfl, rfl, rfl, trivial⟩) rfl rfl (by first | exact trivial | exact ⟨⟨rfl, rfl, rfl⟩, trivial⟩ | exact ⟨⟨rfl, rfl, rfl⟩, ⟨rfl, rfl, rfl⟩, trivial⟩ | exact ⟨⟨rfl, rfl, rfl⟩, ⟨rfl, rfl, rfl⟩, ⟨rfl, rfl, rfl⟩, trivial⟩) rfl rfl rfl (.inl rfl) rfl) rfl rfl (fun e => by cases e) (Gh.unfold 5 0 100 [0] rfl rfl rfl rfl rfl (Gh.unfold 5 0 101 [1] rfl rfl rfl rfl rfl (Gh.done ?_))) | refine qc (c2) ?_); conv => whnf)
 exact yu rfl rfl rfl rfl trivial rfl
set_option maxHeartbeats 2000000 in
theorem aHS {t : ByteArray} (h0 : ¬ 65536 < t.size) (h : jl t = true) : AC Tryd.prog 9 [.v (.string t)] ⟨.tup [.mix [.own 0, .own 1], .v (.int .i64 0)], [⟨.u, 1, (rdM t (0, false)).1.1.map xu⟩, ⟨.u, 2, (rdM t (0, false)).1.2.map yP⟩]⟩ := by
 have ht2 : t.size ≤ 65536 := by omega
 have hok : yH t (0, false) := ⟨by omega, Nat.zero_le _⟩
 have r1 := fun (X : AV) h => aBR (aHP (X := X) ht2 h)
 obtain ⟨m1, m2, m3, m4⟩ := kR hok
 unfold jl at h
 generalize rdM t (0, false) = R at r1 m1 m2 m3 m4 h
 obtain ⟨c, a, bad⟩ := R
 dsimp only at r1 m1 m2 m3 m4 h ⊢
 have c2 := aAo (c := c) (by unfold maxLen; omega) (by unfold maxLen; omega) (fun e he => by have := m4 e he; unfold maxLen; omega)
 cases bad
 case true => simp at h
 have r1 := fun X => r1 X rfl
 simp only [Bool.not_false, Bool.true_and, Bool.and_eq_true, decide_eq_true_eq] at h
 obtain ⟨hsz, hl⟩ := h
 have hb : ((a : Int) == (t.size : Int)) = true := by simp [hsz]
 rw [hb] at r1
 rw [hl] at c2
 refine xX (rs := [.cell 2 28, .tmp 3]) xJ (by kernel_rfl) Tryd.func9 rfl Tryd.ntmps9 (by rw [Tryd.results9]) (by kernel_rfl) (by simp) rfl rfl (xE _ _ _ ?_)
 conv => whnf
 repeat ((first | refine qz ?_ | refine qst ?_ | refine qr (uV rfl rfl rfl rfl) ?_ | refine kY (xB [13, 6, 5] (r1 _) rfl rfl (by first | exact ⟨rfl, trivial⟩ | exact ⟨rfl, rfl, trivial⟩ | exact ⟨rfl, rfl, rfl, trivial⟩) rfl rfl (by first | exact trivial | exact ⟨⟨rfl, rfl, rfl⟩, trivial⟩ | exact ⟨⟨rfl, rfl, rfl⟩, ⟨rfl, rfl, rfl⟩, trivial⟩ | exact ⟨⟨rfl, rfl, rfl⟩, ⟨rfl, rfl, rfl⟩, ⟨rfl, rfl, rfl⟩, trivial⟩) rfl rfl rfl (.inl rfl) rfl) rfl rfl (fun e => by cases e) (Gh.unfold 5 0 100 [0] rfl rfl rfl rfl rfl (Gh.unfold 5 0 101 [1] rfl rfl rfl rfl rfl (Gh.done ?_))) | refine qc (c2) ?_ | refine qr (xW rfl rfl rfl rfl rfl rfl) ?_); conv => whnf)
 exact aFX rfl rfl rfl rfl rfl rfl rfl rfl rfl
theorem aCX {c : Cmt} {k0 : Int} (hm : c.1.length ≤ 1048576) (hm2 : c.2.length ≤ 1048576) (h0 : 0 ≤ k0) (h1 : k0 ≤ 4194304) :
 ACG Tryd.prog 11 [.mix [.own 0, .own 1000000], .v (.int .i64 k0)] [⟨.u, 1, c.1.map xu⟩, ⟨.u, 2, c.2.map yP⟩] [⟨.u, 1, (yG c.1.length k0).map xu⟩, ⟨.u, 2, (marked c.2.length (k0 + c.1.length)).map yP⟩] ⟨.v (.int .i64 (k0 + c.1.length + 2 * c.2.length)), []⟩ := by
 refine xX (rs := [.tmp 4]) xJ (by kernel_rfl) Tryd.func11 rfl Tryd.ntmps11 (by rw [Tryd.results11]) (by kernel_rfl) (by simp) rfl rfl (xE _ _ _ ?_)
 conv => whnf
 repeat ((first | refine qz ?_ | refine qr (aHw rfl rfl rfl) ?_ | refine qr (jb (aBj (l := c.1) (k0 := k0) (by omega) (by omega) (by omega)) rfl rfl rfl rfl rfl rfl rfl) ?_ | refine qr (jb (aAk (l := c.2) (k0 := k0 + c.1.length) (by omega) (by omega) (by omega)) rfl rfl rfl rfl rfl rfl rfl) ?_); conv => whnf)
 exact aIo rfl rfl rfl
theorem aFo {t : ByteArray} {c : Cmt} (ht : t.size ≤ 1048576) (hm : c.1.length ≤ 4096) (hm2 : c.2.length ≤ 4096)
 (h1 : AC Tryd.prog 8 [.v (.string t)] ⟨.tup [.mix [.own 0, .own 1], .v (.int .i64 0)], [⟨3, 1, c.1.map xu⟩, ⟨70, 2, c.2.map yP⟩]⟩)
 (h2 : AC Tryd.prog 9 [.v (.string t)] ⟨.tup [.mix [.own 0, .own 1], .v (.int .i64 0)], [⟨.u, 1, c.1.map xu⟩, ⟨.u, 2, c.2.map yP⟩]⟩) : AC Tryd.prog 4 [.v (.string t)] ⟨.v (.bool true), []⟩ := by
 have p1 : c.1.length ≤ maxLen := by unfold maxLen; omega
 have p2 : c.2.length ≤ maxLen := by unfold maxLen; omega
 have e2 := qW (c := c) p1 p2
 have m1 := aCX (c := c) (k0 := 1) (by omega) (by omega) (by omega) (by omega)
 have d1 := qj (c := c) (k0 := 1) (by omega) (by omega) (by omega) (by omega)
 refine qrf Tryd.func4 Tryd.ntmps4 Tryd.results4 ?_; conv => whnf
 repeat ((first | refine qz ?_ | refine qc (h1) ?_ | refine qr (xW rfl rfl rfl rfl rfl rfl) ?_ | refine qc (h2) ?_ | refine qc (e2) ?_); conv => whnf)
 refine qr (xB [22, 1022] m1 rfl rfl ⟨rfl, rfl, trivial⟩ rfl rfl trivial rfl rfl rfl (.inl rfl) rfl) ?_
 conv => whnf
 repeat ((first | refine qz ?_ | refine qc (d1) ?_ | refine qr (xW rfl rfl rfl rfl rfl rfl) ?_ | refine qc (h2) ?_ | refine qc (e2) ?_); conv => whnf)
 exact xA rfl trivial
theorem law_DecodeCommitU {t : ByteArray} (ht : t.size ≤ maxLen) : AC Tryd.prog 4 [.v (.string t)] ⟨.v (.bool true), []⟩ := by
 have ht' := ht
 unfold maxLen at ht'
 by_cases hl : 1048576 < t.size
 · refine qrf Tryd.func4 Tryd.ntmps4 Tryd.results4 ?_; conv => whnf
   repeat ((refine qz ?_; conv => whnf))
   exact xA rfl trivial
 by_cases h0 : 65536 < t.size
 · have k1 : aAu t = 2 := by unfold aAu; rw [if_pos h0]
   exact aCl (by omega) (by omega) (by omega) (aDh ht (.inl h0)) (aDf ht (.inl h0))
 have k1 : aAu t = 3 := by unfold aAu; rw [if_neg h0]
 cases hd : jl t
 · exact aCl (by omega) (by omega) (by omega) (aDh ht (.inr hd)) (aDf ht (.inr hd))
 · obtain ⟨_, w1, w2, _⟩ := kR (t := t) (s := (0, false)) ⟨by omega, Nat.zero_le _⟩
   exact aFo (by omega) (by omega) (by omega) (aHY h0 hd) (aHS h0 hd)
end Go.Proofs.YtoaifonjemlfcaaDoor.AM
