/- The machine over data (E4, E5). -/
import Derived.Test.YtjhimcddgkoghaaE3
import Derived.Test.YtjhimcddgkoghaaAmP
import Derived.Test.YtjhimcddgkoghaaOpen
/- The law of StoreOK, over data. -/
namespace Go.Proofs.Ytjhimcddgkoghaa.AM
open Go Go.RowKit
set_option linter.unusedVariables false
set_option linter.unusedSimpArgs false
set_option maxRecDepth 100000
attribute [local irreducible] ACode AOps AOps2 RetG RetM Pre ACG
def comOK (N : Nat) (cs : List Cmt) : Prop := ∀ c ∈ cs, c.1.length ≤ N ∧ c.2.length ≤ N ∧ ∀ e ∈ c.2, e.1.size ≤ N
theorem comOK.le {N M : Nat} {cs : List Cmt} (h : comOK N cs) (k : N ≤ M) : comOK M cs := fun c hc => ⟨Nat.le_trans (h c hc).1 k, Nat.le_trans (h c hc).2.1 k, fun e he => Nat.le_trans ((h c hc).2.2 e he) k⟩
end Go.Proofs.Ytjhimcddgkoghaa.AM
/- A law's arguments opened: commits. -/
namespace Go.Proofs.Ytjhimcddgkoghaa.AM
open Go Go.RowKit Go.ChangeShapes Go.WideShapes Go.Deep
set_option linter.unusedVariables false
set_option linter.unusedSimpArgs false

section
variable {S : Nat → Prop} {w : World}
theorem rl_intA : ∀ (l : List Int), RL S w (l.map intA) (l.map fun x => .int .i64 x)
  | [] => by simp only [List.map_nil]; exact rl_nil
  | x :: l => by simp only [List.map_cons]; exact rl_cons (c1 := [_]) (ra_v rfl) (rl_intA l)
end
section
variable {H : Type} {enc : TypeId × Value → H} {P : Program} {w : World} {base : Nat} {held : Bool}
theorem open_ints {t e : TypeId} {v : Value} {k : Nat} {y : DataW H × List MemPlace} (ht : P.underlying t = some (.slice e)) (he : P.underlying e = some (.int .i64)) (hC : P.cellsOf e = 1) (h : DataW.trod enc P w base (fun _ => true) held k t [v] = some y) :
    ∃ l : List Int, RA (InW w) w (.lst 1 (l.map intA)) [v] ∧ l.length ≤ maxLen := by
  rcases open_slice ht h with ⟨hcs, _⟩ | ⟨a, len, cap, m, n, D, Pl, hcs, hb, hl, hm, hmm, hx, hi⟩
  · exact ⟨[], by rw [hcs]; exact ra_nil (by omega), Nat.zero_le _⟩
  · rw [hcs]
    simp at hmm
    subst hmm
    rcases Nat.eq_zero_or_pos len with h0 | hpos
    · subst h0
      refine ⟨[], ?_, Nat.zero_le _⟩
      simp only [List.map_nil]
      unfold RA
      exact ⟨_, _, rfl, Nat.zero_le _, hm, by simp, by omega, .inl rfl⟩
    have hall : ∀ i, i < len → ∃ x : Int, w.cell? (a.add i) = some (.int .i64 x) := fun i hil => by
      obtain ⟨cs', hc, ht'⟩ := hi i (by omega)
      rw [hC, Nat.mul_one] at hc
      obtain ⟨_, hcl, hat⟩ := World.cells?_some hc
      obtain ⟨x, hx, _⟩ := DataW.trod_int he ht'
      subst hx
      have := hat 0 (by omega)
      rw [add_zero_] at this
      exact ⟨x, this⟩
    obtain ⟨x0, hx0⟩ := hall 0 hpos
    rw [add_zero_] at hx0
    have hsp := spot_of_cell hx0
    obtain ⟨b, off, sp⟩ := a
    simp at hsp
    subst hsp
    have hadd : ∀ j, (⟨b, off, none⟩ : Addr).add j = ⟨b, off + j, none⟩ := fun j => by unfold Addr.add; split <;> simp_all
    obtain ⟨l, hll, hq⟩ := list_of (α := Int) len (fun i x => w.cell? ⟨b, off + i, none⟩ = some (.int .i64 x)) (fun i hil => by
      obtain ⟨x, hx⟩ := hall i hil
      rw [hadd] at hx; exact ⟨x, hx⟩)
    refine ⟨l, ?_, by omega⟩
    unfold RA
    refine ⟨_, _, by rw [List.length_map, hll], by rw [List.length_map]; omega, hm, all_int l, by omega, .inr ⟨b, off, _, rfl, World.block_lt_of_cell? w _ hx0, rl_intA l, fun j u hu => ?_⟩⟩
    rw [List.getElem?_map] at hu
    obtain ⟨x, hx, rfl⟩ := Option.map_eq_some_iff.1 hu
    obtain ⟨hj, hx⟩ := List.getElem?_eq_some_iff.1 hx
    rw [← hx]; exact hq j hj
end
end Go.Proofs.Ytjhimcddgkoghaa.AM
