/- The machine over data: a law's arguments, as the given statement opens them. -/
import Derived.Test.YtjhimcddgkoghaaAd
import Derived.Test.YtjhimcddgkoghaaOpen
namespace Go.Proofs.Ytjhimcddgkoghaa.AM
open Go Go.RowKit Go.ChangeShapes Go.WideShapes Go.Deep
set_option linter.unusedVariables false
section
variable {H : Type} {enc : TypeId × Value → H} {P : Program} {w : World} {base : Nat} {spare : Nat → Bool} {held : Bool}
theorem open_cap {t e : TypeId} {A : Option Addr} {n c : Nat} {d : DataW H} {p : List MemPlace} (ht : P.underlying t = some (.slice e)) (h : DataW.Trod enc P w base spare held t (.slice A n c) d p) : n ≤ c ∧ c ≤ maxLen := by
  obtain ⟨fuel, hf⟩ := h
  rcases open_slice ht hf with ⟨hcs, _⟩ | ⟨a, len, cap, m, n', D, Pl, hcs, hb, hl, hm, _⟩
  · simp [Value.cells] at hcs; obtain ⟨rfl, rfl, rfl⟩ := hcs; exact ⟨Nat.le_refl _, Nat.zero_le _⟩
  · simp [Value.cells] at hcs; obtain ⟨rfl, rfl, rfl⟩ := hcs; exact ⟨hl, hm⟩
end
section
variable {w : World} {hp : Nat → Option OB} {B : Nat → Nat} {V : Nat → Value}
def InW (w : World) : Nat → Prop := fun b => b < w.heap.size
theorem rd_at {sz : Nat} {A : Option Addr} {n : Nat} {xs : List Value} (h : Rd w sz A n xs) (hn : 0 < n) : ∃ b off, A = some ⟨b, off, none⟩ ∧ InW w b ∧ ∀ j u, xs[j]? = some u → w.cell? ⟨b, off + j, none⟩ = some u := by
  obtain ⟨b, off, h1, h2, h3⟩ := h.2 hn
  exact ⟨b, off, h1, h2, h3⟩
theorem rv_one {x : Value} (h : x.oneCell' = true) : RV (InW w) w hp B V (.v x) x := by unfold RV; exact ⟨rfl, h⟩
theorem rvs_nil : RVs (InW w) w hp B V [] [] := by unfold RVs; rfl
theorem rvs_cons {x : AV} {xs : List AV} {u : Value} {us : List Value} (h : RV (InW w) w hp B V x u) (r : RVs (InW w) w hp B V xs us) : RVs (InW w) w hp B V (x :: xs) (u :: us) := by
  unfold RVs; exact ⟨u, us, rfl, h, r⟩
/-- what a law's contract says of a call of it -/
theorem law_calls {P : Program} {f : FuncId} {args : List AV} {vs : List Value} {r : Value} (h : AC P f args ⟨.v r, []⟩) (hv : RVs (InW w) w (fun _ => none) (fun _ => 0) (fun _ => undef) args vs) : Calls P f vs.toArray w fun e w' => e = .returned r ∧ Below w.heap.size w w' :=
  (h.2 w (InW w) (fun _ => 0) (fun _ => undef) (fun _ => Fa) vs (fun b hb => hb) (rows_none (fun _ => rfl)) (rvs_none (fun _ => rfl) hv)).mono fun e w' ⟨v, S, B, V, T, T1, h1, h2, _, _, h5, _⟩ => by
    unfold RV at h5
    exact ⟨by rw [h1, h5.1], h2.below (fun g ⟨l, ob, e, _⟩ => by cases e)⟩
end
end Go.Proofs.Ytjhimcddgkoghaa.AM
