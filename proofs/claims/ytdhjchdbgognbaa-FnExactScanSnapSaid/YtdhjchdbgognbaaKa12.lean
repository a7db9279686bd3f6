/- Texts of the machine over data, folded. -/
import Derived.Test.YtdhjchdbgognbaaKa9
set_option linter.unusedVariables false
set_option linter.unusedSimpArgs false
namespace Go.Proofs.Ytdhjchdbgognbaa.AM
open Go Go.RowKit Go.ChangeShapes Go.WideShapes Go.Deep
section
variable {H : Type} {enc : TypeId × Value → H} {P : Program} {w : World} {base : Nat} {held : Bool}
theorem open_snp {t : TypeId} {f0 f1 : Field} {cs : Array Value} {d : DataW H} {p : List MemPlace} (ht : P.underlying t = some (.struct #[f0, f1])) (hone : oneCellFields P #[f0, f1] = true) (hC : P.cellsOf t = 2)
 (h0 : P.underlying f0.type = some .string) (h1 : P.underlying f1.type = some (.int .i64))
 (h : DataW.Trod enc P w base (fun _ => true) held t (.agg cs) d p) : ∃ x : Ent, (∀ hp B V, RV (InW w) w hp B V (xD x) (.agg cs)) ∧ x.1.size ≤ maxLen := by
 obtain ⟨hl, k, hk⟩ := aEm ht hone hC h
 obtain ⟨v0, y0, c0, t0⟩ := hk 0 f0 rfl
 obtain ⟨v1, y1, c1, t1⟩ := hk 1 f1 rfl
 obtain ⟨s0, hs0, _, hz0⟩ := DataW.trod_string h0 t0
 obtain ⟨x1, hx1, _, _⟩ := DataW.trod_int h1 t1
 simp at hs0 hx1
 subst hs0 hx1
 exact ⟨(s0, x1), fun hp B V => aIB (aIx (by simpa using hl) c0 c1) (yx (c1 := [_]) (kZ rfl) (yx (c1 := [_]) (kZ rfl) wX)), hz0⟩
end
end Go.Proofs.Ytdhjchdbgognbaa.AM
