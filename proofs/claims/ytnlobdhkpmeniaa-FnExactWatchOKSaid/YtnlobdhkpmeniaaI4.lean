/- The machine over data (I2, I3, I4). -/
import Derived.Test.YtnlobdhkpmeniaaS3
/- The program's part, with, without, Put, Remove, Scan. -/
namespace Go.Proofs.Ytnlobdhkpmeniaa
open Go.RowKit

theorem entsC_one (es : List Ent) : ∀ u ∈ entsC es, u.oneCell' = true := by
  intro u hu
  rw [entsC, List.mem_flatMap] at hu
  obtain ⟨e, _, h⟩ := hu
  simp [entC] at h
  rcases h with rfl | rfl <;> rfl
theorem piece_entsC (es : List Ent) (i m : Nat) : ((entsC es).drop (i * 2)).take (m * 2) = entsC ((es.drop i).take m) := by rw [entsC_drop, entsC_take]

theorem splice_full {α : Type} (L cs : List α) (h : L.length = cs.length) : splice L 0 cs = cs := by
  rw [splice, List.take_zero, List.nil_append, Nat.zero_add, ← h, List.drop_length, List.append_nil]

end Go.Proofs.Ytnlobdhkpmeniaa
/- The program's with: an entry put in at its place, into new memory. -/
namespace Go.Proofs.Ytnlobdhkpmeniaa
open Go.RowKit

theorem ins_cells (L0 : List Value) (a b : List Ent) (k : ByteArray) (v : Int) (h : L0.length = (a.length + 1 + b.length) * 2) :
    splice (((splice L0 0 (entsC a)).set (a.length * 2) (.string k)).set (a.length * 2 + 1) (.int .i64 v)) ((a.length + 1) * 2) (entsC b) = entsC (a ++ (k, v) :: b) := by
  have hla := entsC_length a
  have hlb := entsC_length b
  have e1 : splice L0 0 (entsC a) = entsC a ++ L0.drop (a.length * 2) := by rw [splice, List.take_zero, List.nil_append, Nat.zero_add, hla]
  rw [e1]
  have hd : (L0.drop (a.length * 2)).length = (1 + b.length) * 2 := by rw [List.length_drop, h]; omega
  generalize L0.drop (a.length * 2) = r at *
  match r, hd with
  | [], hd => simp at hd; omega
  | [_], hd => simp at hd; omega
  | x :: y :: r, hd =>
    have hr : r.length = b.length * 2 := by simp at hd; omega
    have e2 : ((entsC a ++ x :: y :: r).set (a.length * 2) (.string k)).set (a.length * 2 + 1) (.int .i64 v) = entsC a ++ .string k :: .int .i64 v :: r := by
      rw [← hla, List.set_append_right _ _ (Nat.le_refl _), List.set_append_right _ _ (by omega)]
      simp
    rw [e2, splice, hlb]
    have e3 : (entsC a ++ Value.string k :: Value.int .i64 v :: r).take ((a.length + 1) * 2) = entsC a ++ [.string k, .int .i64 v] := by
      rw [List.take_append, hla, List.take_of_length_le (by omega), show (a.length + 1) * 2 - a.length * 2 = 2 from by omega]; rfl
    have e4 : (entsC a ++ Value.string k :: Value.int .i64 v :: r).drop ((a.length + 1) * 2 + b.length * 2) = [] := List.drop_eq_nil_of_le (by simp [hla, hr]; omega)
    rw [e3, e4, List.append_nil, entsC_append, entsC_cons]
    simp

theorem Rd.front {w : World} {sz n : Nat} {A : Option Addr} {xs : List Value} (h : Rd w sz A n xs) {m : Nat} (hm : m ≤ n) (hpos : 0 < (xs.take (m * sz)).length) :
    ∃ ad, A = some ad ∧ ∀ j v, (xs.take (m * sz))[j]? = some v → w.cell? (ad.add j) = some v := by
  obtain ⟨b, off, rfl, hc⟩ := h.piece (i := 0) (m := m) (by omega) (by simpa using hpos)
  simp only [Nat.zero_mul, List.drop_zero, Nat.add_zero] at hc
  exact ⟨_, rfl, hc⟩
theorem Blk.two {w : World} {g : Nat} {t : TypeId} {cs : Array Value} (h : Blk w g t cs) {k : Nat} (hk : k * 2 + 1 < cs.size) :
    ∃ y0 y1, w.cell? ⟨g, k * 2, none⟩ = some y0 ∧ w.cell? ⟨g, k * 2 + 1, none⟩ = some y1 ∧ w.frozen? ⟨g, k * 2, none⟩ = false ∧ w.frozen? ⟨g, k * 2 + 1, none⟩ = false :=
  ⟨_, _, (h.cell _).trans (Array.getElem?_eq_getElem (by omega)), (h.cell _).trans (Array.getElem?_eq_getElem hk), h.frozen _, h.frozen _⟩
theorem Blk.cast {w : World} {g : Nat} {t : TypeId} {cs cs' : Array Value} (h : Blk w g t cs) (e : cs.toList = cs'.toList) : Blk w g t cs' := by
  have : cs = cs' := Array.ext' e
  rw [← this]; exact h

end Go.Proofs.Ytnlobdhkpmeniaa
/- The program's without: an entry taken out, into new memory. -/
namespace Go.Proofs.Ytnlobdhkpmeniaa
open Go.RowKit

theorem del_cells (L0 : List Value) (a b : List Ent) (h : L0.length = (a.length + b.length) * 2) :
    splice (splice L0 0 (entsC a)) (a.length * 2) (entsC b) = entsC (a ++ b) := by
  have hla := entsC_length a
  have hlb := entsC_length b
  have e1 : splice L0 0 (entsC a) = entsC a ++ L0.drop (a.length * 2) := by rw [splice, List.take_zero, List.nil_append, Nat.zero_add, hla]
  have hd : (L0.drop (a.length * 2)).length = b.length * 2 := by rw [List.length_drop, h]; omega
  rw [e1, splice, hlb]
  have e3 : (entsC a ++ L0.drop (a.length * 2)).take (a.length * 2) = entsC a := by rw [← hla]; exact List.take_left
  have e4 : (entsC a ++ L0.drop (a.length * 2)).drop (a.length * 2 + b.length * 2) = [] := List.drop_eq_nil_of_le (by simp [hla]; omega)
  rw [e3, e4, List.append_nil, entsC_append]

end Go.Proofs.Ytnlobdhkpmeniaa
