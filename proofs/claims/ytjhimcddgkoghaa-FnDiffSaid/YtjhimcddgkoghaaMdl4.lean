/- The plain side of edits: when a list of edits is valid. -/
import Derived.Test.YtjhimcddgkoghaaMdl3
namespace Go.Proofs.Ytjhimcddgkoghaa

/-- the keys and values of a list of edits -/
def kv (es : List Edt) : List Ent := es.map fun e => (e.key, e.val)
theorem kv_length (es : List Edt) : (kv es).length = es.length := by simp [kv]
theorem kAt_kv (es : List Edt) (k : Nat) (h : k < es.length) : kAt (kv es) k = es[k].key := by simp [kAt, kv, h]
theorem ordE_no (es : List Edt) (k : Nat) (h : k < es.length) (hn : nm es[k].key = false) : ordAt (kv es) k = false := by
  rw [ordAt, kAt_kv es k h, hn]; rfl
theorem ordE_zero (es : List Edt) (h : 0 < es.length) (hn : nm es[0].key = true) : ordAt (kv es) 0 = true := by
  rw [ordAt, kAt_kv es 0 h, hn]; rfl
theorem ordE_pos (es : List Edt) (k : Nat) (h0 : 0 < k) (h : k < es.length) (hn : nm es[k].key = true) : ordAt (kv es) k = klt (es[k - 1]'(by omega)).key es[k].key := by
  rw [ordAt, kAt_kv es k h, kAt_kv es (k - 1) (by omega), hn, decide_eq_false (by omega)]; simp
def edtB (e : Edt) : Bool := valB e.val && (!e.gone || decide (e.val = 0))
def edtAt (es : List Edt) (i : Nat) : Bool := edtB (es.getD i ⟨ByteArray.empty, 0, false⟩)
theorem edtAt_eq (es : List Edt) (k : Nat) (h : k < es.length) : edtAt es k = (valB es[k].val && (!es[k].gone || decide (es[k].val = 0))) := by simp [edtAt, edtB, h]
def edtsM (es : List Edt) : Bool := (List.range es.length).all (edtAt es)
def editsOK (es : List Edt) : Bool := decide (es.length ≤ 6) && (ordM (kv es) && edtsM es)
theorem edtsM_of {es : List Edt} (h : ∀ i, i < es.length → edtAt es i = true) : edtsM es = true := by
  rw [edtsM, List.all_eq_true]; intro i hi; exact h i (List.mem_range.1 hi)
theorem edtsM_not {es : List Edt} {i : Nat} (hi : i < es.length) (h : edtAt es i = false) : edtsM es = false := by
  rw [edtsM, List.all_eq_false]; exact ⟨i, List.mem_range.2 hi, by rw [h]; simp⟩
theorem editsOK_of {es : List Edt} (h0 : es.length ≤ 6) (h : ∀ i, i < es.length → ordAt (kv es) i = true ∧ edtAt es i = true) : editsOK es = true := by
  rw [editsOK, ordM_of (fun i hi => (h i (by rw [kv_length] at hi; exact hi)).1), edtsM_of fun i hi => (h i hi).2, decide_eq_true h0]; rfl
theorem editsOK_noOrd {es : List Edt} {i : Nat} (hi : i < es.length) (h : ordAt (kv es) i = false) : editsOK es = false := by
  rw [editsOK, ordM_not (by rw [kv_length]; exact hi) h]; simp
theorem editsOK_noEdt {es : List Edt} {i : Nat} (hi : i < es.length) (h : edtAt es i = false) : editsOK es = false := by
  rw [editsOK, edtsM_not hi h]; simp
theorem editsOK_long {es : List Edt} (h : 6 < es.length) : editsOK es = false := by
  rw [editsOK, decide_eq_false (by omega)]; rfl
theorem gone_three (g : Bool) (v : Int) : (g = true ∧ v ≠ 0) ∨ g = false ∨ (g = true ∧ v = 0) := by
  cases g <;> by_cases h : v = 0 <;> simp [h]

end Go.Proofs.Ytjhimcddgkoghaa
