/- Edits compared as structs; a struct's comparison over data. -/
import Derived.Test.YtjhimcddgkoghaaA2
import Derived.Laws.StructEq
namespace Go.Proofs.Ytjhimcddgkoghaa.AM
open Go Go.RowKit
set_option linter.unusedVariables false
set_option linter.unusedSimpArgs false
set_option maxRecDepth 100000
theorem hu_Edit : Try.prog.underlying 117 = some (.struct (Try.prog.fieldsOf 117)) := by kernel_rfl
theorem held_Edit : Try.prog.stoodInHeld 117 = false := by kernel_rfl
theorem guard_Edit : Try.prog.eqGuardType Try.prog.depth 117 = false := by kernel_rfl
theorem edit_eq (a b : ByteArray) (x y : Int) (g h : Bool) (w : World) : (Op.equalIn 10000 117 (.agg #[.string a, .int .i64 x, .bool g]) (.agg #[.string b, .int .i64 y, .bool h])).run Try.prog w = .ok (decide (a = b ∧ x = y ∧ g = h)) w := by
  have hf := Option.some.inj (hu_Edit.symm.trans Try.underlying117)
  injection hf with hf
  rw [run_equalIn_struct w 9999 _ _ _ hu_Edit held_Edit, hf]
  have q0 : ∀ (s : ByteArray) (n : Int) (c : Bool) (w : World), (part 9 #[.string s, .int .i64 n, .bool c] 0).run Try.prog w = .ok (.string s) w := fun s n c w => rfl
  have q1 : ∀ (s : ByteArray) (n : Int) (c : Bool) (w : World), (part 3 #[.string s, .int .i64 n, .bool c] 1).run Try.prog w = .ok (.int .i64 n) w := fun s n c w => rfl
  have q2 : ∀ (s : ByteArray) (n : Int) (c : Bool) (w : World), (part 4 #[.string s, .int .i64 n, .bool c] 2).run Try.prog w = .ok (.bool c) w := fun s n c w => rfl
  have r0 := fun a b w => run_equalIn_string (P := Try.prog) w 9998 9 a b Try.underlying9
  have r1 := fun a b w => run_equalIn_int (P := Try.prog) w 9998 3 .i64 .i64 a b Try.underlying3
  have r2 := fun a b w => run_equalIn_bool' (P := Try.prog) w 9998 4 a b Try.underlying4
  by_cases h1 : a = b
  · subst h1
    by_cases h2 : x = y
    · subst h2
      cases g <;> cases h <;> simp [Op.eqFields, q0, q1, q2, r0, r1, r2, Result.andThen]
    · simp [Op.eqFields, q0, q1, q2, r0, r1, r2, Result.andThen, h2]
  · simp [Op.eqFields, q0, q1, q2, r0, r1, r2, Result.andThen, toList_beq, h1]
theorem edt_ext {a b : Edt} : a = b ↔ a.key = b.key ∧ a.val = b.val ∧ a.gone = b.gone := by
  cases a; cases b; simp
theorem b_edtne {a b : Edt} {x y : Operand} {r : Bool} (h : decide (a ≠ b) = r) : BinOK Try.prog .neq 117 x y (.agg #[.string a.key, .int .i64 a.val, .bool a.gone]) (.agg #[.string b.key, .int .i64 b.val, .bool b.gone]) (.bool r) := fun w => by
  rw [Sem.run_bind, run_eqGuard_agg w _ _ _ _ _ _ guard_Edit, Result.andThen_ok, run_neq_struct, edit_eq, Result.andThen_ok, ← h]
  have : decide (a.key = b.key ∧ a.val = b.val ∧ a.gone = b.gone) = decide (a = b) := by
    rw [decide_eq_decide]; exact edt_ext.symm
  rw [this]
  by_cases e : a = b <;> simp [e]
section
variable {P : Program} {Θ : Tab} {s : St} {d : Option Tmp} {ty : TypeId} {pos : String} {after : Array Edge} {g : Option (Nat × Bool)}
theorem p_binA {op : BinOp} {t t2 : TypeId} {x y : Operand} {a b r : Value} (h : BinOK P op t x y a b r) (hx : conc (s.ev x) = some a) (hy : conc (s.ev y) = some b) (h1 : r.oneCell' = true) : Pre P Θ ⟨d, .binOp op t x y t2, ty, pos, after, g⟩ s ⟨.v r, none⟩ :=
  ⟨a, b, r, hx, hy, h, h1, rfl⟩
end
section
variable {s : St} {Θ : Tab}
theorem ra_o {t l sz : Nat} {e : ET} {xs : List AV} (h : s.sl t = .own l) (ho : s.hp l = some ⟨e, sz, xs⟩) (hok : okL l = true := by rfl) (hsh : e.shut = true := by rfl) : retA s [] (s.sl t) (.lst sz xs) :=
  .inr ⟨by rw [h]; simp [isDataA, ho, hsh], by rw [h]; simp [ownsA, hok], by rw [h]; simp [St.dat, ho, hsh]⟩
theorem ra_x {t : Nat} {y : AV} (h : s.sl t = y) (hy : (match y with | .v _ | .agg _ | .lst _ _ | .any => True | _ => False)) : retA s [] (s.sl t) y := .inl (by cases y <;> first | exact ⟨h, rfl⟩ | exact hy.elim)
theorem r_tup3 {t1 t2 t3 : Nat} {y1 y2 y3 : AV} (h1 : retA s [] (s.sl t1) y1) (h2 : retA s [] (s.sl t2) y2) (h3 : retA s [] (s.sl t3) y3) : RetQ Θ [.tmp t1, .tmp t2, .tmp t3] ⟨.tup [y1, y2, y3], []⟩ .ret s :=
  ⟨trivial, [], by simp, trivial, ⟨trivial, trivial, trivial, trivial⟩, ⟨_, rfl⟩, ⟨h1, h2, h3, trivial⟩⟩
end
end Go.Proofs.Ytjhimcddgkoghaa.AM
