/- slices.Clone, over memory and over data. -/
import Derived.Test.YtjhimcddgkoghaaBase3
import Derived.Test.YtjhimcddgkoghaaF1
import Derived.WalkSpells
namespace Go.Proofs.Ytjhimcddgkoghaa
open Go Go.RowKit
set_option linter.unusedVariables false
set_option linter.unusedSimpArgs false
/-- what a clone of a list leaves: a row of its own that reads as the list -/
def OwnPostC (e : TypeId) (sz n : Nat) (cs : List Value) (w : World) (e' : Ending) (w' : World) : Prop := ∃ v, e' = .returned v ∧ w'.ownsRow w.heap.size e sz v n cs ∧ Below w.heap.size w w'
set_option maxHeartbeats 1000000 in
set_option maxRecDepth 100000 in
theorem cloneRef_any (A : Option Addr) (n c : Nat) (cs : List Value) (w : World) (hr : Rd w 4 A n cs) (h1 : ∀ u ∈ cs, u.oneCell' = true) (hm : n * 40 ≤ 140737488355328) :
    Calls Try.prog 160 #[.slice A n c] w (OwnPostC 83 4 n cs w) := by
  obtain ⟨i0, hi, hz0, hz1, hz2⟩ := info_parts (show (Try.prog.info? 83).map (fun i => (i.zero, i.size, i.bytes)) = some (some (.agg #[.string ByteArray.empty, .int .i64 0, .int .i64 0, .bool false]), 4, 40) from by kernel_rfl)
  have Hi := Lib.hid hi; clear hi
  have Hz0 := Lib.hid hz0; clear hz0
  have Hz1 := Lib.hid hz1; clear hz1
  have Hz2 := Lib.hid hz2; clear hz2
  cases A with
  | none =>
    have hn : n = 0 := by
      rcases Nat.eq_zero_or_pos n with h | h
      · exact h
      · obtain ⟨b, off, e, _⟩ := hr.2 h; cases e
    subst hn
    have hcs : cs = [] := List.eq_nil_of_length_eq_zero (by have := hr.1; omega)
    subst hcs
    go_enter Try.func160, Try.ntmps160
    go_wp2_with (rw [Lib.run_eql_slice_nil _ 90 83 _ _ _ _ _ Try.underlying90, Result.andThen_ok])
    go_ret
    exact ⟨_, rfl, World.ownsRow_nil _ _ _ _, Below.refl _ _⟩
  | some ad =>
    have hst := Lib.hid (World.ownsRow_made (base := w.heap.size) (e := 83) (size := 4) w #[] 0 (Nat.le_refl _) (by simp) (by simp))
    have hb3 := Lib.hid ((Below.refl w.heap.size w).alloc (Nat.le_refl _) (.cells #[] 83))
    have hrd3 := Lib.hid (hr.below hb3.out (Nat.le_refl _))
    have hbs3 := hb3.out.size
    go_enter Try.func160, Try.ntmps160
    go_wp2_with (first | (rw [Lib.run_eql_slice_nil _ 90 83 _ _ _ _ _ Try.underlying90, Result.andThen_ok]) | (at_builtin; refine wpList_append_rd (w.alloc (.cells #[] 83)) rfl _ _ 90 rfl w.heap.size 83 i0 _ 4 40 Try.underlying90 Hi.out Hz0.out Hz1.out Hz2.out rfl (by decide) (.slice (some ⟨w.heap.size, 0, none⟩) 0 0) 0 [] rfl hst.out (some ad) n c cs rfl hrd3.out h1 (by omega) (by decide) hbs3 ?_; intro v4 w4 hown4 hgrow4; have HO4 := Lib.hid hown4; clear hown4))
    have hb4 := below_grown hb3.out hgrow4 hst.out hbs3 (Nat.le_refl _)
    go_ret
    have ho := HO4.out
    rw [Nat.zero_add, List.nil_append] at ho
    exact ⟨_, rfl, ho, hb4⟩
end Go.Proofs.Ytjhimcddgkoghaa
