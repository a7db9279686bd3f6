/- slices.Clone over data: entries, ints, references. -/
import Derived.Test.YtjhimcddgkoghaaG8
import Derived.Test.YtjhimcddgkoghaaE5
import Derived.Test.YtjhimcddgkoghaaF5
namespace Go.Proofs.Ytjhimcddgkoghaa.AM
open Go Go.RowKit
set_option linter.unusedVariables false
set_option linter.unusedSimpArgs false
section
variable {w : World}
/-- an argument whose cells the data say -/
theorem arg_flat {S0 : Nat → Prop} {hp B V} (hS : ∀ b, S0 b → b < w.heap.size) {sz : Nat} {xs : List AV} {cs : List Value} {u : Value} (hd : ∀ us, RL S0 w xs us → us = cs) (hl : cs.length = xs.length * sz) (h : RV S0 w hp B V (.lst sz xs) u) : ∃ A c, u = .slice A xs.length c ∧ Rd w sz A xs.length cs := by
  unfold RV at h
  unfold RA at h
  obtain ⟨A, c, e, h1, h2, _, _, h4⟩ := h
  simp only [List.cons.injEq, and_true] at e
  refine ⟨A, c, e, hl, fun hn => ?_⟩
  rcases h4 with h4 | ⟨b, off, us, rfl, hb, hr, hc⟩
  · subst h4; simp at hn
  · rw [hd us hr] at hc
    exact ⟨b, off, rfl, hS b hb, hc⟩
theorem rl_det {α : Type} {f : α → AV} {g : α → List Value} (h1 : ∀ (S : Nat → Prop) (w : World) x cs, RA S w (f x) cs → cs = g x) : ∀ {S : Nat → Prop} {w : World} {l : List α} {us : List Value}, RL S w (l.map f) us → us = l.flatMap g
  | S, w, [], us, h => by rw [List.map_nil] at h; unfold RL at h; exact h
  | S, w, x :: l, us, h => by
    rw [List.map_cons] at h
    unfold RL at h
    obtain ⟨c1, c2, rfl, k1, k2⟩ := h
    rw [h1 S w x c1 k1, rl_det h1 k2, List.flatMap_cons]
end
theorem ra_ref {S : Nat → Prop} {w : World} {x : Rf} {cs : List Value} (h : RA S w (refA x) cs) : cs = refC x := by
  unfold refA RA at h
  unfold RL at h
  obtain ⟨c1, r1, rfl, k1, h⟩ := h
  unfold RL at h
  obtain ⟨c2, r2, rfl, k2, h⟩ := h
  unfold RL at h
  obtain ⟨c3, r3, rfl, k3, h⟩ := h
  unfold RL at h
  obtain ⟨c4, r4, rfl, k4, h⟩ := h
  unfold RL at h
  unfold RA at k1 k2 k3 k4
  rw [h, k1.1, k2.1, k3.1, k4.1]; rfl
theorem ent_160 : ∀ vs w, (callFunc 160 vs).run Try.prog w = .ok (.enter 160 vs) w := ent_of Try.func160 (by kernel_rfl) (by kernel_rfl)
theorem ac_cloneRef {l : List Rf} (hm : l.length ≤ 1048576) : AC Try.prog 160 [.lst 4 (l.map refA)] ⟨.own 0, [⟨83, 4, l.map refA⟩]⟩ :=
  ac_own (cs := refsC l) ent_160 (all_ref l) (by omega) (fun S w => rl_refs l) fun w S0 vs hS hv => by
    obtain ⟨u, rfl, h1⟩ := rvs1 hv
    obtain ⟨A, c, rfl, hr⟩ := arg_flat (cs := refsC l) hS (fun us h => rl_det (g := refC) (fun S w x cs h => ra_ref h) h) (by rw [refsC_length, List.length_map]) h1
    refine (cloneRef_any A _ c _ w hr (fun u hu => by
      obtain ⟨r, _, hr⟩ := List.mem_flatMap.1 hu
      simp only [refC, List.mem_cons, List.not_mem_nil, or_false] at hr
      rcases hr with rfl | rfl | rfl | rfl <;> rfl) (by rw [List.length_map]; omega)).mono ?_
    rintro e w' ⟨v, rfl, ho, hb⟩
    exact ⟨v, rfl, ho, hb⟩
end Go.Proofs.Ytjhimcddgkoghaa.AM
