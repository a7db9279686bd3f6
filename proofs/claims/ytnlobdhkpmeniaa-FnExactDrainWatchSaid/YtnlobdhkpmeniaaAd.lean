/- The machine over data: entries and edits as data; contracts that were walked before, as its own. -/
import Derived.Test.YtnlobdhkpmeniaaN16
import Derived.Test.YtnlobdhkpmeniaaTh
import Derived.Test.YtnlobdhkpmeniaaI4
import Derived.Test.YtnlobdhkpmeniaaI7
namespace Go.Proofs.Ytnlobdhkpmeniaa.AM
open Go Go.RowKit
set_option linter.unusedVariables false

def strA (k : ByteArray) : AV := .v (.string k)
def intA (x : Int) : AV := .v (.int .i64 x)
def entA (e : Ent) : AV := .agg [.v (.string e.1), .v (.int .i64 e.2)]
def edtA (e : Edt) : AV := .agg [.v (.string e.key), .v (.int .i64 e.val), .v (.bool e.gone)]
theorem flat_map {α : Type} {f : α → AV} (h : ∀ a, flatA (f a)) : ∀ l : List α, flatL (l.map f)
  | [] => by simp only [List.map_nil]; unfold flatL; trivial
  | a :: l => by simp only [List.map_cons]; unfold flatL; exact ⟨h a, flat_map h l⟩
theorem flat_o0 : ∀ ob ∈ ([] : List OB), flatO ob := fun ob h => by cases h
theorem flat_o1 {t sz : Nat} {xs : List AV} (h : flatL xs) : ∀ ob ∈ [(⟨.s t, sz, xs⟩ : OB)], flatO ob := fun ob hm => by rw [List.mem_singleton] at hm; subst hm; exact h
theorem flat_o2 {t sz t' sz' : Nat} {xs xs' : List AV} (h : flatL xs) (h' : flatL xs') : ∀ ob ∈ [(⟨.s t, sz, xs⟩ : OB), ⟨.s t', sz', xs'⟩], flatO ob := fun ob hm => by
  rcases List.mem_cons.1 hm with rfl | hm
  · exact h
  · exact flat_o1 h' ob hm
theorem flat_ent (e : Ent) : flatA (entA e) := by unfold entA; simp [flatA, flatL]
theorem flat_edt (e : Edt) : flatA (edtA e) := by unfold edtA; simp [flatA, flatL]
theorem flat_str (e : ByteArray) : flatA (strA e) := by unfold strA; simp [flatA]

section
variable {S : Nat → Prop} {w : World}
theorem arg_v {S0 : Nat → Prop} {hp B V} {x u : Value} (h : RV S0 w hp B V (.v x) u) : u = x := by unfold RV at h; exact h.1
theorem rvs1 {S0 : Nat → Prop} {hp B V} {x : AV} {us : List Value} (h : RVs S0 w hp B V [x] us) : ∃ u, us = [u] ∧ RV S0 w hp B V x u := by
  unfold RVs at h; obtain ⟨u, us', rfl, h1, h2⟩ := h; unfold RVs at h2; subst h2; exact ⟨u, rfl, h1⟩
end

section
variable {P : Program} {f : FuncId} {fn : Func} {args : List AV}
theorem ent_of (hf : P.funcs[f]? = some fn) (hnm : (fn.name == "runtime.NumGoroutine") = false) (hb : fn.body.isNone = false) : ∀ vs w, (callFunc f vs).run P w = .ok (.enter f vs) w := fun vs w => by
  simp only [callFunc, Sem.run_bind, run_program, Result.andThen_ok, hf, hnm, hb]; rfl
theorem rvs_none {S : Nat → Prop} {w : World} {hp hp' : Nat → Option OB} {B B' : Nat → Nat} {V V' : Nat → Value} {xs : List AV} {vs : List Value} (hn : ∀ l, hp l = none) (h : RVs S w hp B V xs vs) : RVs S w hp' B' V' xs vs :=
  RVs.carry (fun _ h => h) (fun _ _ => rfl) _ _ (fun l _ ob e => by rw [hn] at e; cases e) h
theorem rows_none {S : Nat → Prop} {w : World} {hp : Nat → Option OB} {B : Nat → Nat} {V : Nat → Value} {T : Nat → Nat → Prop} {lo : Nat → Prop} (hn : ∀ l, hp l = none) : Rows S w hp (fun _ => none) B V T lo :=
  ⟨fun l ob e => (by rw [hn] at e; cases e), fun l ob g e => (by rw [hn] at e; cases e), fun l ob g e => (by rw [hn] at e; cases e), fun l l' o1 o2 g e => (by rw [hn] at e; cases e), fun l es e => (by cases e)⟩
theorem obs_nil (l : Nat) : obsF [] l = none := by simp [obsF]
/-- a contract whose result is a plain value -/
theorem ac_val {r : Value} (hent : ∀ vs w, (callFunc f vs).run P w = .ok (.enter f vs) w) (h1 : r.oneCell' = true)
    (h : ∀ (w : World) (S0 : Nat → Prop) (vs : List Value), (∀ b, S0 b → b < w.heap.size) → RVs S0 w (fun _ => none) (fun _ => 0) (fun _ => undef) args vs → Calls P f vs.toArray w fun e w' => e = .returned r ∧ Below w.heap.size w w') : AC P f args ⟨.v r, []⟩ :=
  ⟨hent, fun w S0 B0 V0 T0 vs hS _ hv => (h w S0 vs hS (rvs_none (fun _ => rfl) hv)).mono fun e w' ⟨he, hb⟩ => ⟨r, S0, fun _ => 0, fun _ => undef, fun _ => Fa, fun _ => Fa, he, Grown.of hb _, fun _ h => h, fun b hb' => ⟨Nat.lt_of_lt_of_le (hS b hb') hb.size, .inl hb'⟩, by unfold RV; exact ⟨rfl, h1⟩, rows_none obs_nil, rows_none (fun _ => rfl), fun l l' ob ob' g e => (by rw [obs_nil] at e; cases e)⟩⟩
end

theorem ent_94 : ∀ vs w, (callFunc 94 vs).run Try.prog w = .ok (.enter 94 vs) w := ent_of Try.func94 (by kernel_rfl) (by kernel_rfl)
theorem ac_markText {k : Int} (h0 : 0 ≤ k) (h1 : k ≤ 1099511627776) : AC Try.prog 94 [.v (.int .i64 k)] ⟨.v (.string (markB k)), []⟩ :=
  ac_val ent_94 rfl fun w S0 vs hS hv => by
    obtain ⟨u', rfl, h2⟩ := rvs1 hv
    rw [arg_v h2]
    exact markText_any k w h0 h1
end Go.Proofs.Ytnlobdhkpmeniaa.AM
