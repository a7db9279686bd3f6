/- The machine over data: entries and edits as data; contracts that were walked before, as its own. -/
import Derived.Test.YtjhimcddgkoghaaN16
import Derived.Test.YtjhimcddgkoghaaTh
import Derived.Test.YtjhimcddgkoghaaI4
import Derived.Test.YtjhimcddgkoghaaI7
namespace Go.Proofs.Ytjhimcddgkoghaa.AM
open Go Go.RowKit
set_option linter.unusedVariables false

def strA (k : ByteArray) : AV := .v (.string k)
def intA (x : Int) : AV := .v (.int .i64 x)
def entA (e : Ent) : AV := .agg [.v (.string e.1), .v (.int .i64 e.2)]
def edtA (e : Edt) : AV := .agg [.v (.string e.key), .v (.int .i64 e.val), .v (.bool e.gone)]
theorem flat_map {α : Type} {f : α → AV} (h : ∀ a, flatA (f a)) : ∀ l : List α, flatL (l.map f)
  | [] => by simp only [List.map_nil]; unfold flatL; trivial
  | a :: l => by simp only [List.map_cons]; unfold flatL; exact ⟨h a, flat_map h l⟩
theorem flat_o0 : ∀ ob ∈ ([] : List OB), flatO ob := fun ob h => by cases h
theorem flat_o1 {t sz : Nat} {xs : List AV} (h : flatL xs) : ∀ ob ∈ [(⟨.s t, sz, xs⟩ : OB)], flatO ob := fun ob hm => by rw [List.mem_singleton] at hm; subst hm; exact h
theorem flat_o2 {t sz t' sz' : Nat} {xs xs' : List AV} (h : flatL xs) (h' : flatL xs') : ∀ ob ∈ [(⟨.s t, sz, xs⟩ : OB), ⟨.s t', sz', xs'⟩], flatO ob := fun ob hm => by
  rcases List.mem_cons.1 hm with rfl | hm
  · exact h
  · exact flat_o1 h' ob hm
theorem flat_ent (e : Ent) : flatA (entA e) := by unfold entA; simp [flatA, flatL]
theorem flat_edt (e : Edt) : flatA (edtA e) := by unfold edtA; simp [flatA, flatL]
theorem flat_str (e : ByteArray) : flatA (strA e) := by unfold strA; simp [flatA]

section
variable {S : Nat → Prop} {w : World}
theorem rl_entA : ∀ {es : List Ent} {cs : List Value}, RL S w (es.map entA) cs ↔ cs = entsC es
  | [], cs => by simp only [List.map_nil]; unfold RL; simp [entsC]
  | e :: es, cs => by
    simp only [List.map_cons]
    constructor
    · intro h
      unfold RL at h
      obtain ⟨c1, c2, rfl, h1, h2⟩ := h
      rw [rl_entA.1 h2, entsC_cons]
      unfold entA at h1
      simp only [RA, RL] at h1
      obtain ⟨a, b, rfl, ⟨rfl, _⟩, d1, d2, rfl, ⟨rfl, _⟩, rfl⟩ := h1
      rfl
    · intro h
      unfold RL
      refine ⟨[.string e.1, .int .i64 e.2], entsC es, by rw [h, entsC_cons]; rfl, ?_, rl_entA.2 rfl⟩
      exact ra_agg (rl_cons (c1 := [_]) (ra_v rfl) (rl_cons (c1 := [_]) (ra_v rfl) rl_nil))
theorem rl_edtA : ∀ {es : List Edt} {cs : List Value}, RL S w (es.map edtA) cs ↔ cs = edtsC es
  | [], cs => by simp only [List.map_nil]; unfold RL; simp [edtsC]
  | e :: es, cs => by
    simp only [List.map_cons]
    constructor
    · intro h
      unfold RL at h
      obtain ⟨c1, c2, rfl, h1, h2⟩ := h
      rw [rl_edtA.1 h2, edtsC_cons]
      unfold edtA at h1
      simp only [RA, RL] at h1
      obtain ⟨a, b, rfl, ⟨rfl, _⟩, d1, d2, rfl, ⟨rfl, _⟩, f1, f2, rfl, ⟨rfl, _⟩, rfl⟩ := h1
      rfl
    · intro h
      unfold RL
      refine ⟨[.string e.key, .int .i64 e.val, .bool e.gone], edtsC es, by rw [h, edtsC_cons]; rfl, ?_, rl_edtA.2 rfl⟩
      exact ra_agg (rl_cons (c1 := [_]) (ra_v rfl) (rl_cons (c1 := [_]) (ra_v rfl) (rl_cons (c1 := [_]) (ra_v rfl) rl_nil)))
theorem all_ent (es : List Ent) : ∀ x ∈ es.map entA, asz x = 2 := fun x hx => by obtain ⟨e, _, rfl⟩ := List.mem_map.1 hx; rfl
theorem all_edt (es : List Edt) : ∀ x ∈ es.map edtA, asz x = 3 := fun x hx => by obtain ⟨e, _, rfl⟩ := List.mem_map.1 hx; rfl
/-- an argument that reads as entries -/
theorem arg_ents {S0 : Nat → Prop} {hp B V} (hS : ∀ b, S0 b → b < w.heap.size) {es : List Ent} {u : Value} (h : RV S0 w hp B V (.lst 2 (es.map entA)) u) : ∃ A c, u = .slice A es.length c ∧ es.length ≤ c ∧ c ≤ maxLen ∧ Rd w 2 A es.length (entsC es) := by
  unfold RV at h
  unfold RA at h
  obtain ⟨A, c, e, h1, h2, _, _, h4⟩ := h
  simp only [List.cons.injEq, and_true, List.length_map] at e h1
  refine ⟨A, c, e, h1, h2, by rw [entsC_length], fun hn => ?_⟩
  rcases h4 with h4 | ⟨b, off, us, rfl, hb, hr, hc⟩
  · have := List.map_eq_nil_iff.1 h4; subst this; simp at hn
  · rw [rl_entA.1 hr] at hc
    exact ⟨b, off, rfl, hS b hb, hc⟩
theorem arg_edts {S0 : Nat → Prop} {hp B V} (hS : ∀ b, S0 b → b < w.heap.size) {es : List Edt} {u : Value} (h : RV S0 w hp B V (.lst 3 (es.map edtA)) u) : ∃ A c, u = .slice A es.length c ∧ es.length ≤ c ∧ c ≤ maxLen ∧ Rd w 3 A es.length (edtsC es) := by
  unfold RV at h
  unfold RA at h
  obtain ⟨A, c, e, h1, h2, _, _, h4⟩ := h
  simp only [List.cons.injEq, and_true, List.length_map] at e h1
  refine ⟨A, c, e, h1, h2, by rw [edtsC_length], fun hn => ?_⟩
  rcases h4 with h4 | ⟨b, off, us, rfl, hb, hr, hc⟩
  · have := List.map_eq_nil_iff.1 h4; subst this; simp at hn
  · rw [rl_edtA.1 hr] at hc
    exact ⟨b, off, rfl, hS b hb, hc⟩
theorem arg_v {S0 : Nat → Prop} {hp B V} {x u : Value} (h : RV S0 w hp B V (.v x) u) : u = x := by unfold RV at h; exact h.1
theorem rvs1 {S0 : Nat → Prop} {hp B V} {x : AV} {us : List Value} (h : RVs S0 w hp B V [x] us) : ∃ u, us = [u] ∧ RV S0 w hp B V x u := by
  unfold RVs at h; obtain ⟨u, us', rfl, h1, h2⟩ := h; unfold RVs at h2; subst h2; exact ⟨u, rfl, h1⟩
theorem rvsc {S0 : Nat → Prop} {hp B V} {x : AV} {xs : List AV} {us : List Value} (h : RVs S0 w hp B V (x :: xs) us) : ∃ u us', us = u :: us' ∧ RV S0 w hp B V x u ∧ RVs S0 w hp B V xs us' := by
  unfold RVs at h; exact h
end

section
variable {P : Program} {f : FuncId} {fn : Func} {args : List AV}
theorem ent_of (hf : P.funcs[f]? = some fn) (hnm : (fn.name == "runtime.NumGoroutine") = false) (hb : fn.body.isNone = false) : ∀ vs w, (callFunc f vs).run P w = .ok (.enter f vs) w := fun vs w => by
  simp only [callFunc, Sem.run_bind, run_program, Result.andThen_ok, hf, hnm, hb]; rfl
theorem rvs_none {S : Nat → Prop} {w : World} {hp hp' : Nat → Option OB} {B B' : Nat → Nat} {V V' : Nat → Value} {xs : List AV} {vs : List Value} (hn : ∀ l, hp l = none) (h : RVs S w hp B V xs vs) : RVs S w hp' B' V' xs vs :=
  RVs.carry (fun _ h => h) (fun _ _ => rfl) _ _ (fun l _ ob e => by rw [hn] at e; cases e) h
theorem rows_none {S : Nat → Prop} {w : World} {hp : Nat → Option OB} {B : Nat → Nat} {V : Nat → Value} {T : Nat → Nat → Prop} {lo : Nat → Prop} (hn : ∀ l, hp l = none) : Rows S w hp (fun _ => none) B V T lo :=
  ⟨fun l ob e => (by rw [hn] at e; cases e), fun l ob g e => (by rw [hn] at e; cases e), fun l ob g e => (by rw [hn] at e; cases e), fun l l' o1 o2 g e => (by rw [hn] at e; cases e), fun l es e => (by cases e)⟩
theorem obs_nil (l : Nat) : obsF [] l = none := by simp [obsF]
theorem owns_any {w : World} {b t sz n : Nat} {v : Value} {cs : List Value} (h : w.ownsRow b t sz v n cs) : w.ownsRow 0 t sz v n cs := by
  refine ⟨h.1, ?_⟩
  rcases h.2 with k | ⟨g, cap, cur, e, hb, r⟩
  · exact .inl k
  · exact .inr ⟨g, cap, cur, e, Nat.zero_le _, r⟩
/-- a contract whose result is a plain value -/
theorem ac_val {r : Value} (hent : ∀ vs w, (callFunc f vs).run P w = .ok (.enter f vs) w) (h1 : r.oneCell' = true)
    (h : ∀ (w : World) (S0 : Nat → Prop) (vs : List Value), (∀ b, S0 b → b < w.heap.size) → RVs S0 w (fun _ => none) (fun _ => 0) (fun _ => undef) args vs → Calls P f vs.toArray w fun e w' => e = .returned r ∧ Below w.heap.size w w') : AC P f args ⟨.v r, []⟩ :=
  ⟨hent, fun w S0 B0 V0 T0 vs hS _ hv => (h w S0 vs hS (rvs_none (fun _ => rfl) hv)).mono fun e w' ⟨he, hb⟩ => ⟨r, S0, fun _ => 0, fun _ => undef, fun _ => Fa, fun _ => Fa, he, Grown.of hb _, fun _ h => h, fun b hb' => ⟨Nat.lt_of_lt_of_le (hS b hb') hb.size, .inl hb'⟩, by unfold RV; exact ⟨rfl, h1⟩, rows_none obs_nil, rows_none (fun _ => rfl), fun l l' ob ob' g e => (by rw [obs_nil] at e; cases e)⟩⟩
theorem rows_one {S : Nat → Prop} {w' : World} {base : Nat} {t sz : Nat} {xs : List AV} {v : Value} {cs : List Value} {lo : Nat → Prop} (hlo : ∀ g, base ≤ g → lo g) (hS : ∀ b, S b → b < base) (ho : w'.ownsRow base t sz v xs.length cs) (ha : ∀ x ∈ xs, asz x = sz) (h0 : 0 < sz) (hr : RL S w' xs cs) : Rows S w' (obsF [⟨.s t, sz, xs⟩]) (fun _ => none) (fun _ => (v.ownBlock).getD 0) (fun _ => v) (fun _ => Fa) lo := by
  have h0' : ∀ l ob, obsF [(⟨.s t, sz, xs⟩ : OB)] l = some ob → l = 0 ∧ ob = ⟨.s t, sz, xs⟩ := fun l ob e => by
    cases l with
    | zero => simp [obsF] at e; exact ⟨rfl, e.symm⟩
    | succ l => simp [obsF] at e
  refine ⟨fun l ob e => ?_, fun l ob g e hb => ?_, fun l ob g e _ hb => hb.elim, fun l l' o1 o2 g e1 e2 _ _ => ?_, fun l es e => by cases e⟩
  · obtain ⟨rfl, rfl⟩ := h0' l ob e
    exact ⟨t, cs, ⟨fun t' e => by cases e; rfl, trivial⟩, hr, ha, h0, owns_any ho, fun g hg => by rw [hg]; rfl⟩
  · rcases hb with hb | hb
    · have := ho.lt g hb
      exact ⟨fun hs => by have := hS g hs; omega, this.2, hlo g this.1⟩
    · exact hb.elim
  · rw [(h0' l o1 e1).1, (h0' l' o2 e2).1]
/-- a contract whose result is a row of its own -/
theorem ac_own {e : TypeId} {sz : Nat} {xs : List AV} {cs : List Value} (hent : ∀ vs w, (callFunc f vs).run P w = .ok (.enter f vs) w) (ha : ∀ x ∈ xs, asz x = sz) (h0 : 0 < sz) (hr : ∀ S w, RL S w xs cs)
    (h : ∀ (w : World) (S0 : Nat → Prop) (vs : List Value), (∀ b, S0 b → b < w.heap.size) → RVs S0 w (fun _ => none) (fun _ => 0) (fun _ => undef) args vs → Calls P f vs.toArray w fun en w' => ∃ v, en = .returned v ∧ w'.ownsRow w.heap.size e sz v xs.length cs ∧ Below w.heap.size w w') : AC P f args ⟨.own 0, [⟨.s e, sz, xs⟩]⟩ :=
  ⟨hent, fun w S0 B0 V0 T0 vs hS _ hv => (h w S0 vs hS (rvs_none (fun _ => rfl) hv)).mono fun en w' ⟨v, he, ho, hb⟩ =>
    ⟨v, S0, fun _ => (v.ownBlock).getD 0, fun _ => v, fun _ => Fa, fun _ => Fa, he, Grown.of hb _, fun _ h => h, fun b hb' => ⟨Nat.lt_of_lt_of_le (hS b hb') hb.size, .inl hb'⟩, by unfold RV; exact ⟨⟨_, rfl⟩, rfl⟩, rows_one (fun g hg => .inl hg) hS ho ha h0 (hr _ _), rows_none (fun _ => rfl), fun l l' ob ob' g _ e => by cases e⟩⟩
/-- a contract whose result is a row of its own and a plain value -/
theorem ac_ownv {e : TypeId} {sz : Nat} {xs : List AV} {cs : List Value} {r : Value} (hent : ∀ vs w, (callFunc f vs).run P w = .ok (.enter f vs) w) (ha : ∀ x ∈ xs, asz x = sz) (h0 : 0 < sz) (hr : ∀ S w, RL S w xs cs) (h1 : r.oneCell' = true)
    (h : ∀ (w : World) (S0 : Nat → Prop) (vs : List Value), (∀ b, S0 b → b < w.heap.size) → RVs S0 w (fun _ => none) (fun _ => 0) (fun _ => undef) args vs → Calls P f vs.toArray w fun en w' => ∃ v, en = .returned (.tuple #[v, r]) ∧ w'.ownsRow w.heap.size e sz v xs.length cs ∧ Below w.heap.size w w') : AC P f args ⟨.tup [.own 0, .v r], [⟨.s e, sz, xs⟩]⟩ :=
  ⟨hent, fun w S0 B0 V0 T0 vs hS _ hv => (h w S0 vs hS (rvs_none (fun _ => rfl) hv)).mono fun en w' ⟨v, he, ho, hb⟩ => by
    refine ⟨_, S0, fun _ => (v.ownBlock).getD 0, fun _ => v, fun _ => Fa, fun _ => Fa, he, Grown.of hb _, fun _ h => h, fun b hb' => ⟨Nat.lt_of_lt_of_le (hS b hb') hb.size, .inl hb'⟩, ?_, rows_one (fun g hg => .inl hg) hS ho ha h0 (hr _ _), rows_none (fun _ => rfl), fun l l' ob ob' g _ e => by cases e⟩
    unfold RV
    refine ⟨[v, r], rfl, ?_⟩
    unfold RVs
    refine ⟨v, [r], rfl, by unfold RV; exact ⟨⟨_, rfl⟩, rfl⟩, ?_⟩
    unfold RVs
    exact ⟨r, [], rfl, by unfold RV; exact ⟨rfl, h1⟩, by unfold RVs; rfl⟩⟩
end

theorem ent_122 : ∀ vs w, (callFunc 122 vs).run Try.prog w = .ok (.enter 122 vs) w := ent_of Try.func122 (by kernel_rfl) (by kernel_rfl)
theorem ent_125 : ∀ vs w, (callFunc 125 vs).run Try.prog w = .ok (.enter 125 vs) w := ent_of Try.func125 (by kernel_rfl) (by kernel_rfl)
theorem ent_169 : ∀ vs w, (callFunc 169 vs).run Try.prog w = .ok (.enter 169 vs) w := ent_of Try.func169 (by kernel_rfl) (by kernel_rfl)
theorem ent_168 : ∀ vs w, (callFunc 168 vs).run Try.prog w = .ok (.enter 168 vs) w := ent_of Try.func168 (by kernel_rfl) (by kernel_rfl)
theorem ent_237 : ∀ vs w, (callFunc 237 vs).run Try.prog w = .ok (.enter 237 vs) w := ent_of Try.func237 (by kernel_rfl) (by kernel_rfl)
theorem ent_243 : ∀ vs w, (callFunc 243 vs).run Try.prog w = .ok (.enter 243 vs) w := ent_of Try.func243 (by kernel_rfl) (by kernel_rfl)
theorem ent_241 : ∀ vs w, (callFunc 241 vs).run Try.prog w = .ok (.enter 241 vs) w := ent_of Try.func241 (by kernel_rfl) (by kernel_rfl)
theorem ent_240 : ∀ vs w, (callFunc 240 vs).run Try.prog w = .ok (.enter 240 vs) w := ent_of Try.func240 (by kernel_rfl) (by kernel_rfl)
theorem ent_239 : ∀ vs w, (callFunc 239 vs).run Try.prog w = .ok (.enter 239 vs) w := ent_of Try.func239 (by kernel_rfl) (by kernel_rfl)
theorem ent_116 : ∀ vs w, (callFunc 116 vs).run Try.prog w = .ok (.enter 116 vs) w := ent_of Try.func116 (by kernel_rfl) (by kernel_rfl)
theorem ac_l01OK {es : List Ent} (hm : es.length ≤ maxLen) (hk : ∀ e ∈ es, e.1.size ≤ maxLen) : AC Try.prog 122 [.lst 2 (es.map entA)] ⟨.v (.bool (mapOK es)), []⟩ :=
  ac_val ent_122 rfl fun w S0 vs hS hv => by
    obtain ⟨u, rfl, h1⟩ := rvs1 hv
    obtain ⟨A, c, rfl, _, _, hr⟩ := arg_ents hS h1
    exact l01OK_any A es.length c es w hr hm hk
theorem ac_implMapOK {es : List Ent} (hm : es.length ≤ maxLen) (hk : ∀ e ∈ es, e.1.size ≤ maxLen) : AC Try.prog 125 [.lst 2 (es.map entA)] ⟨.v (.bool (mapOK es)), []⟩ :=
  ac_val ent_125 rfl fun w S0 vs hS hv => by
    obtain ⟨u, rfl, h1⟩ := rvs1 hv
    obtain ⟨A, c, rfl, _, _, hr⟩ := arg_ents hS h1
    exact implMapOK_any A es.length c es w hr hm hk
theorem ac_l01OK' {es : List Ent} {b : Bool} (hb : mapOK es = b) (hm : es.length ≤ maxLen) (hk : ∀ e ∈ es, e.1.size ≤ maxLen) : AC Try.prog 122 [.lst 2 (es.map entA)] ⟨.v (.bool b), []⟩ := hb ▸ ac_l01OK hm hk
theorem ac_implMapOK' {es : List Ent} {b : Bool} (hb : mapOK es = b) (hm : es.length ≤ maxLen) (hk : ∀ e ∈ es, e.1.size ≤ maxLen) : AC Try.prog 125 [.lst 2 (es.map entA)] ⟨.v (.bool b), []⟩ := hb ▸ ac_implMapOK hm hk
theorem ac_l01Diff {es es' : List Ent} (hm : es.length ≤ 4096) (hm' : es'.length ≤ 4096) : AC Try.prog 169 [.lst 2 (es.map entA), .lst 2 (es'.map entA)] ⟨.own 0, [⟨117, 3, (diffM es es').map edtA⟩]⟩ :=
  ac_own (cs := edtsC (diffM es es')) ent_169 (all_edt _) (by omega) (fun S w => rl_edtA.2 rfl) fun w S0 vs hS hv => by
    obtain ⟨u, us, rfl, h1, hv⟩ := rvsc hv
    obtain ⟨u', rfl, h2⟩ := rvs1 hv
    obtain ⟨A, c, rfl, _, _, hr⟩ := arg_ents hS h1
    obtain ⟨A', c', rfl, _, _, hr'⟩ := arg_ents hS h2
    rw [List.length_map]
    exact l01Diff_any A _ c es A' _ c' es' w hr hr' hm hm'
theorem ac_differences {es es' : List Ent} (hm : es.length ≤ 4096) (hm' : es'.length ≤ 4096) : AC Try.prog 168 [.lst 2 (es.map entA), .lst 2 (es'.map entA)] ⟨.own 0, [⟨117, 3, (diffM es es').map edtA⟩]⟩ :=
  ac_own (cs := edtsC (diffM es es')) ent_168 (all_edt _) (by omega) (fun S w => rl_edtA.2 rfl) fun w S0 vs hS hv => by
    obtain ⟨u, us, rfl, h1, hv⟩ := rvsc hv
    obtain ⟨u', rfl, h2⟩ := rvs1 hv
    obtain ⟨A, c, rfl, _, _, hr⟩ := arg_ents hS h1
    obtain ⟨A', c', rfl, _, _, hr'⟩ := arg_ents hS h2
    rw [List.length_map]
    exact differences_any A _ c es A' _ c' es' w hr hr' hm hm'
theorem ac_l01Put {es : List Ent} {k : ByteArray} {v : Int} (hm : es.length ≤ 4096) : AC Try.prog 237 [.lst 2 (es.map entA), .v (.string k), .v (.int .i64 v)] ⟨.own 0, [⟨167, 2, (putL es k v).map entA⟩]⟩ :=
  ac_own (cs := entsC (putL es k v)) ent_237 (all_ent _) (by omega) (fun S w => rl_entA.2 rfl) fun w S0 vs hS hv => by
    obtain ⟨u, us, rfl, h1, hv⟩ := rvsc hv
    obtain ⟨u2, us, rfl, h2, hv⟩ := rvsc hv
    obtain ⟨u3, rfl, h3⟩ := rvs1 hv
    obtain ⟨A, c, rfl, _, _, hr⟩ := arg_ents hS h1
    rw [arg_v h2, arg_v h3, List.length_map]
    exact l01Put_any A _ c es k v w hr hm
theorem ac_l01Remove {es : List Ent} {k : ByteArray} (hm : es.length ≤ 4096) : AC Try.prog 243 [.lst 2 (es.map entA), .v (.string k)] ⟨.own 0, [⟨167, 2, (delL es k).map entA⟩]⟩ :=
  ac_own (cs := entsC (delL es k)) ent_243 (all_ent _) (by omega) (fun S w => rl_entA.2 rfl) fun w S0 vs hS hv => by
    obtain ⟨u, us, rfl, h1, hv⟩ := rvsc hv
    obtain ⟨u2, rfl, h2⟩ := rvs1 hv
    obtain ⟨A, c, rfl, _, _, hr⟩ := arg_ents hS h1
    rw [arg_v h2, List.length_map]
    exact l01Remove_any A _ c es k w hr hm
theorem ac_with {es : List Ent} {k : ByteArray} {v : Int} (hs : Srt es) (hm : es.length ≤ 4096) : AC Try.prog 241 [.lst 2 (es.map entA), .agg [.v (.string k), .v (.int .i64 v)]] ⟨.own 0, [⟨167, 2, (putL es k v).map entA⟩]⟩ :=
  ac_own (cs := entsC (putL es k v)) ent_241 (all_ent _) (by omega) (fun S w => rl_entA.2 rfl) fun w S0 vs hS hv => by
    obtain ⟨u, us, rfl, h1, hv⟩ := rvsc hv
    obtain ⟨u2, rfl, h2⟩ := rvs1 hv
    obtain ⟨A, c, rfl, hc, _, hr⟩ := arg_ents hS h1
    unfold RV at h2
    obtain ⟨cs, rfl, h2⟩ := h2
    have hcs : cs = [.string k, .int .i64 v] := concL_eq (xs := [.v (.string k), .v (.int .i64 v)]) rfl h2
    rw [hcs, List.length_map]
    exact with_any A _ c es k v w hr hs hc hm
theorem ac_without {es : List Ent} {k : ByteArray} (hs : Srt es) (hm : es.length ≤ 4096) : AC Try.prog 240 [.lst 2 (es.map entA), .v (.string k)] ⟨.own 0, [⟨167, 2, (delL es k).map entA⟩]⟩ :=
  ac_own (cs := entsC (delL es k)) ent_240 (all_ent _) (by omega) (fun S w => rl_entA.2 rfl) fun w S0 vs hS hv => by
    obtain ⟨u, us, rfl, h1, hv⟩ := rvsc hv
    obtain ⟨u2, rfl, h2⟩ := rvs1 hv
    obtain ⟨A, c, rfl, hc, hc2, hr⟩ := arg_ents hS h1
    rw [arg_v h2, List.length_map]
    exact without_any A _ c es k w hr hs hc hc2 hm
theorem ac_part {es : List Ent} {a b : Nat} (hab : a ≤ b) (hbn : b ≤ es.length) (hm : es.length ≤ 4096) : AC Try.prog 239 [.lst 2 (es.map entA), .v (.int .i64 a), .v (.int .i64 b)] ⟨.own 0, [⟨167, 2, ((es.drop a).take (b - a)).map entA⟩]⟩ :=
  ac_own (cs := entsC ((es.drop a).take (b - a))) ent_239 (all_ent _) (by omega) (fun S w => rl_entA.2 rfl) fun w S0 vs hS hv => by
    obtain ⟨u, us, rfl, h1, hv⟩ := rvsc hv
    obtain ⟨u2, us, rfl, h2, hv⟩ := rvsc hv
    obtain ⟨u3, rfl, h3⟩ := rvs1 hv
    obtain ⟨A, c, rfl, hc, hc2, hr⟩ := arg_ents hS h1
    rw [arg_v h2, arg_v h3, List.length_map]
    exact part_any A _ c es a b w hr hab hbn hc hc2 hm
theorem ac_markText {k : Int} (h0 : 0 ≤ k) (h1 : k ≤ 1099511627776) : AC Try.prog 116 [.v (.int .i64 k)] ⟨.v (.string (markB k)), []⟩ :=
  ac_val ent_116 rfl fun w S0 vs hS hv => by
    obtain ⟨u', rfl, h2⟩ := rvs1 hv
    rw [arg_v h2]
    exact markText_any k w h0 h1
end Go.Proofs.Ytjhimcddgkoghaa.AM
