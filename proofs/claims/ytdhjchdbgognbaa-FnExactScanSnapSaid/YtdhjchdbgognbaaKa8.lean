/- Texts of the machine over data, folded. -/
import Derived.Test.YtdhjchdbgognbaaKa5
import Derived.Test.YtdhjchdbgognbaaKa6
import Derived.Test.YtdhjchdbgognbaaKa7
import Derived.Laws.StructEq
import Derived.ProofKit
import Derived.OpenShut
import Derived.ShutString
set_option linter.unusedVariables false
set_option maxRecDepth 100000
set_option linter.unusedSimpArgs false
namespace Go.Proofs.Ytdhjchdbgognbaa.AM
open Go Go.RowKit
def aK8 (k : ByteArray) : AV := .v (.string k)
def yC (x : Int) : AV := .v (.int .i64 x)
def xD (e : Ent) : AV := .agg [.v (.string e.1), .v (.int .i64 e.2)]
def uw (e : Edt) : AV := .agg [.v (.string e.key), .v (.int .i64 e.val), .v (.bool e.gone)]
theorem yP {α : Type} {f : α → AV} (h : ∀ a, yH (f a)) : ∀ l : List α, zG (l.map f)
 | [] => by simp only [List.map_nil]; unfold zG; trivial
 | a :: l => by simp only [List.map_cons]; unfold zG; exact ⟨h a, yP h l⟩
theorem aFs : ∀ ob ∈ ([] : List OB), wS ob := fun ob h => by cases h
theorem aFt {t sz : Nat} {xs : List AV} (h : zG xs) : ∀ ob ∈ [(⟨.s t, sz, xs⟩ : OB)], wS ob := fun ob hm => by rw [List.mem_singleton] at hm; subst hm; exact h
theorem aJS {t sz t' sz' : Nat} {xs xs' : List AV} (h : zG xs) (h' : zG xs') : ∀ ob ∈ [(⟨.s t, sz, xs⟩ : OB), ⟨.s t', sz', xs'⟩], wS ob := fun ob hm => by
 rcases List.mem_cons.1 hm with rfl | hm
 · exact h
 · exact aFt h' ob hm
theorem aB9 (e : Ent) : yH (xD e) := by unfold xD; simp [yH, zG]
theorem aB8 (e : Edt) : yH (uw e) := by unfold uw; simp [yH, zG]
theorem aBb (e : ByteArray) : yH (aK8 e) := by unfold aK8; simp [yH]
section
variable {S : Nat → Prop} {w : World}
theorem kF : ∀ {es : List Ent} {cs : List Value}, RL S w (es.map xD) cs ↔ cs = xJ es
 | [], cs => by simp only [List.map_nil]; unfold RL; simp [xJ]
 | e :: es, cs => by
  simp only [List.map_cons]
  constructor
  · intro h
    unfold RL at h
    obtain ⟨c1, c2, rfl, h1, h2⟩ := h
    rw [kF.1 h2, uL]
    unfold xD at h1
    simp only [RA, RL] at h1
    obtain ⟨a, b, rfl, ⟨rfl, _⟩, d1, d2, rfl, ⟨rfl, _⟩, rfl⟩ := h1
    rfl
  · intro h
    unfold RL
    refine ⟨[.string e.1, .int .i64 e.2], xJ es, by rw [h, uL]; rfl, ?_, kF.2 rfl⟩
    exact aCX (yx (c1 := [_]) (kZ rfl) (yx (c1 := [_]) (kZ rfl) wX))
theorem jM : ∀ {es : List Edt} {cs : List Value}, RL S w (es.map uw) cs ↔ cs = xV es
 | [], cs => by simp only [List.map_nil]; unfold RL; simp [xV]
 | e :: es, cs => by
  simp only [List.map_cons]
  constructor
  · intro h
    unfold RL at h
    obtain ⟨c1, c2, rfl, h1, h2⟩ := h
    rw [jM.1 h2, wQ]
    unfold uw at h1
    simp only [RA, RL] at h1
    obtain ⟨a, b, rfl, ⟨rfl, _⟩, d1, d2, rfl, ⟨rfl, _⟩, f1, f2, rfl, ⟨rfl, _⟩, rfl⟩ := h1
    rfl
  · intro h
    unfold RL
    refine ⟨[.string e.key, .int .i64 e.val, .bool e.gone], xV es, by rw [h, wQ]; rfl, ?_, jM.2 rfl⟩
    exact aCX (yx (c1 := [_]) (kZ rfl) (yx (c1 := [_]) (kZ rfl) (yx (c1 := [_]) (kZ rfl) wX)))
theorem aAo (es : List Ent) : ∀ x ∈ es.map xD, asz x = 2 := fun x hx => by obtain ⟨e, _, rfl⟩ := List.mem_map.1 hx; rfl
theorem aCb (es : List Edt) : ∀ x ∈ es.map uw, asz x = 3 := fun x hx => by obtain ⟨e, _, rfl⟩ := List.mem_map.1 hx; rfl
theorem zC {S0 : Nat → Prop} {hp B V} (hS : ∀ b, S0 b → b < w.heap.size) {es : List Ent} {u : Value} (h : RV S0 w hp B V (.lst 2 (es.map xD)) u) : ∃ A c, u = .slice A es.length c ∧ es.length ≤ c ∧ c ≤ maxLen ∧ Rd w 2 A es.length (xJ es) := by
 unfold RV at h
 unfold RA at h
 obtain ⟨A, c, e, h1, h2, _, _, h4⟩ := h
 simp only [List.cons.injEq, and_true, List.length_map] at e h1
 refine ⟨A, c, e, h1, h2, by rw [vF], fun hn => ?_⟩
 rcases h4 with h4 | ⟨b, off, us, rfl, hb, hr, hc⟩
 · have := List.map_eq_nil_iff.1 h4; subst this; simp at hn
 · rw [kF.1 hr] at hc
   exact ⟨b, off, rfl, hS b hb, hc⟩
theorem aB5 {S0 : Nat → Prop} {hp B V} (hS : ∀ b, S0 b → b < w.heap.size) {es : List Edt} {u : Value} (h : RV S0 w hp B V (.lst 3 (es.map uw)) u) : ∃ A c, u = .slice A es.length c ∧ es.length ≤ c ∧ c ≤ maxLen ∧ Rd w 3 A es.length (xV es) := by
 unfold RV at h
 unfold RA at h
 obtain ⟨A, c, e, h1, h2, _, _, h4⟩ := h
 simp only [List.cons.injEq, and_true, List.length_map] at e h1
 refine ⟨A, c, e, h1, h2, by rw [jP], fun hn => ?_⟩
 rcases h4 with h4 | ⟨b, off, us, rfl, hb, hr, hc⟩
 · have := List.map_eq_nil_iff.1 h4; subst this; simp at hn
 · rw [jM.1 hr] at hc
   exact ⟨b, off, rfl, hS b hb, hc⟩
theorem jD {S0 : Nat → Prop} {hp B V} {x u : Value} (h : RV S0 w hp B V (.v x) u) : u = x := by unfold RV at h; exact h.1
theorem vL {S0 : Nat → Prop} {hp B V} {x : AV} {us : List Value} (h : RVs S0 w hp B V [x] us) : ∃ u, us = [u] ∧ RV S0 w hp B V x u := by
 unfold RVs at h; obtain ⟨u, us', rfl, h1, h2⟩ := h; unfold RVs at h2; subst h2; exact ⟨u, rfl, h1⟩
theorem qG {S0 : Nat → Prop} {hp B V} {x : AV} {xs : List AV} {us : List Value} (h : RVs S0 w hp B V (x :: xs) us) : ∃ u us', us = u :: us' ∧ RV S0 w hp B V x u ∧ RVs S0 w hp B V xs us' := by
 unfold RVs at h; exact h
end
section
variable {P : Program} {f : FuncId} {fn : Func} {args : List AV}
theorem zY (hf : P.funcs[f]? = some fn) (hnm : (fn.name == "runtime.NumGoroutine") = false) (hb : fn.body.isNone = false) : ∀ vs w, (callFunc f vs).run P w = .ok (.enter f vs) w := fun vs w => by
 simp only [callFunc, Sem.run_bind, run_program, Result.andThen_ok, hf, hnm, hb]; rfl
theorem aAM {S : Nat → Prop} {w : World} {hp hp' : Nat → Option OB} {B B' : Nat → Nat} {V V' : Nat → Value} {xs : List AV} {vs : List Value} (hn : ∀ l, hp l = none) (h : RVs S w hp B V xs vs) : RVs S w hp' B' V' xs vs :=
 RVs.carry (fun _ h => h) (fun _ _ => rfl) _ _ (fun l _ ob e => by rw [hn] at e; cases e) h
theorem aIC {S : Nat → Prop} {w : World} {hp hp' : Nat → Option OB} {B B' : Nat → Nat} {V V' : Nat → Value} {xs : List AV} {vs : List Value} (hn : xq (fun _ => false) xs = true) (h : RVs S w hp B V xs vs) : RVs S w hp' B' V' xs vs :=
 RVs.carry (fun _ h => h) (fun _ _ => rfl) _ _ (fun l hl ob e => by have := zl _ hn hl; cases this) h
theorem wL {S : Nat → Prop} {w : World} {hp : Nat → Option OB} {B : Nat → Nat} {V : Nat → Value} {T : Nat → Nat → Prop} {lo : Nat → Prop} (hn : ∀ l, hp l = none) : Rows S w hp (fun _ => none) B V T lo :=
 ⟨fun l ob e => (by rw [hn] at e; cases e), fun l ob g e => (by rw [hn] at e; cases e), fun l ob g e => (by rw [hn] at e; cases e), fun l l' o1 o2 g e => (by rw [hn] at e; cases e), fun l es e => (by cases e)⟩
theorem aBA (l : Nat) : zZ [] l = none := by simp [zZ]
theorem aIf {w : World} {b t sz n : Nat} {v : Value} {cs : List Value} (h : w.ownsRow b t sz v n cs) : w.ownsRow 0 t sz v n cs := by
 refine ⟨h.1, ?_⟩
 rcases h.2 with k | ⟨g, cap, cur, e, hb, r⟩
 · exact .inl k
 · exact .inr ⟨g, cap, cur, e, Nat.zero_le _, r⟩
theorem aH4 {a b : World} {M M' : Nat → Prop} (h : Grown a b M) (hs : ∀ g, M g → M' g) : Grown a b M' := ⟨h.os, h.tape, h.output, h.size, fun k hk hn => h.block k hk (fun e => hn (hs k e))⟩
theorem vD {r : Value} (hent : ∀ vs w, (callFunc f vs).run P w = .ok (.enter f vs) w) (h1 : r.oneCell' = true)
 (h : ∀ (w : World) (S0 : Nat → Prop) (vs : List Value), (∀ b, S0 b → b < w.heap.size) → RVs S0 w (fun _ => none) (fun _ => 0) (fun _ => undef) args vs → Calls P f vs.toArray w fun e w' => e = .returned r ∧ Below w.heap.size w w') : AC P f args ⟨.v r, []⟩ :=
 ⟨hent, fun w S0 B0 V0 T0 vs hS _ _ hv => (h w S0 vs hS (aAM (fun _ => rfl) hv)).mono fun e w' ⟨he, hb⟩ => ⟨r, S0, fun _ => 0, fun _ => undef, fun _ => Fa, fun _ => Fa, he, Grown.of hb _, fun _ h => h, fun b hb' => ⟨Nat.lt_of_lt_of_le (hS b hb') hb.size, .inl hb'⟩, by unfold RV; exact ⟨rfl, h1⟩, wL aBA, wL (fun _ => rfl), fun l l' ob ob' g e => (by rw [aBA] at e; cases e)⟩⟩
theorem aFA {S : Nat → Prop} {w' : World} {base : Nat} {t sz : Nat} {xs : List AV} {v : Value} {cs : List Value} {lo : Nat → Prop} (hlo : ∀ g, base ≤ g → lo g) (hS : ∀ b, S b → b < base) (ho : w'.ownsRow base t sz v xs.length cs) (ha : ∀ x ∈ xs, asz x = sz) (h0 : 0 < sz) (hr : RL S w' xs cs) : Rows S w' (zZ [⟨.s t, sz, xs⟩]) (fun _ => none) (fun _ => (v.ownBlock).getD 0) (fun _ => v) (fun _ => Fa) lo := by
 have h0' : ∀ l ob, zZ [(⟨.s t, sz, xs⟩ : OB)] l = some ob → l = 0 ∧ ob = ⟨.s t, sz, xs⟩ := fun l ob e => by
  cases l with
  | zero => simp [zZ] at e; exact ⟨rfl, e.symm⟩
  | succ l => simp [zZ] at e
 refine ⟨fun l ob e => ?_, fun l ob g e hb => ?_, fun l ob g e _ hb => hb.elim, fun l l' o1 o2 g e1 e2 _ _ => ?_, fun l es e => by cases e⟩
 · obtain ⟨rfl, rfl⟩ := h0' l ob e
   exact ⟨t, cs, ⟨fun t' e => by cases e; rfl, trivial⟩, hr, ha, h0, aIf ho, fun g hg => by rw [hg]; rfl⟩
 · rcases hb with hb | hb
   · have := ho.lt g hb
     exact ⟨fun hs => by have := hS g hs; omega, this.2, hlo g this.1⟩
   · exact hb.elim
 · rw [(h0' l o1 e1).1, (h0' l' o2 e2).1]
theorem aEJ {e : TypeId} {sz : Nat} {xs : List AV} {cs : List Value} (hent : ∀ vs w, (callFunc f vs).run P w = .ok (.enter f vs) w) (ha : ∀ x ∈ xs, asz x = sz) (h0 : 0 < sz) (hr : ∀ S w, RL S w xs cs)
 (h : ∀ (w : World) (S0 : Nat → Prop) (vs : List Value), (∀ b, S0 b → b < w.heap.size) → RVs S0 w (fun _ => none) (fun _ => 0) (fun _ => undef) args vs → Calls P f vs.toArray w fun en w' => ∃ v, en = .returned v ∧ w'.ownsRow w.heap.size e sz v xs.length cs ∧ Below w.heap.size w w') : AC P f args ⟨.own 0, [⟨.s e, sz, xs⟩]⟩ :=
 ⟨hent, fun w S0 B0 V0 T0 vs hS _ _ hv => (h w S0 vs hS (aAM (fun _ => rfl) hv)).mono fun en w' ⟨v, he, ho, hb⟩ =>
  ⟨v, S0, fun _ => (v.ownBlock).getD 0, fun _ => v, fun _ => Fa, fun _ => Fa, he, Grown.of hb _, fun _ h => h, fun b hb' => ⟨Nat.lt_of_lt_of_le (hS b hb') hb.size, .inl hb'⟩, by unfold RV; exact ⟨⟨_, rfl⟩, rfl⟩, aFA (fun g hg => .inl hg) hS ho ha h0 (hr _ _), wL (fun _ => rfl), fun l l' ob ob' g _ e => by cases e⟩⟩
theorem aJF {e : TypeId} {sz : Nat} {xs : List AV} {cs : List Value} {r : Value} (hent : ∀ vs w, (callFunc f vs).run P w = .ok (.enter f vs) w) (ha : ∀ x ∈ xs, asz x = sz) (h0 : 0 < sz) (hr : ∀ S w, RL S w xs cs) (h1 : r.oneCell' = true)
 (h : ∀ (w : World) (S0 : Nat → Prop) (vs : List Value), (∀ b, S0 b → b < w.heap.size) → RVs S0 w (fun _ => none) (fun _ => 0) (fun _ => undef) args vs → Calls P f vs.toArray w fun en w' => ∃ v, en = .returned (.tuple #[v, r]) ∧ w'.ownsRow w.heap.size e sz v xs.length cs ∧ Below w.heap.size w w') : AC P f args ⟨.tup [.own 0, .v r], [⟨.s e, sz, xs⟩]⟩ :=
 ⟨hent, fun w S0 B0 V0 T0 vs hS _ _ hv => (h w S0 vs hS (aAM (fun _ => rfl) hv)).mono fun en w' ⟨v, he, ho, hb⟩ => by
  refine ⟨_, S0, fun _ => (v.ownBlock).getD 0, fun _ => v, fun _ => Fa, fun _ => Fa, he, Grown.of hb _, fun _ h => h, fun b hb' => ⟨Nat.lt_of_lt_of_le (hS b hb') hb.size, .inl hb'⟩, ?_, aFA (fun g hg => .inl hg) hS ho ha h0 (hr _ _), wL (fun _ => rfl), fun l l' ob ob' g _ e => by cases e⟩
  unfold RV
  refine ⟨[v, r], rfl, ?_⟩
  unfold RVs
  refine ⟨v, [r], rfl, by unfold RV; exact ⟨⟨_, rfl⟩, rfl⟩, ?_⟩
  unfold RVs
  exact ⟨r, [], rfl, by unfold RV; exact ⟨rfl, h1⟩, by unfold RVs; rfl⟩⟩
theorem aHW {t sz : Nat} {xs xs' : List AV} {cs' : List Value} {v : Value} (hent : ∀ vs w, (callFunc f vs).run P w = .ok (.enter f vs) w) (ha : ∀ x ∈ xs', asz x = sz) (hr : ∀ S w, RL S w xs' cs') (hl : xs'.length = xs.length)
 (h : ∀ (w : World) (S0 : Nat → Prop) (V : Value) (cs : List Value) (vs : List Value), (∀ b, S0 b → b < w.heap.size) → RL S0 w xs cs → w.ownsRow 0 t sz V xs.length cs → RVs S0 w (fun _ => none) (fun _ => 0) (fun _ => undef) args vs →
  Calls P f (V :: vs).toArray w fun e w' => e = .returned v ∧ w'.ownsRow 0 t sz V xs.length cs' ∧ w.grownBy w' V.ownBlock) (h1 : v.oneCell' = true := by rfl) (hlb : xq (fun _ => false) args = true := by rfl) : ACM P f ⟨.s t, sz, xs⟩ xs' args v :=
 ⟨hent, fun w S0 B0 V0 T0 vs hS _ hro hv => by
  obtain ⟨t0, cs, r1, r2, r3, r4, r5, r6⟩ := hro.ro 0 _ rfl
  have := r1.1 t rfl
  subst this
  unfold RVs at hv
  obtain ⟨u, us, rfl, hu, hv⟩ := hv
  unfold RV at hu
  obtain ⟨_, rfl⟩ := hu
  have hrow : ∀ l (o : OB), xI 0 [(⟨.s t0, sz, xs'⟩ : OB)] l = some o → l = 0 ∧ o = ⟨.s t0, sz, xs'⟩ := fun l o e => by
   simp only [xI] at e
   by_cases h : l = 0
   · subst h; simp at e; exact ⟨rfl, e.symm⟩
   · rw [xg h] at e; cases e
  refine (h w S0 (V0 0) cs us hS r2 r5 (aIC hlb hv)).mono fun e w' ⟨he, ho, hg⟩ => ?_
  refine ⟨v, S0, fun _ => 0, fun _ => undef, fun _ => Fa, fun _ => Fa, he, aH4 (Grown.by hg) (fun g e => ⟨0, _, rfl, .inl e⟩), fun _ h => h, fun b hb' => ⟨Nat.lt_of_lt_of_le (hS b hb') hg.size, .inl hb'⟩, by unfold RV; exact ⟨rfl, h1⟩, wL aBA, ⟨fun l o e => ?_, fun l o g e hb => ?_, fun l o g e _ hb => hb.elim, fun l l' o1 o2 g e1 e2 _ _ => ?_, fun l es e => by cases e⟩, fun l l' ob ob' g e => (by rw [aBA] at e; cases e)⟩
  · obtain ⟨rfl, rfl⟩ := hrow l o e
    exact ⟨t0, cs', ⟨fun t' e => by cases e; rfl, trivial⟩, hr _ _, ha, r4, by show w'.ownsRow 0 t0 sz (V0 0) xs'.length cs'; rw [hl]; exact ho, r6⟩
  · obtain ⟨rfl, rfl⟩ := hrow l o e
    rcases hb with hb | hb
    · obtain ⟨q1, q2, _⟩ := hro.me 0 _ g rfl (.inl hb)
      exact ⟨q1, Nat.lt_of_lt_of_le q2 hg.size, .inr ⟨0, _, rfl, .inl hb⟩⟩
    · exact hb.elim
  · rw [(hrow l o1 e1).1, (hrow l' o2 e2).1]⟩
end
theorem aKF : ∀ vs w, (callFunc 83 vs).run Try.prog w = .ok (.enter 83 vs) w := zY Try.func83 (by kernel_rfl) (by kernel_rfl)
theorem aKG : ∀ vs w, (callFunc 84 vs).run Try.prog w = .ok (.enter 84 vs) w := zY Try.func84 (by kernel_rfl) (by kernel_rfl)
theorem aKC : ∀ vs w, (callFunc 55 vs).run Try.prog w = .ok (.enter 55 vs) w := zY Try.func55 (by kernel_rfl) (by kernel_rfl)
theorem aKH : ∀ vs w, (callFunc 86 vs).run Try.prog w = .ok (.enter 86 vs) w := zY Try.func86 (by kernel_rfl) (by kernel_rfl)
theorem aKJ : ∀ vs w, (callFunc 98 vs).run Try.prog w = .ok (.enter 98 vs) w := zY Try.func98 (by kernel_rfl) (by kernel_rfl)
theorem aJw : ∀ vs w, (callFunc 23 vs).run Try.prog w = .ok (.enter 23 vs) w := zY Try.func23 (by kernel_rfl) (by kernel_rfl)
theorem aJx : ∀ vs w, (callFunc 25 vs).run Try.prog w = .ok (.enter 25 vs) w := zY Try.func25 (by kernel_rfl) (by kernel_rfl)
theorem aJy : ∀ vs w, (callFunc 26 vs).run Try.prog w = .ok (.enter 26 vs) w := zY Try.func26 (by kernel_rfl) (by kernel_rfl)
theorem aKB : ∀ vs w, (callFunc 54 vs).run Try.prog w = .ok (.enter 54 vs) w := zY Try.func54 (by kernel_rfl) (by kernel_rfl)
theorem aJz : ∀ vs w, (callFunc 30 vs).run Try.prog w = .ok (.enter 30 vs) w := zY Try.func30 (by kernel_rfl) (by kernel_rfl)
theorem aKA : ∀ vs w, (callFunc 31 vs).run Try.prog w = .ok (.enter 31 vs) w := zY Try.func31 (by kernel_rfl) (by kernel_rfl)
theorem aIR {es : List Ent} (hm : es.length ≤ maxLen) (hk : ∀ e ∈ es, e.1.size ≤ maxLen) : AC Try.prog 83 [.lst 2 (es.map xD)] ⟨.v (.bool (xW es)), []⟩ :=
 vD aKF rfl fun w S0 vs hS hv => by
  obtain ⟨u, rfl, h1⟩ := vL hv
  obtain ⟨A, c, rfl, _, _, hr⟩ := zC hS h1
  exact aHd A es.length c es w hr hm hk
theorem aAU {es : List Ent} (hm : es.length ≤ maxLen) (hk : ∀ e ∈ es, e.1.size ≤ maxLen) : AC Try.prog 84 [.lst 2 (es.map xD)] ⟨.v (.bool (xW es)), []⟩ :=
 vD aKG rfl fun w S0 vs hS hv => by
  obtain ⟨u, rfl, h1⟩ := vL hv
  obtain ⟨A, c, rfl, _, _, hr⟩ := zC hS h1
  exact kV A es.length c es w hr hm hk
theorem zq {es : List Ent} {b : Bool} (hb : xW es = b) (hm : es.length ≤ maxLen) (hk : ∀ e ∈ es, e.1.size ≤ maxLen) : AC Try.prog 83 [.lst 2 (es.map xD)] ⟨.v (.bool b), []⟩ := hb ▸ aIR hm hk
theorem vv {es : List Ent} {b : Bool} (hb : xW es = b) (hm : es.length ≤ maxLen) (hk : ∀ e ∈ es, e.1.size ≤ maxLen) : AC Try.prog 84 [.lst 2 (es.map xD)] ⟨.v (.bool b), []⟩ := hb ▸ aAU hm hk
theorem aG0 {es es' : List Ent} (hm : es.length ≤ 4096) (hm' : es'.length ≤ 4096) : AC Try.prog 55 [.lst 2 (es.map xD), .lst 2 (es'.map xD)] ⟨.own 0, [⟨96, 3, (y7 es es').map uw⟩]⟩ :=
 aEJ (cs := xV (y7 es es')) aKC (aCb _) (by omega) (fun S w => jM.2 rfl) fun w S0 vs hS hv => by
  obtain ⟨u, us, rfl, h1, hv⟩ := qG hv
  obtain ⟨u', rfl, h2⟩ := vL hv
  obtain ⟨A, c, rfl, _, _, hr⟩ := zC hS h1
  obtain ⟨A', c', rfl, _, _, hr'⟩ := zC hS h2
  rw [List.length_map]
  exact aF8 A _ c es A' _ c' es' w hr hr' hm hm'
theorem aFm {es : List Ent} {a b : Nat} (hab : a ≤ b) (hbn : b ≤ es.length) (hm : es.length ≤ 4096) : AC Try.prog 86 [.lst 2 (es.map xD), .v (.int .i64 a), .v (.int .i64 b)] ⟨.own 0, [⟨88, 2, ((es.drop a).take (b - a)).map xD⟩]⟩ :=
 aEJ (cs := xJ ((es.drop a).take (b - a))) aKH (aAo _) (by omega) (fun S w => kF.2 rfl) fun w S0 vs hS hv => by
  obtain ⟨u, us, rfl, h1, hv⟩ := qG hv
  obtain ⟨u2, us, rfl, h2, hv⟩ := qG hv
  obtain ⟨u3, rfl, h3⟩ := vL hv
  obtain ⟨A, c, rfl, hc, hc2, hr⟩ := zC hS h1
  rw [jD h2, jD h3, List.length_map]
  exact aIh A _ c es a b w hr hab hbn hc hc2 hm
theorem aBP {es : List Ent} (hm : es.length ≤ 1048576) : AC Try.prog 98 [.lst 2 (es.map xD)] ⟨.own 0, [⟨88, 2, es.map xD⟩]⟩ :=
 aEJ (cs := xJ es) aKJ (aAo _) (by omega) (fun S w => kF.2 rfl) fun w S0 vs hS hv => by
  obtain ⟨u, rfl, h1⟩ := vL hv
  obtain ⟨A, c, rfl, _, _, hr⟩ := zC hS h1
  rw [List.length_map]
  exact aFL A _ c es w hr hm
theorem aBM {es es' : List Ent} (hm : es.length ≤ maxLen) (hm' : es'.length ≤ maxLen) : AC Try.prog 23 [.lst 2 (es.map xD), .lst 2 (es'.map xD)] ⟨.v (.bool (decide (es = es'))), []⟩ :=
 vD aJw rfl fun w S0 vs hS hv => by
  obtain ⟨u, us, rfl, h1, hv⟩ := qG hv
  obtain ⟨u', rfl, h2⟩ := vL hv
  obtain ⟨A, c, rfl, _, _, hr⟩ := zC hS h1
  obtain ⟨A', c', rfl, _, _, hr'⟩ := zC hS h2
  exact aET A _ c es A' _ c' es' w hr hr' hm hm'
theorem aDg {n : Nat} {k : Int} (hm : n ≤ 1048600) (h0 : 0 ≤ k) (h1 : k ≤ 8388608) : AC Try.prog 26 [.lst 2 ((marked n k).map xD), .v (.int .i64 k)] ⟨.v (.int .i64 (k + 2 * n)), []⟩ :=
 vD aJy rfl fun w S0 vs hS hv => by
  obtain ⟨u, us, rfl, h1', hv⟩ := qG hv
  obtain ⟨u', rfl, h2⟩ := vL hv
  obtain ⟨A, c, rfl, _, _, hr⟩ := zC hS h1'
  rw [jD h2]
  rw [zh] at hr ⊢
  exact aCf A n c k w hr hm h0 h1
theorem aDh {xs : List AV} {n : Nat} {k : Int} (hn : xs.length = n) (hm : n ≤ 1048600) (h0 : 0 ≤ k) (h1 : k ≤ 8388608) : ACM Try.prog 25 ⟨88, 2, xs⟩ ((marked n k).map xD) [.v (.int .i64 k)] (.int .i64 (k + 2 * n)) :=
 aHW (cs' := xJ (marked n k)) aJx (aAo _) (fun S w => kF.2 rfl) (by rw [List.length_map, zh, hn]) fun w S0 V cs vs hS hr ho hv => by
  obtain ⟨u', rfl, h2⟩ := vL hv
  rw [jD h2]
  simp only [hn] at ho ⊢
  exact aCh 0 n V cs k w ho hm h0 h1
theorem jr {k : Int} (h0 : 0 ≤ k) (h1 : k ≤ 1099511627776) : AC Try.prog 54 [.v (.int .i64 k)] ⟨.v (.string (zL k)), []⟩ :=
 vD aKB rfl fun w S0 vs hS hv => by
  obtain ⟨u', rfl, h2⟩ := vL hv
  rw [jD h2]
  exact vH k w h0 h1
theorem aGU {es : List Edt} (hm : es.length ≤ maxLen) : AC Try.prog 29 [.lst 3 (es.map uw), .lst 3 (es.map uw)] ⟨.v (.bool true), []⟩ :=
 vD (zY Try.func29 (by kernel_rfl) (by kernel_rfl)) rfl fun w S0 vs hS hv => by
  obtain ⟨u, us, rfl, h1, hv⟩ := qG hv
  obtain ⟨u', rfl, h2⟩ := vL hv
  obtain ⟨A, c, rfl, _, _, hr⟩ := aB5 hS h1
  obtain ⟨A', c', rfl, _, _, hr'⟩ := aB5 hS h2
  exact aF4 A _ c es A' _ c' es w hr hr' hm hm rfl
theorem aEE {n : Nat} {k : Int} (hm : n ≤ 1048600) (h0 : 0 ≤ k) (h1 : k ≤ 8388608) : AC Try.prog 31 [.lst 3 ((yh n k).map uw), .v (.int .i64 k)] ⟨.v (.int .i64 (k + 3 * n)), []⟩ :=
 vD aKA rfl fun w S0 vs hS hv => by
  obtain ⟨u, us, rfl, h1', hv⟩ := qG hv
  obtain ⟨u', rfl, h2⟩ := vL hv
  obtain ⟨A, c, rfl, _, _, hr⟩ := aB5 hS h1'
  rw [jD h2]
  rw [vS] at hr ⊢
  exact aDl A n c k w hr hm h0 h1
theorem aEI {xs : List AV} {n : Nat} {k : Int} (hn : xs.length = n) (hm : n ≤ 1048600) (h0 : 0 ≤ k) (h1 : k ≤ 8388608) : ACM Try.prog 30 ⟨96, 3, xs⟩ ((yh n k).map uw) [.v (.int .i64 k)] (.int .i64 (k + 3 * n)) :=
 aHW (cs' := xV (yh n k)) aJz (aCb _) (fun S w => jM.2 rfl) (by rw [List.length_map, vS, hn]) fun w S0 V cs vs hS hr ho hv => by
  obtain ⟨u', rfl, h2⟩ := vL hv
  rw [jD h2]
  simp only [hn] at ho ⊢
  exact aDo 0 n V cs k w ho hm h0 h1
def szF {α : Type} (g : α → Nat) : List α → Int → Int
 | [], l => l
 | e :: es, l => if l - g e < 0 then -1 else szF g es (l - g e)
def szL {α : Type} (g : α → Nat) (es : List α) (l : Int) : Int := if l - es.length < 0 then -1 else szF g es (l - es.length)
theorem aC6 {α : Type} {g : α → Nat} : ∀ {es : List α} {l : Int}, 0 ≤ szF g es l → szF g es l ≤ l ∧ ∀ e ∈ es, (g e : Int) ≤ l
 | [], l, h => ⟨Int.le_refl _, by simp⟩
 | e :: es, l, h => by
  unfold szF at h ⊢
  split at h
  · omega
  · rename_i hn
    rw [if_neg hn]
    obtain ⟨h1, h2⟩ := aC6 h
    refine ⟨by omega, fun x hx => ?_⟩
    rcases List.mem_cons.1 hx with rfl | hx
    · omega
    · have := h2 x hx; omega
theorem aIJ {α : Type} {g : α → Nat} {es : List α} {l : Int} (h : 0 ≤ szL g es l) : szL g es l ≤ l ∧ (es.length : Int) ≤ l ∧ ∀ e ∈ es, (g e : Int) ≤ l := by
 unfold szL at h ⊢
 split at h
 · omega
 · rename_i hn
   rw [if_neg hn]
   obtain ⟨h1, h2⟩ := aC6 h
   exact ⟨by omega, by omega, fun e he => by have := h2 e he; omega⟩
abbrev eSz (e : Ent) : Nat := e.1.size
attribute [local irreducible] xO xU yD zA zJ Pre ACG
theorem aBm {e : Ent} {l : Int} (hk : e.1.size ≤ maxLen) (h0 : 0 ≤ l) (h1 : l ≤ 1048576) : AC Try.prog 111 [xD e, .v (.int .i64 l)] ⟨.v (.int .i64 (if l - e.1.size < 0 then -1 else l - e.1.size)), []⟩ := by
 unfold maxLen at hk
 by_cases hn : l - e.1.size < 0
 · rw [if_pos hn]
   refine qrf Try.func111 Try.ntmps111 Try.results111 ?_; conv => whnf
   repeat ((refine qz ?_; conv => whnf))
   exact xA rfl trivial
 · rw [if_neg hn]
   refine qrf Try.func111 Try.ntmps111 Try.results111 ?_; conv => whnf
   repeat ((refine qz ?_; conv => whnf))
   exact xA rfl trivial
theorem aFI {α : Type} {g : α → Nat} {es : List α} {k : Nat} {l : Int} (h : k < es.length) : szF g (es.drop k) l = if l - g es[k] < 0 then -1 else szF g (es.drop (k + 1)) (l - g es[k]) := by
 rw [List.drop_eq_getElem_cons h, szF]
theorem aBO {es : List Ent} {l : Int} (hm : es.length ≤ maxLen) (hk : ∀ e ∈ es, e.1.size ≤ maxLen) (h0 : 0 ≤ l) (h1 : l ≤ 1048576) : AC Try.prog 95 [.lst 2 (es.map xD), .v (.int .i64 l)] ⟨.v (.int .i64 (szL eSz es l)), []⟩ := by
 unfold maxLen at hm
 by_cases hn : l - es.length < 0
 · rw [szL, if_pos hn]
   refine qrf Try.func95 Try.ntmps95 Try.results95 ?_; conv => whnf
   repeat ((refine qz ?_; conv => whnf))
   exact xA rfl trivial
 · rw [szL, if_neg hn]
   refine qrf Try.func95 Try.ntmps95 Try.results95 ?_; conv => whnf
   repeat ((refine qz ?_; conv => whnf))
   refine xu (ι := { p : Nat × Int // p.1 ≤ es.length ∧ 0 ≤ p.2 ∧ p.2 ≤ l ∧ szF eSz (es.drop p.1) p.2 = szF eSz es (l - es.length) }) (fun p => ⟨[(0, .lst 2 (es.map xD)), (1, .v (.int .i64 p.1.2)), (5, .v (.int .i64 (p.1.1 : Int)))], []⟩) (fun p => es.length - p.1.1) ⟨(0, l - es.length), by simp, by omega, by omega, rfl⟩ (by exact qle) ?_
   rintro ⟨⟨k, cur⟩, hkl, hc0, hc1, hsz⟩
   simp only at hkl hc0 hc1 hsz ⊢
   conv => whnf
   by_cases hlt : k < es.length
   · have hd := aFI (g := eSz) (l := cur) hlt
     rw [hsz] at hd
     by_cases hneg : cur - (es[k]).1.size < 0
     · rw [if_pos hneg] at hd
       rw [hd]
       repeat (first | (refine qz ?_; conv => whnf) | (refine qp (aAd (aBm (hk _ (List.getElem_mem hlt)) (by omega) (by omega)) rfl (.inl rfl) trivial rfl rfl) ?_; rw [if_pos hneg]; conv => whnf))
       exact xA rfl trivial
     · rw [if_neg hneg] at hd
       repeat (first | (refine qz ?_; conv => whnf) | (refine qp (aAd (aBm (hk _ (List.getElem_mem hlt)) (by omega) (by omega)) rfl (.inl rfl) trivial rfl rfl) ?_; rw [if_neg hneg]; conv => whnf))
       exact ⟨⟨(k + 1, cur - (es[k]).1.size), by simp; omega, by omega, by omega, hd.symm⟩, by exact qle, by simp; omega⟩
   · have hkk : k = es.length := by omega
     rw [hkk, List.drop_length] at hsz
     rw [← hsz]
     repeat ((refine qz ?_; conv => whnf))
     exact xA rfl trivial
end Go.Proofs.Ytdhjchdbgognbaa.AM
namespace Go.Proofs.Ytdhjchdbgognbaa.AM
open Go Go.RowKit
section
variable {P : Program} {t : TypeId} {x y : Operand} {a b : ByteArray}
theorem aFo (h : a ≠ b) : y9 P .neq t x y (.string a) (.string b) (.bool true) := aAr fun w => by simp [Op.stringOp, vY, h]
theorem wo (h : a = b) : y9 P .neq t x y (.string a) (.string b) (.bool false) := aAr fun w => by simp [Op.stringOp, h]
theorem wm (h : a = b) : y9 P .eql t x y (.string a) (.string b) (.bool true) := aAr fun w => by simp [Op.stringOp, h]
theorem wh (h : a ≠ b) : y9 P .eql t x y (.string a) (.string b) (.bool false) := aAr fun w => by simp [Op.stringOp, vY, h]
end
attribute [local irreducible] xO xU yD zA zJ Pre ACG
end Go.Proofs.Ytdhjchdbgognbaa.AM
namespace Go.Proofs.Ytdhjchdbgognbaa
open Go.RowKit
def vw (a b : List Ent) : List Edt × Int := if 4096 < a.length ∨ 4096 < b.length then ([], 2) else if xW a = true ∧ xW b = true then (y7 a b, 0) else ([], 1)
theorem aGb {a b : List Ent} (h : 4096 < a.length ∨ 4096 < b.length) : vw a b = ([], 2) := by rw [vw, if_pos h]
theorem aDF {a b : List Ent} (h : ¬(4096 < a.length ∨ 4096 < b.length)) (h2 : xW a = false ∨ xW b = false) : vw a b = ([], 1) := by
 rw [vw, if_neg h, if_neg]
 rintro ⟨x, y⟩
 rcases h2 with h | h
 · rw [h] at x; cases x
 · rw [h] at y; cases y
theorem aI4 {a b : List Ent} (h : ¬(4096 < a.length ∨ 4096 < b.length)) (h1 : xW a = true) (h2 : xW b = true) : vw a b = (y7 a b, 0) := by rw [vw, if_neg h, if_pos ⟨h1, h2⟩]
def aB3 (e : TypeId) (r : List Edt × Int) (w : World) (e' : Ending) (w' : World) : Prop := ∃ v, e' = .returned (.tuple #[v, .int .i64 r.2]) ∧ w'.ownsRow w.heap.size e 3 v r.1.length (xV r.1) ∧ Below w.heap.size w w'
theorem aB3.mk {e : TypeId} {r : List Edt × Int} {l : List Edt} {c : Int} {v : Value} {w w' : World} (h : r = (l, c)) (ho : w'.ownsRow w.heap.size e 3 v l.length (xV l)) (hb : Below w.heap.size w w') : aB3 e r w (.returned (.tuple #[v, .int .i64 c])) w' := ⟨v, by rw [h], by rw [h]; exact ho, hb⟩
set_option maxHeartbeats 1000000 in
theorem aE0 (A : Option Addr) (n c : Nat) (es : List Ent) (A' : Option Addr) (n' c' : Nat) (es' : List Ent) (w : World) (hr : Rd w 2 A n (xJ es)) (hr' : Rd w 2 A' n' (xJ es')) (hm : n ≤ maxLen) (hm' : n' ≤ maxLen) (hks : ∀ e ∈ es, e.1.size ≤ maxLen) (hks' : ∀ e ∈ es', e.1.size ≤ maxLen) :
 Calls Try.prog 56 #[.slice A n c, .slice A' n' c'] w (aB3 96 (vw es es') w) := by
 have hlen := hr.len
 have hlen' := hr'.len
 by_cases hl : 4096 < n ∨ 4096 < n'
 · have hfin := Lib.hid (aGb (a := es) (b := es') (by omega))
   clear hlen hlen'
   rcases hl with h | h
   all_goals
    go_enter Try.func56, Try.ntmps56
    go_wp2
    all_goals
     go_ret2
     exact aB3.mk hfin.out (World.ownsRow_nil _ _ _ _) (Below.refl _ _)
 have hl1 : n ≤ 4096 := by omega
 have hl2 : n' ≤ 4096 := by omega
 have hlE : ¬(4096 < es.length ∨ 4096 < es'.length) := by omega
 have HlE := Lib.hid hlE
 clear hl hlen hlen' hlE
 have h1 := kV A n c es w hr hm hks
 have h2 := fun W (hW : Below w.heap.size w W) => kV A' n' c' es' W (hr'.below hW (Nat.le_refl _)) hm' hks'
 cases hm1 : xW es with
 | false =>
  have hfin := Lib.hid (aDF HlE.out (.inl hm1))
  rw [hm1] at h1
  have H1 := Lib.hid h1
  clear h1 hm1 h2
  go_enter Try.func56, Try.ntmps56
  go_wp2_with (go_at_call 84; refine H1.out.mono ?_; rintro e w1 ⟨rfl, hb1⟩)
  go_ret2
  exact aB3.mk hfin.out (World.ownsRow_nil _ _ _ _) hb1
 | true =>
 rw [hm1] at h1
 have H1 := Lib.hid h1
 clear h1
 cases hm2 : xW es' with
 | false =>
  have hfin := Lib.hid (aDF HlE.out (.inr hm2))
  rw [hm2] at h2
  have H2 := Lib.hid h2
  clear h2 hm1 hm2
  go_enter Try.func56, Try.ntmps56
  go_wp2_with fail
  refine H1.out.mono ?_
  rintro e w1 ⟨rfl, hb1⟩
  go_wp2_with fail
  refine (H2.out _ hb1).mono ?_
  rintro e w2 ⟨rfl, hb2⟩
  have hb02 := yA hb1 hb2
  go_wp2
  go_ret2
  exact aB3.mk hfin.out (World.ownsRow_nil _ _ _ _) hb02
 | true =>
  have hfin := Lib.hid (aI4 HlE.out hm1 hm2)
  rw [hm2] at h2
  have H2 := Lib.hid h2
  clear h2 hm1 hm2
  go_enter Try.func56, Try.ntmps56
  go_wp2_with fail
  refine H1.out.mono ?_
  rintro e w1 ⟨rfl, hb1⟩
  go_wp2_with fail
  refine (H2.out _ hb1).mono ?_
  rintro e w2 ⟨rfl, hb2⟩
  have hb02 := yA hb1 hb2
  go_wp2_with fail
  refine (aBx A n c es A' n' c' es' _ (hr.below hb02 (Nat.le_refl _)) (hr'.below hb02 (Nat.le_refl _)) hl1 hl2).mono ?_
  rintro e w3 ⟨v3, rfl, ho3, hb3⟩
  have HO3 := Lib.hid ho3; clear ho3
  go_wp2
  go_ret2
  exact aB3.mk hfin.out (aEn HO3.out hb02.size) (yA hb02 hb3)
end Go.Proofs.Ytdhjchdbgognbaa
namespace Go.Proofs.Ytdhjchdbgognbaa.AM
open Go Go.RowKit
attribute [local irreducible] xO xU yD zA zJ Pre ACG
theorem aI3 (f : Nat) (a b : List Ent) : (yG f a b).length ≤ a.length + b.length := by
 induction f generalizing a b with
 | zero => simp [yG]
 | succ f ih =>
  match a, b with
  | [], [] => simp [yG]
  | x :: a, [] =>
   have := ih a []
   simp only [yG, List.length_cons]; simp at *; omega
  | [], y :: b =>
   have := ih [] b
   simp only [yG, List.length_cons]; simp at *; omega
  | x :: a, y :: b =>
   rw [yG]
   split
   · have := ih a (y :: b); simp at *; omega
   · split
     · have := ih (x :: a) b; simp at *; omega
     · have := ih a b
       split <;> simp at * <;> omega
theorem aH1 (a b : List Ent) : (y7 a b).length ≤ a.length + b.length := by
 unfold y7; exact aI3 _ _ _
theorem qw {α : Type} (l : List α) (z : α) (k : Nat) (h : k < l.length) : (l.take k ++ List.replicate (l.length - k) z).set k l[k] = l.take (k + 1) ++ List.replicate (l.length - (k + 1)) z := by
 have h1 : l.length - k = (l.length - (k + 1)) + 1 := by omega
 rw [h1, List.replicate_succ, List.set_append_right _ _ (by simp; omega), List.take_succ_eq_append_getElem h, List.append_assoc]
 have : k - (l.take k).length = 0 := by simp; omega
 rw [this]; rfl
theorem aKD : ∀ vs w, (callFunc 56 vs).run Try.prog w = .ok (.enter 56 vs) w := zY Try.func56 (by kernel_rfl) (by kernel_rfl)
theorem aFV {a b : List Ent} (hm : a.length ≤ maxLen) (hm' : b.length ≤ maxLen) (hk : ∀ e ∈ a, e.1.size ≤ maxLen) (hk' : ∀ e ∈ b, e.1.size ≤ maxLen) : AC Try.prog 56 [.lst 2 (a.map xD), .lst 2 (b.map xD)] ⟨.tup [.own 0, .v (.int .i64 (vw a b).2)], [⟨96, 3, (vw a b).1.map uw⟩]⟩ :=
 aJF (cs := xV (vw a b).1) aKD (aCb _) (by omega) (fun S w => jM.2 rfl) rfl fun w S0 vs hS hv => by
  obtain ⟨u, us, rfl, h1, hv⟩ := qG hv
  obtain ⟨u', rfl, h2⟩ := vL hv
  obtain ⟨A, c, rfl, _, _, hr⟩ := zC hS h1
  obtain ⟨A', c', rfl, _, _, hr'⟩ := zC hS h2
  rw [List.length_map]
  exact aE0 A _ c a A' _ c' b w hr hr' hm hm' hk hk'
end Go.Proofs.Ytdhjchdbgognbaa.AM
namespace Go.Proofs.Ytdhjchdbgognbaa.AM
open Go Go.RowKit
abbrev Cmt := List Int × List Ent
def xL (c : Cmt) : AV := .agg [.lst 1 (c.1.map yC), .lst 2 (c.2.map xD)]
theorem aJH (cs : List Cmt) : ∀ x ∈ cs.map xL, asz x = 2 := fun x hx => by obtain ⟨e, _, rfl⟩ := List.mem_map.1 hx; rfl
theorem aJI (cs : List Int) : ∀ x ∈ cs.map yC, asz x = 1 := fun x hx => by obtain ⟨e, _, rfl⟩ := List.mem_map.1 hx; rfl
theorem aBa (e : Int) : yH (yC e) := by unfold yC; simp [yH]
def szI (n : Nat) (l : Int) : Int := if l - n < 0 then -1 else l - n
def szC (c : Cmt) (l : Int) : Int := if szI c.1.length l < 0 then -1 else if szL eSz c.2 (szI c.1.length l) < 0 then -1 else szL eSz c.2 (szI c.1.length l)
def szG {α : Type} (g : α → Int → Int) : List α → Int → Int
 | [], l => l
 | e :: es, l => if g e l < 0 then -1 else szG g es (g e l)
def zk (cs : List Cmt) (l : Int) : Int := if l - cs.length < 0 then -1 else szG szC cs (l - cs.length)
theorem aII {c : Cmt} {l : Int} (h : 0 ≤ szC c l) : szC c l ≤ l ∧ (c.1.length : Int) ≤ l ∧ (c.2.length : Int) ≤ l ∧ ∀ e ∈ c.2, (e.1.size : Int) ≤ l := by
 unfold szC at h ⊢
 by_cases h1 : szI c.1.length l < 0
 · rw [if_pos h1] at h; omega
 · rw [if_neg h1] at h ⊢
   by_cases h2 : szL eSz c.2 (szI c.1.length l) < 0
   · rw [if_pos h2] at h; omega
   · rw [if_neg h2] at h ⊢
     obtain ⟨k1, k2, k3⟩ := aIJ h
     have h3 : szI c.1.length l ≤ l ∧ (c.1.length : Int) ≤ l := by unfold szI at h1 ⊢; split at h1 <;> split <;> omega
     exact ⟨by omega, h3.2, by omega, fun e he => by have : (e.1.size : Int) ≤ _ := k3 e he; omega⟩
theorem aFJ : ∀ {es : List Cmt} {l : Int}, 0 ≤ szG szC es l → szG szC es l ≤ l ∧ ∀ c ∈ es, (c.1.length : Int) ≤ l ∧ (c.2.length : Int) ≤ l ∧ ∀ e ∈ c.2, (e.1.size : Int) ≤ l
 | [], l, h => ⟨Int.le_refl _, by simp⟩
 | c :: cs, l, h => by
  unfold szG at h ⊢
  split at h
  · omega
  · rename_i hn
    rw [if_neg hn]
    obtain ⟨h1, h2⟩ := aFJ h
    obtain ⟨k1, k2⟩ := aII (by omega : 0 ≤ szC c l)
    refine ⟨by omega, fun x hx => ?_⟩
    rcases List.mem_cons.1 hx with rfl | hx
    · exact k2
    · obtain ⟨q1, q2, q3⟩ := h2 x hx
      exact ⟨by omega, by omega, fun e he => by have := q3 e he; omega⟩
theorem aIp {es : List Cmt} {k : Nat} {l : Int} (h : k < es.length) : szG szC (es.drop k) l = if szC es[k] l < 0 then -1 else szG szC (es.drop (k + 1)) (szC es[k] l) := by
 rw [List.drop_eq_getElem_cons h, szG]
theorem aJb {cs : List Cmt} {l : Int} (h : 0 ≤ zk cs l) : (cs.length : Int) ≤ l ∧ ∀ c ∈ cs, (c.1.length : Int) ≤ l ∧ (c.2.length : Int) ≤ l ∧ ∀ e ∈ c.2, (e.1.size : Int) ≤ l := by
 unfold zk at h
 split at h
 · omega
 · rename_i hn
   obtain ⟨h1, h2⟩ := aFJ h
   exact ⟨by omega, fun c hc => by obtain ⟨q1, q2, q3⟩ := h2 c hc; exact ⟨by omega, by omega, fun e he => by have := q3 e he; omega⟩⟩
theorem aD1 {P : Program} {Θ : Tab} {s : St} {d : Option Tmp} {ty : TypeId} {pos : String} {after : Array Edge} {g : Option (Nat × Bool)} {t : TypeId} {x y : Operand} {l l' i c : Nat} {p : List Nat} {ob ob' : OB} {q z : AV} (hq : ob.xs[i]? = some q) (hx : s.ev x = .optr l i p c) (ho : s.hp l = some ob) (hg : xN q p 0 = some (z, c)) (hs : ((Θ.look t).known && (Nat.beq (asz z) (Θ.look t).size && Nat.beq 1 (asz z))) = true) (hy : s.ev y = .own l') (ho' : s.hp l' = some ob') (hn : Nat.beq l l' = false) (hop : ob.e.open_ = true := by rfl) (hsh : ob'.e.shut = true := by rfl) (hok : okL l' = true := by rfl) (hc : cOK y = true := by rfl) :
 Pre P Θ ⟨d, .store t x y, ty, pos, after, g⟩ s ⟨.any, some fun s' => (s'.frz l').set l (some ⟨.s (ob.e.typ.getD 0), ob.sz, ob.xs.set i (zi q p (.lst ob'.sz ob'.xs))⟩)⟩ := by
 simp only [Bool.and_eq_true] at hs
 have hd : s.dat (s.ev y) = .lst ob'.sz ob'.xs := by rw [hy]; simp [St.dat, ho', hsh]
 have hown : yL (s.ev y) = [l'] := by rw [hy]; rfl
 have hda : xH s (s.ev y) = true := by rw [hy]; simp [xH, ho', hsh]
 obtain ⟨t0, he⟩ : ∃ t0, ob.e = .s t0 ∨ ob.e = .z t0 := by
  cases h : ob.e with
  | s t0 => exact ⟨t0, .inl rfl⟩
  | z t0 => exact ⟨t0, .inr rfl⟩
  | _ => rw [h] at hop; cases hop
 have ht : ob.e.typ.getD 0 = t0 := by rcases he with he | he <;> rw [he] <;> rfl
 have hne : l ≠ l' := fun e => by rw [e] at hn; simp at hn
 refine ⟨uW hc, hs.1, l, i, p, c, ob, hx, ho, .inl ⟨t0, q, z, he, hq, hg, Nat.eq_of_beq_eq_true hs.2.1, by rw [hd]; exact Nat.eq_of_beq_eq_true hs.2.2, hda, by rw [hown]; simpa using hne, by rw [hown]; simp [hok], ?_⟩⟩
 rw [hd, hown, ht]; rfl
theorem aBF {s : St} {a t l : Nat} {ob : OB} {x : AV} {Θ : Tab} (h1 : s.sl a = .optr l 0 [] 0) (ho : s.hp l = some ob) (hx : ob.xs[0]? = some x) (hk : ((Θ.look t).known && (Bool.xor (zR x) (Θ.look t).isAgg).not && Nat.beq (asz x) (Θ.look t).size) = true) (hd : (match x with | .v _ | .agg _ | .lst _ _ | .any => True | _ => False)) (hop : ob.e.open_ = true := by rfl) :
 qb Θ [.cell a t] ⟨x, []⟩ .ret s := by
 have hr : rvA s (.cell a t) = x := by
  simp only [rvA, h1, ho, hop, hx, cond_true, Option.getD_some]
 simp only [Bool.and_eq_true] at hk
 refine ⟨trivial, [], by simp, trivial, ⟨⟨hk.1.1, by rw [hr]; exact xor_not hk.1.2, by rw [hr]; exact Nat.eq_of_beq_eq_true hk.2, .inl ⟨l, ob, x, h1, ho, .inl ⟨hop, hx⟩⟩⟩, trivial⟩, trivial, ⟨.inl ?_, trivial⟩⟩
 rw [hr]
 cases x <;> first | exact ⟨rfl, rfl⟩ | exact hd.elim
attribute [local irreducible] xO xU yD zA zJ Pre ACG
theorem aAW {es : List Int} {l : Int} (hm : es.length ≤ maxLen) (h0 : 0 ≤ l) (h1 : l ≤ 1048576) : AC Try.prog 94 [.lst 1 (es.map yC), .v (.int .i64 l)] ⟨.v (.int .i64 (szI es.length l)), []⟩ := by
 unfold maxLen at hm
 unfold szI
 by_cases hn : l - es.length < 0
 · rw [if_pos hn]
   refine qrf Try.func94 Try.ntmps94 Try.results94 ?_; conv => whnf
   repeat ((refine qz ?_; conv => whnf))
   exact xA rfl trivial
 · rw [if_neg hn]
   refine qrf Try.func94 Try.ntmps94 Try.results94 ?_; conv => whnf
   repeat ((refine qz ?_; conv => whnf))
   exact xA rfl trivial
theorem aBN {c : Cmt} {l : Int} (hm : c.1.length ≤ maxLen) (hm2 : c.2.length ≤ maxLen) (hk : ∀ e ∈ c.2, e.1.size ≤ maxLen) (h0 : 0 ≤ l) (h1 : l ≤ 1048576) : AC Try.prog 63 [xL c, .v (.int .i64 l)] ⟨.v (.int .i64 (szC c l)), []⟩ := by
 unfold szC
 by_cases ha : szI c.1.length l < 0
 · rw [if_pos ha]
   refine qrf Try.func63 Try.ntmps63 Try.results63 ?_; conv => whnf
   repeat ((first | refine qz ?_ | refine qc (aAW hm h0 h1) ?_); conv => whnf)
   exact xA rfl trivial
 · rw [if_neg ha]
   have hb : szI c.1.length l ≤ 1048576 := by unfold szI at ha ⊢; split <;> omega
   by_cases hn : szL eSz c.2 (szI c.1.length l) < 0
   · rw [if_pos hn]
     refine qrf Try.func63 Try.ntmps63 Try.results63 ?_; conv => whnf
     repeat ((first | refine qz ?_ | refine qc (aAW hm h0 h1) ?_ | refine qc (aBO hm2 hk (by omega) hb) ?_); conv => whnf)
     exact xA rfl trivial
   · rw [if_neg hn]
     refine qrf Try.func63 Try.ntmps63 Try.results63 ?_; conv => whnf
     repeat ((first | refine qz ?_ | refine qc (aAW hm h0 h1) ?_ | refine qc (aBO hm2 hk (by omega) hb) ?_); conv => whnf)
     exact xA rfl trivial
theorem aEL {es : List Cmt} {l : Int} (hm : es.length ≤ maxLen) (hc : ∀ c ∈ es, c.1.length ≤ maxLen ∧ c.2.length ≤ maxLen ∧ ∀ e ∈ c.2, e.1.size ≤ maxLen) (h0 : 0 ≤ l) (h1 : l ≤ 1048576) : AC Try.prog 34 [.lst 2 (es.map xL), .v (.int .i64 l)] ⟨.v (.int .i64 (zk es l)), []⟩ := by
 unfold maxLen at hm
 by_cases hn : l - es.length < 0
 · rw [zk, if_pos hn]
   refine qrf Try.func34 Try.ntmps34 Try.results34 ?_; conv => whnf
   repeat ((refine qz ?_; conv => whnf))
   exact xA rfl trivial
 · rw [zk, if_neg hn]
   refine qrf Try.func34 Try.ntmps34 Try.results34 ?_; conv => whnf
   repeat ((refine qz ?_; conv => whnf))
   refine xu (ι := { p : Nat × Int // p.1 ≤ es.length ∧ 0 ≤ p.2 ∧ p.2 ≤ l ∧ szG szC (es.drop p.1) p.2 = szG szC es (l - es.length) }) (fun p => ⟨[(0, .lst 2 (es.map xL)), (1, .v (.int .i64 p.1.2)), (5, .v (.int .i64 (p.1.1 : Int)))], []⟩) (fun p => es.length - p.1.1) ⟨(0, l - es.length), by simp, by omega, by omega, rfl⟩ (by exact qle) ?_
   rintro ⟨⟨k, cur⟩, hkl, hc0, hc1, hsz⟩
   simp only at hkl hc0 hc1 hsz ⊢
   conv => whnf
   by_cases hlt : k < es.length
   · have hd := aIp (l := cur) hlt
     rw [hsz] at hd
     obtain ⟨q1, q2, q3⟩ := hc _ (List.getElem_mem hlt)
     by_cases hneg : szC es[k] cur < 0
     · rw [if_pos hneg] at hd
       rw [hd]
       repeat ((first | refine qz ?_ | refine qc (aBN q1 q2 q3 hc0 (by omega)) ?_); conv => whnf)
       exact xA rfl trivial
     · rw [if_neg hneg] at hd
       have hle := (aII (by omega : 0 ≤ szC es[k] cur)).1
       repeat ((first | refine qz ?_ | refine qc (aBN q1 q2 q3 hc0 (by omega)) ?_); conv => whnf)
       exact ⟨⟨(k + 1, szC es[k] cur), by simp; omega, by omega, by omega, hd.symm⟩, by exact qle, by simp; omega⟩
   · have hkk : k = es.length := by omega
     rw [hkk, List.drop_length] at hsz
     rw [← hsz]
     repeat ((refine qz ?_; conv => whnf))
     exact xA rfl trivial
theorem aCz {l : List Int} (hm : l.length ≤ 1048576) : AC Try.prog 97 [.lst 1 (l.map yC)] ⟨.own 0, [⟨3, 1, l.map yC⟩]⟩ := by
 refine qrf Try.func97 Try.ntmps97 Try.results97 ?_; conv => whnf
 repeat (first | (refine qz ?_; conv => whnf) | (refine qr (aCS (n := l.length) (by omega) (by omega) (by simp; rfl) (by simp; rfl) rfl rfl) ?_; conv => whnf))
 have hrow : List.replicate l.length (AV.v (.int .i64 0)) = (l.take 0 ++ List.replicate (l.length - 0) 0).map yC := by simp [yC]
 refine xu (ι := { k : Nat // k ≤ l.length }) (fun k => ⟨[(0, .lst 1 (l.map yC)), (3, .own 8), (4, .v (.int .i64 (k.1 : Int)))], [(8, ⟨3, 1, (l.take k.1 ++ List.replicate (l.length - k.1) 0).map yC⟩)]⟩) (fun k => l.length - k.1) ⟨0, Nat.zero_le _⟩ ⟨⟨congrArg (fun x => some (OB.mk _ _ x)) hrow, trivial⟩, .inl ⟨rfl, rfl⟩, .inl ⟨rfl, rfl⟩, .inl ⟨rfl, rfl⟩, trivial⟩ ?_
 rintro ⟨k, hk⟩
 dsimp only
 conv => whnf
 by_cases hlt : k < l.length
 · have hlt2 : k < (l.take k ++ List.replicate (l.length - k) 0).length := by simp; omega
   have hset := congrArg (List.map yC) (qw l 0 k hlt)
   rw [List.map_set] at hset
   repeat ((first | refine qz ?_ | refine qp (vk (by simpa using hlt2) rfl rfl rfl rfl rfl) ?_ | refine qr (yQ (jS _ hlt2) rfl rfl rfl rfl rfl rfl) ?_); conv => whnf)
   exact ⟨⟨k + 1, hlt⟩, ⟨⟨congrArg (fun x => some (OB.mk _ _ x)) hset, trivial⟩, .inl ⟨rfl, rfl⟩, .inl ⟨rfl, rfl⟩, .inl ⟨rfl, rfl⟩, trivial⟩, by simp; omega⟩
 · have hkk : k = l.length := by omega
   subst hkk
   repeat ((refine qz ?_; conv => whnf))
   exact aCV rfl (by show some (OB.mk _ _ _) = _; rw [List.take_length, Nat.sub_self, List.replicate_zero, List.append_nil])
theorem aF1 {c : Cmt} (hm : c.1.length ≤ 1048576) (hm2 : c.2.length ≤ 1048576) : AC Try.prog 68 [xL c] ⟨xL c, []⟩ := by
 refine qrf Try.func68 Try.ntmps68 Try.results68 ?_; conv => whnf
 repeat (first | (refine qz ?_; conv => whnf) | (refine qc (aCz hm) ?_; conv => whnf) | (refine qc (aBP hm2) ?_; conv => whnf) | (refine qr (aD1 rfl rfl rfl rfl rfl rfl rfl rfl) ?_; conv => whnf) | (refine qr (yQ rfl rfl rfl rfl rfl (by conv => lhs; whnf) rfl) ?_; conv => whnf))
 exact aBF (x := xL c) rfl rfl rfl rfl trivial
abbrev jw : Cmt := ([], [])
theorem aEO {l : List Cmt} (hm : l.length ≤ 1048576) (hc : ∀ c ∈ l, c.1.length ≤ 1048576 ∧ c.2.length ≤ 1048576) : AC Try.prog 38 [.lst 2 (l.map xL)] ⟨.own 0, [⟨83, 2, l.map xL⟩]⟩ := by
 refine qrf Try.func38 Try.ntmps38 Try.results38 ?_; conv => whnf
 repeat (first | (refine qz ?_; conv => whnf) | (refine aEt (aCS (n := l.length) (by omega) (by omega) (by simp; rfl) (by simp; rfl) rfl rfl) rfl rfl (fun e => by cases e) (Gh.give 8 rfl (.inr rfl) rfl (Gh.done ?_)); conv => whnf))
 have hrow : List.replicate l.length (AV.agg [.lst 1 [], .lst 2 []]) = (l.take 0 ++ List.replicate (l.length - 0) jw).map xL := by simp [xL]
 refine xu (ι := { k : Nat // k ≤ l.length }) (fun k => ⟨[(0, .lst 2 (l.map xL)), (3, .own 8), (4, .v (.int .i64 (k.1 : Int)))], [(8, ⟨83, 2, (l.take k.1 ++ List.replicate (l.length - k.1) jw).map xL⟩)]⟩) (fun k => l.length - k.1) ⟨0, Nat.zero_le _⟩ ⟨⟨congrArg (fun x => some (OB.mk _ _ x)) hrow, trivial⟩, .inl ⟨rfl, rfl⟩, .inl ⟨rfl, rfl⟩, .inl ⟨rfl, rfl⟩, trivial⟩ ?_
 rintro ⟨k, hk⟩
 dsimp only
 conv => whnf
 by_cases hlt : k < l.length
 · obtain ⟨q1, q2⟩ := hc _ (List.getElem_mem hlt)
   have hlt2 : k < (l.take k ++ List.replicate (l.length - k) jw).length := by simp; omega
   have hset := congrArg (List.map xL) (qw l jw k hlt)
   rw [List.map_set] at hset
   repeat ((first | refine qz ?_ | refine qc (aF1 q1 q2) ?_ | refine qp (vk (by simpa using hlt2) rfl rfl rfl rfl rfl) ?_ | refine qr (yQ (jS _ hlt2) rfl rfl rfl rfl rfl rfl) ?_); conv => whnf)
   exact ⟨⟨k + 1, hlt⟩, ⟨⟨congrArg (fun x => some (OB.mk _ _ x)) hset, trivial⟩, .inl ⟨rfl, rfl⟩, .inl ⟨rfl, rfl⟩, .inl ⟨rfl, rfl⟩, trivial⟩, by simp; omega⟩
 · have hkk : k = l.length := by omega
   subst hkk
   repeat ((refine qz ?_; conv => whnf))
   exact aCV rfl (by show some (OB.mk _ _ _) = _; rw [List.take_length, Nat.sub_self, List.replicate_zero, List.append_nil])
theorem aHJ {l : List Int} (hm : l.length ≤ maxLen) : AC Try.prog 103 [.lst 1 (l.map yC), .lst 1 (l.map yC)] ⟨.v (.bool true), []⟩ := by
 unfold maxLen at hm
 refine qrf Try.func103 Try.ntmps103 Try.results103 ?_; conv => whnf
 repeat ((refine qz ?_; conv => whnf))
 refine xu (ι := { k : Nat // k ≤ l.length }) (fun k => ⟨[(0, .lst 1 (l.map yC)), (1, .lst 1 (l.map yC)), (5, .v (.int .i64 (k.1 : Int)))], []⟩) (fun k => l.length - k.1) ⟨0, Nat.zero_le _⟩ (by exact qle) ?_
 rintro ⟨k, hk⟩
 dsimp only
 conv => whnf
 by_cases hlt : k < l.length
 · repeat ((refine qz ?_; conv => whnf))
   refine .inl ⟨by kernel_rfl, ?_⟩
   conv => whnf
   repeat ((first | refine qz ?_ | refine qp (xR (aHX rfl) rfl rfl rfl) ?_); conv => whnf)
   exact ⟨⟨k + 1, hlt⟩, by exact qle, by simp; omega⟩
 · repeat ((refine qz ?_; conv => whnf))
   exact xA rfl trivial
theorem aFR {c : Cmt} (hm : c.1.length ≤ maxLen) (hm2 : c.2.length ≤ maxLen) : AC Try.prog 73 [xL c, xL c] ⟨.v (.bool true), []⟩ := by
 have he : decide (c.2 = c.2) = true := by simp
 have hq := aBM (es := c.2) (es' := c.2) hm2 hm2
 rw [he] at hq
 refine qrf Try.func73 Try.ntmps73 Try.results73 ?_; conv => whnf
 repeat ((first | refine qz ?_ | refine qc (aHJ hm) ?_ | refine qc (hq) ?_); conv => whnf)
 exact xA rfl trivial
theorem aEC {l : List Cmt} (hm : l.length ≤ maxLen) (hc : ∀ c ∈ l, c.1.length ≤ maxLen ∧ c.2.length ≤ maxLen) : AC Try.prog 42 [.lst 2 (l.map xL), .lst 2 (l.map xL)] ⟨.v (.bool true), []⟩ := by
 unfold maxLen at hm
 refine qrf Try.func42 Try.ntmps42 Try.results42 ?_; conv => whnf
 repeat ((refine qz ?_; conv => whnf))
 refine xu (ι := { k : Nat // k ≤ l.length }) (fun k => ⟨[(0, .lst 2 (l.map xL)), (1, .lst 2 (l.map xL)), (5, .v (.int .i64 (k.1 : Int)))], []⟩) (fun k => l.length - k.1) ⟨0, Nat.zero_le _⟩ (by exact qle) ?_
 rintro ⟨k, hk⟩
 dsimp only
 conv => whnf
 by_cases hlt : k < l.length
 · obtain ⟨q1, q2⟩ := hc _ (List.getElem_mem hlt)
   repeat ((refine qz ?_; conv => whnf))
   refine .inl ⟨by kernel_rfl, ?_⟩
   conv => whnf
   repeat ((first | refine qz ?_ | refine qc (aFR q1 q2) ?_); conv => whnf)
   exact ⟨⟨k + 1, hlt⟩, by exact qle, by simp; omega⟩
 · repeat ((refine qz ?_; conv => whnf))
   exact xA rfl trivial
end Go.Proofs.Ytdhjchdbgognbaa.AM
namespace Go.Proofs.Ytdhjchdbgognbaa.AM
open Go Go.RowKit
section
variable {P : Program} {Θ : Tab} {s : St} {d : Option Tmp} {ty : TypeId} {pos : String} {after : Array Edge} {g : Option (Nat × Bool)}
theorem qO {op : BinOp} {t t2 : TypeId} {x y : Operand} {a b r : Value} (h : y9 P op t x y a b r) (hx : yI (s.ev x) = some a) (hy : yI (s.ev y) = some b) (h1 : r.oneCell' = true) : Pre P Θ ⟨d, .binOp op t x y t2, ty, pos, after, g⟩ s ⟨.v r, none⟩ :=
 .inl ⟨a, b, r, hx, hy, h, h1, rfl⟩
end
section
variable {s : St} {Θ : Tab}
theorem aK1 {t : Nat} {y : AV} (h : s.sl t = y) (hy : (match y with | .v _ | .agg _ | .lst _ _ | .any => True | _ => False)) : aIl s [] (s.sl t) y := .inl (by cases y <;> first | exact ⟨h, rfl⟩ | exact hy.elim)
end
theorem aHz {P : Program} {w : World} {t : TypeId} {a b : Bool} (d : Nat) (h : P.underlying t = some .bool) : (Op.equalIn (d + 1) t (.bool a) (.bool b)).run P w = .ok (a == b) w := by
 simp [Op.equalIn, run_underlying h]
theorem aJ6 {P : Program} {w : World} {t : TypeId} {a b : Bool} (h : P.underlying t = some .bool) : (Op.equal t (.bool a) (.bool b)).run P w = .ok (a == b) w := by
 exact aHz 9999 h
theorem wN {P : Program} {t : TypeId} {x y : Operand} {a b : Bool} (h : P.underlying t = some .bool) : y9 P .neq t x y (.bool a) (.bool b) (.bool (a != b)) := fun w => by
 simp [eqGuard, binOp, aJ6 h]; cases a <;> cases b <;> rfl
theorem vg {P : Program} {Θ : Tab} {s : St} {d : Option Tmp} {ty : TypeId} {pos : String} {after : Array Edge} {g : Option (Nat × Bool)} {α : Type} {f : α → AV} {t : TypeId} {x y : Operand} {el sz b h : Nat} {k : IntKind} {z : AV} {xs : List α} (hh : h ≤ xs.length) (ht : Θ.look t = .slice el sz b z) (hx : s.ev x = .lst sz (xs.map f)) (hy : s.ev y = .v (.int k (h : Int))) : Pre P Θ ⟨d, .slice t x none (some y) none, ty, pos, after, g⟩ s ⟨.lst sz ((xs.take h).map f), none⟩ := by
 have := aIg (P := P) (Θ := Θ) (s := s) (d := d) (ty := ty) (pos := pos) (after := after) (g := g) (t := t) (x := x) (lo := none) (hi := some y) (l := 0) (h := h) (xs := xs.map f) (Nat.zero_le _) (by simpa using hh) ht hx rfl ⟨k, hy⟩
 rw [List.drop_zero, ← List.map_take] at this
 exact this
def aBg (n : Nat) (ps : List Int) (i : Nat) : Prop := ∃ h : i < ps.length, 1 ≤ ps[i] ∧ ps[i] ≤ n ∧ ps[i] ∉ ps.take i
def aGs (n : Nat) (ps : List Int) : Prop := ps.length ≤ 2 ∧ (ps.length = 0 ↔ n = 0) ∧ ∀ i, i < ps.length → aBg n ps i
open Classical in
noncomputable def jZ (n : Nat) (ps : List Int) : Bool := decide (aGs n ps)
noncomputable def jO (n : Nat) (c : Cmt) : Bool := xW c.2 && jZ n c.1
noncomputable def vQ : Nat → List Cmt → Bool
 | _, [] => true
 | n, c :: cs => jO n c && vQ (n + 1) cs
noncomputable def aAN (cs : List Cmt) : Bool := decide (1 ≤ cs.length ∧ cs.length ≤ 60) && vQ 0 cs
theorem qQ {n : Nat} {ps : List Int} (h : ¬ aGs n ps) : jZ n ps = false := by unfold jZ; simpa using h
theorem aHm {n : Nat} {ps : List Int} (h : aGs n ps) : jZ n ps = true := by unfold jZ; simpa using h
theorem aBt {n : Nat} {cs : List Cmt} {k : Nat} (h : k < cs.length) : vQ n (cs.drop k) = (jO n cs[k] && vQ (n + 1) (cs.drop (k + 1))) := by
 rw [List.drop_eq_getElem_cons h, vQ]
theorem aB6 : ∀ {cs : List Cmt} {n : Nat}, vQ n cs = true → ∀ i (h : i < cs.length), jO (n + i) cs[i] = true
 | [], n, _, i, h => by simp at h
 | c :: cs, n, hb, 0, h => by
  unfold vQ at hb
  simp only [Bool.and_eq_true] at hb
  exact hb.1
 | c :: cs, n, hb, i + 1, h => by
  unfold vQ at hb
  simp only [Bool.and_eq_true] at hb
  have := aB6 hb.2 i (by simpa using h)
  simpa [Nat.add_assoc, Nat.add_comm 1 i] using this
attribute [local irreducible] xO xU yD zA zJ Pre ACG
theorem uS {x lo hi : Int} (h : lo ≤ x) (h' : x ≤ hi) : AC Try.prog 76 [.v (.int .i64 x), .v (.int .i64 lo), .v (.int .i64 hi)] ⟨.v (.bool true), []⟩ := by
 refine qrf Try.func76 Try.ntmps76 Try.results76 ?_; conv => whnf
 repeat ((refine qz ?_; conv => whnf))
 exact xA rfl trivial
theorem qI {x lo hi : Int} (h : ¬ (lo ≤ x ∧ x ≤ hi)) : AC Try.prog 76 [.v (.int .i64 x), .v (.int .i64 lo), .v (.int .i64 hi)] ⟨.v (.bool false), []⟩ := by
 by_cases h1 : lo ≤ x
 · refine qrf Try.func76 Try.ntmps76 Try.results76 ?_; conv => whnf
   repeat ((refine qz ?_; conv => whnf))
   exact xA rfl trivial
 · refine qrf Try.func76 Try.ntmps76 Try.results76 ?_; conv => whnf
   repeat ((refine qz ?_; conv => whnf))
   exact xA rfl trivial
theorem aEG {pre : List Cmt} {c : Cmt} (hn : pre.length ≤ maxLen) (hm : c.1.length ≤ maxLen) (hm2 : c.2.length ≤ maxLen) (hk : ∀ e ∈ c.2, e.1.size ≤ maxLen) : AC Try.prog 96 [.lst 2 (pre.map xL), xL c] ⟨.v (.bool (jO pre.length c)), []⟩ := by
 have hn' := hn
 unfold maxLen at hn'
 unfold jO
 cases hmo : xW c.2 with
 | false =>
  refine qrf Try.func96 Try.ntmps96 Try.results96 ?_; conv => whnf
  repeat ((first | refine qz ?_ | refine qc (zq hmo hm2 hk) ?_); conv => whnf)
  exact xA rfl trivial
 | true =>
  rw [Bool.true_and]
  by_cases h2 : c.1.length ≤ 2
  case neg =>
   rw [qQ (fun h => h2 h.1)]
   refine qrf Try.func96 Try.ntmps96 Try.results96 ?_; conv => whnf
   repeat ((first | refine qz ?_ | refine qc (zq hmo hm2 hk) ?_); conv => whnf)
   exact xA rfl trivial
  by_cases h3 : c.1.length = 0 ↔ pre.length = 0
  case neg =>
   rw [qQ (fun h => h3 h.2.1)]
   by_cases h4 : c.1.length = 0
   · have h5 : ¬ pre.length = 0 := fun e => h3 ⟨fun _ => e, fun _ => h4⟩
     refine qrf Try.func96 Try.ntmps96 Try.results96 ?_; conv => whnf
     repeat ((first | refine qz ?_ | refine qc (zq hmo hm2 hk) ?_ | refine qp (xR (wN Try.underlying4) rfl rfl rfl) ?_); conv => whnf)
     exact xA rfl trivial
   · have h5 : pre.length = 0 := Classical.byContradiction fun e => h3 ⟨fun q => absurd q h4, fun q => absurd q e⟩
     refine qrf Try.func96 Try.ntmps96 Try.results96 ?_; conv => whnf
     repeat ((first | refine qz ?_ | refine qc (zq hmo hm2 hk) ?_ | refine qp (xR (wN Try.underlying4) rfl rfl rfl) ?_); conv => whnf)
     exact xA rfl trivial
  have fin : ∀ k, k ≤ c.1.length → ¬ k < c.1.length → (∀ i, i < k → aBg pre.length c.1 i) → jZ pre.length c.1 = true := fun k h1 h2' h3' => aHm ⟨h2, h3, fun i hi => h3' i (by omega)⟩
  have bad : ∀ k, k < c.1.length → ¬ aBg pre.length c.1 k → jZ pre.length c.1 = false := fun k h1 h2' => qQ (fun h => h2' (h.2.2 k h1))
  by_cases h4 : c.1.length = 0
  · have h5 : pre.length = 0 := h3.1 h4
    rw [fin 0 (by omega) (by omega) (fun i h => by omega)]
    refine qrf Try.func96 Try.ntmps96 Try.results96 ?_; conv => whnf
    repeat ((first | refine qz ?_ | refine qc (zq hmo hm2 hk) ?_ | refine qp (xR (wN Try.underlying4) rfl rfl rfl) ?_); conv => whnf)
    refine xu (ι := Unit) (fun _ => ⟨[(5, .v (.int .i64 (c.1.length : Int))), (6, .v (.int .i64 0))], []⟩) (fun _ => 0) () ⟨trivial, .inl ⟨rfl, rfl⟩, .inl ⟨rfl, rfl⟩, trivial⟩ ?_
    rintro ⟨⟩
    conv => whnf
    repeat ((refine qz ?_; conv => whnf))
    exact xA rfl trivial
  · have h5 : ¬ pre.length = 0 := fun e => h4 (h3.2 e)
    refine qrf Try.func96 Try.ntmps96 Try.results96 ?_; conv => whnf
    repeat ((first | refine qz ?_ | refine qc (zq hmo hm2 hk) ?_ | refine qp (xR (wN Try.underlying4) rfl rfl rfl) ?_); conv => whnf)
    refine xu (ι := { k : Nat // k ≤ c.1.length ∧ ∀ i, i < k → aBg pre.length c.1 i }) (fun k => ⟨[(0, .lst 2 (pre.map xL)), (3, .optr 4 0 [] 0), (5, .v (.int .i64 (c.1.length : Int))), (6, .v (.int .i64 (k.1 : Int)))], [(4, ⟨83, 2, [xL c]⟩)]⟩) (fun k => c.1.length - k.1) ⟨0, Nat.zero_le _, fun i h => by omega⟩ ⟨⟨rfl, trivial⟩, .inl ⟨rfl, rfl⟩, .inl ⟨rfl, rfl⟩, .inl ⟨rfl, rfl⟩, .inl ⟨rfl, rfl⟩, trivial⟩ ?_
    rintro ⟨k, hk', hg⟩
    dsimp only at hk' hg ⊢
    conv => whnf
    by_cases hlt : k < c.1.length
    case neg =>
     rw [fin k hk' hlt hg]
     repeat ((refine qz ?_; conv => whnf))
     exact xA rfl trivial
    have h0 : 0 < c.1.length := by omega
    by_cases hin : 1 ≤ c.1[k] ∧ c.1[k] ≤ (pre.length : Int)
    case neg =>
     rw [bad k hlt (fun ⟨_, q1, q2, _⟩ => hin ⟨q1, q2⟩)]
     repeat ((refine qz ?_; conv => whnf))
     refine .inl ⟨by kernel_rfl, ?_⟩
     conv => whnf
     repeat ((first | refine qz ?_ | refine qc (qI hin) ?_); conv => whnf)
     exact xA rfl trivial
    by_cases hk0 : k = 0
    · subst hk0
      repeat ((refine qz ?_; conv => whnf))
      refine .inl ⟨by kernel_rfl, ?_⟩
      conv => whnf
      repeat ((first | refine qz ?_ | refine qc (uS hin.1 hin.2) ?_); conv => whnf)
      exact ⟨⟨0 + 1, hlt, fun i hi => by
       have : i = 0 := by omega
       subst this; exact ⟨hlt, hin.1, hin.2, by simp⟩⟩, by exact qle, by simp; omega⟩
    · have hk1 : k = 1 := by omega
      subst hk1
      have htk : c.1.take 1 = [c.1[0]] := by
       rw [show (1 : Nat) = 0 + 1 from rfl, List.take_succ_eq_append_getElem h0]; simp
      by_cases hne : c.1[1] = c.1[0]
      · rw [bad 1 hlt (fun ⟨_, _, _, q⟩ => q (by rw [htk, hne]; simp))]
        repeat ((refine qz ?_; conv => whnf))
        refine .inl ⟨by kernel_rfl, ?_⟩
        conv => whnf
        repeat ((first | refine qz ?_ | refine qc (uS hin.1 hin.2) ?_ | refine qp (aDw (j := 0) (jS _ h0) rfl rfl rfl) ?_); conv => whnf)
        exact xA rfl trivial
      · repeat ((refine qz ?_; conv => whnf))
        refine .inl ⟨by kernel_rfl, ?_⟩
        conv => whnf
        repeat ((first | refine qz ?_ | refine qc (uS hin.1 hin.2) ?_ | refine qp (aDw (j := 0) (jS _ h0) rfl rfl rfl) ?_); conv => whnf)
        exact ⟨⟨1 + 1, hlt, fun i hi => by
         rcases Nat.lt_or_ge i 1 with h | h
         · exact hg i h
         · have : i = 1 := by omega
           subst this; exact ⟨hlt, hin.1, hin.2, by rw [htk]; simpa using hne⟩⟩, by exact qle, by simp; omega⟩
theorem aIS {cs : List Cmt} (hn : cs.length ≤ maxLen) (hc : ∀ c ∈ cs, c.1.length ≤ maxLen ∧ c.2.length ≤ maxLen ∧ ∀ e ∈ c.2, e.1.size ≤ maxLen) : AC Try.prog 65 [.lst 2 (cs.map xL)] ⟨.v (.bool (aAN cs)), []⟩ := by
 have hn' := hn
 unfold maxLen at hn'
 unfold aAN
 by_cases hin : (1 : Int) ≤ (cs.length : Int) ∧ (cs.length : Int) ≤ 60
 case neg =>
  have : decide (1 ≤ cs.length ∧ cs.length ≤ 60) = false := by simp; omega
  rw [this, Bool.false_and]
  refine qrf Try.func65 Try.ntmps65 Try.results65 ?_; conv => whnf
  repeat ((first | refine qz ?_ | refine qc (qI hin) ?_); conv => whnf)
  exact xA rfl trivial
 have : decide (1 ≤ cs.length ∧ cs.length ≤ 60) = true := by simp; omega
 rw [this, Bool.true_and]
 refine qrf Try.func65 Try.ntmps65 Try.results65 ?_; conv => whnf
 repeat ((first | refine qz ?_ | refine qc (uS hin.1 hin.2) ?_); conv => whnf)
 refine xu (ι := { k : Nat // k ≤ cs.length ∧ vQ k (cs.drop k) = vQ 0 cs }) (fun k => ⟨[(0, .lst 2 (cs.map xL)), (3, .v (.int .i64 (k.1 : Int)))], []⟩) (fun k => cs.length - k.1) ⟨0, Nat.zero_le _, rfl⟩ (by exact qle) ?_
 rintro ⟨k, hk', hd⟩
 dsimp only at hk' hd ⊢
 conv => whnf
 by_cases hlt : k < cs.length
 case neg =>
  rw [← hd, List.drop_eq_nil_of_le (by omega)]
  repeat ((refine qz ?_; conv => whnf))
  exact xA rfl trivial
 obtain ⟨q1, q2, q3⟩ := hc _ (List.getElem_mem hlt)
 rw [aBt hlt] at hd
 have hl : (cs.take k).length = k := by simp; omega
 have hac := aEG (pre := cs.take k) (c := cs[k]) (by omega) q1 q2 q3
 rw [hl] at hac
 cases hb : jO k cs[k] with
 | false =>
  rw [hb, Bool.false_and] at hd
  rw [hb] at hac
  rw [← hd]
  repeat ((refine qz ?_; conv => whnf))
  refine .inl ⟨by kernel_rfl, ?_⟩
  conv => whnf
  repeat ((first | refine qz ?_ | refine qc (hac) ?_ | refine qp (vg (h := k) (xs := cs) (f := xL) (by omega) rfl rfl rfl) ?_); conv => whnf)
  exact xA rfl trivial
 | true =>
  rw [hb, Bool.true_and] at hd
  rw [hb] at hac
  repeat ((refine qz ?_; conv => whnf))
  refine .inl ⟨by kernel_rfl, ?_⟩
  conv => whnf
  repeat ((first | refine qz ?_ | refine qc (hac) ?_ | refine qp (vg (h := k) (xs := cs) (f := xL) (by omega) rfl rfl rfl) ?_); conv => whnf)
  exact ⟨⟨k + 1, hlt, hd⟩, by exact qle, by simp; omega⟩
end Go.Proofs.Ytdhjchdbgognbaa.AM
namespace Go.Proofs.Ytdhjchdbgognbaa.AM
open Go Go.RowKit
def jV : List Int → Int → Nat → Int
 | [], _, _ => -1
 | y :: l, x, k => if x = y then k else jV l x (k + 1)
theorem aEY : ∀ {l : List Int} {x : Int} {k : Nat}, x ∈ l → 0 ≤ jV l x k
 | y :: l, x, k, h => by
  unfold jV
  split
  · omega
  · rename_i hne
    rcases List.mem_cons.1 h with e | e
    · exact absurd e hne
    · exact aEY e
theorem aEZ : ∀ {l : List Int} {x : Int} {k : Nat}, x ∉ l → jV l x k = -1
 | [], x, k, h => rfl
 | y :: l, x, k, h => by
  unfold jV
  rw [List.mem_cons, not_or] at h
  rw [if_neg h.1]; exact aEZ h.2
theorem aH6 {l : List Int} {x : Int} {k : Nat} (h : k < l.length) : jV (l.drop k) x k = if x = l[k] then (k : Int) else jV (l.drop (k + 1)) x (k + 1) := by
 rw [List.drop_eq_getElem_cons h, jV]
attribute [local irreducible] xO xU yD zA zJ Pre ACG
theorem aEF {l : List Int} {x : Int} (hm : l.length ≤ maxLen) : AC Try.prog 121 [.lst 1 (l.map yC), .v (.int .i64 x)] ⟨.v (.int .i64 (jV l x 0)), []⟩ := by
 unfold maxLen at hm
 refine qrf Try.func121 Try.ntmps121 Try.results121 ?_; conv => whnf
 repeat ((refine qz ?_; conv => whnf))
 refine xu (ι := { k : Nat // k ≤ l.length ∧ jV (l.drop k) x k = jV l x 0 }) (fun k => ⟨[(0, .lst 1 (l.map yC)), (1, .v (.int .i64 x)), (7, .v (.int .i64 (l.length : Int))), (8, .v (.int .i64 (k.1 : Int)))], []⟩) (fun k => l.length - k.1) ⟨0, Nat.zero_le _, rfl⟩ (by exact qle) ?_
 rintro ⟨k, hk, hd⟩
 dsimp only at hk hd ⊢
 conv => whnf
 by_cases hlt : k < l.length
 · rw [aH6 hlt] at hd
   by_cases he : x = l[k]
   · rw [if_pos he] at hd
     rw [← hd]
     repeat ((refine qz ?_; conv => whnf))
     exact xA rfl trivial
   · rw [if_neg he] at hd
     repeat ((refine qz ?_; conv => whnf))
     exact ⟨⟨k + 1, hlt, hd⟩, by exact qle, by simp; omega⟩
 · rw [← hd, List.drop_eq_nil_of_le (by omega)]
   repeat ((refine qz ?_; conv => whnf))
   exact xA rfl trivial
theorem aDe {l : List Int} {x : Int} (hm : l.length ≤ maxLen) (h : x ∈ l) : AC Try.prog 120 [.lst 1 (l.map yC), .v (.int .i64 x)] ⟨.v (.bool true), []⟩ := by
 have hge := aEY (k := 0) h
 refine qrf Try.func120 Try.ntmps120 Try.results120 ?_; conv => whnf
 repeat ((first | refine qz ?_ | refine qc (aEF hm) ?_); conv => whnf)
 exact xA rfl trivial
theorem aDd {l : List Int} {x : Int} (hm : l.length ≤ maxLen) (h : x ∉ l) : AC Try.prog 120 [.lst 1 (l.map yC), .v (.int .i64 x)] ⟨.v (.bool false), []⟩ := by
 have hge := aEZ (k := 0) h
 have hac := aEF (x := x) hm
 rw [hge] at hac
 refine qrf Try.func120 Try.ntmps120 Try.results120 ?_; conv => whnf
 repeat ((first | refine qz ?_ | refine qc (hac) ?_); conv => whnf)
 exact xA rfl trivial
theorem aEK {n : Nat} {ps : List Int} (hn : n ≤ 1048576) (hm : ps.length ≤ maxLen) : AC Try.prog 119 [.lst 1 (ps.map yC), .v (.int .i64 ((n : Int) + 1))] ⟨.v (.bool (jZ n ps)), []⟩ := by
 have hm' := hm
 unfold maxLen at hm'
 by_cases h2 : ps.length ≤ 2
 case neg =>
  rw [qQ (fun h => h2 h.1)]
  refine qrf Try.func119 Try.ntmps119 Try.results119 ?_; conv => whnf
  by_cases h5 : n = 0
  · repeat ((refine qz ?_; conv => whnf))
    exact xA rfl trivial
  · repeat ((refine qz ?_; conv => whnf))
    exact xA rfl trivial
 by_cases h3 : ps.length = 0 ↔ n = 0
 case neg =>
  rw [qQ (fun h => h3 h.2.1)]
  by_cases h4 : ps.length = 0
  · have h5 : ¬ n = 0 := fun e => h3 ⟨fun _ => e, fun _ => h4⟩
    refine qrf Try.func119 Try.ntmps119 Try.results119 ?_; conv => whnf
    repeat ((first | refine qz ?_ | refine qp (xR (wN Try.underlying4) rfl rfl rfl) ?_); conv => whnf)
    exact xA rfl trivial
  · have h5 : n = 0 := Classical.byContradiction fun e => h3 ⟨fun q => absurd q h4, fun q => absurd q e⟩
    refine qrf Try.func119 Try.ntmps119 Try.results119 ?_; conv => whnf
    repeat ((first | refine qz ?_ | refine qp (xR (wN Try.underlying4) rfl rfl rfl) ?_); conv => whnf)
    exact xA rfl trivial
 have fin : ∀ k, k ≤ ps.length → ¬ k < ps.length → (∀ i, i < k → aBg n ps i) → jZ n ps = true := fun k h1 h2' h3' => aHm ⟨h2, h3, fun i hi => h3' i (by omega)⟩
 have bad : ∀ k, k < ps.length → ¬ aBg n ps k → jZ n ps = false := fun k h1 h2' => qQ (fun h => h2' (h.2.2 k h1))
 have loop : ∀ (s : St), s.le ⟨[(0, .lst 1 (ps.map yC)), (1, .v (.int .i64 ((n : Int) + 1))), (20, .lst 1 (ps.map yC)), (21, .v (.int .i64 (ps.length : Int))), (22, .v (.int .i64 0))], []⟩ → True := fun _ _ => trivial
 by_cases h4 : ps.length = 0
 · have h5 : n = 0 := h3.1 h4
   rw [fin 0 (by omega) (by omega) (fun i h => by omega)]
   refine qrf Try.func119 Try.ntmps119 Try.results119 ?_; conv => whnf
   repeat ((first | refine qz ?_ | refine qp (xR (wN Try.underlying4) rfl rfl rfl) ?_); conv => whnf)
   refine xu (ι := Unit) (fun _ => ⟨[(21, .v (.int .i64 (ps.length : Int))), (22, .v (.int .i64 0))], []⟩) (fun _ => 0) () ⟨trivial, .inl ⟨rfl, rfl⟩, .inl ⟨rfl, rfl⟩, trivial⟩ ?_
   rintro ⟨⟩
   conv => whnf
   repeat ((refine qz ?_; conv => whnf))
   exact xA rfl trivial
 · have h5 : ¬ n = 0 := fun e => h4 (h3.2 e)
   refine qrf Try.func119 Try.ntmps119 Try.results119 ?_; conv => whnf
   repeat ((first | refine qz ?_ | refine qp (xR (wN Try.underlying4) rfl rfl rfl) ?_); conv => whnf)
   refine xu (ι := { k : Nat // k ≤ ps.length ∧ ∀ i, i < k → aBg n ps i }) (fun k => ⟨[(0, .lst 1 (ps.map yC)), (1, .v (.int .i64 ((n : Int) + 1))), (20, .lst 1 (ps.map yC)), (21, .v (.int .i64 (ps.length : Int))), (22, .v (.int .i64 (k.1 : Int)))], []⟩) (fun k => ps.length - k.1) ⟨0, Nat.zero_le _, fun i h => by omega⟩ (by exact qle) ?_
   rintro ⟨k, hk', hg⟩
   dsimp only at hk' hg ⊢
   conv => whnf
   by_cases hlt : k < ps.length
   case neg =>
    rw [fin k hk' hlt hg]
    repeat ((refine qz ?_; conv => whnf))
    exact xA rfl trivial
   have hl : (ps.take k).length ≤ maxLen := by unfold maxLen; simp; omega
   by_cases h1 : ps[k] < 1
   · rw [bad k hlt (fun ⟨_, q1, q2, _⟩ => by omega)]
     repeat ((refine qz ?_; conv => whnf))
     exact xA rfl trivial
   by_cases h6 : ps[k] ≥ (n : Int) + 1
   · rw [bad k hlt (fun ⟨_, q1, q2, _⟩ => by omega)]
     repeat ((refine qz ?_; conv => whnf))
     exact xA rfl trivial
   by_cases h7 : ps[k] ∈ ps.take k
   · rw [bad k hlt (fun ⟨_, _, _, q⟩ => q h7)]
     repeat ((first | refine qz ?_ | refine qp (vg (h := k) (xs := ps) (f := yC) (by omega) rfl rfl rfl) ?_ | refine qc (aDe hl h7) ?_); conv => whnf)
     exact xA rfl trivial
   · repeat ((first | refine qz ?_ | refine qp (vg (h := k) (xs := ps) (f := yC) (by omega) rfl rfl rfl) ?_ | refine qc (aDd hl h7) ?_); conv => whnf)
     exact ⟨⟨k + 1, hlt, fun i hi => by
      rcases Nat.lt_or_ge i k with h | h
      · exact hg i h
      · have : i = k := by omega
        subst this; exact ⟨hlt, by omega, by omega, h7⟩⟩, by exact qle, by simp; omega⟩
theorem aFQ {n : Nat} {c : Cmt} (hn : n ≤ 1048576) (hm : c.1.length ≤ maxLen) (hm2 : c.2.length ≤ maxLen) (hk : ∀ e ∈ c.2, e.1.size ≤ maxLen) : AC Try.prog 113 [xL c, .v (.int .i64 ((n : Int) + 1))] ⟨.v (.bool (jO n c)), []⟩ := by
 have hp := aEK (ps := c.1) hn hm
 unfold jO
 cases hb : jZ n c.1 with
 | false =>
  rw [hb] at hp
  rw [Bool.and_false]
  refine qrf Try.func113 Try.ntmps113 Try.results113 ?_; conv => whnf
  repeat ((first | refine qz ?_ | refine qc (hp) ?_); conv => whnf)
  exact xA rfl trivial
 | true =>
  rw [hb] at hp
  rw [Bool.and_true]
  refine qrf Try.func113 Try.ntmps113 Try.results113 ?_; conv => whnf
  repeat ((first | refine qz ?_ | refine qc (hp) ?_ | refine qc (aAU hm2 hk) ?_); conv => whnf)
  exact xA rfl trivial
theorem aEB {cs : List Cmt} (hn : cs.length ≤ maxLen) (hc : ∀ c ∈ cs, c.1.length ≤ maxLen ∧ c.2.length ≤ maxLen ∧ ∀ e ∈ c.2, e.1.size ≤ maxLen) : AC Try.prog 99 [.lst 2 (cs.map xL)] ⟨.v (.bool (decide (cs.length ≤ 60) && vQ 0 cs)), []⟩ := by
 have hn' := hn
 unfold maxLen at hn'
 by_cases hin : cs.length ≤ 60
 case neg =>
  have : decide (cs.length ≤ 60) = false := by simpa using hin
  rw [this, Bool.false_and]
  refine qrf Try.func99 Try.ntmps99 Try.results99 ?_; conv => whnf
  repeat ((refine qz ?_; conv => whnf))
  exact xA rfl trivial
 have : decide (cs.length ≤ 60) = true := by simpa using hin
 rw [this, Bool.true_and]
 refine qrf Try.func99 Try.ntmps99 Try.results99 ?_; conv => whnf
 repeat ((refine qz ?_; conv => whnf))
 refine xu (ι := { k : Nat // k ≤ cs.length ∧ vQ k (cs.drop k) = vQ 0 cs }) (fun k => ⟨[(8, .lst 2 (cs.map xL)), (9, .v (.int .i64 (cs.length : Int))), (10, .v (.int .i64 (k.1 : Int)))], []⟩) (fun k => cs.length - k.1) ⟨0, Nat.zero_le _, rfl⟩ (by exact qle) ?_
 rintro ⟨k, hk', hd⟩
 dsimp only at hk' hd ⊢
 conv => whnf
 by_cases hlt : k < cs.length
 case neg =>
  rw [← hd, List.drop_eq_nil_of_le (by omega)]
  repeat ((refine qz ?_; conv => whnf))
  exact xA rfl trivial
 obtain ⟨q1, q2, q3⟩ := hc _ (List.getElem_mem hlt)
 rw [aBt hlt] at hd
 have hac := aFQ (n := k) (c := cs[k]) (by omega) q1 q2 q3
 cases hb : jO k cs[k] with
 | false =>
  rw [hb, Bool.false_and] at hd
  rw [hb] at hac
  rw [← hd]
  repeat (first | (refine qz ?_; conv => whnf) | (refine qc (hac) ?_; conv => whnf) | (refine qr (yQ rfl rfl rfl rfl rfl (by conv => lhs; whnf) rfl) ?_; conv => whnf))
  exact xA rfl trivial
 | true =>
  rw [hb, Bool.true_and] at hd
  rw [hb] at hac
  repeat (first | (refine qz ?_; conv => whnf) | (refine qc (hac) ?_; conv => whnf) | (refine qr (yQ rfl rfl rfl rfl rfl (by conv => lhs; whnf) rfl) ?_; conv => whnf))
  exact ⟨⟨k + 1, hlt, hd⟩, by exact qle, by simp; omega⟩
theorem aFU {cs : List Cmt} (hn : cs.length ≤ maxLen) (hc : ∀ c ∈ cs, c.1.length ≤ maxLen ∧ c.2.length ≤ maxLen ∧ ∀ e ∈ c.2, e.1.size ≤ maxLen) : AC Try.prog 70 [.lst 2 (cs.map xL)] ⟨.v (.bool (aAN cs)), []⟩ := by
 have hn' := hn
 unfold maxLen at hn'
 unfold aAN
 by_cases h0 : 1 ≤ cs.length
 · have : decide (1 ≤ cs.length ∧ cs.length ≤ 60) = decide (cs.length ≤ 60) := by simp [h0]
   rw [this]
   refine qrf Try.func70 Try.ntmps70 Try.results70 ?_; conv => whnf
   repeat ((first | refine qz ?_ | refine qc (aEB hn hc) ?_); conv => whnf)
   exact xA rfl trivial
 · have : decide (1 ≤ cs.length ∧ cs.length ≤ 60) = false := by simp [h0]
   rw [this, Bool.false_and]
   refine qrf Try.func70 Try.ntmps70 Try.results70 ?_; conv => whnf
   repeat ((refine qz ?_; conv => whnf))
   exact xA rfl trivial
end Go.Proofs.Ytdhjchdbgognbaa.AM
namespace Go.Proofs.Ytdhjchdbgognbaa
open Go.RowKit Go.ChangeShapes Go.WideShapes Go.Deep
theorem aCm : ownKnob Try.prog.godebug = none := by kernel_rfl
theorem yt : laidOutB Try.prog = true := by kernel_rfl
theorem aAX (a : Addr) : a.add 0 = a := by unfold Addr.add; simp
theorem aAi {w : World} {a : Addr} {v : Value} (h : w.cell? a = some v) : a.spot = none := by
 unfold World.cell? at h
 cases hs : a.spot with
 | none => rfl
 | some x => simp [hs] at h; split at h <;> simp at h
section
variable {H : Type} {enc : TypeId × Value → H} {P : Program} {w : World} {base : Nat} {spare : Nat → Bool} {held : Bool}
theorem aBJ {t e : TypeId} {fs : Array Field} {fuel : Nat} {cs : List Value} {x : DataW H × List MemPlace} (ht : P.underlying t = some (.slice e)) (he : P.underlying e = some (.struct fs))
 (hone : oneCellFields P fs = true) (hC : P.cellsOf e = fs.size) (h : DataW.trod enc P w base spare held fuel t cs = some x) :
 (cs = [.slice none 0 0] ∧ x = (.nil, [])) ∨
 ∃ (a : Addr) (len cap m : Nat) (D : Nat → DataW H) (Pl : Nat → List MemPlace), cs = [.slice (some a) len cap] ∧ base ≤ a.block ∧ len ≤ cap ∧ cap ≤ maxLen ∧ m = (if spare a.block then cap else len) ∧
  x = (.slice ((List.range len).map D) ((List.range (m - len)).map fun j => D (len + j)), MemPlace.row a (m * fs.size) ++ (List.range m).flatMap Pl) ∧
  ∀ i, i < m → ∃ (ys : List (DataW H × List MemPlace)) (n : Nat), D i = .agg (ys.map (·.1)) ∧ Pl i = ys.flatMap (·.2) ∧ ys.length = fs.size ∧
   ∀ (j : Nat) (f : Field), fs[j]? = some f → ∃ (v : Value) (y : DataW H × List MemPlace), w.cell? (a.add (i * fs.size + j)) = some v ∧ ys[j]? = some y ∧ DataW.trod enc P w base spare held n f.type [v] = some y := by
 rcases open_slice ht h with h0 | ⟨a, len, cap, m, n, D, Pl, hcs, hb, hl, hm, hmm, hx, hi⟩
 · exact .inl h0
 · refine .inr ⟨a, len, cap, m, D, Pl, hcs, hb, hl, hm, hmm, by rw [hC] at hx; exact hx, fun i him => ?_⟩
   obtain ⟨cs', hc, ht'⟩ := hi i him
   rw [hC] at hc
   obtain ⟨ys, n', hn', hy, hlen, hyl, hf⟩ := DataW.trod_struct he ht'
   obtain ⟨_, hcl, hat⟩ := World.cells?_some hc
   simp only [Prod.mk.injEq] at hy
   refine ⟨ys, n', hy.1, hy.2, hyl, fun j f hj => ?_⟩
   obtain ⟨ho, hk⟩ := hone_of hone j f hj
   have hjl : j < fs.size := (Array.getElem?_eq_some_iff.1 hj).1
   have hcell := hat j hjl
   have hv : cs'[j]? = some (cs'[j]'(by omega)) := List.getElem?_eq_getElem (by omega)
   have h1 := hf j f hj
   rw [ho, hk] at h1
   have hone' : (cs'.drop j).take 1 = [cs'[j]'(by omega)] := by
    rw [List.drop_eq_getElem_cons (by omega)]
    rfl
   rw [hone'] at h1
   have hys : ys[j]? = some (ys[j]'(by omega)) := List.getElem?_eq_getElem (by omega)
   refine ⟨_, _, ?_, hys, h1.trans hys⟩
   rw [← Go.Deep.add_add, hcell, hv]
theorem qE {t e : TypeId} {fs : Array Field} {A : Option Addr} {n c : Nat} {d : DataW H} {p : List MemPlace} (ht : P.underlying t = some (.slice e)) (he : P.underlying e = some (.struct fs))
 (hone : oneCellFields P fs = true) (hC : P.cellsOf e = fs.size) (h0 : 0 < fs.size) (h : DataW.Trod enc P w base (fun _ => true) held t (.slice A n c) d p) :
 n ≤ maxLen ∧ (0 < n → ∃ b off, A = some ⟨b, off, none⟩ ∧ b < w.heap.size ∧ ∀ i, i < n → ∃ k, ∀ (j : Nat) (f : Field), fs[j]? = some f → ∃ (v : Value) (y : DataW H × List MemPlace), w.cell? ⟨b, off + (i * fs.size + j), none⟩ = some v ∧ DataW.trod enc P w base (fun _ => true) held k f.type [v] = some y) := by
 obtain ⟨fuel, hf⟩ := h
 rcases aBJ ht he hone hC hf with ⟨hcs, _⟩ | ⟨a, len, cap, m, D, Pl, hcs, _, hl, hm, hmm, _, hi⟩
 · simp [Value.cells] at hcs
   obtain ⟨rfl, rfl, rfl⟩ := hcs
   exact ⟨Nat.zero_le _, fun h => absurd h (by omega)⟩
 · simp [Value.cells] at hcs
   obtain ⟨rfl, rfl, rfl⟩ := hcs
   simp at hmm
   subst hmm
   refine ⟨Nat.le_trans hl hm, fun hn => ?_⟩
   have hz := hi 0 (by omega)
   obtain ⟨_, _, _, _, _, hz⟩ := hz
   obtain ⟨v, y, hcell, _⟩ := hz 0 (fs[0]) (by simp [h0])
   rw [Nat.zero_mul, Nat.zero_add, aAX] at hcell
   have hsp := aAi hcell
   obtain ⟨b, off, sp⟩ := a
   simp at hsp
   subst hsp
   have hadd : ∀ j, (⟨b, off, none⟩ : Addr).add j = ⟨b, off + j, none⟩ := fun j => by unfold Addr.add; split <;> simp_all
   refine ⟨b, off, rfl, ?_, fun i hin => ?_⟩
   · exact World.block_lt_of_cell? w _ hcell
   · obtain ⟨ys, k, _, _, _, hj⟩ := hi i (by omega)
     refine ⟨k, fun j f hf => ?_⟩
     obtain ⟨v, y, hcell, _, hty⟩ := hj j f hf
     rw [hadd] at hcell
     exact ⟨v, y, hcell, hty⟩
end
theorem aAw {α : Type} (n : Nat) (Q : Nat → α → Prop) (h : ∀ i, i < n → ∃ a, Q i a) : ∃ l : List α, l.length = n ∧ ∀ i (hi : i < l.length), Q i l[i] := by
 induction n with
 | zero => exact ⟨[], rfl, fun i hi => absurd hi (by simp)⟩
 | succ n ih =>
  obtain ⟨l, hl, hq⟩ := ih fun i hi => h i (by omega)
  obtain ⟨a, ha⟩ := h n (by omega)
  refine ⟨l ++ [a], by simp [hl], fun i hi => ?_⟩
  rw [List.length_append, List.length_singleton] at hi
  rcases Nat.lt_or_ge i l.length with hlt | hge
  · rw [List.getElem_append_left hlt]; exact hq i hlt
  · have : i = l.length := by omega
    subst this
    rw [List.getElem_append_right (Nat.le_refl _)]
    simp only [Nat.sub_self, List.getElem_cons_zero]
    rw [hl]; exact ha
section
variable {H : Type} {enc : TypeId × Value → H} {P : Program} {w : World} {base : Nat} {held : Bool}
theorem aHi {t e : TypeId} {f0 f1 : Field} {A : Option Addr} {n c : Nat} {d : DataW H} {p : List MemPlace} (ht : P.underlying t = some (.slice e)) (he : P.underlying e = some (.struct #[f0, f1]))
 (hone : oneCellFields P #[f0, f1] = true) (hC : P.cellsOf e = 2) (h0 : P.underlying f0.type = some .string) (h1 : P.underlying f1.type = some (.int .i64)) (h : DataW.Trod enc P w base (fun _ => true) held t (.slice A n c) d p) :
 ∃ es : List Ent, Rd w 2 A n (xJ es) ∧ n ≤ maxLen ∧ ∀ e ∈ es, e.1.size ≤ maxLen := by
 obtain ⟨hn, hf⟩ := qE ht he hone hC (by simp) h
 rcases Nat.eq_zero_or_pos n with h | hpos
 · subst h
   exact ⟨[], ⟨by simp [xJ], fun h => absurd h (by omega)⟩, hn, by simp⟩
 obtain ⟨b, off, rfl, hlt, hi⟩ := hf hpos
 obtain ⟨es, hl, hes⟩ := aAw (α := Ent) n (fun i x => w.cell? ⟨b, off + (i * 2 + 0), none⟩ = some (.string x.1) ∧ w.cell? ⟨b, off + (i * 2 + 1), none⟩ = some (.int .i64 x.2) ∧ x.1.size ≤ maxLen) (fun i hin => by
  obtain ⟨k, hk⟩ := hi i hin
  obtain ⟨v0, y0, c0, t0⟩ := hk 0 f0 rfl
  obtain ⟨v1, y1, c1, t1⟩ := hk 1 f1 rfl
  obtain ⟨s, hs, _, hsz⟩ := DataW.trod_string h0 t0
  obtain ⟨x, hx, _, _⟩ := DataW.trod_int h1 t1
  simp at hs hx
  subst hs; subst hx
  exact ⟨(s, x), c0, c1, hsz⟩)
 refine ⟨es, ⟨by rw [vF, hl], fun _ => ⟨b, off, rfl, hlt, fun j u hj => ?_⟩⟩, hn, fun e he => ?_⟩
 · have hjl : j < es.length * 2 := by
    rcases Nat.lt_or_ge j (es.length * 2) with h | h
    · exact h
    · rw [List.getElem?_eq_none (by rw [vF]; exact h)] at hj; cases hj
   have hq : j / 2 < es.length := by omega
   obtain ⟨a0, a1, _⟩ := hes (j / 2) hq
   have hm : j = j / 2 * 2 + j % 2 := by omega
   rcases Nat.mod_two_eq_zero_or_one j with h2 | h2
   · rw [h2] at hm
     rw [Nat.add_zero] at hm
     rw [hm, aDG es _ hq] at hj
     simp at hj
     rw [Nat.add_zero] at a0
     rw [hm, ← hj]; exact a0
   · rw [h2] at hm
     rw [hm, aDI es _ hq] at hj
     simp at hj
     rw [hm, ← hj]; exact a1
 · obtain ⟨i, hi', rfl⟩ := List.getElem_of_mem he
   exact (hes i hi').2.2
end
end Go.Proofs.Ytdhjchdbgognbaa
namespace Go.Proofs.Ytdhjchdbgognbaa.AM
open Go Go.RowKit Go.ChangeShapes Go.WideShapes Go.Deep
section
variable {H : Type} {enc : TypeId × Value → H} {P : Program} {w : World} {base : Nat} {spare : Nat → Bool} {held : Bool}
theorem aBe {t e : TypeId} {A : Option Addr} {n c : Nat} {d : DataW H} {p : List MemPlace} (ht : P.underlying t = some (.slice e)) (h : DataW.Trod enc P w base spare held t (.slice A n c) d p) : n ≤ c ∧ c ≤ maxLen := by
 obtain ⟨fuel, hf⟩ := h
 rcases open_slice ht hf with ⟨hcs, _⟩ | ⟨a, len, cap, m, n', D, Pl, hcs, hb, hl, hm, _⟩
 · simp [Value.cells] at hcs; obtain ⟨rfl, rfl, rfl⟩ := hcs; exact ⟨Nat.le_refl _, Nat.zero_le _⟩
 · simp [Value.cells] at hcs; obtain ⟨rfl, rfl, rfl⟩ := hcs; exact ⟨hl, hm⟩
end
section
variable {w : World} {hp : Nat → Option OB} {B : Nat → Nat} {V : Nat → Value}
def InW (w : World) : Nat → Prop := fun b => b < w.heap.size
theorem aKq {sz : Nat} {A : Option Addr} {n : Nat} {xs : List Value} (h : Rd w sz A n xs) (hn : 0 < n) : ∃ b off, A = some ⟨b, off, none⟩ ∧ InW w b ∧ ∀ j u, xs[j]? = some u → w.cell? ⟨b, off + j, none⟩ = some u := by
 obtain ⟨b, off, h1, h2, h3⟩ := h.2 hn
 exact ⟨b, off, h1, h2, h3⟩
theorem aJ7 {A : Option Addr} {n c : Nat} {es : List Ent} (hc : n ≤ c ∧ c ≤ maxLen) (h : Rd w 2 A n (xJ es)) : RV (InW w) w hp B V (.lst 2 (es.map xD)) (.slice A n c) := by
 have hl := h.len
 unfold RV; unfold RA
 refine ⟨A, c, by rw [List.length_map, hl], by rw [List.length_map, hl]; exact hc.1, hc.2, aAo _, by omega, ?_⟩
 rcases Nat.eq_zero_or_pos n with h0 | h0
 · exact .inl (by rw [List.map_eq_nil_iff]; exact List.eq_nil_of_length_eq_zero (by omega))
 · obtain ⟨b, off, h1, h2, h3⟩ := aKq h h0
   exact .inr ⟨b, off, xJ es, h1, h2, kF.2 rfl, h3⟩
theorem rv_one {x : Value} (h : x.oneCell' = true) : RV (InW w) w hp B V (.v x) x := by unfold RV; exact ⟨rfl, h⟩
theorem rvs_nil : RVs (InW w) w hp B V [] [] := by unfold RVs; rfl
theorem rvs_cons {x : AV} {xs : List AV} {u : Value} {us : List Value} (h : RV (InW w) w hp B V x u) (r : RVs (InW w) w hp B V xs us) : RVs (InW w) w hp B V (x :: xs) (u :: us) := by
 unfold RVs; exact ⟨u, us, rfl, h, r⟩
theorem law_calls {P : Program} {f : FuncId} {args : List AV} {vs : List Value} {r : Value} (h : AC P f args ⟨.v r, []⟩) (hv : RVs (InW w) w (fun _ => none) (fun _ => 0) (fun _ => undef) args vs) (hG : ∀ g y, GT g = some y → RA (InW w) w (.ptr y) [.pointer (some ⟨g, 0, none⟩)] := by intro g y e; cases e) : Calls P f vs.toArray w fun e w' => e = .returned r ∧ Below w.heap.size w w' :=
 (h.2 w (InW w) (fun _ => 0) (fun _ => undef) (fun _ => Fa) vs (fun b hb => hb) hG (wL (fun _ => rfl)) (aAM (fun _ => rfl) hv)).mono fun e w' ⟨v, S, B, V, T, T1, h1, h2, _, _, h5, _⟩ => by
  unfold RV at h5
  exact ⟨by rw [h1, h5.1], h2.below (fun g ⟨l, ob, e, _⟩ => by cases e)⟩
end
end Go.Proofs.Ytdhjchdbgognbaa.AM
