/- Texts of the machine over data, folded. -/
import Derived.Test.YtodckioppgjbdaaDoorKb5
import Derived.Test.YtodckioppgjbdaaDoorKb6
import Derived.ProofKit
import Derived.OpenShut
import Derived.ShutString
import Derived.Laws.StructEq
import Derived.LaidMore
import Derived.LaidLaws
import Derived.Lay
import Derived.OpenVars
import Derived.ChangeOld
import Derived.ChangeArms
import Derived.FnData
import Derived.Below
set_option linter.unusedVariables false
set_option maxRecDepth 100000
set_option linter.unusedSimpArgs false
namespace Go.Proofs.YtodckioppgjbdaaDoor.AM
open Go Go.RowKit
def aAM (k : ByteArray) : AV := .v (.string k)
def aIV (x : Int) : AV := .v (.int .i64 x)
def uJ (e : Ent) : AV := .agg [.v (.string e.1), .v (.int .i64 e.2)]
def zu (e : Edt) : AV := .agg [.v (.string e.key), .v (.int .i64 e.val), .v (.bool e.gone)]
theorem yN {α : Type} {f : α → AV} (h : ∀ a, yA (f a)) : ∀ l : List α, yw (l.map f)
 | [] => by simp only [List.map_nil]; unfold yw; trivial
 | a :: l => by simp only [List.map_cons]; unfold yw; exact ⟨h a, yN h l⟩
theorem aHU : ∀ ob ∈ ([] : List OB), wR ob := fun ob h => by cases h
theorem aEb {t sz : Nat} {xs : List AV} (h : yw xs) : ∀ ob ∈ [(⟨.s t, sz, xs⟩ : OB)], wR ob := fun ob hm => by rw [List.mem_singleton] at hm; subst hm; exact h
theorem aHV {t sz t' sz' : Nat} {xs xs' : List AV} (h : yw xs) (h' : yw xs') : ∀ ob ∈ [(⟨.s t, sz, xs⟩ : OB), ⟨.s t', sz', xs'⟩], wR ob := fun ob hm => by
 rcases List.mem_cons.1 hm with rfl | hm
 · exact h
 · exact aEb h' ob hm
theorem aAt (e : Ent) : yA (uJ e) := by unfold uJ; simp [yA, yw]
theorem aAs (e : Edt) : yA (zu e) := by unfold zu; simp [yA, yw]
theorem aAx (e : ByteArray) : yA (aAM e) := by unfold aAM; simp [yA]
section
variable {S : Nat → Prop} {w : World}
theorem jo : ∀ {es : List Ent} {cs : List Value}, RL S w (es.map uJ) cs ↔ cs = xu es
 | [], cs => by simp only [List.map_nil]; unfold RL; simp [xu]
 | e :: es, cs => by
  simp only [List.map_cons]
  constructor
  · intro h
    unfold RL at h
    obtain ⟨c1, c2, rfl, h1, h2⟩ := h
    rw [jo.1 h2, uz]
    unfold uJ at h1
    simp only [RA, RL] at h1
    obtain ⟨a, b, rfl, ⟨rfl, _⟩, d1, d2, rfl, ⟨rfl, _⟩, rfl⟩ := h1
    rfl
  · intro h
    unfold RL
    refine ⟨[.string e.1, .int .i64 e.2], xu es, by rw [h, uz]; rfl, ?_, jo.2 rfl⟩
    exact aGN (jl (c1 := [_]) (aDp rfl) (jl (c1 := [_]) (aDp rfl) aGR))
theorem jm : ∀ {es : List Edt} {cs : List Value}, RL S w (es.map zu) cs ↔ cs = xk es
 | [], cs => by simp only [List.map_nil]; unfold RL; simp [xk]
 | e :: es, cs => by
  simp only [List.map_cons]
  constructor
  · intro h
    unfold RL at h
    obtain ⟨c1, c2, rfl, h1, h2⟩ := h
    rw [jm.1 h2, vk]
    unfold zu at h1
    simp only [RA, RL] at h1
    obtain ⟨a, b, rfl, ⟨rfl, _⟩, d1, d2, rfl, ⟨rfl, _⟩, f1, f2, rfl, ⟨rfl, _⟩, rfl⟩ := h1
    rfl
  · intro h
    unfold RL
    refine ⟨[.string e.key, .int .i64 e.val, .bool e.gone], xk es, by rw [h, vk]; rfl, ?_, jm.2 rfl⟩
    exact aGN (jl (c1 := [_]) (aDp rfl) (jl (c1 := [_]) (aDp rfl) (jl (c1 := [_]) (aDp rfl) aGR)))
theorem aE4 (es : List Ent) : ∀ x ∈ es.map uJ, asz x = 2 := fun x hx => by obtain ⟨e, _, rfl⟩ := List.mem_map.1 hx; rfl
theorem aE3 (es : List Edt) : ∀ x ∈ es.map zu, asz x = 3 := fun x hx => by obtain ⟨e, _, rfl⟩ := List.mem_map.1 hx; rfl
theorem kS {S0 : Nat → Prop} {hp B V} (hS : ∀ b, S0 b → b < w.heap.size) {es : List Ent} {u : Value} (h : RV S0 w hp B V (.lst 2 (es.map uJ)) u) : ∃ A c, u = .slice A es.length c ∧ es.length ≤ c ∧ c ≤ maxLen ∧ Rd w 2 A es.length (xu es) := by
 unfold RV at h
 unfold RA at h
 obtain ⟨A, c, e, h1, h2, _, _, h4⟩ := h
 simp only [List.cons.injEq, and_true, List.length_map] at e h1
 refine ⟨A, c, e, h1, h2, by rw [kX], fun hn => ?_⟩
 rcases h4 with h4 | ⟨b, off, us, rfl, hb, hr, hc⟩
 · have := List.map_eq_nil_iff.1 h4; subst this; simp at hn
 · rw [jo.1 hr] at hc
   exact ⟨b, off, rfl, hS b hb, hc⟩
theorem kR {S0 : Nat → Prop} {hp B V} (hS : ∀ b, S0 b → b < w.heap.size) {es : List Edt} {u : Value} (h : RV S0 w hp B V (.lst 3 (es.map zu)) u) : ∃ A c, u = .slice A es.length c ∧ es.length ≤ c ∧ c ≤ maxLen ∧ Rd w 3 A es.length (xk es) := by
 unfold RV at h
 unfold RA at h
 obtain ⟨A, c, e, h1, h2, _, _, h4⟩ := h
 simp only [List.cons.injEq, and_true, List.length_map] at e h1
 refine ⟨A, c, e, h1, h2, by rw [kW], fun hn => ?_⟩
 rcases h4 with h4 | ⟨b, off, us, rfl, hb, hr, hc⟩
 · have := List.map_eq_nil_iff.1 h4; subst this; simp at hn
 · rw [jm.1 hr] at hc
   exact ⟨b, off, rfl, hS b hb, hc⟩
theorem aCq {S0 : Nat → Prop} {hp B V} {x u : Value} (h : RV S0 w hp B V (.v x) u) : u = x := by unfold RV at h; exact h.1
theorem vI {S0 : Nat → Prop} {hp B V} {x : AV} {us : List Value} (h : RVs S0 w hp B V [x] us) : ∃ u, us = [u] ∧ RV S0 w hp B V x u := by
 unfold RVs at h; obtain ⟨u, us', rfl, h1, h2⟩ := h; unfold RVs at h2; subst h2; exact ⟨u, rfl, h1⟩
theorem aF7 {S0 : Nat → Prop} {hp B V} {x : AV} {xs : List AV} {us : List Value} (h : RVs S0 w hp B V (x :: xs) us) : ∃ u us', us = u :: us' ∧ RV S0 w hp B V x u ∧ RVs S0 w hp B V xs us' := by
 unfold RVs at h; exact h
end
section
variable {P : Program} {f : FuncId} {fn : Func} {args : List AV}
theorem zY (hf : P.funcs[f]? = some fn) (hnm : (fn.name == "runtime.NumGoroutine") = false) (hb : fn.body.isNone = false) : ∀ vs w, (callFunc f vs).run P w = .ok (.enter f vs) w := fun vs w => by
 simp only [callFunc, Sem.run_bind, run_program, Result.andThen_ok, hf, hnm, hb]; rfl
theorem jD {S : Nat → Prop} {w : World} {hp hp' : Nat → Option OB} {B B' : Nat → Nat} {V V' : Nat → Value} {xs : List AV} {vs : List Value} (hn : ∀ l, hp l = none) (h : RVs S w hp B V xs vs) : RVs S w hp' B' V' xs vs :=
 RVs.carry (fun _ h => h) (fun _ _ => rfl) _ _ (fun l _ ob e => by rw [hn] at e; cases e) h
theorem aGU {S : Nat → Prop} {w : World} {hp hp' : Nat → Option OB} {B B' : Nat → Nat} {V V' : Nat → Value} {xs : List AV} {vs : List Value} (hn : xg (fun _ => false) xs = true) (h : RVs S w hp B V xs vs) : RVs S w hp' B' V' xs vs :=
 RVs.carry (fun _ h => h) (fun _ _ => rfl) _ _ (fun l hl ob e => by have := zX _ hn hl; cases this) h
theorem zf {S : Nat → Prop} {w : World} {hp : Nat → Option OB} {B : Nat → Nat} {V : Nat → Value} {T : Nat → Nat → Prop} {lo : Nat → Prop} (hn : ∀ l, hp l = none) : Rows S w hp (fun _ => none) B V T lo :=
 ⟨fun l ob e => (by rw [hn] at e; cases e), fun l ob g e => (by rw [hn] at e; cases e), fun l ob g e => (by rw [hn] at e; cases e), fun l l' o1 o2 g e => (by rw [hn] at e; cases e), fun l es e => (by cases e)⟩
theorem vZ (l : Nat) : zO [] l = none := by simp [zO]
theorem aGn {w : World} {b t sz n : Nat} {v : Value} {cs : List Value} (h : w.ownsRow b t sz v n cs) : w.ownsRow 0 t sz v n cs := by
 refine ⟨h.1, ?_⟩
 rcases h.2 with k | ⟨g, cap, cur, e, hb, r⟩
 · exact .inl k
 · exact .inr ⟨g, cap, cur, e, Nat.zero_le _, r⟩
theorem aFs {a b : World} {M M' : Nat → Prop} (h : Grown a b M) (hs : ∀ g, M g → M' g) : Grown a b M' := ⟨h.os, h.tape, h.output, h.size, fun k hk hn => h.block k hk (fun e => hn (hs k e))⟩
theorem wU {r : Value} (hent : ∀ vs w, (callFunc f vs).run P w = .ok (.enter f vs) w) (h1 : r.oneCell' = true)
 (h : ∀ (w : World) (S0 : Nat → Prop) (vs : List Value), (∀ b, S0 b → b < w.heap.size) → RVs S0 w (fun _ => none) (fun _ => 0) (fun _ => undef) args vs → Calls P f vs.toArray w fun e w' => e = .returned r ∧ Below w.heap.size w w') : AC P f args ⟨.v r, []⟩ :=
 ⟨hent, fun w S0 B0 V0 T0 vs hS _ _ hv => (h w S0 vs hS (jD (fun _ => rfl) hv)).mono fun e w' ⟨he, hb⟩ => ⟨r, S0, fun _ => 0, fun _ => undef, fun _ => Fa, fun _ => Fa, he, Grown.of hb _, fun _ h => h, fun b hb' => ⟨Nat.lt_of_lt_of_le (hS b hb') hb.size, .inl hb'⟩, by unfold RV; exact ⟨rfl, h1⟩, zf vZ, zf (fun _ => rfl), fun l l' ob ob' g e => (by rw [vZ] at e; cases e)⟩⟩
theorem aGx {S : Nat → Prop} {w' : World} {base : Nat} {t sz : Nat} {xs : List AV} {v : Value} {cs : List Value} {lo : Nat → Prop} (hlo : ∀ g, base ≤ g → lo g) (hS : ∀ b, S b → b < base) (ho : w'.ownsRow base t sz v xs.length cs) (ha : ∀ x ∈ xs, asz x = sz) (h0 : 0 < sz) (hr : RL S w' xs cs) : Rows S w' (zO [⟨.s t, sz, xs⟩]) (fun _ => none) (fun _ => (v.ownBlock).getD 0) (fun _ => v) (fun _ => Fa) lo := by
 have h0' : ∀ l ob, zO [(⟨.s t, sz, xs⟩ : OB)] l = some ob → l = 0 ∧ ob = ⟨.s t, sz, xs⟩ := fun l ob e => by
  cases l with
  | zero => simp [zO] at e; exact ⟨rfl, e.symm⟩
  | succ l => simp [zO] at e
 refine ⟨fun l ob e => ?_, fun l ob g e hb => ?_, fun l ob g e _ hb => hb.elim, fun l l' o1 o2 g e1 e2 _ _ => ?_, fun l es e => by cases e⟩
 · obtain ⟨rfl, rfl⟩ := h0' l ob e
   exact ⟨t, cs, ⟨fun t' e => by cases e; rfl, trivial⟩, hr, ha, h0, aGn ho, fun g hg => by rw [hg]; rfl⟩
 · rcases hb with hb | hb
   · have := ho.lt g hb
     exact ⟨fun hs => by have := hS g hs; omega, this.2, hlo g this.1⟩
   · exact hb.elim
 · rw [(h0' l o1 e1).1, (h0' l' o2 e2).1]
theorem aFg {t sz : Nat} {xs xs' : List AV} {cs' : List Value} {v : Value} (hent : ∀ vs w, (callFunc f vs).run P w = .ok (.enter f vs) w) (ha : ∀ x ∈ xs', asz x = sz) (hr : ∀ S w, RL S w xs' cs') (hl : xs'.length = xs.length)
 (h : ∀ (w : World) (S0 : Nat → Prop) (V : Value) (cs : List Value) (vs : List Value), (∀ b, S0 b → b < w.heap.size) → RL S0 w xs cs → w.ownsRow 0 t sz V xs.length cs → RVs S0 w (fun _ => none) (fun _ => 0) (fun _ => undef) args vs →
  Calls P f (V :: vs).toArray w fun e w' => e = .returned v ∧ w'.ownsRow 0 t sz V xs.length cs' ∧ w.grownBy w' V.ownBlock) (h1 : v.oneCell' = true := by rfl) (hlb : xg (fun _ => false) args = true := by rfl) : ACM P f ⟨.s t, sz, xs⟩ xs' args v :=
 ⟨hent, fun w S0 B0 V0 T0 vs hS _ hro hv => by
  obtain ⟨t0, cs, r1, r2, r3, r4, r5, r6⟩ := hro.ro 0 _ rfl
  have := r1.1 t rfl
  subst this
  unfold RVs at hv
  obtain ⟨u, us, rfl, hu, hv⟩ := hv
  unfold RV at hu
  obtain ⟨_, rfl⟩ := hu
  have hrow : ∀ l (o : OB), xD 0 [(⟨.s t0, sz, xs'⟩ : OB)] l = some o → l = 0 ∧ o = ⟨.s t0, sz, xs'⟩ := fun l o e => by
   simp only [xD] at e
   by_cases h : l = 0
   · subst h; simp at e; exact ⟨rfl, e.symm⟩
   · rw [xP h] at e; cases e
  refine (h w S0 (V0 0) cs us hS r2 r5 (aGU hlb hv)).mono fun e w' ⟨he, ho, hg⟩ => ?_
  refine ⟨v, S0, fun _ => 0, fun _ => undef, fun _ => Fa, fun _ => Fa, he, aFs (Grown.by hg) (fun g e => ⟨0, _, rfl, .inl e⟩), fun _ h => h, fun b hb' => ⟨Nat.lt_of_lt_of_le (hS b hb') hg.size, .inl hb'⟩, by unfold RV; exact ⟨rfl, h1⟩, zf vZ, ⟨fun l o e => ?_, fun l o g e hb => ?_, fun l o g e _ hb => hb.elim, fun l l' o1 o2 g e1 e2 _ _ => ?_, fun l es e => by cases e⟩, fun l l' ob ob' g e => (by rw [vZ] at e; cases e)⟩
  · obtain ⟨rfl, rfl⟩ := hrow l o e
    exact ⟨t0, cs', ⟨fun t' e => by cases e; rfl, trivial⟩, hr _ _, ha, r4, by show w'.ownsRow 0 t0 sz (V0 0) xs'.length cs'; rw [hl]; exact ho, r6⟩
  · obtain ⟨rfl, rfl⟩ := hrow l o e
    rcases hb with hb | hb
    · obtain ⟨q1, q2, _⟩ := hro.me 0 _ g rfl (.inl hb)
      exact ⟨q1, Nat.lt_of_lt_of_le q2 hg.size, .inr ⟨0, _, rfl, .inl hb⟩⟩
    · exact hb.elim
  · rw [(hrow l o1 e1).1, (hrow l' o2 e2).1]⟩
end
theorem aIL : ∀ vs w, (callFunc 48 vs).run Tryd.prog w = .ok (.enter 48 vs) w := zY Tryd.func48 (by kernel_rfl) (by kernel_rfl)
theorem aIM : ∀ vs w, (callFunc 51 vs).run Tryd.prog w = .ok (.enter 51 vs) w := zY Tryd.func51 (by kernel_rfl) (by kernel_rfl)
theorem aIG : ∀ vs w, (callFunc 14 vs).run Tryd.prog w = .ok (.enter 14 vs) w := zY Tryd.func14 (by kernel_rfl) (by kernel_rfl)
theorem aIH : ∀ vs w, (callFunc 17 vs).run Tryd.prog w = .ok (.enter 17 vs) w := zY Tryd.func17 (by kernel_rfl) (by kernel_rfl)
theorem aII : ∀ vs w, (callFunc 18 vs).run Tryd.prog w = .ok (.enter 18 vs) w := zY Tryd.func18 (by kernel_rfl) (by kernel_rfl)
theorem aIJ : ∀ vs w, (callFunc 26 vs).run Tryd.prog w = .ok (.enter 26 vs) w := zY Tryd.func26 (by kernel_rfl) (by kernel_rfl)
theorem aIK : ∀ vs w, (callFunc 27 vs).run Tryd.prog w = .ok (.enter 27 vs) w := zY Tryd.func27 (by kernel_rfl) (by kernel_rfl)
theorem aG5 {es : List Ent} (hm : es.length ≤ maxLen) (hk : ∀ e ∈ es, e.1.size ≤ maxLen) : AC Tryd.prog 48 [.lst 2 (es.map uJ)] ⟨.v (.bool (yQ es)), []⟩ :=
 wU aIL rfl fun w S0 vs hS hv => by
  obtain ⟨u, rfl, h1⟩ := vI hv
  obtain ⟨A, c, rfl, _, _, hr⟩ := kS hS h1
  exact aFz A es.length c es w hr hm hk
theorem aDB {es : List Ent} (hm : es.length ≤ maxLen) (hk : ∀ e ∈ es, e.1.size ≤ maxLen) : AC Tryd.prog 51 [.lst 2 (es.map uJ)] ⟨.v (.bool (yQ es)), []⟩ :=
 wU aIM rfl fun w S0 vs hS hv => by
  obtain ⟨u, rfl, h1⟩ := vI hv
  obtain ⟨A, c, rfl, _, _, hr⟩ := kS hS h1
  exact aCk A es.length c es w hr hm hk
theorem qX {es : List Ent} {b : Bool} (hb : yQ es = b) (hm : es.length ≤ maxLen) (hk : ∀ e ∈ es, e.1.size ≤ maxLen) : AC Tryd.prog 51 [.lst 2 (es.map uJ)] ⟨.v (.bool b), []⟩ := hb ▸ aDB hm hk
theorem aEG {es es' : List Ent} (hm : es.length ≤ maxLen) (hm' : es'.length ≤ maxLen) : AC Tryd.prog 14 [.lst 2 (es.map uJ), .lst 2 (es'.map uJ)] ⟨.v (.bool (decide (es = es'))), []⟩ :=
 wU aIG rfl fun w S0 vs hS hv => by
  obtain ⟨u, us, rfl, h1, hv⟩ := aF7 hv
  obtain ⟨u', rfl, h2⟩ := vI hv
  obtain ⟨A, c, rfl, _, _, hr⟩ := kS hS h1
  obtain ⟨A', c', rfl, _, _, hr'⟩ := kS hS h2
  exact aDU A _ c es A' _ c' es' w hr hr' hm hm'
theorem aCb {n : Nat} {k : Int} (hm : n ≤ 1048600) (h0 : 0 ≤ k) (h1 : k ≤ 8388608) : AC Tryd.prog 18 [.lst 2 ((marked n k).map uJ), .v (.int .i64 k)] ⟨.v (.int .i64 (k + 2 * n)), []⟩ :=
 wU aII rfl fun w S0 vs hS hv => by
  obtain ⟨u, us, rfl, h1', hv⟩ := aF7 hv
  obtain ⟨u', rfl, h2⟩ := vI hv
  obtain ⟨A, c, rfl, _, _, hr⟩ := kS hS h1'
  rw [aCq h2]
  rw [vP] at hr ⊢
  exact aBs A n c k w hr hm h0 h1
theorem aCg {xs : List AV} {n : Nat} {k : Int} (hn : xs.length = n) (hm : n ≤ 1048600) (h0 : 0 ≤ k) (h1 : k ≤ 8388608) : ACM Tryd.prog 17 ⟨89, 2, xs⟩ ((marked n k).map uJ) [.v (.int .i64 k)] (.int .i64 (k + 2 * n)) :=
 aFg (cs' := xu (marked n k)) aIH (aE4 _) (fun S w => jo.2 rfl) (by rw [List.length_map, vP, hn]) fun w S0 V cs vs hS hr ho hv => by
  obtain ⟨u', rfl, h2⟩ := vI hv
  rw [aCq h2]
  simp only [hn] at ho ⊢
  exact aBt 0 n V cs k w ho hm h0 h1
theorem aEv {es : List Edt} (hm : es.length ≤ maxLen) : AC Tryd.prog 23 [.lst 3 (es.map zu), .lst 3 (es.map zu)] ⟨.v (.bool true), []⟩ :=
 wU (zY Tryd.func23 (by kernel_rfl) (by kernel_rfl)) rfl fun w S0 vs hS hv => by
  obtain ⟨u, us, rfl, h1, hv⟩ := aF7 hv
  obtain ⟨u', rfl, h2⟩ := vI hv
  obtain ⟨A, c, rfl, _, _, hr⟩ := kR hS h1
  obtain ⟨A', c', rfl, _, _, hr'⟩ := kR hS h2
  exact aEP A _ c es A' _ c' es w hr hr' hm hm rfl
theorem aDA {n : Nat} {k : Int} (hm : n ≤ 1048600) (h0 : 0 ≤ k) (h1 : k ≤ 8388608) : AC Tryd.prog 27 [.lst 3 ((y5 n k).map zu), .v (.int .i64 k)] ⟨.v (.int .i64 (k + 3 * n)), []⟩ :=
 wU aIK rfl fun w S0 vs hS hv => by
  obtain ⟨u, us, rfl, h1', hv⟩ := aF7 hv
  obtain ⟨u', rfl, h2⟩ := vI hv
  obtain ⟨A, c, rfl, _, _, hr⟩ := kR hS h1'
  rw [aCq h2]
  rw [vE] at hr ⊢
  exact aCj A n c k w hr hm h0 h1
theorem aDD {xs : List AV} {n : Nat} {k : Int} (hn : xs.length = n) (hm : n ≤ 1048600) (h0 : 0 ≤ k) (h1 : k ≤ 8388608) : ACM Tryd.prog 26 ⟨102, 3, xs⟩ ((y5 n k).map zu) [.v (.int .i64 k)] (.int .i64 (k + 3 * n)) :=
 aFg (cs' := xk (y5 n k)) aIJ (aE3 _) (fun S w => jm.2 rfl) (by rw [List.length_map, vE, hn]) fun w S0 V cs vs hS hr ho hv => by
  obtain ⟨u', rfl, h2⟩ := vI hv
  rw [aCq h2]
  simp only [hn] at ho ⊢
  exact aCn 0 n V cs k w ho hm h0 h1
end Go.Proofs.YtodckioppgjbdaaDoor.AM
namespace Go.Proofs.YtodckioppgjbdaaDoor
open Go.RowKit Go.ChangeShapes Go.WideShapes Go.Deep
theorem aIZ : ownKnob Tryd.prog.godebug = none := by kernel_rfl
theorem aD3 : laidOutB Tryd.prog = true := by kernel_rfl
section
variable {H : Type} {enc : TypeId × Value → H} {P : Program} {w : World} {base : Nat} {spare : Nat → Bool} {held : Bool}
end
section
variable {H : Type} {enc : TypeId × Value → H} {P : Program} {w : World} {base : Nat} {held : Bool}
end
end Go.Proofs.YtodckioppgjbdaaDoor
namespace Go.Proofs.YtodckioppgjbdaaDoor.AM
open Go Go.RowKit Go.ChangeShapes Go.WideShapes Go.Deep
section
variable {H : Type} {enc : TypeId × Value → H} {P : Program} {w : World} {base : Nat} {spare : Nat → Bool} {held : Bool}
end
section
variable {w : World} {hp : Nat → Option OB} {B : Nat → Nat} {V : Nat → Value}
def InW (w : World) : Nat → Prop := fun b => b < w.heap.size
theorem rv_one {x : Value} (h : x.oneCell' = true) : RV (InW w) w hp B V (.v x) x := by unfold RV; exact ⟨rfl, h⟩
theorem rvs_nil : RVs (InW w) w hp B V [] [] := by unfold RVs; rfl
theorem rvs_cons {x : AV} {xs : List AV} {u : Value} {us : List Value} (h : RV (InW w) w hp B V x u) (r : RVs (InW w) w hp B V xs us) : RVs (InW w) w hp B V (x :: xs) (u :: us) := by
 unfold RVs; exact ⟨u, us, rfl, h, r⟩
theorem law_calls {P : Program} {f : FuncId} {args : List AV} {vs : List Value} {r : Value} (h : AC P f args ⟨.v r, []⟩) (hv : RVs (InW w) w (fun _ => none) (fun _ => 0) (fun _ => undef) args vs) (hG : ∀ g y, GT g = some y → RG (InW w) w g y := by intro g y e; cases e) : Calls P f vs.toArray w fun e w' => e = .returned r ∧ Below w.heap.size w w' :=
 (h.2 w (InW w) (fun _ => 0) (fun _ => undef) (fun _ => Fa) vs (fun b hb => hb) hG (zf (fun _ => rfl)) (jD (fun _ => rfl) hv)).mono fun e w' ⟨v, S, B, V, T, T1, h1, h2, _, _, h5, _⟩ => by
  unfold RV at h5
  exact ⟨by rw [h1, h5.1], h2.below (fun g ⟨l, ob, e, _⟩ => by cases e)⟩
end
end Go.Proofs.YtodckioppgjbdaaDoor.AM
namespace Go.Proofs.YtodckioppgjbdaaDoor.AM
open Go Go.RowKit
attribute [local irreducible] xN xO xV yX yh Pre ACG
end Go.Proofs.YtodckioppgjbdaaDoor.AM
namespace Go.Proofs.YtodckioppgjbdaaDoor.AM
open Go Go.RowKit
section
variable {P : Program} {t : TypeId} {x y : Operand} {a b : ByteArray}
theorem aE8 (h : a = b) : zQ P .eql t x y (.string a) (.string b) (.bool true) := aHE fun w => by simp [Op.stringOp, h]
theorem aE7 (h : a ≠ b) : zQ P .eql t x y (.string a) (.string b) (.bool false) := aHE fun w => by simp [Op.stringOp, kJ, h]
end
attribute [local irreducible] xN xO xV yX yh Pre ACG
end Go.Proofs.YtodckioppgjbdaaDoor.AM
namespace Go.Proofs.YtodckioppgjbdaaDoor
open Go.RowKit
def aHk (e : TypeId) (r : List Edt × Int) (w : World) (e' : Ending) (w' : World) : Prop := ∃ v, e' = .returned (.tuple #[v, .int .i64 r.2]) ∧ w'.ownsRow w.heap.size e 3 v r.1.length (xk r.1) ∧ Below w.heap.size w w'
theorem aHk.mk {e : TypeId} {r : List Edt × Int} {l : List Edt} {c : Int} {v : Value} {w w' : World} (h : r = (l, c)) (ho : w'.ownsRow w.heap.size e 3 v l.length (xk l)) (hb : Below w.heap.size w w') : aHk e r w (.returned (.tuple #[v, .int .i64 c])) w' := ⟨v, by rw [h], by rw [h]; exact ho, hb⟩
end Go.Proofs.YtodckioppgjbdaaDoor
namespace Go.Proofs.YtodckioppgjbdaaDoor.AM
open Go Go.RowKit
attribute [local irreducible] xN xO xV yX yh Pre ACG
end Go.Proofs.YtodckioppgjbdaaDoor.AM
namespace Go.Proofs.YtodckioppgjbdaaDoor.AM
open Go Go.RowKit
abbrev Cmt := List Int × List Ent
theorem aAv (e : Int) : yA (aIV e) := by unfold aIV; simp [yA]
attribute [local irreducible] xN xO xV yX yh Pre ACG
end Go.Proofs.YtodckioppgjbdaaDoor.AM
namespace Go.Proofs.YtodckioppgjbdaaDoor.AM
open Go Go.RowKit
section
variable {P : Program} {Θ : Tab} {s : St} {d : Option Tmp} {ty : TypeId} {pos : String} {after : Array Edge} {g : Option (Nat × Bool)}
end
section
variable {s : St} {Θ : Tab}
theorem aDq {t : Nat} {y : AV} (h : s.sl t = y) (hy : (match y with | .v _ | .agg _ | .lst _ _ | .any => True | _ => False)) : aCA s [] (s.sl t) y := .inl (by cases y <;> first | exact ⟨h, rfl⟩ | exact hy.elim)
theorem aIc {t1 t2 t3 : Nat} {y1 y2 y3 : AV} (h1 : aCA s [] (s.sl t1) y1) (h2 : aCA s [] (s.sl t2) y2) (h3 : aCA s [] (s.sl t3) y3) : jw Θ [.tmp t1, .tmp t2, .tmp t3] ⟨.tup [y1, y2, y3], []⟩ .ret s :=
 ⟨trivial, [], by simp, trivial, ⟨trivial, trivial, trivial, trivial⟩, ⟨_, rfl⟩, ⟨h1, h2, h3, trivial⟩⟩
end
attribute [local irreducible] xN xO xV yX yh Pre ACG
def aCs (N : Nat) (cs : List Cmt) : Prop := ∀ c ∈ cs, c.1.length ≤ N ∧ c.2.length ≤ N ∧ ∀ e ∈ c.2, e.1.size ≤ N
theorem aCs.le {N M : Nat} {cs : List Cmt} (h : aCs N cs) (k : N ≤ M) : aCs M cs := fun c hc => ⟨Nat.le_trans (h c hc).1 k, Nat.le_trans (h c hc).2.1 k, fun e he => Nat.le_trans ((h c hc).2.2 e he) k⟩
end Go.Proofs.YtodckioppgjbdaaDoor.AM
namespace Go.Proofs.YtodckioppgjbdaaDoor.AM
open Go Go.RowKit Go.ChangeShapes Go.WideShapes Go.Deep
section
variable {S : Nat → Prop} {w : World}
end
section
variable {H : Type} {enc : TypeId × Value → H} {P : Program} {w : World} {base : Nat} {held : Bool}
end
end Go.Proofs.YtodckioppgjbdaaDoor.AM
namespace Go.Proofs.YtodckioppgjbdaaDoor.AM
open Go Go.RowKit
structure Rf where
 name : ByteArray
 head : Int
 ver : Int
 gone : Bool
def aId (r : Rf) : AV := .agg [.v (.string r.name), .v (.int .i64 r.head), .v (.int .i64 r.ver), .v (.bool r.gone)]
theorem aAw (e : Rf) : yA (aId e) := by unfold aId; simp [yA, yw]
theorem aH7 {a b : Rf} : a = b ↔ a.name = b.name ∧ a.head = b.head ∧ a.ver = b.ver ∧ a.gone = b.gone := by
 cases a; cases b; simp
attribute [local irreducible] xN xO xV yX yh Pre ACG
end Go.Proofs.YtodckioppgjbdaaDoor.AM
namespace Go.Proofs.YtodckioppgjbdaaDoor.AM
open Go Go.RowKit Go.ChangeShapes Go.WideShapes Go.Deep
section
variable {S : Nat → Prop} {w : World}
end
section
variable {H : Type} {enc : TypeId × Value → H} {P : Program} {w : World} {base : Nat} {held : Bool}
end
end Go.Proofs.YtodckioppgjbdaaDoor.AM
namespace Go.Proofs.YtodckioppgjbdaaDoor
open Go.RowKit Go.ChangeShapes Go.WideShapes Go.Deep
section
variable {H : Type} {enc : TypeId × Value → H} {P : Program} {w : World} {base : Nat} {held : Bool}
end
end Go.Proofs.YtodckioppgjbdaaDoor
namespace Go.Proofs.YtodckioppgjbdaaDoor.AM
open Go Go.RowKit
end Go.Proofs.YtodckioppgjbdaaDoor.AM
namespace Go.Proofs.YtodckioppgjbdaaDoor.AM
open Go Go.RowKit Go.ChangeShapes Go.WideShapes Go.Deep
structure Opr where
 kind : Int
 frm : Int
 name : ByteArray
 key : ByteArray
 edits : List Edt
structure Bas where
 store : List Cmt
 refs : List Rf
structure Rst where
 code : Int
 com : Int
 val : Int
 keys : List ByteArray
 map : List Ent
def Opr.ok (o : Opr) (N : Nat) : Prop := o.name.size ≤ N ∧ o.key.size ≤ N ∧ o.edits.length ≤ N ∧ ∀ e ∈ o.edits, e.key.size ≤ N
def Rst.ok (r : Rst) (N : Nat) : Prop := r.keys.length ≤ N ∧ (∀ k ∈ r.keys, k.size ≤ N) ∧ r.map.length ≤ N ∧ ∀ e ∈ r.map, e.1.size ≤ N
section
variable {S : Nat → Prop} {w : World}
end
section
variable {H : Type} {enc : TypeId × Value → H} {P : Program} {w : World} {base : Nat} {held : Bool}
end
end Go.Proofs.YtodckioppgjbdaaDoor.AM
namespace Go.Proofs.YtodckioppgjbdaaDoor.AM
open Go.ChangeShapes Go.WideShapes Go.ChangeAt Go.RowKit
section
variable {P : Program} {W : World}
def Lv (P : Program) (w : World) (n : String) (d : DataW Unit) : Prop := ∃ g t cs fuel p, P.globalNamed n = some g ∧ (P.globals[g]?).map (·.type) = some t ∧ w.var? P n = some cs ∧ DataW.trod (fun _ => ()) P w 0 (fun _ => true) false fuel t cs.toList = some (d, p)
theorem aEd : ∀ {l : List (String × DataW Unit)} {ps : List MemPlace}, DataW.LaidVars P W l ps → ∀ n d, (n, d) ∈ l → Lv P W n d
 | [], _, _, n, d, h => by cases h
 | (m, e) :: r, ps, hl, n, d, h => by
  obtain ⟨g, t, cs, fuel, p, q, h1, h2, h3, h4, h5, _⟩ := hl
  rcases List.mem_cons.1 h with e' | h
  · cases e'; exact ⟨g, t, cs, fuel, p, h1, h2, h3, h4⟩
  · exact aEd h5 n d h
theorem met_lv {l : List (String × DataW Unit)} (hh : (l.filter fun x => x.2.handleName?.isSome) = []) (h : laidMetH P l W) {n : String} {d : DataW Unit} (hm : (n, d) ∈ l) : Lv P W n d := by
 unfold laidMetH at h
 rw [hh] at h
 obtain ⟨ps, h1, _⟩ := h
 exact aEd h1 n d hm
theorem aD8 {n : String} {g : Nat} {cs : Array Value} (hg : P.globalNamed n = some g) (hv : W.var? P n = some cs) : g < W.heap.size ∧ ∃ t p, W.heap[g]? = some (.cells cs t p) := by
 unfold World.var? at hv
 rw [hg] at hv
 simp only [Option.bind_some] at hv
 cases hh : W.heap[g]? with
 | none => rw [hh] at hv; cases hv
 | some o =>
  rw [hh] at hv
  cases o with
  | cells c t p => simp only [Option.some.injEq] at hv; subst hv; exact ⟨(Array.getElem?_eq_some_iff.1 hh).1, t, p, rfl⟩
  | _ => cases hv
theorem aE5 {α : Type} (f : α → Value) : ∀ (l : List α), asz (.agg (l.map fun x => .v (f x))) = l.length
 | [] => rfl
 | x :: l => by
  have := aE5 f l
  rw [List.map_cons]
  show 1 + xA _ = _
  have h2 : xA (l.map fun x => .v (f x)) = l.length := this
  rw [h2, List.length_cons]; omega
theorem aGQ {α : Type} {S : Nat → Prop} {w : World} (f : α → Value) (h1 : ∀ x, (f x).oneCell' = true) : ∀ (l : List α), RL S w (l.map fun x => .v (f x)) (l.map f)
 | [] => by simp only [List.map_nil]; unfold RL; rfl
 | x :: l => by
  simp only [List.map_cons]
  unfold RL
  exact ⟨[f x], l.map f, rfl, by unfold RA; exact ⟨rfl, h1 x⟩, aGQ f h1 l⟩
theorem rg_of {α : Type} (f : α → Value) (h1 : ∀ x, (f x).oneCell' = true) {ls : List α} {n : String} {g : Nat} {cs : Array Value} (hg : P.globalNamed n = some g) (hv : W.var? P n = some cs) (hsz : cs.size = ls.length) (hc : ∀ (j : Nat) x, ls[j]? = some x → cs[j]? = some (f x)) : RG (InW W) W g (.agg (ls.map fun x => .v (f x))) := by
 obtain ⟨hlt, t, p, hb⟩ := aD8 hg hv
 refine ⟨hlt, fun _ => ?_, cs, t, p, hb, by show cs.size = _; rw [hsz, aE5]⟩
 unfold RA
 refine ⟨g, 0, ls.map f, rfl, hlt, by unfold RA; exact aGQ f h1 ls, fun j u hu => ?_⟩
 rw [List.getElem?_map] at hu
 obtain ⟨x, hx, rfl⟩ := Option.map_eq_some_iff.1 hu
 rw [Nat.zero_add, World.var?_cell hg hv j]
 exact hc j x hx
theorem rg_int {ls : List Int} {k : IntKind} {n : String} {d : DataW Unit} {g te ee m : Nat} (h : Lv P W n d) (hd : d = .agg (ls.map fun s => .lit (.int k s))) (hg : P.globalNamed n = some g) (ht : (P.globals[g]?).map (·.type) = some te)
 (hu : P.underlying te = some (.array m ee)) (he : P.underlying ee = some (.int k)) (hc1 : P.cellsOf ee = 1) (hct : P.cellsOf te = m) (hm : ls.length = m) : RG (InW W) W g (.agg (ls.map fun s => .v (.int k s))) := by
 obtain ⟨g', t', cs, fuel, p, q1, q2, q3, q4⟩ := h
 obtain rfl := Option.some.inj (hg.symm.trans q1)
 obtain rfl := Option.some.inj (ht.symm.trans q2)
 subst hd
 obtain ⟨xs, k', _, ex, hl, hxl, hel⟩ := DataW.trod_array hu q4
 have hsz : cs.size = m := by simpa [hct] using hl
 refine rg_of (Value.int k) (fun _ => rfl) hg q3 (by omega) fun j x hx => ?_
 obtain ⟨hj, rfl⟩ := List.getElem?_eq_some_iff.1 hx
 have hE := hel j (by omega)
 rw [hc1, Nat.mul_one, List.getElem?_eq_getElem (by omega : j < xs.length)] at hE
 obtain ⟨z, e1, e2, _⟩ := DataW.trod_int he hE
 have e3 : (xs.map (·.1)) = ls.map fun s => (DataW.lit (.int k s) : DataW Unit) := by
  have := (Prod.mk.inj ex).1
  exact (DataW.agg.inj this).symm
 have e4 : (xs.map (·.1))[j]? = (ls.map fun s => (DataW.lit (.int k s) : DataW Unit))[j]? := by rw [e3]
 rw [List.getElem?_map, List.getElem?_map, List.getElem?_eq_getElem (by omega : j < xs.length), List.getElem?_eq_getElem hj, e2] at e4
 have hz : z = ls[j] := by
  simp only [Option.map_some, Option.some.injEq, DataW.lit.injEq, Lit.int.injEq] at e4
  exact e4.2
 have h0 : ((cs.toList.drop j).take 1)[0]? = some (.int k z) := by rw [e1]; rfl
 have : cs.toList[j]? = some (.int k z) := by simpa using h0
 rw [← hz]; simpa using this
theorem rg_err {n nm : String} {d : DataW Unit} {g te : Nat} {ms : Array (String × TypeId)} (h : Lv P W n (.iface nm d)) (hg : P.globalNamed n = some g) (ht : (P.globals[g]?).map (·.type) = some te) (hu : P.underlying te = some (.interface ms)) : RG (InW W) W g (.tup []) := by
 obtain ⟨g', t', cs, fuel, p, q1, q2, q3, q4⟩ := h
 obtain rfl := Option.some.inj (hg.symm.trans q1)
 obtain rfl := Option.some.inj (ht.symm.trans q2)
 obtain ⟨f1, u, v, e, _⟩ := iface_of_trod hu q4
 obtain ⟨hlt, t, p', hb⟩ := aD8 hg q3
 exact ⟨hlt, fun hk => (by cases hk), cs, t, p', hb, u, v, Array.toList_inj.1 e⟩
end
end Go.Proofs.YtodckioppgjbdaaDoor.AM
namespace Go.Proofs.YtodckioppgjbdaaDoor.AM
open Go Go.RowKit
section
variable {P : Program} {t : TypeId} {x y : Operand} {a b c : Int}
theorem ja (h : a * b = c) (hl : -9223372036854775808 ≤ c) (hu : c ≤ 9223372036854775807) : zQ P .mul t x y (.int .i64 a) (.int .i64 b) (.int .i64 c) := fun w => by
 have hw : IntKind.i64.wrap (a * b) = c := by rw [IntKind.wrap_i64, h]; omega
 simp [eqGuard, binOp, Op.intArith, hw]
end
section
variable {Θ : Tab} {s : St} {d : Option Tmp} {ty : TypeId} {pos : String} {after : Array Edge} {g : Option (Nat × Bool)}
theorem aFW {x : Operand} {n : Nat} (hx : s.ev x = .v (.int .u8 (n : Int))) (hn : n < 256) : Pre Tryd.prog Θ ⟨d, .convert 5 3 x, ty, pos, after, g⟩ s ⟨.v (.int .i64 (n : Int)), none⟩ :=
 aIw (fun w => by
  have hw : IntKind.i64.wrap (n : Int) = n := by rw [IntKind.wrap_i64]; omega
  have h1 : (underlying 5).run Tryd.prog w = .ok (.int .u8) w := run_underlying Tryd.underlying5 w
  have h2 : (underlying 3).run Tryd.prog w = .ok (.int .i64) w := run_underlying Tryd.underlying3 w
  simp [convert, h1, h2, Conv.intToInt, hw]) hx rfl
end
attribute [local irreducible] xN xO xV yX yh Pre ACG
end Go.Proofs.YtodckioppgjbdaaDoor.AM
namespace Go.Proofs.YtodckioppgjbdaaDoor.AM
open Go Go.RowKit
def aJN (N : Nat) (l : List Rf) : Prop := ∀ e ∈ l, e.name.size ≤ N
attribute [local irreducible] xN xO xV yX yh Pre ACG
end Go.Proofs.YtodckioppgjbdaaDoor.AM
namespace Go.Proofs.YtodckioppgjbdaaDoor.AM
open Go Go.RowKit
theorem wI {s : St} {Θ : Tab} {t1 t2 t3 : Nat} {y1 y2 y3 : Value} (h1 : s.sl t1 = .v y1) (h2 : s.sl t2 = .v y2) (h3 : s.sl t3 = .v y3) : jw Θ [.tmp t1, .tmp t2, .tmp t3] ⟨.tup [.v y1, .v y2, .v y3], []⟩ .ret s := aIc (aDq h1 trivial) (aDq h2 trivial) (aDq h3 trivial)
theorem zF {s : St} {Θ : Tab} {t1 t2 : Nat} {y1 y2 : Value} (h1 : s.sl t1 = .v y1) (h2 : s.sl t2 = .v y2) : jw Θ [.tmp t1, .tmp t2] ⟨.tup [.v y1, .v y2], []⟩ .ret s :=
 ⟨trivial, [], by simp, trivial, ⟨trivial, trivial, trivial⟩, ⟨_, rfl⟩, ⟨aDq h1 trivial, aDq h2 trivial, trivial⟩⟩
attribute [local irreducible] xN xO xV yX yh Pre ACG
end Go.Proofs.YtodckioppgjbdaaDoor.AM
namespace Go.Proofs.YtodckioppgjbdaaDoor.AM
open Go Go.RowKit
section
variable {Θ : Tab} {s : St} {d : Option Tmp} {ty : TypeId} {pos : String} {after : Array Edge} {g : Option (Nat × Bool)}
theorem aJD {x lo hi : Operand} {a : ByteArray} {k k' : IntKind} {i j : Nat} (hij : i ≤ j) (hj : j ≤ a.size) (hx : s.ev x = .v (.string a)) (hl : s.ev lo = .v (.int k (i : Int))) (hh : s.ev hi = .v (.int k' (j : Int))) : Pre Tryd.prog Θ ⟨d, .slice 9 x (some lo) (some hi) none, ty, pos, after, g⟩ s ⟨.v (.string (a.extract i j)), none⟩ := by
 refine .inl ⟨.string a, .string (a.extract i j), by rw [hx]; rfl, fun y hy => ?_, fun w => ?_, rfl, rfl⟩
 · simp only [Option.toList, List.append_nil, List.cons_append, List.nil_append, List.mem_cons, List.not_mem_nil, or_false] at hy
   rcases hy with rfl | rfl
   · rw [hl]; rfl
   · rw [hh]; rfl
 · simp only [Option.map_some, Option.map_none, hl, hh, xq, Option.getD_some]
   rw [run_sliceAt_string w _ _ _ _ _ Tryd.underlying9]
   have := run_slice_string (P := Tryd.prog) w 9 a k k' (i : Int) (j : Int) Tryd.underlying9 (by omega) (by omega) (by omega)
   simpa using this
end
attribute [local irreducible] xN xO xV yX yh Pre ACG
end Go.Proofs.YtodckioppgjbdaaDoor.AM
namespace Go.Proofs.YtodckioppgjbdaaDoor.AM
open Go Go.RowKit
def aFD (ops : Array Oper) (k : Nat) (s : St) (ls : List Nat) : Bool :=
 (List.range ops.size).all fun j => Nat.beq j k || (uQ ops j k || (match ops[j]? with
  | some o => (tmpsOf o).all fun t => ((List.range ops.size).any fun j' => match (ops[j']?).bind (·.dst) with
   | some t' => Nat.beq t' t && (!(Nat.blt j' k) && !(aAB ops j'))
   | none => false) || ls.all fun l => !((s.sl t).names l)
  | none => true))
theorem aG7 {ops : Array Oper} {k : Nat} {s : St} {ls : List Nat} (h : aFD ops k s ls = true) : ∀ j o, ops[j]? = some o → j ≠ k → uQ ops j k = false → ∀ t, t ∈ tmpsOf o → (∀ j' o', ops[j']? = some o' → o'.dst = some t → Nat.blt j' k = true ∨ aAB ops j' = true) → ∀ l ∈ ls, (s.sl t).names l = false := by
 intro j o hj hne hor t ht hL l hl
 have h1 := List.all_eq_true.1 h j (List.mem_range.2 (Array.getElem?_eq_some_iff.1 hj).1)
 simp only [xP hne, hor, Bool.false_or, hj] at h1
 have h2 := List.all_eq_true.1 h1 t ht
 rw [Bool.or_eq_true] at h2
 rcases h2 with h2 | h2
 · obtain ⟨j', hj', h3⟩ := List.any_eq_true.1 h2
   cases ho' : ops[j']? with
   | none => rw [ho'] at h3; cases h3
   | some o' =>
    rw [ho'] at h3
    cases hd : o'.dst with
    | none => simp only [Option.bind_some, hd] at h3; cases h3
    | some t' =>
     simp only [Option.bind_some, hd, Bool.and_eq_true, Bool.not_eq_true'] at h3
     have : t' = t := Nat.eq_of_beq_eq_true h3.1
     subst this
     rcases hL j' o' ho' hd with h4 | h4 <;> rw [h4] at h3 <;> simp at h3
 · have := List.all_eq_true.1 h2 l hl
   simpa using this
theorem aFj {ops : Array Oper} {k : Nat} {s : St} {ls : List Nat} (h : aFD ops k s ls = true) : ∀ j o, ops[j]? = some o → j ≠ k → uQ ops j k = false → ∀ t, t ∈ tmpsOf o → (∀ j' o', ops[j']? = some o' → o'.dst = some t → Nat.blt j' k = true) → ∀ l ∈ ls, (s.sl t).names l = false :=
 fun j o h1 h2 h3 t ht hL => aG7 h j o h1 h2 h3 t ht fun j' o' a b => .inl (hL j' o' a b)
section
variable {Θ : Tab} {ops : Array Oper} {k : Nat} {s : St}
theorem qV {l : Nat} {o : Option OB} {v : AV} (hs : soft Θ ops true k = true) (hc : aFD ops k s [l] = true) : vK Θ ops (fun j => Nat.blt j k) k s ⟨v, some fun s' => s'.set l o⟩ :=
 ⟨true, [l], _, id, fun hp j => bif Nat.beq j l then o else hp j, fun mp j => bif Nat.beq j l then none else mp j, rfl, hs, fun s => rfl, fun x _ => rfl, fun _ => ⟨fun x => rfl, fun hp j hj => by
  have : j ≠ l := by simpa using hj
  show (bif Nat.beq j l then o else hp j) = hp j
  rw [xP this]; rfl⟩, aFj hc⟩
end
section
variable {P : Program} {Θ : Tab} {s : St} {ty : TypeId} {pos : String} {after : Array Edge} {g : Option (Nat × Bool)}
end
mutual
def jV : AV → List Nat
 | .own l => [l]
 | .optr l _ _ _ => [l]
 | .mapv l => [l]
 | .tup xs => qJ xs
 | .mix xs => qJ xs
 | .fn _ xs ys => qJ xs ++ qJ ys
 | .ifc _ x => jV x
 | _ => []
def qJ : List AV → List Nat
 | [] => []
 | x :: xs => jV x ++ qJ xs
end
mutual
theorem aB8 {l : Nat} : ∀ x : AV, x.names l = true → l ∈ jV x
 | .own l', h => by simp only [AV.names] at h; simp [jV, Nat.eq_of_beq_eq_true h]
 | .optr l' _ _ _, h => by simp only [AV.names] at h; simp [jV, Nat.eq_of_beq_eq_true h]
 | .mapv l', h => by simp only [AV.names] at h; simp [jV, Nat.eq_of_beq_eq_true h]
 | .tup xs, h => by simp only [AV.names] at h; unfold jV; exact vJ xs h
 | .mix xs, h => by simp only [AV.names] at h; unfold jV; exact vJ xs h
 | .fn _ xs ys, h => by
  simp only [AV.names, Bool.or_eq_true] at h; unfold jV
  exact List.mem_append.2 (h.imp (vJ xs) (vJ ys))
 | .ifc _ x, h => by simp only [AV.names] at h; unfold jV; exact aB8 x h
 | .any, h => by simp [AV.names] at h
 | .v _, h => by simp [AV.names] at h
 | .agg _, h => by simp [AV.names] at h
 | .lst _ _, h => by simp [AV.names] at h
 | .ptr _, h => by simp [AV.names] at h
 | .rd _, h => by simp [AV.names] at h
theorem vJ {l : Nat} : ∀ xs : List AV, xH l xs = true → l ∈ qJ xs
 | [], h => by simp [xH] at h
 | x :: xs, h => by
  simp only [xH, Bool.or_eq_true] at h; unfold qJ
  exact List.mem_append.2 (h.imp (aB8 x) (vJ xs))
end
section
variable {P : Program} {Θ : Tab} {n : Nat} {ops : Array Oper} {k : Nat} {s : St} {o : Oper} {u : AV} {ks : List Nat} {nu : List (Nat × Option OB)}
end
abbrev vz (x : AV) : Bool := x.within (fun _ => false)
mutual
theorem aCJ (s s' : St) : ∀ x : AV, vz x = true → s'.dat x = s.dat x
 | .own l, h => by simp [vz, AV.within] at h
 | .optr l _ _ _, h => by simp [vz, AV.within] at h
 | .mix xs, h => by unfold St.dat; rw [aBN s s' xs (by simpa [vz, AV.within] using h)]
 | .ifc t x, h => by unfold St.dat; rw [aCJ s s' x (by simpa [vz, AV.within] using h)]
 | .mapv l, h => by simp [vz, AV.within] at h
 | .tup xs, h => by simp [St.dat]
 | .fn _ xs ys, h => by simp [St.dat]
 | .any, h => by simp [St.dat]
 | .v _, h => by simp [St.dat]
 | .agg _, h => by simp [St.dat]
 | .lst _ _, h => by simp [St.dat]
 | .ptr _, h => by simp [St.dat]
 | .rd _, h => by simp [St.dat]
theorem aBN (s s' : St) : ∀ xs : List AV, xg (fun _ => false) xs = true → s'.datL xs = s.datL xs
 | [], _ => by simp [St.datL]
 | x :: xs, h => by
  simp only [xg, Bool.and_eq_true] at h
  simp only [St.datL]; rw [aCJ s s' x h.1, aBN s s' xs h.2]
end
mutual
theorem aDY (s s' : St) : ∀ x : AV, vz x = true → xE s' x = xE s x
 | .own l, h => by simp [vz, AV.within] at h
 | .optr l _ _ _, h => by simp [vz, AV.within] at h
 | .mix xs, h => by unfold xE; rw [qZ s s' xs (by simpa [vz, AV.within] using h)]
 | .ifc t x, h => by simp [xE]
 | .mapv l, h => by simp [vz, AV.within] at h
 | .tup xs, h => by simp [xE]
 | .fn _ xs ys, h => by simp [xE]
 | .any, h => by simp [xE]
 | .v _, h => by simp [xE]
 | .agg _, h => by simp [xE]
 | .lst _ _, h => by simp [xE]
 | .ptr _, h => by simp [xE]
 | .rd _, h => by simp [xE]
theorem qZ (s s' : St) : ∀ xs : List AV, xg (fun _ => false) xs = true → zH s' xs = zH s xs
 | [], _ => by simp [zH]
 | x :: xs, h => by
  simp only [xg, Bool.and_eq_true] at h
  simp only [zH]; rw [aDY s s' x h.1, qZ s s' xs h.2]
end
section
variable {P : Program} {Θ : Tab} {s : St} {ty : TypeId} {pos : String} {after : Array Edge} {g : Option (Nat × Bool)}
end
section
variable {P : Program} {Θ : Tab} {s : St} {ty : TypeId} {pos : String} {after : Array Edge} {g : Option (Nat × Bool)}
end
section
variable {P : Program} {Θ : Tab} {s : St} {ty : TypeId} {pos : String} {after : Array Edge} {g : Option (Nat × Bool)}
end
mutual
theorem aEa {s s' : St} : ∀ x : AV, (∀ l, x.names l = true → s'.hp l = s.hp l) → s'.dat x = s.dat x ∧ xE s' x = xE s x
 | .own l, h => by
  have := h l (by simp [AV.names])
  simp only [St.dat, xE, this, and_self]
 | .optr l i p c, h => by
  have := h l (by simp [AV.names])
  simp only [St.dat, xE, this, and_self]
 | .mix xs, h => by
  obtain ⟨h1, h2⟩ := aDM xs (fun l hl => h l (by simpa [AV.names] using hl))
  simp only [St.dat, xE, h1, h2, and_self]
 | .ifc t x, h => by
  obtain ⟨h1, _⟩ := aEa x (fun l hl => h l (by simpa [AV.names] using hl))
  simp only [St.dat, xE, h1, and_self]
 | .rd x, _ => ⟨rfl, rfl⟩
 | .any, _ => ⟨rfl, rfl⟩
 | .v _, _ => ⟨rfl, rfl⟩
 | .agg _, _ => ⟨rfl, rfl⟩
 | .lst _ _, _ => ⟨rfl, rfl⟩
 | .ptr _, _ => ⟨rfl, rfl⟩
 | .tup _, _ => ⟨rfl, rfl⟩
 | .mapv _, _ => ⟨rfl, rfl⟩
 | .fn _ _ _, _ => ⟨rfl, rfl⟩
theorem aDM {s s' : St} : ∀ xs : List AV, (∀ l, xH l xs = true → s'.hp l = s.hp l) → s'.datL xs = s.datL xs ∧ zH s' xs = zH s xs
 | [], _ => ⟨rfl, rfl⟩
 | x :: xs, h => by
  obtain ⟨h1, h2⟩ := aEa x (fun l hl => h l (by simp [xH, hl]))
  obtain ⟨h3, h4⟩ := aDM xs (fun l hl => h l (by simp [xH, hl]))
  simp only [St.datL, zH, h1, h2, h3, h4, and_self]
end
section
variable {P : Program} {Θ : Tab} {s : St} {ty : TypeId} {pos : String} {after : Array Edge} {g : Option (Nat × Bool)}
end
section
variable {P : Program} {Θ : Tab} {s : St} {ty : TypeId} {pos : String} {after : Array Edge} {g : Option (Nat × Bool)}
end
section
variable {P : Program} {Θ : Tab} {s : St} {ty : TypeId} {pos : String} {after : Array Edge} {g : Option (Nat × Bool)}
end
def uf (n : Nat) : List UInt8 := if h : n < 10 then [UInt8.ofNat (48 + n)] else uf (n / 10) ++ [UInt8.ofNat (48 + n % 10)]
termination_by n
decreasing_by omega
def zC (n : Nat) : ByteArray := ⟨(uf n).toArray⟩
def zU (n : Int) : ByteArray := if n < 0 then ⟨#[45]⟩ ++ zC (-n).toNat else zC n.toNat
theorem kV {n : Nat} (h : n < 10) : uf n = [UInt8.ofNat (48 + n)] := by rw [uf, dif_pos h]
theorem qj {n : Nat} (h : ¬ n < 10) : uf n = uf (n / 10) ++ [UInt8.ofNat (48 + n % 10)] := by rw [uf, dif_neg h]
theorem aFl {n : Nat} (h : n < 10) : zC n = ⟨[UInt8.ofNat (48 + n)].toArray⟩ := by unfold zC; rw [kV h]
theorem aIC {n : Nat} (h : ¬ n < 10) : zC n = zC (n / 10) ++ ⟨[UInt8.ofNat (48 + n % 10)].toArray⟩ := by
 unfold zC; rw [qj h]
 apply ByteArray.ext
 simp
theorem aA9 {n : Nat} (h : n < 256) : (UInt8.ofNat n).toNat = n := by simp; omega
attribute [local irreducible] xN xO xV yX yh Pre ACG
end Go.Proofs.YtodckioppgjbdaaDoor.AM
namespace Go.Proofs.YtodckioppgjbdaaDoor
open Go.RowKit
end Go.Proofs.YtodckioppgjbdaaDoor
namespace Go.Proofs.YtodckioppgjbdaaDoor.AM
open Go Go.RowKit
attribute [local irreducible] xN xO xV yX yh Pre ACG
end Go.Proofs.YtodckioppgjbdaaDoor.AM
namespace Go.Proofs.YtodckioppgjbdaaDoor.AM
open Go Go.RowKit
instance : DecidableEq Rf := fun a b => decidable_of_iff _ aH7.symm
structure Bas.ok (b : Bas) (N : Nat) : Prop where
 sm : b.store.length ≤ N
 sc : aCs N b.store
 rm : b.refs.length ≤ N
 rk : aJN N b.refs
attribute [local irreducible] xN xO xV yX yh Pre ACG
theorem aHK {a b : Bas} : a = b ↔ a.store = b.store ∧ a.refs = b.refs := by cases a; cases b; simp
instance : DecidableEq Bas := fun a b => decidable_of_iff _ aHK.symm
end Go.Proofs.YtodckioppgjbdaaDoor.AM
namespace Go.Proofs.YtodckioppgjbdaaDoor.AM
open Go Go.RowKit
def aJI (l : List Ent) : Prop := ∀ e ∈ l, e.1.size ≤ 12 ∧ -1000000 ≤ e.2 ∧ e.2 ≤ 1000000
structure CmtS (c : Cmt) : Prop where
 pl : c.1.length ≤ 60
 pp : ∀ p ∈ c.1, 0 ≤ p ∧ p ≤ 1000
 ml : c.2.length ≤ 100
 me : aJI c.2
attribute [local irreducible] xN xO xV yX yh Pre ACG
theorem aGA {m : List Ent} (h : yQ m = true) : m.length ≤ 12 := by
 unfold yQ at h
 simp only [Bool.and_eq_true, decide_eq_true_eq] at h
 exact h.1
end Go.Proofs.YtodckioppgjbdaaDoor.AM
namespace Go.Proofs.YtodckioppgjbdaaDoor
def kv (es : List Edt) : List Ent := es.map fun e => (e.key, e.val)
theorem vY (es : List Edt) : (kv es).length = es.length := by simp [kv]
theorem aBX (es : List Edt) (k : Nat) (h : k < es.length) : kAt (kv es) k = es[k].key := by simp [kAt, kv, h]
theorem aEi (es : List Edt) (k : Nat) (h : k < es.length) (hn : nm es[k].key = false) : xX (kv es) k = false := by
 rw [xX, aBX es k h, hn]; rfl
theorem aC1 (es : List Edt) (h : 0 < es.length) (hn : nm es[0].key = true) : xX (kv es) 0 = true := by
 rw [xX, aBX es 0 h, hn]; rfl
theorem aDm (es : List Edt) (k : Nat) (h0 : 0 < k) (h : k < es.length) (hn : nm es[k].key = true) : xX (kv es) k = klt (es[k - 1]'(by omega)).key es[k].key := by
 rw [xX, aBX es k h, aBX es (k - 1) (by omega), hn, decide_eq_false (by omega)]; simp
def aID (e : Edt) : Bool := qW e.val && (!e.gone || decide (e.val = 0))
def zm (es : List Edt) (i : Nat) : Bool := aID (es.getD i ⟨ByteArray.empty, 0, false⟩)
theorem aDR (es : List Edt) (k : Nat) (h : k < es.length) : zm es k = (qW es[k].val && (!es[k].gone || decide (es[k].val = 0))) := by simp [zm, aID, h]
def aBP (es : List Edt) : Bool := (List.range es.length).all (zm es)
def xU (es : List Edt) : Bool := decide (es.length ≤ 6) && (um (kv es) && aBP es)
theorem aGa {es : List Edt} (h : ∀ i, i < es.length → zm es i = true) : aBP es = true := by
 rw [aBP, List.all_eq_true]; intro i hi; exact h i (List.mem_range.1 hi)
theorem aFp {es : List Edt} {i : Nat} (hi : i < es.length) (h : zm es i = false) : aBP es = false := by
 rw [aBP, List.all_eq_false]; exact ⟨i, List.mem_range.2 hi, by rw [h]; simp⟩
theorem aBO {es : List Edt} (h0 : es.length ≤ 6) (h : ∀ i, i < es.length → xX (kv es) i = true ∧ zm es i = true) : xU es = true := by
 rw [xU, aA0 (fun i hi => (h i (by rw [vY] at hi; exact hi)).1), aGa fun i hi => (h i hi).2, decide_eq_true h0]; rfl
theorem qY {es : List Edt} {i : Nat} (hi : i < es.length) (h : xX (kv es) i = false) : xU es = false := by
 rw [xU, wG (by rw [vY]; exact hi) h]; simp
theorem vO {es : List Edt} {i : Nat} (hi : i < es.length) (h : zm es i = false) : xU es = false := by
 rw [xU, aFp hi h]; simp
theorem ql {es : List Edt} (h : 6 < es.length) : xU es = false := by
 rw [xU, decide_eq_false (by omega)]; rfl
theorem aBS (g : Bool) (v : Int) : (g = true ∧ v ≠ 0) ∨ g = false ∨ (g = true ∧ v = 0) := by
 cases g <;> by_cases h : v = 0 <;> simp [h]
open Go.RowKit
set_option maxHeartbeats 4000000 in
set_option maxRecDepth 100000 in
theorem aD2 (A : Option Addr) (n c : Nat) (es : List Edt) (w : World) (hr : Rd w 3 A n (xk es)) (hm : n ≤ maxLen) (hks : ∀ e ∈ es, e.key.size ≤ maxLen) :
 Calls Tryd.prog 59 #[.slice A n c] w fun e w' => e = .returned (.bool (xU es)) ∧ Below w.heap.size w w' := by
 unfold maxLen at hm
 have hlen := hr.elen
 have Hlen := Lib.hid hlen; clear hlen
 by_cases hbig : 6 < n
 · have hfin : Hid (xU es = false) := ql (by rw [Hlen.out]; exact hbig)
   go_enter Tryd.func59, Tryd.ntmps59
   go_wp2
   go_ret
   exact ⟨xG hfin.out.symm, Below.refl _ _⟩
 have hn6 : n ≤ 6 := by omega
 clear hbig
 go_enter Tryd.func59, Tryd.ntmps59
 go_wp2
 go_loopw [3] (fun i wr => ∃ k : Nat, k ≤ n ∧ i = .int .i64 k ∧ (∀ j, j < k → xX (kv es) j = true ∧ zm es j = true) ∧ Below w.heap.size w wr) (fun i _ => n - (intOf i).toNat)
 case atStart => exact ⟨0, Nat.zero_le _, rfl, fun j hj => absurd hj (by omega), Below.refl _ _⟩
 case round =>
  obtain ⟨k, hk, rfl, hall, hb⟩ := hrel
  have Hall := Lib.hid hall; clear hall
  by_cases hlt : k < n
  · have hke : k < es.length := by rw [Hlen.out]; exact hlt
    obtain ⟨b, off, rfl, hbl, hbl2, hc1, hc2, hc3⟩ := hr.edt hb hke
    have hsz := hks _ (List.getElem_mem hke)
    have hnoO := aEi es k hke
    have hE := aDR es k hke
    have hz0 : k = 0 → nm es[k].key = true → xX (kv es) k = true := by rintro rfl h; exact aC1 es hke h
    have hp0 : (h : 0 < k) → nm es[k].key = true → xX (kv es) k = klt (es[k - 1]'(by omega)).key es[k].key := fun h h2 => aDm es k h hke h2
    generalize es[k] = ek at *
    obtain ⟨k1, v1, g1⟩ := ek
    simp only at hc1 hc2 hc3 hsz hnoO hE hz0 hp0
    have hcall := fun W => aAf k1 W hsz
    have hcall2 := fun W => aCX v1 (-1000000) 1000000 W
    change ∀ W, Calls _ _ _ W fun e w' => e = .returned (.bool (nm k1)) ∧ W = w' at hcall
    change ∀ W, Calls _ _ _ W fun e w' => e = .returned (.bool (qW v1)) ∧ W = w' at hcall2
    cases hw : nm k1 with
    | false =>
     have hfin : Hid (xU es = false) := qY hke (hnoO hw)
     rw [hw] at hcall
     have Hcall := Lib.hid hcall
     clear hw hcall hcall2 hE hnoO hz0 hp0
     go_wp2
     have hcL0 : (wr.alloc (Obj.cells #[Value.string k1, Value.int IntKind.i64 v1, Value.bool g1] 102)).cell? ⟨wr.heap.size, 0, none⟩ = some (.string k1) := cell_of_row _ _ _ _ _ (0, 0) (heap_alloc_new wr _)
     have hcL1 : (wr.alloc (Obj.cells #[Value.string k1, Value.int IntKind.i64 v1, Value.bool g1] 102)).cell? ⟨wr.heap.size, 1, none⟩ = some (.int .i64 v1) := cell_of_row _ _ _ _ _ (0, 0) (heap_alloc_new wr _)
     have hcL2 : (wr.alloc (Obj.cells #[Value.string k1, Value.int IntKind.i64 v1, Value.bool g1] 102)).cell? ⟨wr.heap.size, 2, none⟩ = some (.bool g1) := cell_of_row _ _ _ _ _ (0, 0) (heap_alloc_new wr _)
     have hpl : wr.heap.size < (wr.alloc (Obj.cells #[Value.string k1, Value.int IntKind.i64 v1, Value.bool g1] 102)).heap.size := by simp
     have hb2 : Below w.heap.size w (wr.alloc (Obj.cells #[Value.string k1, Value.int IntKind.i64 v1, Value.bool g1] 102)) := hb.alloc hb.size _
     generalize wr.alloc (Obj.cells #[Value.string k1, Value.int IntKind.i64 v1, Value.bool g1] 102) = w2 at *
     generalize wr.heap.size = p at *
     have hA0 := fun y : Aft w2 => y.cell hpl hcL0
     have hA1 := fun y : Aft w2 => y.cell hpl hcL1
     have hA2 := fun y : Aft w2 => y.cell hpl hcL2
     refine xJ (by kernel_rfl) (by kernel_rfl) ?_
     repeat (go_big_quiet_step ((first | (go_at_call 98; exact Aft.same (Hcall.out _)))))
     refine wpQuiet_nil ?_
     rintro _ ⟨y, rfl⟩
     have hb3 := zR hb2 y.below
     generalize y.at_ = w3 at *
     go_wp2
     go_ret
     exact ⟨xG hfin.out.symm, hb3⟩
    | true =>
    cases hv : qW v1 with
    | false =>
     have hfin : Hid (xU es = false) := vO hke (by rw [hE, hv]; rfl)
     rw [hw] at hcall
     rw [hv] at hcall2
     have Hcall := Lib.hid hcall
     have Hcall2 := Lib.hid hcall2
     clear hw hv hcall hcall2 hE hnoO hz0 hp0
     go_wp2
     have hcL0 : (wr.alloc (Obj.cells #[Value.string k1, Value.int IntKind.i64 v1, Value.bool g1] 102)).cell? ⟨wr.heap.size, 0, none⟩ = some (.string k1) := cell_of_row _ _ _ _ _ (0, 0) (heap_alloc_new wr _)
     have hcL1 : (wr.alloc (Obj.cells #[Value.string k1, Value.int IntKind.i64 v1, Value.bool g1] 102)).cell? ⟨wr.heap.size, 1, none⟩ = some (.int .i64 v1) := cell_of_row _ _ _ _ _ (0, 0) (heap_alloc_new wr _)
     have hcL2 : (wr.alloc (Obj.cells #[Value.string k1, Value.int IntKind.i64 v1, Value.bool g1] 102)).cell? ⟨wr.heap.size, 2, none⟩ = some (.bool g1) := cell_of_row _ _ _ _ _ (0, 0) (heap_alloc_new wr _)
     have hpl : wr.heap.size < (wr.alloc (Obj.cells #[Value.string k1, Value.int IntKind.i64 v1, Value.bool g1] 102)).heap.size := by simp
     have hb2 : Below w.heap.size w (wr.alloc (Obj.cells #[Value.string k1, Value.int IntKind.i64 v1, Value.bool g1] 102)) := hb.alloc hb.size _
     generalize wr.alloc (Obj.cells #[Value.string k1, Value.int IntKind.i64 v1, Value.bool g1] 102) = w2 at *
     generalize wr.heap.size = p at *
     have hA0 := fun y : Aft w2 => y.cell hpl hcL0
     have hA1 := fun y : Aft w2 => y.cell hpl hcL1
     have hA2 := fun y : Aft w2 => y.cell hpl hcL2
     refine xJ (by kernel_rfl) (by kernel_rfl) ?_
     repeat (go_big_quiet_step ((first | (go_at_call 98; exact Aft.same (Hcall.out _)) | (go_at_call 89; exact Aft.same (Hcall2.out _)))))
     refine wpQuiet_nil ?_
     rintro _ ⟨y, rfl⟩
     have hb3 := zR hb2 y.below
     generalize y.at_ = w3 at *
     go_wp2
     go_ret
     exact ⟨xG hfin.out.symm, hb3⟩
    | true =>
    rw [hw] at hcall
    rw [hv] at hcall2
    rcases aBS g1 v1 with ⟨rfl, hne⟩ | hgood
    · have hfin : Hid (xU es = false) := vO hke (by rw [hE, hv, decide_eq_false hne]; rfl)
      have hne2 : (v1 != 0) = true := by simpa using hne
      have Hcall := Lib.hid hcall
      have Hcall2 := Lib.hid hcall2
      clear hw hv hcall hcall2 hE hnoO hz0 hp0
      go_wp2
      have hcL0 : (wr.alloc (Obj.cells #[Value.string k1, Value.int IntKind.i64 v1, Value.bool true] 102)).cell? ⟨wr.heap.size, 0, none⟩ = some (.string k1) := cell_of_row _ _ _ _ _ (0, 0) (heap_alloc_new wr _)
      have hcL1 : (wr.alloc (Obj.cells #[Value.string k1, Value.int IntKind.i64 v1, Value.bool true] 102)).cell? ⟨wr.heap.size, 1, none⟩ = some (.int .i64 v1) := cell_of_row _ _ _ _ _ (0, 0) (heap_alloc_new wr _)
      have hcL2 : (wr.alloc (Obj.cells #[Value.string k1, Value.int IntKind.i64 v1, Value.bool true] 102)).cell? ⟨wr.heap.size, 2, none⟩ = some (.bool true) := cell_of_row _ _ _ _ _ (0, 0) (heap_alloc_new wr _)
      have hpl : wr.heap.size < (wr.alloc (Obj.cells #[Value.string k1, Value.int IntKind.i64 v1, Value.bool true] 102)).heap.size := by simp
      have hb2 : Below w.heap.size w (wr.alloc (Obj.cells #[Value.string k1, Value.int IntKind.i64 v1, Value.bool true] 102)) := hb.alloc hb.size _
      generalize wr.alloc (Obj.cells #[Value.string k1, Value.int IntKind.i64 v1, Value.bool true] 102) = w2 at *
      generalize wr.heap.size = p at *
      have hA0 := fun y : Aft w2 => y.cell hpl hcL0
      have hA1 := fun y : Aft w2 => y.cell hpl hcL1
      have hA2 := fun y : Aft w2 => y.cell hpl hcL2
      refine xJ (by kernel_rfl) (by kernel_rfl) ?_
      repeat (go_big_quiet_step ((first | (go_at_call 98; exact Aft.same (Hcall.out _)) | (go_at_call 89; exact Aft.same (Hcall2.out _)))))
      refine wpQuiet_nil ?_
      rintro _ ⟨y, rfl⟩
      have hb3 := zR hb2 y.below
      generalize y.at_ = w3 at *
      go_wp2
      go_ret
      exact ⟨xG hfin.out.symm, hb3⟩
    have hE1 : Hid (zm es k = true) := by
     rcases hgood with rfl | ⟨rfl, rfl⟩
     · show zm es k = true; rw [hE, hv]; rfl
     · show zm es k = true; rw [hE, hv]; rfl
    clear hE hv hnoO
    by_cases hk0 : k = 0
    · have ho := hz0 hk0 hw
      subst hk0
      have hstep : Hid (∀ j, j < 0 + 1 → xX (kv es) j = true ∧ zm es j = true) := fun j hj => by
       have : j = 0 := by omega
       subst this; exact ⟨ho, hE1.out⟩
      simp only [Nat.zero_mul, Nat.add_zero] at hc1 hc2 hc3
      clear hz0 hp0 ho hw
      rcases hgood with rfl | ⟨rfl, rfl⟩
      · have Hcall := Lib.hid hcall
        have Hcall2 := Lib.hid hcall2
        clear hcall hcall2
        go_wp2
        have hcL0 : (wr.alloc (Obj.cells #[Value.string k1, Value.int IntKind.i64 v1, Value.bool false] 102)).cell? ⟨wr.heap.size, 0, none⟩ = some (.string k1) := cell_of_row _ _ _ _ _ (0, 0) (heap_alloc_new wr _)
        have hcL1 : (wr.alloc (Obj.cells #[Value.string k1, Value.int IntKind.i64 v1, Value.bool false] 102)).cell? ⟨wr.heap.size, 1, none⟩ = some (.int .i64 v1) := cell_of_row _ _ _ _ _ (0, 0) (heap_alloc_new wr _)
        have hcL2 : (wr.alloc (Obj.cells #[Value.string k1, Value.int IntKind.i64 v1, Value.bool false] 102)).cell? ⟨wr.heap.size, 2, none⟩ = some (.bool false) := cell_of_row _ _ _ _ _ (0, 0) (heap_alloc_new wr _)
        have hpl : wr.heap.size < (wr.alloc (Obj.cells #[Value.string k1, Value.int IntKind.i64 v1, Value.bool false] 102)).heap.size := by simp
        have hb2 : Below w.heap.size w (wr.alloc (Obj.cells #[Value.string k1, Value.int IntKind.i64 v1, Value.bool false] 102)) := hb.alloc hb.size _
        generalize wr.alloc (Obj.cells #[Value.string k1, Value.int IntKind.i64 v1, Value.bool false] 102) = w2 at *
        generalize wr.heap.size = p at *
        have hA0 := fun y : Aft w2 => y.cell hpl hcL0
        have hA1 := fun y : Aft w2 => y.cell hpl hcL1
        have hA2 := fun y : Aft w2 => y.cell hpl hcL2
        refine xJ (by kernel_rfl) (by kernel_rfl) ?_
        repeat (go_big_quiet_step ((first | (go_at_call 98; exact Aft.same (Hcall.out _)) | (go_at_call 89; exact Aft.same (Hcall2.out _)))))
        refine wpQuiet_nil ?_
        rintro _ ⟨y, rfl⟩
        have hb3 := zR hb2 y.below
        generalize y.at_ = w3 at *
        go_wp2
        go_roundw
        case rel => exact ⟨0 + 1, by omega, by go_num, hstep.out, hb3⟩
        case measure => simp [intOf]; omega
      · have Hcall := Lib.hid hcall
        have Hcall2 := Lib.hid hcall2
        clear hcall hcall2
        go_wp2
        have hcL0 : (wr.alloc (Obj.cells #[Value.string k1, Value.int IntKind.i64 0, Value.bool true] 102)).cell? ⟨wr.heap.size, 0, none⟩ = some (.string k1) := cell_of_row _ _ _ _ _ (0, 0) (heap_alloc_new wr _)
        have hcL1 : (wr.alloc (Obj.cells #[Value.string k1, Value.int IntKind.i64 0, Value.bool true] 102)).cell? ⟨wr.heap.size, 1, none⟩ = some (.int .i64 0) := cell_of_row _ _ _ _ _ (0, 0) (heap_alloc_new wr _)
        have hcL2 : (wr.alloc (Obj.cells #[Value.string k1, Value.int IntKind.i64 0, Value.bool true] 102)).cell? ⟨wr.heap.size, 2, none⟩ = some (.bool true) := cell_of_row _ _ _ _ _ (0, 0) (heap_alloc_new wr _)
        have hpl : wr.heap.size < (wr.alloc (Obj.cells #[Value.string k1, Value.int IntKind.i64 0, Value.bool true] 102)).heap.size := by simp
        have hb2 : Below w.heap.size w (wr.alloc (Obj.cells #[Value.string k1, Value.int IntKind.i64 0, Value.bool true] 102)) := hb.alloc hb.size _
        generalize wr.alloc (Obj.cells #[Value.string k1, Value.int IntKind.i64 0, Value.bool true] 102) = w2 at *
        generalize wr.heap.size = p at *
        have hA0 := fun y : Aft w2 => y.cell hpl hcL0
        have hA1 := fun y : Aft w2 => y.cell hpl hcL1
        have hA2 := fun y : Aft w2 => y.cell hpl hcL2
        refine xJ (by kernel_rfl) (by kernel_rfl) ?_
        repeat (go_big_quiet_step ((first | (go_at_call 98; exact Aft.same (Hcall.out _)) | (go_at_call 89; exact Aft.same (Hcall2.out _)))))
        refine wpQuiet_nil ?_
        rintro _ ⟨y, rfl⟩
        have hb3 := zR hb2 y.below
        generalize y.at_ = w3 at *
        go_wp2
        go_roundw
        case rel => exact ⟨0 + 1, by omega, by go_num, hstep.out, hb3⟩
        case measure => simp [intOf]; omega
    · have hkp : 0 < k := by omega
      have hor := hp0 hkp hw
      have ht : (Op.bytesLess k1.toList (es[k - 1]'(by omega)).key.toList || k1.toList == (es[k - 1]'(by omega)).key.toList) = !xX (kv es) k := by rw [aFv, hor]
      have hi0 : 0 ≤ (k : Int) - 1 := by omega
      have hi1 : ((k : Int) - 1).toNat = k - 1 := by omega
      have hi2 : (0 : Int) < (k : Int) := by omega
      clear hk0 hor hw hz0 hp0
      cases ho : xX (kv es) k with
      | false =>
       have hfin : Hid (xU es = false) := qY hke ho
       rw [ho] at ht
       clear ho
       rcases hgood with rfl | ⟨rfl, rfl⟩
       · have Hcall := Lib.hid hcall
         have Hcall2 := Lib.hid hcall2
         clear hcall hcall2
         go_wp2
         have hcL0 : (wr.alloc (Obj.cells #[Value.string k1, Value.int IntKind.i64 v1, Value.bool false] 102)).cell? ⟨wr.heap.size, 0, none⟩ = some (.string k1) := cell_of_row _ _ _ _ _ (0, 0) (heap_alloc_new wr _)
         have hcL1 : (wr.alloc (Obj.cells #[Value.string k1, Value.int IntKind.i64 v1, Value.bool false] 102)).cell? ⟨wr.heap.size, 1, none⟩ = some (.int .i64 v1) := cell_of_row _ _ _ _ _ (0, 0) (heap_alloc_new wr _)
         have hcL2 : (wr.alloc (Obj.cells #[Value.string k1, Value.int IntKind.i64 v1, Value.bool false] 102)).cell? ⟨wr.heap.size, 2, none⟩ = some (.bool false) := cell_of_row _ _ _ _ _ (0, 0) (heap_alloc_new wr _)
         have hpl : wr.heap.size < (wr.alloc (Obj.cells #[Value.string k1, Value.int IntKind.i64 v1, Value.bool false] 102)).heap.size := by simp
         have hb2 : Below w.heap.size w (wr.alloc (Obj.cells #[Value.string k1, Value.int IntKind.i64 v1, Value.bool false] 102)) := hb.alloc hb.size _
         obtain ⟨b', off', he, _, _, hc4, _, _⟩ := hr.edt hb2 (show k - 1 < es.length by omega)
         obtain ⟨rfl, rfl⟩ : b = b' ∧ off = off' := by simpa using he
         have hbl4 := Nat.lt_of_lt_of_le hbl hb2.size
         generalize wr.alloc (Obj.cells #[Value.string k1, Value.int IntKind.i64 v1, Value.bool false] 102) = w2 at *
         generalize wr.heap.size = p at *
         have hA0 := fun y : Aft w2 => y.cell hpl hcL0
         have hA1 := fun y : Aft w2 => y.cell hpl hcL1
         have hA2 := fun y : Aft w2 => y.cell hpl hcL2
         have hA4 := fun y : Aft w2 => y.cell hbl4 hc4
         refine xJ (by kernel_rfl) (by kernel_rfl) ?_
         repeat (go_big_quiet_step ((first | (go_at_call 98; exact Aft.same (Hcall.out _)) | (go_at_call 89; exact Aft.same (Hcall2.out _)))))
         refine wpQuiet_nil ?_
         rintro _ ⟨y, rfl⟩
         have hb3 := zR hb2 y.below
         generalize y.at_ = w3 at *
         go_wp2
         go_ret
         exact ⟨xG hfin.out.symm, hb3⟩
       · have Hcall := Lib.hid hcall
         have Hcall2 := Lib.hid hcall2
         clear hcall hcall2
         go_wp2
         have hcL0 : (wr.alloc (Obj.cells #[Value.string k1, Value.int IntKind.i64 0, Value.bool true] 102)).cell? ⟨wr.heap.size, 0, none⟩ = some (.string k1) := cell_of_row _ _ _ _ _ (0, 0) (heap_alloc_new wr _)
         have hcL1 : (wr.alloc (Obj.cells #[Value.string k1, Value.int IntKind.i64 0, Value.bool true] 102)).cell? ⟨wr.heap.size, 1, none⟩ = some (.int .i64 0) := cell_of_row _ _ _ _ _ (0, 0) (heap_alloc_new wr _)
         have hcL2 : (wr.alloc (Obj.cells #[Value.string k1, Value.int IntKind.i64 0, Value.bool true] 102)).cell? ⟨wr.heap.size, 2, none⟩ = some (.bool true) := cell_of_row _ _ _ _ _ (0, 0) (heap_alloc_new wr _)
         have hpl : wr.heap.size < (wr.alloc (Obj.cells #[Value.string k1, Value.int IntKind.i64 0, Value.bool true] 102)).heap.size := by simp
         have hb2 : Below w.heap.size w (wr.alloc (Obj.cells #[Value.string k1, Value.int IntKind.i64 0, Value.bool true] 102)) := hb.alloc hb.size _
         obtain ⟨b', off', he, _, _, hc4, _, _⟩ := hr.edt hb2 (show k - 1 < es.length by omega)
         obtain ⟨rfl, rfl⟩ : b = b' ∧ off = off' := by simpa using he
         have hbl4 := Nat.lt_of_lt_of_le hbl hb2.size
         generalize wr.alloc (Obj.cells #[Value.string k1, Value.int IntKind.i64 0, Value.bool true] 102) = w2 at *
         generalize wr.heap.size = p at *
         have hA0 := fun y : Aft w2 => y.cell hpl hcL0
         have hA1 := fun y : Aft w2 => y.cell hpl hcL1
         have hA2 := fun y : Aft w2 => y.cell hpl hcL2
         have hA4 := fun y : Aft w2 => y.cell hbl4 hc4
         refine xJ (by kernel_rfl) (by kernel_rfl) ?_
         repeat (go_big_quiet_step ((first | (go_at_call 98; exact Aft.same (Hcall.out _)) | (go_at_call 89; exact Aft.same (Hcall2.out _)))))
         refine wpQuiet_nil ?_
         rintro _ ⟨y, rfl⟩
         have hb3 := zR hb2 y.below
         generalize y.at_ = w3 at *
         go_wp2
         go_ret
         exact ⟨xG hfin.out.symm, hb3⟩
      | true =>
       have hstep : Hid (∀ j, j < k + 1 → xX (kv es) j = true ∧ zm es j = true) := fun j hj => by
        rcases Nat.lt_or_ge j k with h | h
        · exact Hall.out j h
        · have : j = k := by omega
          subst this; exact ⟨ho, hE1.out⟩
       rw [ho] at ht
       clear ho
       rcases hgood with rfl | ⟨rfl, rfl⟩
       · have Hcall := Lib.hid hcall
         have Hcall2 := Lib.hid hcall2
         clear hcall hcall2
         go_wp2
         have hcL0 : (wr.alloc (Obj.cells #[Value.string k1, Value.int IntKind.i64 v1, Value.bool false] 102)).cell? ⟨wr.heap.size, 0, none⟩ = some (.string k1) := cell_of_row _ _ _ _ _ (0, 0) (heap_alloc_new wr _)
         have hcL1 : (wr.alloc (Obj.cells #[Value.string k1, Value.int IntKind.i64 v1, Value.bool false] 102)).cell? ⟨wr.heap.size, 1, none⟩ = some (.int .i64 v1) := cell_of_row _ _ _ _ _ (0, 0) (heap_alloc_new wr _)
         have hcL2 : (wr.alloc (Obj.cells #[Value.string k1, Value.int IntKind.i64 v1, Value.bool false] 102)).cell? ⟨wr.heap.size, 2, none⟩ = some (.bool false) := cell_of_row _ _ _ _ _ (0, 0) (heap_alloc_new wr _)
         have hpl : wr.heap.size < (wr.alloc (Obj.cells #[Value.string k1, Value.int IntKind.i64 v1, Value.bool false] 102)).heap.size := by simp
         have hb2 : Below w.heap.size w (wr.alloc (Obj.cells #[Value.string k1, Value.int IntKind.i64 v1, Value.bool false] 102)) := hb.alloc hb.size _
         obtain ⟨b', off', he, _, _, hc4, _, _⟩ := hr.edt hb2 (show k - 1 < es.length by omega)
         obtain ⟨rfl, rfl⟩ : b = b' ∧ off = off' := by simpa using he
         have hbl4 := Nat.lt_of_lt_of_le hbl hb2.size
         generalize wr.alloc (Obj.cells #[Value.string k1, Value.int IntKind.i64 v1, Value.bool false] 102) = w2 at *
         generalize wr.heap.size = p at *
         have hA0 := fun y : Aft w2 => y.cell hpl hcL0
         have hA1 := fun y : Aft w2 => y.cell hpl hcL1
         have hA2 := fun y : Aft w2 => y.cell hpl hcL2
         have hA4 := fun y : Aft w2 => y.cell hbl4 hc4
         refine xJ (by kernel_rfl) (by kernel_rfl) ?_
         repeat (go_big_quiet_step ((first | (go_at_call 98; exact Aft.same (Hcall.out _)) | (go_at_call 89; exact Aft.same (Hcall2.out _)))))
         refine wpQuiet_nil ?_
         rintro _ ⟨y, rfl⟩
         have hb3 := zR hb2 y.below
         generalize y.at_ = w3 at *
         go_wp2
         go_roundw
         case rel => exact ⟨k + 1, by omega, by go_num, hstep.out, hb3⟩
         case measure => simp [intOf]; omega
       · have Hcall := Lib.hid hcall
         have Hcall2 := Lib.hid hcall2
         clear hcall hcall2
         go_wp2
         have hcL0 : (wr.alloc (Obj.cells #[Value.string k1, Value.int IntKind.i64 0, Value.bool true] 102)).cell? ⟨wr.heap.size, 0, none⟩ = some (.string k1) := cell_of_row _ _ _ _ _ (0, 0) (heap_alloc_new wr _)
         have hcL1 : (wr.alloc (Obj.cells #[Value.string k1, Value.int IntKind.i64 0, Value.bool true] 102)).cell? ⟨wr.heap.size, 1, none⟩ = some (.int .i64 0) := cell_of_row _ _ _ _ _ (0, 0) (heap_alloc_new wr _)
         have hcL2 : (wr.alloc (Obj.cells #[Value.string k1, Value.int IntKind.i64 0, Value.bool true] 102)).cell? ⟨wr.heap.size, 2, none⟩ = some (.bool true) := cell_of_row _ _ _ _ _ (0, 0) (heap_alloc_new wr _)
         have hpl : wr.heap.size < (wr.alloc (Obj.cells #[Value.string k1, Value.int IntKind.i64 0, Value.bool true] 102)).heap.size := by simp
         have hb2 : Below w.heap.size w (wr.alloc (Obj.cells #[Value.string k1, Value.int IntKind.i64 0, Value.bool true] 102)) := hb.alloc hb.size _
         obtain ⟨b', off', he, _, _, hc4, _, _⟩ := hr.edt hb2 (show k - 1 < es.length by omega)
         obtain ⟨rfl, rfl⟩ : b = b' ∧ off = off' := by simpa using he
         have hbl4 := Nat.lt_of_lt_of_le hbl hb2.size
         generalize wr.alloc (Obj.cells #[Value.string k1, Value.int IntKind.i64 0, Value.bool true] 102) = w2 at *
         generalize wr.heap.size = p at *
         have hA0 := fun y : Aft w2 => y.cell hpl hcL0
         have hA1 := fun y : Aft w2 => y.cell hpl hcL1
         have hA2 := fun y : Aft w2 => y.cell hpl hcL2
         have hA4 := fun y : Aft w2 => y.cell hbl4 hc4
         refine xJ (by kernel_rfl) (by kernel_rfl) ?_
         repeat (go_big_quiet_step ((first | (go_at_call 98; exact Aft.same (Hcall.out _)) | (go_at_call 89; exact Aft.same (Hcall2.out _)))))
         refine wpQuiet_nil ?_
         rintro _ ⟨y, rfl⟩
         have hb3 := zR hb2 y.below
         generalize y.at_ = w3 at *
         go_wp2
         go_roundw
         case rel => exact ⟨k + 1, by omega, by go_num, hstep.out, hb3⟩
         case measure => simp [intOf]; omega
  · have hfin : Hid (xU es = true) := aBO (by rw [Hlen.out]; exact hn6) (fun i hi => Hall.out i (by rw [Hlen.out] at hi; omega))
    go_wp2
    go_ret
    exact ⟨xG hfin.out.symm, hb⟩
end Go.Proofs.YtodckioppgjbdaaDoor
