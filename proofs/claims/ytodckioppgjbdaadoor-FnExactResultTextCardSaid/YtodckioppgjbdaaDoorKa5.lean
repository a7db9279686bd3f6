/- Texts of the machine over data, folded. -/
import Derived.Test.YtodckioppgjbdaaDoorKa4
import Derived.Test.YtodckioppgjbdaaDoorRows
import Derived.WalkKit
import Derived.WalkLawsBesides
import Derived.WalkSpells
import Derived.Lib.Hide
import Derived.Deep.QuietTactic
import Derived.BigQuiet
import Derived.Deep.Draws
import Derived.Deep.Slices
import Derived.Deep.Fields
import Derived.Deep.AppendLies
import Derived.ChangeSame
import Derived.StillTailTactics
import Derived.Laws.BytesArg
import Derived.Deep.RegionHeld3
set_option linter.unusedVariables false
set_option linter.unusedSimpArgs false
namespace Go.Proofs.YtodckioppgjbdaaDoor.AM
open Go Go.RowKit
section
variable {P : Program} {Θ : Tab} {n : Nat} {Q : AEx → St → Prop} {s : St}
theorem aIV {a b : Code} (h : xH P Θ n a (AEx.then (xH P Θ n b Q) Q) s) : xH P Θ n (.seq a b) Q s := .inl h
theorem aHY (h : Q .normal s) : xH P Θ n .skip Q s := h
theorem aIT {id : Nat} {l : List Oper} (h : xJ P Θ n l.toArray false 0 l s (Q .normal)) : xH P Θ n (.region id l.toArray false) Q s := .inl ⟨(fun e => by cases e), h⟩
theorem aHU {id : Nat} {l : List Oper} (hB : Region.lexB .any l.toArray = true) (h : xJ P Θ n l.toArray true 0 l s (Q .normal)) : xH P Θ n (.region id l.toArray true) Q s := .inl ⟨fun _ => hB, h⟩
theorem aFe {c : Operand} {x y : Code} (hc : s.ev c = .v (.bool true)) (h : xH P Θ n x Q s) : xH P Θ n (.cond c x y) Q s := ⟨true, hc, h⟩
theorem aFd {c : Operand} {x y : Code} (hc : s.ev c = .v (.bool false)) (h : xH P Θ n y Q s) : xH P Θ n (.cond c x y) Q s := ⟨false, hc, h⟩
theorem aG6 {id : Nat} {c : Code} (h : xH P Θ n c (AEx.inBlock id Q) s) : xH P Θ n (.block id c) Q s := h
theorem aHX {c : Code} {ι : Type} (I : ι → InvM) (μ : ι → Nat) (i0 : ι) (h0 : s.leM (I i0)) (h : ∀ i, xH P Θ n c (AEx.then (fun s' => ∃ j, s'.leM (I j) ∧ μ j < μ i) Q) (I i).st) : xH P Θ n (.loop c) Q s := ⟨ι, I, μ, ⟨i0, h0⟩, h⟩
theorem aHV {id : Nat} (h : Q (.exit id) s) : xH P Θ n (.exit id) Q s := h
theorem aIU (h : Q .ret s) : xH P Θ n .ret Q s := h
theorem aFS {K : St → Prop} (h : K s) : AEx.then K Q .normal s := h
theorem aGs {K : St → Prop} {id : Nat} (h : Q (.exit id) s) : AEx.then K Q (.exit id) s := h
theorem aGr {K : St → Prop} (h : Q .ret s) : AEx.then K Q .ret s := h
theorem aHt {id : Nat} (h : Q .normal s) : AEx.inBlock id Q .normal s := h
theorem aHv {id : Nat} (h : Q .ret s) : AEx.inBlock id Q .ret s := h
theorem aHw {id : Nat} (h : Q .normal s) : AEx.inBlock id Q (.exit id) s := by show (bif Nat.beq id id then _ else _); simpa using h
theorem aHu {id j : Nat} (hj : Nat.beq j id = false) (h : Q (.exit j) s) : AEx.inBlock id Q (.exit j) s := by show (bif Nat.beq j id then _ else _); rw [hj]; exact h
theorem aIc {rs : List ResultVar} {out : Out} (h : Ret Θ rs [] out s) : kS Θ rs out .ret s := h
theorem aHx {rs : List ResultVar} {out : Out} (h : Ret Θ rs [] out s) : kS Θ rs out .normal s := h
variable {ops : Array Oper} {draw : Bool} {k : Nat} {o : Oper} {r : List Oper} {K : St → Prop}
theorem aGT (h : K s) : xJ P Θ n ops draw k [] s K := h
theorem jB {e : Eff} (hg : xV ops s o = some true) (hin : inN n o.dst = true) (hp : Pre P Θ o s e) (hu : draw = true → e.upd = none ∨ tied ops k = true ∨ um Θ ops (fun j => Nat.blt j k) k s e) (h : xJ P Θ n ops draw (k + 1) r (s.app o.dst e) K) : xJ P Θ n ops draw k (o :: r) s K := by
 unfold xJ; rw [hg]; exact ⟨hin, e, hp, hu, .inl h⟩
theorem qZ {d : Option Tmp} {op : Op} {ty : TypeId} {pos : String} {after : Array Edge} {g : Option (Nat × Bool)} {v : AV} (hp : Pre P Θ ⟨d, op, ty, pos, after, g⟩ s ⟨v, none⟩) (hg : xV ops s ⟨d, op, ty, pos, after, g⟩ = some true) (hin : inN n d = true) (h : xJ P Θ n ops draw (k + 1) r (s.put d v) K) : xJ P Θ n ops draw k (⟨d, op, ty, pos, after, g⟩ :: r) s K :=
 jB hg hin hp (fun _ => .inl rfl) h
theorem aFC (hg : xV ops s o = some false) (hin : inN n o.dst = true) (h : xJ P Θ n ops draw (k + 1) r (s.put o.dst (.tup [])) K) : xJ P Θ n ops draw k (o :: r) s K := by
 unfold xJ; rw [hg]; exact ⟨hin, h⟩
variable {d : Option Tmp} {ty : TypeId} {pos : String} {after : Array Edge} {g : Option (Nat × Bool)}
theorem aFw {t : Nat} {y : AV} (h : s.sl t = y) : Pre P Θ ⟨d, .move (.tmp t), ty, pos, after, g⟩ s ⟨y, none⟩ := ⟨(fun c e => by cases e), .inl (by rw [← h]; rfl)⟩
theorem aFv {t : Nat} {y : AV} (h : s.sl t = y) : Pre P Θ ⟨d, .assign (.tmp t), ty, pos, after, g⟩ s ⟨y, none⟩ := ⟨(fun c e => by cases e), .inl (by rw [← h]; rfl)⟩
theorem aGU {c : Value} (h : c.oneCell' = true) : Pre P Θ ⟨d, .assign (.const c), ty, pos, after, g⟩ s ⟨.v c, none⟩ := ⟨(fun c' e => by cases e; exact h), .inl rfl⟩
theorem aI9 {c : Value} (h : c.oneCell' = true) : Pre P Θ ⟨d, .move (.const c), ty, pos, after, g⟩ s ⟨.v c, none⟩ := ⟨(fun c' e => by cases e; exact h), .inl rfl⟩
theorem yJ {op : BinOp} {t t2 : TypeId} {x y : Operand} {a b r : Value} (h : yR P op t x y a b r) (hx : s.ev x = .v a) (hy : s.ev y = .v b) (h1 : r.oneCell' = true) : Pre P Θ ⟨d, .binOp op t x y t2, ty, pos, after, g⟩ s ⟨.v r, none⟩ :=
 .inl ⟨a, b, r, by rw [hx]; rfl, by rw [hy]; rfl, h, h1, rfl⟩
theorem aGX {t : TypeId} {x : Operand} {b : Bool} (hx : s.ev x = .v (.bool b)) : Pre P Θ ⟨d, .unOp .not t x, ty, pos, after, g⟩ s ⟨.v (.bool (!b)), none⟩ :=
 ⟨.bool b, .bool (!b), by rw [hx]; rfl, fun w => rfl, rfl, rfl⟩
def cOK : Operand → Bool
 | .const c => c.oneCell'
 | _ => true
theorem vM {x : Operand} (h : cOK x = true) : ∀ c, x = .const c → c.oneCell' = true := fun c e => by subst e; exact h
def wH : List Operand → Bool
 | [] => true
 | x :: r => cOK x && wH r
theorem vB : ∀ {xs : List Operand}, wH xs = true → ∀ x ∈ xs, ∀ c, x = .const c → c.oneCell' = true
 | [], _, x, hx => by simp at hx
 | y :: ys, h, x, hx => by
  simp only [wH, Bool.and_eq_true] at h
  rcases List.mem_cons.1 hx with rfl | hx
  · exact vM h.1
  · exact vB h.2 x hx
theorem aFL {c x y : Operand} {t : Bool} {z : AV} (hc : s.ev c = .v (.bool t)) (hz : (bif t then s.ev x else s.ev y) = z) (hx : cOK x = true) (hy : cOK y = true) : Pre P Θ ⟨d, .pick c x y, ty, pos, after, g⟩ s ⟨z, none⟩ :=
 ⟨vM hx, vM hy, t, hc, by rw [hz]⟩
theorem aET {x : Operand} {t : TypeId} {m : Nat} {y : AV} (hx : s.ev x = y) (hl : vV s y = some m) (hok : aAf Θ t y) : Pre P Θ ⟨d, .call ⟨.builtin .len, #[x], #[t]⟩, ty, pos, after, g⟩ s ⟨.v (.int .i64 (m : Int)), none⟩ :=
 ⟨x, t, m, rfl, rfl, by rw [hx]; exact hl, by rw [hx]; exact hok, rfl⟩
theorem aFI {α : Type} {xs : List α} {f : α → AV} {sz : Nat} {x : Operand} {t : TypeId} (hx : s.ev x = .lst sz (xs.map f)) (hok : ∃ e sz b z, Θ.look t = .slice e sz b z) : Pre P Θ ⟨d, .call ⟨.builtin .len, #[x], #[t]⟩, ty, pos, after, g⟩ s ⟨.v (.int .i64 (xs.length : Int)), none⟩ :=
 ⟨x, t, xs.length, rfl, rfl, by rw [hx]; simp [vV], by rw [hx]; exact hok, rfl⟩
theorem aDk {α : Type} {xs : List α} {f : α → AV} {l sz e : Nat} {x : Operand} {t : TypeId} (hx : s.ev x = .own l) (ho : s.hp l = some ⟨e, sz, xs.map f⟩) (hok : ∃ e sz b z, Θ.look t = .slice e sz b z) : Pre P Θ ⟨d, .call ⟨.builtin .len, #[x], #[t]⟩, ty, pos, after, g⟩ s ⟨.v (.int .i64 (xs.length : Int)), none⟩ :=
 ⟨x, t, xs.length, rfl, rfl, by rw [hx]; simp [vV, ho], by rw [hx]; exact hok, rfl⟩
theorem aGW {t1 t2 : TypeId} {x : Operand} {q : AV} {r : Value} (h : aBw P t1 t2 q r) (hx : s.dat (s.ev x) = q) (hok : y5 s [s.ev x] = true) (hc : cOK x = true) (h1 : r.oneCell' = true) : Pre P Θ ⟨d, .convert t1 t2 x, ty, pos, after, g⟩ s ⟨.v r, none⟩ :=
 .inr ⟨r, vM hc, hok, hx ▸ h, h1, rfl⟩
theorem aI5 {t1 t2 : TypeId} {x : Operand} {a r : Value} (hr : ∀ w, (convert t1 t2 a).run P w = .ok r w) (hx : s.ev x = .v a) (h1 : r.oneCell' = true) : Pre P Θ ⟨d, .convert t1 t2 x, ty, pos, after, g⟩ s ⟨.v r, none⟩ :=
 .inl ⟨a, r, by rw [hx]; rfl, hr, h1, rfl⟩
theorem aI8 {t el sz b : Nat} {z : AV} {x ix : Operand} {k : IntKind} {j : Nat} {xs : List AV} {y : AV} (hy : xs[j]? = some y) (ht : Θ.look t = .slice el sz b z) (hx : s.ev x = .lst sz xs) (hi : s.ev ix = .v (.int k ((j : Nat) : Int))) : Pre P Θ ⟨d, .indexAddr t x ix, ty, pos, after, g⟩ s ⟨.ptr y, none⟩ :=
 ⟨k, j, hi, .inl ⟨el, sz, b, z, ht, .inl ⟨xs, y, hx, hy, rfl⟩⟩⟩
theorem aCm {t el sz b : Nat} {z : AV} {x ix : Operand} {k : IntKind} {j l : Nat} {ob : OB} (hj : j < ob.xs.length) (ht : Θ.look t = .slice el sz b z) (hx : s.ev x = .own l) (hi : s.ev ix = .v (.int k ((j : Nat) : Int))) (ho : s.hp l = some ob) (hs : ob.sz = sz) : Pre P Θ ⟨d, .indexAddr t x ix, ty, pos, after, g⟩ s ⟨.optr l j [] 0, none⟩ :=
 ⟨k, j, hi, .inl ⟨el, sz, b, z, ht, .inr ⟨l, ob, hx, ho, hs, hj, rfl⟩⟩⟩
theorem aGm {t el m sz : Nat} {z : AV} {x ix : Operand} {k : IntKind} {j : Nat} {xs : List AV} {y : AV} (hy : xs[j]? = some y) (hj : j < m) (ht : Θ.look t = .arr el m sz z) (hx : s.ev x = .ptr (.agg xs)) (hi : s.ev ix = .v (.int k ((j : Nat) : Int))) (ha : ∀ x ∈ xs, asz x = sz) : Pre P Θ ⟨d, .indexAddr t x ix, ty, pos, after, g⟩ s ⟨.ptr y, none⟩ :=
 ⟨k, j, hi, .inr ⟨el, m, sz, z, ht, hj, .inl ⟨xs, y, hx, hy, ha, rfl⟩⟩⟩
theorem aI7 {t : TypeId} {x : Operand} {f : Nat} {fs : List (Nat × Nat)} {z ys : List AV} {o_ z_ : Nat} {y : AV} (ht : Θ.look t = .struct fs z) (hf : fs[f]? = some (o_, z_)) (hx : s.ev x = .ptr (.agg ys)) (hy : ys[f]? = some y) (hs : xA (ys.take f) = o_) : Pre P Θ ⟨d, .fieldAddr t x f, ty, pos, after, g⟩ s ⟨.ptr y, none⟩ :=
 ⟨fs, z, o_, z_, ht, hf, .inl ⟨ys, y, hx, hy, hs, rfl⟩⟩
theorem aCl {t : TypeId} {x : Operand} {f : Nat} {fs : List (Nat × Nat)} {z : List AV} {o_ z_ l i c : Nat} {p : List Nat} (ht : Θ.look t = .struct fs z) (hf : fs[f]? = some (o_, z_)) (hx : s.ev x = .optr l i p c) : Pre P Θ ⟨d, .fieldAddr t x f, ty, pos, after, g⟩ s ⟨.optr l i (p ++ [f]) (c + o_), none⟩ :=
 ⟨fs, z, o_, z_, ht, hf, .inr ⟨l, i, p, c, hx, rfl⟩⟩
theorem aIq {t : TypeId} {x : Operand} {y : AV} (hx : s.ev x = .ptr y) (hk : (Θ.look t).known = true) (ha : yj y = (Θ.look t).isAgg) (hs : asz y = (Θ.look t).size) : Pre P Θ ⟨d, .load t x, ty, pos, after, g⟩ s ⟨y, none⟩ :=
 ⟨hk, .inl ⟨y, hx, ha, hs, rfl⟩⟩
theorem aCE {t : TypeId} {x : Operand} {l i c : Nat} {p : List Nat} {ob : OB} {y z : AV} (hx : s.ev x = .optr l i p c) (ho : s.hp l = some ob) (hy : ob.xs[i]? = some y) (hg : xM y p 0 = some (z, c)) (hk : (Θ.look t).known = true) (ha : yj z = (Θ.look t).isAgg) (hs : asz z = (Θ.look t).size) (hop : ob.e.open_ = true := by rfl) : Pre P Θ ⟨d, .load t x, ty, pos, after, g⟩ s ⟨z, none⟩ :=
 ⟨hk, .inr ⟨l, i, p, c, ob, hx, ho, .inl ⟨y, z, .inl hop, hy, hg, ha, hs, rfl⟩⟩⟩
theorem aHs {t : TypeId} {x : Operand} {l i c : Nat} {p : List Nat} {ob : OB} {t' : Option Nat} {y z x' : AV} (hx : s.ev x = .optr l i p c) (ho : s.hp l = some ob) (hop : yO ob.e ob.xs i = some (.o t' i y)) (hg : xM y p 0 = some (z, c)) (hz : ofO z = some x') (hk : (Θ.look t).known = true) (ha : yj x' = (Θ.look t).isAgg) (hs : asz x' = (Θ.look t).size) : Pre P Θ ⟨d, .load t x, ty, pos, after, g⟩ s ⟨x', none⟩ :=
 ⟨hk, .inr ⟨l, i, p, c, ob, hx, ho, .inr ⟨t', y, z, hop, hg, .inl ⟨x', hz, ha, hs, rfl⟩⟩⟩⟩
theorem aI6 {x : Operand} {i : Nat} {xs : List AV} {y : AV} (hx : s.ev x = .tup xs) (hy : xs[i]? = some y) : Pre P Θ ⟨d, .extract x i, ty, pos, after, g⟩ s ⟨y, none⟩ := ⟨xs, y, hx, hy, rfl⟩
theorem jC {f : FuncId} {ags : Array Operand} {ts : Array TypeId} {t : Nat} {args : List AV} {out : Out} (hac : AC P f args out) (ha : (ags.toList.map fun x => s.dat (s.ev x)) = args) (hfl : (xY s ags.toList).isEmpty = true ∨ out.flat) (hfr : xg s (t + 1) 0 out.obs) (hok : y5 s (ags.toList.map s.ev) = true) (hc : wH ags.toList = true) :
 Pre P Θ ⟨some t, .call ⟨.value (.func f), ags, ts⟩, ty, pos, after, g⟩ s ⟨ren (t + 1) out.val, vK (t + 1) out.obs⟩ :=
 ⟨f, [], [], t, out, rfl, rfl, vB hc, .inl ⟨args, by rw [← ha]; simp [Function.comp_def], hac, hfr, by simpa using hok, .inl ⟨hfl.imp (fun h => by simpa [xY] using h) id, by simp [vK]⟩⟩⟩
theorem aBP {f : FuncId} {xs ys : List AV} {x : Operand} {ags : Array Operand} {ts : Array TypeId} {t : Nat} {args : List AV} {out : Out} (hac : AC P f args out) (hx : s.ev x = .fn f xs ys) (ha : ((xs ++ ags.toList.map s.ev ++ ys).map s.dat) = args) (hfl : (xR (xs ++ ags.toList.map s.ev ++ ys)).isEmpty = true ∨ out.flat) (hfr : xg s (t + 1) 0 out.obs) (hok : y5 s (xs ++ ags.toList.map s.ev ++ ys) = true) (hc : wH ags.toList = true) :
 Pre P Θ ⟨some t, .call ⟨.value x, ags, ts⟩, ty, pos, after, g⟩ s ⟨ren (t + 1) out.val, vK (t + 1) out.obs⟩ :=
 ⟨f, xs, ys, t, out, hx, rfl, vB hc, .inl ⟨args, ha, hac, hfr, hok, .inl ⟨hfl.imp (fun h => by simpa using h) id, rfl⟩⟩⟩
end
theorem aHq {P : Program} {Θ : Tab} {s : St} {d : Nat} {ty : TypeId} {pos : String} {after : Array Edge} {g : Option (Nat × Bool)} (el : ET) (sz : Nat) (h : 0 < sz) (hsh : el.row = true := by rfl) (hok : okL (d + 1) = true := by rfl) : Pre P Θ ⟨some d, .assign (.const (.slice none 0 0)), ty, pos, after, g⟩ s ⟨.own (d + 1), some fun s => (s.kill (d + 1)).set (d + 1) (some ⟨el, sz, []⟩)⟩ :=
 ⟨(fun c e => by cases e; rfl), .inr (.inr (.inl ⟨d, el, sz, rfl, h, hsh, hok, rfl, rfl⟩))⟩
theorem aHr {P : Program} {Θ : Tab} {s : St} {d : Nat} {ty : TypeId} {pos : String} {after : Array Edge} {g : Option (Nat × Bool)} (el : ET) (sz : Nat) (h : 0 < sz) (hsh : el.row = true := by rfl) (hok : okL (d + 1) = true := by rfl) : Pre P Θ ⟨some d, .move (.const (.slice none 0 0)), ty, pos, after, g⟩ s ⟨.own (d + 1), some fun s => (s.kill (d + 1)).set (d + 1) (some ⟨el, sz, []⟩)⟩ :=
 ⟨(fun c e => by cases e; rfl), .inr (.inr (.inl ⟨d, el, sz, rfl, h, hsh, hok, rfl, rfl⟩))⟩
theorem aFJ {P : Program} {Θ : Tab} {s : St} {d : Nat} {ty : TypeId} {pos : String} {after : Array Edge} {g : Option (Nat × Bool)} {t : TypeId} {l c : Operand} {el sz b n : Nat} {z : AV} {k k' : IntKind} (hn : b * n ≤ 140737488355328) (hn' : n ≤ 9223372036854775807) (hl : s.ev l = .v (.int k (n : Int))) (hc : s.ev c = .v (.int k' (n : Int))) (hf : s.hp (d + 1) = none) (ht : Θ.look t = .slice el sz b z) (hok : okL (d + 1) = true := by rfl) :
 Pre P Θ ⟨some d, .makeSlice t l c, ty, pos, after, g⟩ s ⟨.own (d + 1), some fun s => s.set (d + 1) (some ⟨kz el z, sz, List.replicate n z⟩)⟩ := ⟨d, el, sz, b, z, n, k, k', rfl, hf, hok, ht, hl, hc, hn, hn', rfl⟩
theorem aGV {P : Program} {Θ : Tab} {s : St} {ty : TypeId} {pos : String} {after : Array Edge} {g : Option (Nat × Bool)} {t : TypeId} {x : Operand} {d : Nat} {y : AV} (hf : s.hp (d + 1) = none) (hx : s.ev x = y) (hk : (match y with | .v c => c.oneCell' | .agg _ => true | .lst _ _ => true | _ => false) = true) (hs : ((Θ.look t).known && Nat.beq (asz y) (Θ.look t).size) = true) (hok : okL (d + 1) = true := by rfl) :
 Pre P Θ ⟨some d, .box t x, ty, pos, after, g⟩ s ⟨.optr (d + 1) 0 [] 0, some fun s' => s'.set (d + 1) (some ⟨.s t, (Θ.look t).size, [y]⟩)⟩ := by
 have hd : s.dat (s.ev x) = y := by rw [hx]; cases y <;> first | rfl | simp at hk
 have ho : xu (s.ev x) = [] := by rw [hx]; cases y <;> first | rfl | simp at hk
 simp only [Bool.and_eq_true] at hs
 refine ⟨fun c e => ?_, d, rfl, hf, hok, hs.1, .inl ⟨by rw [hd]; exact Nat.eq_of_beq_eq_true hs.2, by rw [hx]; cases y <;> first | exact hk | rfl | simp at hk, by rw [ho]; rfl, ?_⟩⟩
 · subst e; simp only [St.ev] at hx; subst hx; exact hk
 · rw [hd, ho]; rfl
theorem aHm {P : Program} {Θ : Tab} {s : St} {ty : TypeId} {pos : String} {after : Array Edge} {g : Option (Nat × Bool)} {t : TypeId} {d : Nat} (hf : s.hp (d + 1) = none) (hk : (Θ.look t).known = true) (hok : okL (d + 1) = true := by rfl) :
 Pre P Θ ⟨some d, .alloc t, ty, pos, after, g⟩ s ⟨.optr (d + 1) 0 [] 0, some fun s => s.set (d + 1) (some ⟨kz t (Θ.look t).zero, (Θ.look t).size, [(Θ.look t).zero]⟩)⟩ := ⟨d, rfl, hf, hok, hk, rfl⟩
theorem jY {P : Program} {Θ : Tab} {s : St} {d : Option Tmp} {ty : TypeId} {pos : String} {after : Array Edge} {g : Option (Nat × Bool)} {t : TypeId} {x y : Operand} {l i c : Nat} {p : List Nat} {ob : OB} {q z v : AV} (hq : ob.xs[i]? = some q) (hx : s.ev x = .optr l i p c) (ho : s.hp l = some ob) (hg : xM q p 0 = some (z, c)) (hs : ((Θ.look t).known && (Nat.beq (asz z) (Θ.look t).size && Nat.beq (asz v) (asz z))) = true) (hy : s.ev y = v) (hv : (match v with | .v c => c.oneCell' | .agg _ => true | .lst _ _ => true | .ptr _ => true | _ => false) = true) (hop : ob.e.open_ = true := by rfl) :
 Pre P Θ ⟨d, .store t x y, ty, pos, after, g⟩ s ⟨.any, some fun s' => s'.set l (some ⟨.s (ob.e.typ.getD 0), ob.sz, ob.xs.set i (zK q p v)⟩)⟩ := by
 simp only [Bool.and_eq_true] at hs
 have hd : s.dat (s.ev y) = v := by rw [hy]; cases v <;> first | rfl | cases hv
 have hown : xu (s.ev y) = [] := by rw [hy]; cases v <;> first | rfl | cases hv
 have hda : xD s (s.ev y) = true := by rw [hy]; cases v <;> first | exact hv | rfl | cases hv
 obtain ⟨t0, he⟩ : ∃ t0, ob.e = .s t0 ∨ ob.e = .z t0 := by
  cases h : ob.e with
  | s t0 => exact ⟨t0, .inl rfl⟩
  | z t0 => exact ⟨t0, .inr rfl⟩
  | _ => rw [h] at hop; cases hop
 have ht : ob.e.typ.getD 0 = t0 := by rcases he with he | he <;> rw [he] <;> rfl
 refine ⟨fun c e => ?_, hs.1, l, i, p, c, ob, hx, ho, .inl ⟨t0, q, z, he, hq, hg, Nat.eq_of_beq_eq_true hs.2.1, by rw [hd]; exact Nat.eq_of_beq_eq_true hs.2.2, hda, by rw [hown]; rfl, by rw [hown]; rfl, ?_⟩⟩
 · subst e; simp only [St.ev] at hy; subst hy; exact hv
 · rw [hd, hown, ht]; rfl
theorem aFh {α : Type} (f : α → AV) {es : List α} {k : Nat} (h : k < es.length) : (es.map f)[k]? = some (f es[k]) := by simp [h]
section
variable {P : Program} {t : TypeId} {x y : Operand} {k : IntKind} {a b : Int}
theorem aHN (h : a < b) : yR P .lss t x y (.int k a) (.int k b) (.bool true) := fun w => by simp [eqGuard, binOp, Op.intCmp, h]
theorem aEg (h : ¬ a < b) : yR P .lss t x y (.int k a) (.int k b) (.bool false) := fun w => by simp [eqGuard, binOp, Op.intCmp]; omega
theorem aHM (h : a ≤ b) : yR P .leq t x y (.int k a) (.int k b) (.bool true) := fun w => by simp [eqGuard, binOp, Op.intCmp, h]
theorem aHL (h : ¬ a ≤ b) : yR P .leq t x y (.int k a) (.int k b) (.bool false) := fun w => by simp [eqGuard, binOp, Op.intCmp]; omega
theorem aEf (h : a > b) : yR P .gtr t x y (.int k a) (.int k b) (.bool true) := fun w => by simp [eqGuard, binOp, Op.intCmp]; omega
theorem aEe (h : ¬ a > b) : yR P .gtr t x y (.int k a) (.int k b) (.bool false) := fun w => by simp [eqGuard, binOp, Op.intCmp]; omega
theorem aHK (h : a ≥ b) : yR P .geq t x y (.int k a) (.int k b) (.bool true) := fun w => by simp [eqGuard, binOp, Op.intCmp]; omega
theorem aEd (h : ¬ a ≥ b) : yR P .geq t x y (.int k a) (.int k b) (.bool false) := fun w => by simp [eqGuard, binOp, Op.intCmp]; omega
theorem aCT (h : a = b) : yR P .eql t x y (.int k a) (.int k b) (.bool true) := fun w => by simp [eqGuard, binOp, Op.intCmp, h]
theorem aCS (h : ¬ a = b) : yR P .eql t x y (.int k a) (.int k b) (.bool false) := fun w => by simp [eqGuard, binOp, Op.intCmp, h]
theorem aEh (h : ¬ a = b) : yR P .neq t x y (.int k a) (.int k b) (.bool true) := fun w => by simp [eqGuard, binOp, Op.intCmp, h]
theorem aCU (h : a = b) : yR P .neq t x y (.int k a) (.int k b) (.bool false) := fun w => by simp [eqGuard, binOp, Op.intCmp, h]
theorem aGL {c : Int} (h : c = a + b) (hl : -9223372036854775808 ≤ c) (hu : c ≤ 9223372036854775807) : yR P .add t x y (.int .i64 a) (.int .i64 b) (.int .i64 c) := fun w => by
 have hw : IntKind.i64.wrap (a + b) = c := by rw [IntKind.wrap_i64, ← h]; omega
 simp [eqGuard, binOp, Op.intArith, hw]
theorem aIR {c : Int} (h : c = a - b) (hl : -9223372036854775808 ≤ c) (hu : c ≤ 9223372036854775807) : yR P .sub t x y (.int .i64 a) (.int .i64 b) (.int .i64 c) := fun w => by
 have hw : IntKind.i64.wrap (a - b) = c := by rw [IntKind.wrap_i64, ← h]; omega
 simp [eqGuard, binOp, Op.intArith, hw]
theorem aA0 {op : BinOp} {a b : ByteArray} {r : Value} (h : ∀ w, (Op.stringOp op a b).run P w = .ok r w) : yR P op t x y (.string a) (.string b) r := fun w => by
 cases op <;> simp only [eqGuard, binOp] <;> first | exact h w | simpa using h w
end
section
variable {P : Program} {Θ : Tab} {s : St} {ty : TypeId} {pos : String} {after : Array Edge} {g : Option (Nat × Bool)} {t kt vt : TypeId} {z : AV} {l : Nat} {ent : List (ByteArray × AV)} {kk : ByteArray}
end
def force (x : AV) (k : AV → Option St) : Option St :=
 match x with
 | .any => none
 | .v c => k (.v c)
 | .agg xs => k (.agg xs)
 | .lst z xs => k (.lst z xs)
 | .ptr y => k (.ptr y)
 | .own l => k (.own l)
 | .optr l i p c => k (.optr l i p c)
 | .tup xs => k (.tup xs)
 | .mapv l => k (.mapv l)
 | .mix xs => k (.mix xs)
 | .rd x => k (.rd x)
 | .fn f xs ys => k (.fn f xs ys)
 | .ifc t x => k (.ifc t x)
theorem force_eq {x : AV} {k : AV → Option St} {s : St} (h : force x k = some s) : k x = some s := by
 cases x <;> first | exact h | cases h
def wC : List AV → (List AV → Option St) → Option St
 | [], k => k []
 | x :: r, k => force x fun y => wC r fun ys => k (y :: ys)
theorem wD {s : St} : ∀ {xs : List AV} {k : List AV → Option St}, wC xs k = some s → k xs = some s
 | [], k, h => h
 | x :: r, k, h => wD (xs := r) (k := fun ys => k (x :: ys)) (force_eq (k := fun y => wC r fun ys => k (y :: ys)) h)
def qE (s : St) : List AV → List (Nat × Operand) → Bool
 | _, [] => true
 | z, (i, x) :: r => (match z[i]? with | some y => Nat.beq (asz (s.dat (s.ev x))) (asz y) | none => false) && (xD s (s.ev x) && qE s (z.set i (s.dat (s.ev x))) r)
theorem qF {s : St} : ∀ (ps : List (Nat × Operand)) (z : List AV), qE s z ps = true → zb s z ps
 | [], z, _ => trivial
 | (i, x) :: r, z, h => by
  simp only [qE, Bool.and_eq_true] at h
  refine ⟨?_, h.2.1, qF r _ h.2.2⟩
  have h1 := h.1
  split at h1
  · rename_i y hy; exact ⟨y, hy, Nat.eq_of_beq_eq_true h1⟩
  · cases h1
def aCD (Θ : Tab) (draw : Bool) (dst : Option Tmp) (ty : TypeId) (c : Value) : Option (Nat × Nat × Nat) :=
 match c, dst, Θ.look ty with
 | .slice none 0 0, some d, .slice el sz _ _ => bif !draw && (Nat.blt 0 sz && okL (d + 1)) then some (d, el, sz) else none
 | _, _, _ => none
theorem yS {α : Type} {b : Bool} {x : Option α} {y : α} (h : (bif b then x else none) = some y) : b = true ∧ x = some y := by cases b with
 | true => exact ⟨rfl, h⟩
 | false => cases h
theorem aCi {Θ : Tab} {draw : Bool} {dst : Option Tmp} {ty : TypeId} {c : Value} {d el sz : Nat} (h : aCD Θ draw dst ty c = some (d, el, sz)) : dst = some d ∧ c = .slice none 0 0 ∧ draw = false ∧ 0 < sz ∧ okL (d + 1) = true := by
 unfold aCD at h
 split at h
 · obtain ⟨h1, h2⟩ := yS h
   cases h2
   simp only [Bool.and_eq_true] at h1
   exact ⟨rfl, rfl, by cases draw <;> simp_all, by simpa using h1.2.1, h1.2.2⟩
 · cases h
def aEl : AV → Bool
 | .v (.slice none 0 0) => true
 | _ => false
def TI.isIface : TI → Bool
 | .iface => true
 | _ => false
def yw (Θ : Tab) (draw : Bool) (o : Oper) (s : St) : Option St :=
 match o.op with
 | .move (.tmp t) => force (s.sl t) fun v => some (s.put o.dst v)
 | .assign (.tmp t) => force (s.sl t) fun v => some (s.put o.dst v)
 | .move (.const c) => match aCD Θ draw o.dst o.type c with
  | some (d, el, sz) => some (((s.kill (d + 1)).set (d + 1) (some ⟨.s el, sz, []⟩)).put (some d) (.own (d + 1)))
  | none => bif c.oneCell' then some (s.put o.dst (.v c)) else none
 | .assign (.const c) => match aCD Θ draw o.dst o.type c with
  | some (d, el, sz) => some (((s.kill (d + 1)).set (d + 1) (some ⟨.s el, sz, []⟩)).put (some d) (.own (d + 1)))
  | none => bif c.oneCell' then some (s.put o.dst (.v c)) else none
 | .pick c a b => match s.ev c with
  | .v (.bool t) => bif cOK a && cOK b then force (bif t then s.ev a else s.ev b) fun v => some (s.put o.dst v) else none
  | _ => none
 | .unOp .not _ x => match s.ev x with
  | .v (.bool b) => some (s.put o.dst (.v (.bool (!b))))
  | _ => none
 | .extract x i => match s.ev x with
  | .tup xs => match xs[i]? with
   | some y => force y fun v => some (s.put o.dst v)
   | none => none
  | _ => none
 | .fieldAddr t x f => match Θ.look t with
  | .struct fs _ => match fs[f]? with
   | some (o_, _) => match s.ev x with
    | .ptr (.agg ys) => match ys[f]? with
     | some y => bif Nat.beq (xA (ys.take f)) o_ then some (s.put o.dst (.ptr y)) else none
     | none => none
    | .optr l i p c => some (s.put o.dst (.optr l i (p ++ [f]) (c + o_)))
    | _ => none
   | none => none
  | _ => none
 | .load t x => match s.ev x with
  | .ptr y => bif (Θ.look t).known && (Bool.xor (yj y) (Θ.look t).isAgg).not && Nat.beq (asz y) (Θ.look t).size then force y fun v => some (s.put o.dst v) else none
  | .optr l i p c => match s.hp l with
   | some ob => bif ob.e.open_ then (match ob.xs[i]? with
    | some y => match xM y p 0 with
     | some (z, c') => bif Nat.beq c' c && (Θ.look t).known && (Bool.xor (yj z) (Θ.look t).isAgg).not && Nat.beq (asz z) (Θ.look t).size then force z fun v => some (s.put o.dst v) else none
     | none => none
    | none => none) else (match yO ob.e ob.xs i with
    | some (.o t' i' y) => match xM y p 0 with
     | some (z, c') => bif aEl z then none else (match ofO z with
      | some x' => bif Nat.beq i' i && Nat.beq c' c && (Θ.look t).known && (Bool.xor (yj x') (Θ.look t).isAgg).not && Nat.beq (asz x') (Θ.look t).size then force x' fun v => some (s.put o.dst v) else none
      | none => none)
     | none => none
    | _ => none)
   | none => none
  | _ => none
 | .alloc t => match o.dst with
  | some d => match s.hp (d + 1) with
   | none => bif !draw && ((Θ.look t).known && okL (d + 1)) then some ((s.set (d + 1) (some ⟨kz t (Θ.look t).zero, (Θ.look t).size, [(Θ.look t).zero]⟩)).put (some d) (.optr (d + 1) 0 [] 0)) else none
   | some _ => none
  | none => none
 | .box t x => match o.dst with
  | some d => match s.hp (d + 1) with
   | none => match s.ev x with
    | .agg ys => bif (!draw && okL (d + 1)) && ((Θ.look t).known && Nat.beq (asz (.agg ys)) (Θ.look t).size) then some ((s.set (d + 1) (some ⟨.s t, (Θ.look t).size, [.agg ys]⟩)).put (some d) (.optr (d + 1) 0 [] 0)) else none
    | _ => none
   | some _ => none
  | none => none
 | .build t ps => match Θ.look t with
  | .struct _ z => bif (xY s (ps.toList.map (·.2))).isEmpty && (wH (ps.toList.map (·.2)) && qE s z ps.toList) then wC (xq s z ps.toList) fun ys => some (s.put o.dst (.agg ys)) else none
  | _ => none
 | .buildSlice t m ps => match o.dst with
  | some d => match s.hp (d + 1) with
   | none => match Θ.look t with
    | .slice el sz _ z => bif !draw && ((xY s (ps.toList.map (·.2))).isEmpty && (Nat.ble (m * sz) 65536 && (okL (d + 1) && (wH (ps.toList.map (·.2)) && qE s (List.replicate m z) ps.toList)))) then wC (xq s (List.replicate m z) ps.toList) fun ys => some ((s.set (d + 1) (some ⟨.s el, sz, ys⟩)).put (some d) (.own (d + 1))) else none
    | _ => none
   | some _ => none
  | none => none
 | .nilCheck x => match s.ev x with
  | .ptr y => some (s.put o.dst (.ptr y))
  | .optr l i p c => some (s.put o.dst (.optr l i p c))
  | .fn f xs ys => some (s.put o.dst (.fn f xs ys))
  | .ifc t y => some (s.put o.dst (.ifc t y))
  | _ => none
 | .makeFunc (.func f) first captured => bif wH (first.toList ++ captured.toList) then wC (first.toList.map s.ev) fun xs => wC (captured.toList.map s.ev) fun ys => some (s.put o.dst (.fn f xs ys)) else none
 | .makeInterface t x => bif cOK x && (Θ.look t).known && !(Θ.look t).isIface then force (s.ev x) fun v => some (s.put o.dst (.ifc t v)) else none
 | _ => none
section
variable {P : Program} {Θ : Tab} {n : Nat} {ops : Array Oper} {draw : Bool} {s s' : St}
theorem xor_not {a b : Bool} (h : (Bool.xor a b).not = true) : a = b := by cases a <;> cases b <;> first | rfl | cases h
theorem aCx {o : Oper} (h : yw Θ draw o s = some s') : ∃ e, Pre P Θ o s e ∧ (draw = true → e.upd = none) ∧ s.app o.dst e = s' := by
 obtain ⟨dst, op, ty, pos, after, guard⟩ := o
 have fin : ∀ {v : AV}, Pre P Θ ⟨dst, op, ty, pos, after, guard⟩ s ⟨v, none⟩ → some (s.put dst v) = some s' → ∃ e, Pre P Θ ⟨dst, op, ty, pos, after, guard⟩ s e ∧ (draw = true → e.upd = none) ∧ s.app dst e = s' := fun hp he => ⟨_, hp, fun _ => rfl, by cases he; rfl⟩
 cases op with
 | move x => cases x with
  | tmp t => exact fin (aFw rfl) (force_eq (k := fun v => some (s.put dst v)) h)
  | const c =>
   simp only [yw] at h
   split at h
   · rename_i d el sz hn
     obtain ⟨rfl, rfl, hd, h0, hok⟩ := aCi hn
     refine ⟨_, aHr (.s el) sz h0 rfl hok, (fun e => by rw [e] at hd; cases hd), ?_⟩
     cases h; rfl
   · obtain ⟨h1, h2⟩ := yS h; exact fin (aI9 h1) h2
  | _ => cases h
 | assign x => cases x with
  | tmp t => exact fin (aFv rfl) (force_eq (k := fun v => some (s.put dst v)) h)
  | const c =>
   simp only [yw] at h
   split at h
   · rename_i d el sz hn
     obtain ⟨rfl, rfl, hd, h0, hok⟩ := aCi hn
     refine ⟨_, aHq (.s el) sz h0 rfl hok, (fun e => by rw [e] at hd; cases hd), ?_⟩
     cases h; rfl
   · obtain ⟨h1, h2⟩ := yS h; exact fin (aGU h1) h2
  | _ => cases h
 | pick c a b =>
  simp only [yw] at h
  split at h
  · rename_i t ht
    obtain ⟨h1, h2⟩ := yS h
    simp only [Bool.and_eq_true] at h1
    exact fin (aFL ht rfl h1.1 h1.2) (force_eq h2)
  · cases h
 | unOp op t x =>
  cases op with
  | not =>
   simp only [yw] at h
   split at h
   · rename_i b hb; exact fin (aGX hb) h
   · cases h
  | _ => cases h
 | extract x i =>
  simp only [yw] at h
  split at h
  · rename_i xs hx
    split at h
    · rename_i y hy; exact fin (aI6 hx hy) (force_eq h)
    · cases h
  · cases h
 | fieldAddr t x f =>
  simp only [yw] at h
  split at h
  · rename_i fs z ht
    split at h
    · rename_i o_ z_ hf
      split at h
      · rename_i ys hx
        split at h
        · rename_i y hy
          obtain ⟨h1, h2⟩ := yS h
          exact fin (aI7 ht hf hx hy (Nat.eq_of_beq_eq_true h1)) h2
        · cases h
      · rename_i l i p c hx; exact fin (aCl ht hf hx) h
      · cases h
    · cases h
  · cases h
 | load t x =>
  simp only [yw] at h
  split at h
  · rename_i y hx
    obtain ⟨h1, h2⟩ := yS h
    simp only [Bool.and_eq_true] at h1
    exact fin (aIq hx h1.1.1 (xor_not h1.1.2) (Nat.eq_of_beq_eq_true h1.2)) (force_eq h2)
  · rename_i l i p c hx
    split at h
    · rename_i ob ho
      cases hop : ob.e.open_ with
      | true =>
       rw [hop] at h
       simp only [cond_true] at h
       split at h
       · rename_i y hy
         split at h
         · rename_i z c' hg
           obtain ⟨h1, h2⟩ := yS h
           simp only [Bool.and_eq_true] at h1
           have hc := Nat.eq_of_beq_eq_true h1.1.1.1
           subst hc
           exact fin (aCE hx ho hy hg h1.1.1.2 (xor_not h1.1.2) (Nat.eq_of_beq_eq_true h1.2) hop) (force_eq h2)
         · cases h
       · cases h
      | false =>
       rw [hop] at h
       simp only [cond_false] at h
       split at h
       · rename_i t' i' y hy
         split at h
         · rename_i z c' hg
           cases hn : aEl z with
           | true => rw [hn] at h; cases h
           | false =>
            rw [hn] at h
            simp only [cond_false] at h
            split at h
            · rename_i x' hx'
              obtain ⟨h1, h2⟩ := yS h
              simp only [Bool.and_eq_true] at h1
              have hc := Nat.eq_of_beq_eq_true h1.1.1.1.2
              subst hc
              have hi := Nat.eq_of_beq_eq_true h1.1.1.1.1
              subst hi
              exact fin (aHs hx ho hy hg hx' h1.1.1.2 (xor_not h1.1.2) (Nat.eq_of_beq_eq_true h1.2)) (force_eq h2)
            · cases h
         · cases h
       · cases h
    · cases h
  · cases h
 | alloc t =>
  cases dst with
  | none => cases h
  | some d =>
   simp only [yw] at h
   split at h
   · rename_i hf
     obtain ⟨h1, h2⟩ := yS h
     simp only [Bool.and_eq_true] at h1
     refine ⟨_, aHm hf h1.2.1 h1.2.2, fun e => by rw [e] at h1; simp at h1, ?_⟩
     cases h2; rfl
   · cases h
 | box t x =>
  cases dst with
  | none => cases h
  | some d =>
   simp only [yw] at h
   split at h
   · rename_i hf
     split at h
     · rename_i ys hx
       obtain ⟨h1, h2⟩ := yS h
       simp only [Bool.and_eq_true] at h1
       refine ⟨_, aGV hf hx rfl (by simp only [Bool.and_eq_true]; exact h1.2) h1.1.2, fun e => by rw [e] at h1; simp at h1, ?_⟩
       cases h2; rfl
     · cases h
   · cases h
 | build t ps =>
  simp only [yw] at h
  split at h
  · rename_i fs z ht
    obtain ⟨h1, h2⟩ := yS h
    simp only [Bool.and_eq_true] at h1
    have hown : xY s (ps.toList.map (·.2)) = [] := by simpa using h1.1
    exact fin (v := .agg (xq s z ps.toList)) ⟨fs, z, ht, .inl ⟨qF _ _ h1.2.2, vB h1.2.1, by rw [hown]; rfl, by rw [hown]; rfl⟩⟩ (wD (k := fun ys => some (s.put dst (.agg ys))) h2)
  · cases h
 | buildSlice t m ps =>
  cases dst with
  | none => cases h
  | some d =>
   simp only [yw] at h
   split at h
   · rename_i hf
     split at h
     · rename_i el sz b z ht
       obtain ⟨h1, h2⟩ := yS h
       simp only [Bool.and_eq_true] at h1
       have hown : xY s (ps.toList.map (·.2)) = [] := by simpa using h1.2.1
       have h3 := wD (k := fun ys => some ((s.set (d + 1) (some ⟨el, sz, ys⟩)).put (some d) (.own (d + 1)))) h2
       refine ⟨⟨.own (d + 1), some fun s' => s'.set (d + 1) (some ⟨.s el, sz, xq s (List.replicate m z) ps.toList⟩)⟩, ⟨d, el, sz, b, z, rfl, hf, h1.2.2.2.1, ht, Nat.le_of_ble_eq_true h1.2.2.1, .inl ⟨qF _ _ h1.2.2.2.2.2, vB h1.2.2.2.2.1, by rw [hown]; rfl, by rw [hown]; rfl⟩⟩, fun e => by rw [e] at h1; simp at h1, ?_⟩
       cases h3; rfl
     · cases h
   · cases h
 | nilCheck x =>
  simp only [yw] at h
  split at h
  · rename_i y hx; exact fin ⟨by rw [hx], .inl ⟨y, hx⟩⟩ h
  · rename_i l i p c hx; exact fin ⟨by rw [hx], .inr (.inl ⟨l, i, p, c, hx⟩)⟩ h
  · rename_i f xs ys hx; exact fin ⟨by rw [hx], .inr (.inr (.inl ⟨f, xs, ys, hx⟩))⟩ h
  · rename_i t y hx; exact fin ⟨by rw [hx], .inr (.inr (.inr ⟨t, y, hx⟩))⟩ h
  · cases h
 | makeFunc fn first captured =>
  cases fn with
  | func f =>
   simp only [yw] at h
   obtain ⟨h1, h2⟩ := yS h
   have h3 := wD (k := fun xs => wC (captured.toList.map s.ev) fun ys => some (s.put dst (.fn f xs ys))) h2
   have h4 := wD (k := fun ys => some (s.put dst (.fn f (first.toList.map s.ev) ys))) h3
   exact fin (v := .fn f (first.toList.map s.ev) (captured.toList.map s.ev)) ⟨f, rfl, vB h1, rfl⟩ h4
  | _ => cases h
 | makeInterface t x =>
  simp only [yw] at h
  obtain ⟨h1, h2⟩ := yS h
  simp only [Bool.and_eq_true, Bool.not_eq_true'] at h1
  exact fin (v := .ifc t (s.ev x)) ⟨vM h1.1.1, h1.1.2, fun e => by rw [e] at h1; exact absurd h1.2 (by simp [TI.isIface]), rfl⟩ (force_eq (k := fun v => some (s.put dst (.ifc t v))) h2)
 | _ => cases h
def runK (P : Program) (Θ : Tab) (n : Nat) (ops : Array Oper) (draw : Bool) : Nat → List Oper → St → (St → Prop) → Prop
 | _, [], s, K => K s
 | k, o :: r, s, K =>
  match inN n o.dst with
  | false => False
  | true => match xV ops s o with
   | some false => runK P Θ n ops draw (k + 1) r (s.put o.dst (.tup [])) K
   | some true => match yw Θ (draw && !(tied ops k)) o s with
    | some s' => runK P Θ n ops draw (k + 1) r s' K
    | none => xJ P Θ n ops draw k (o :: r) s K
   | none => xJ P Θ n ops draw k (o :: r) s K
theorem uY {K : St → Prop} : ∀ (l : List Oper) (k : Nat) (s : St), runK P Θ n ops draw k l s K → xJ P Θ n ops draw k l s K
 | [], k, s, h => aGT h
 | o :: r, k, s, h => by
  unfold runK at h
  cases hin : inN n o.dst with
  | false => rw [hin] at h; exact h.elim
  | true =>
   rw [hin] at h
   simp only at h
   cases hg : xV ops s o with
   | none => rw [hg] at h; exact h
   | some b => cases b with
    | false => rw [hg] at h; exact aFC hg hin (uY r (k + 1) _ h)
    | true =>
     rw [hg] at h
     simp only at h
     cases hs : yw Θ (draw && !(tied ops k)) o s with
     | none => rw [hs] at h; exact h
     | some s' =>
      rw [hs] at h
      obtain ⟨e, hp, hu, he⟩ := aCx (P := P) hs
      exact jB hg hin hp (fun hd => by cases ht : tied ops k with | true => exact .inr (.inl rfl) | false => exact .inl (hu (by rw [hd, ht]; rfl))) (by rw [he]; exact uY r (k + 1) _ h)
def kZ (P : Program) (Θ : Tab) (n : Nat) : Code → (AEx → St → Prop) → St → Prop
 | .skip, Q, s => Q .normal s
 | .label _, Q, s => Q .normal s
 | .region _ ops false, Q, s => runK P Θ n ops false 0 ops.toList s (Q .normal)
 | .region _ ops true, Q, s => (Region.lexB .any ops = true ∧ runK P Θ n ops true 0 ops.toList s (Q .normal)) ∨ (Region.lexB .any ops = true ∧ kE ops ∧ xP P Θ n ops 0 ops.toList s (Q .normal))
 | .seq a b, Q, s => kZ P Θ n a (AEx.then (kZ P Θ n b Q) Q) s
 | .cond c x y, Q, s => match s.ev c with
  | .v (.bool true) => kZ P Θ n x Q s
  | .v (.bool false) => kZ P Θ n y Q s
  | _ => xH P Θ n (.cond c x y) Q s
 | .block id c, Q, s => kZ P Θ n c (AEx.inBlock id Q) s
 | .exit id, Q, s => Q (.exit id) s
 | .ret, Q, s => Q .ret s
 | c, Q, s => xH P Θ n c Q s
theorem jI {ops : Array Oper} {K K' : St → Prop} : ∀ (l : List Oper) (k : Nat) (s : St), (∀ s, K s → K' s) → xP P Θ n ops k l s K → xP P Θ n ops k l s K'
 | [], k, s, hk, h => Gh.mono hk h
 | o :: r, k, s, hk, h => by
  unfold xP at h ⊢
  refine ⟨h.1, h.2.1, h.2.2.imp (fun ⟨u, ks, nu, he, h⟩ => ⟨u, ks, nu, he, jI r _ _ hk h⟩) (fun ⟨ht, e, hp, h⟩ => ⟨ht, e, hp, h.mono fun s' => jI r _ s' hk⟩)⟩
theorem aAX {Q Q' : AEx → St → Prop} : ∀ (c : Code) (s : St), (∀ e s, Q e s → Q' e s) → xH P Θ n c Q s → xH P Θ n c Q' s := by
 have ops_mono : ∀ {ops : Array Oper} {draw : Bool} {K K' : St → Prop} (l : List Oper) (k : Nat) (s : St), (∀ s, K s → K' s) → xJ P Θ n ops draw k l s K → xJ P Θ n ops draw k l s K' := by
  intro ops draw K K' l
  induction l with
  | nil => intro k s hk h; exact hk s h
  | cons o r ih =>
   intro k s hk h
   unfold xJ at h ⊢
   refine ⟨h.1, ?_⟩
   have h2 := h.2
   split
   · rename_i hg; simp only [hg] at h2; obtain ⟨e, a, b, c⟩ := h2; exact ⟨e, a, b, c.imp (ih _ _ hk) (fun h => ⟨h.1, h.2.mono fun s' => ih _ s' hk⟩)⟩
   · rename_i hg; simp only [hg] at h2; exact ih _ _ hk h2
   · rename_i hg; simp only [hg] at h2
 intro c
 induction c generalizing Q Q' with
 | skip => intro s hq h; exact hq _ _ h
 | label l => intro s hq h; exact hq _ _ h
 | region id ops draw =>
  intro s hq h
  rcases h with h | ⟨h1, h2, h3, h⟩ | ⟨h1, h⟩
  · exact .inl ⟨h.1, ops_mono _ _ _ (fun s h => hq _ _ h) h.2⟩
  · exact .inr (.inl ⟨h1, h2, h3, jI _ _ _ (fun s h => hq _ _ h) h⟩)
  · refine .inr (.inr ⟨h1, fun W M S0 a w hs b hb k cs => ?_⟩)
    obtain ⟨e, a', w', ⟨he, s', hk, hs'⟩, harr⟩ := h W M S0 a w hs b hb k cs
    exact ⟨e, a', w', ⟨he, s', hq _ _ hk, hs'⟩, harr⟩
 | seq a b iha ihb =>
  intro s hq h
  rcases h with h | ⟨ι, I, h, k⟩
  · exact .inl (iha s (fun e s he => by cases e <;> first | exact ihb s hq he | exact hq _ _ he) h)
  · exact .inr ⟨ι, I, iha s (fun e s he => by cases e <;> first | exact he | exact hq _ _ he) h, fun j => ihb _ hq (k j)⟩
 | cond c x y ihx ihy => intro s hq h; obtain ⟨b, hc, h⟩ := h; refine ⟨b, hc, ?_⟩; cases b <;> first | exact ihx s hq h | exact ihy s hq h
 | block id c ih =>
  intro s hq h
  refine ih s (fun e s he => ?_) h
  cases e with
  | exit j =>
   show (bif Nat.beq j id then Q' .normal s else Q' (.exit j) s)
   have he' : (bif Nat.beq j id then Q .normal s else Q (.exit j) s) := he
   cases hb : Nat.beq j id with
   | true => rw [hb] at he'; exact hq _ _ he'
   | false => rw [hb] at he'; exact hq _ _ he'
  | normal => exact hq _ _ he
  | ret => exact hq _ _ he
 | loop c ih =>
  intro s hq h
  obtain ⟨ι, I, μ, h0, hr⟩ := h
  exact ⟨ι, I, μ, h0, fun i => ih _ (fun e s he => by cases e <;> first | exact he | exact hq _ _ he) (hr i)⟩
 | exit id => intro s hq h; exact hq _ _ h
 | ret => intro s hq h; exact hq _ _ h
 | rangeFunc _ _ _ _ => intro s hq h; exact h.elim
 | scope _ => intro s hq h; exact h.elim
 | goto _ => intro s hq h; exact h.elim
 | refuse _ => intro s hq h; exact h.elim
theorem j5 : ∀ (c : Code) (Q : AEx → St → Prop) (s : St), kZ P Θ n c Q s → xH P Θ n c Q s := by
 intro c
 induction c with
 | skip => intro Q s h; exact h
 | label l => intro Q s h; exact h
 | region id ops draw =>
  intro Q s h
  cases draw with
  | false => exact .inl ⟨(fun e => by cases e), uY _ _ _ h⟩
  | true =>
   rcases h with h | ⟨h1, h2, h⟩
   · exact .inl ⟨fun _ => h.1, uY _ _ _ h.2⟩
   · exact .inr (.inl ⟨rfl, h1, h2, h⟩)
 | seq a b iha ihb =>
  intro Q s h
  exact .inl (aAX a s (fun e s he => by cases e <;> first | exact ihb Q s he | exact he) (iha _ s h))
 | cond c x y ihx ihy =>
  intro Q s h
  simp only [kZ] at h
  split at h
  · rename_i hc; exact ⟨true, hc, ihx Q s h⟩
  · rename_i hc; exact ⟨false, hc, ihy Q s h⟩
  · exact h
 | block id c ih => intro Q s h; exact ih _ s h
 | exit id => intro Q s h; exact h
 | ret => intro Q s h; exact h
 | loop c ih => intro Q s h; exact h
 | rangeFunc _ _ _ _ => intro Q s h; exact h
 | scope _ => intro Q s h; exact h
 | goto _ => intro Q s h; exact h
 | refuse _ => intro Q s h; exact h
variable {k : Nat} {r : List Oper} {K : St → Prop} {d : Option Tmp} {op : Op} {ty : TypeId} {pos : String} {after : Array Edge} {g : Option (Nat × Bool)}
theorem aEZ {v : AV} (hp : Pre P Θ ⟨d, op, ty, pos, after, g⟩ s ⟨v, none⟩) (hg : xV ops s ⟨d, op, ty, pos, after, g⟩ = some true) (hin : inN n d = true) (h : runK P Θ n ops draw (k + 1) r (s.put d v) K) : xJ P Θ n ops draw k (⟨d, op, ty, pos, after, g⟩ :: r) s K :=
 qZ hp hg hin (uY _ _ _ h)
theorem aCp {e : Eff} (hp : Pre P Θ ⟨d, op, ty, pos, after, g⟩ s e) (hg : xV ops s ⟨d, op, ty, pos, after, g⟩ = some true) (hin : inN n d = true) (hu : draw = true → e.upd = none ∨ tied ops k = true ∨ um Θ ops (fun j => Nat.blt j k) k s e) (h : runK P Θ n ops draw (k + 1) r (s.app d e) K) : xJ P Θ n ops draw k (⟨d, op, ty, pos, after, g⟩ :: r) s K :=
 jB hg hin hp hu (uY _ _ _ h)
theorem ul {c : Code} {Q : AEx → St → Prop} {ι : Type} (I : ι → Inv) (μ : ι → Nat) (i0 : ι) (h0 : s.le (I i0)) (h : ∀ i, kZ P Θ n c (AEx.then (fun s' => ∃ j, s'.le (I j) ∧ μ j < μ i) Q) (I i).st) : xH P Θ n (.loop c) Q s :=
 aHX (fun i => (I i).m) μ i0 ⟨h0, trivial⟩ fun i => aAX (Q := AEx.then (fun s' => ∃ j, s'.le (I j) ∧ μ j < μ i) Q) c _ (fun e s he => by
  cases e with
  | normal => obtain ⟨j, h1, h2⟩ := he; exact ⟨j, ⟨h1, trivial⟩, h2⟩
  | _ => exact he) (j5 _ _ _ (h i))
theorem aIr (hΘ : yB P Θ) (hm : P.follows .mixedOrders = true) {f : FuncId} {fn : Func} {c : Code} {n : Nat} {rs : List ResultVar} (hf : P.funcs[f]? = some fn) (hb : fn.body = some c) (hnt : fn.ntmps = n) (hrs : fn.results = rs.toArray) (hnm : (fn.name == "runtime.NumGoroutine") = false)
 {args : List AV} {out : Out} (hlen : Nat.ble args.length n = true) (h : kZ P Θ n c (kS Θ rs out) (St.init args)) : AC P f args out :=
 aEc hΘ hm hf hb hnt (by rw [hrs]) hnm (Nat.le_of_ble_eq_true hlen) rfl rfl (j5 _ _ _ h)
def yQ (r : Nat) (e : ET) (sz : Nat) (xs' : List AV) (v : Value) : AEx → St → Prop
 | .normal, s | .ret, s => s.sl r = .v v ∧ s.hp 0 = some ⟨e, sz, xs'⟩
 | _, _ => False
theorem aHn {α : Type} {x y : Operand} {t el sz b l l' : Nat} {e0 e' : ET} {z : AV} {xs : List α} {f : α → AV} (e : α) (hb : (xs.length + 1) * b ≤ 140737488355328) (hx : s.ev x = .own l) (hy : s.ev y = .own l') (ho : s.hp l = some ⟨e0, sz, xs.map f⟩) (ho' : s.hp l' = some ⟨e', sz, [f e]⟩) (hn : (Nat.beq l' l || Nat.beq l 0) = false) (ht : Θ.look t = .slice el sz b z) (hb1 : Nat.ble 1 b = true) (he : (e0 = .s el ∨ e0 = .z el) := by first | exact .inl rfl | exact .inr rfl) (he' : e'.open_ = true := by rfl) (hok : okL l = true := by rfl) :
 Pre P Θ ⟨d, .call ⟨.builtin .append, #[x, y], #[t, t]⟩, ty, pos, after, g⟩ s ⟨.own l, some fun s => (s.kill l).set l (some ⟨.s el, sz, (xs ++ [e]).map f⟩)⟩ := by
 simp only [Bool.or_eq_false_iff] at hn
 have n1 : l' ≠ l := fun h => by rw [h] at hn; simp at hn
 have hb1' := Nat.le_of_ble_eq_true hb1
 have hm : xs.length + 1 ≤ maxLen := by
  have : (xs.length + 1) * 1 ≤ (xs.length + 1) * b := Nat.mul_le_mul_left _ hb1'
  unfold maxLen; omega
 exact ⟨x, y, t, el, sz, b, z, l, _, [f e], rfl, rfl, ht, hx, ho, hok, rfl, by simpa using hb, by simpa using hm, .inl ⟨el, he, rfl, .inr ⟨l', _, hy, n1, ho', he', rfl, rfl⟩, by rw [List.map_append]; rfl⟩⟩
theorem aGn {α : Type} {x y : Operand} {t el sz b l l' : Nat} {e0 e' : ET} {z : AV} {xs : List α} {f : α → AV} (e : α) (ys : List α) (hys : xs ++ [e] = ys) (hb : (xs.length + 1) * b ≤ 140737488355328) (hx : s.ev x = .own l) (hy : s.ev y = .own l') (ho : s.hp l = some ⟨e0, sz, xs.map f⟩) (ho' : s.hp l' = some ⟨e', sz, [f e]⟩) (hn : (Nat.beq l' l || Nat.beq l 0) = false) (ht : Θ.look t = .slice el sz b z) (hb1 : Nat.ble 1 b = true) (he : (e0 = .s el ∨ e0 = .z el) := by first | exact .inl rfl | exact .inr rfl) (he' : e'.open_ = true := by rfl) (hok : okL l = true := by rfl) :
 Pre P Θ ⟨d, .call ⟨.builtin .append, #[x, y], #[t, t]⟩, ty, pos, after, g⟩ s ⟨.own l, some fun s => (s.kill l).set l (some ⟨.s el, sz, ys.map f⟩)⟩ := by
 subst hys; exact aHn e hb hx hy ho ho' hn ht hb1 he he' hok
theorem xI {t : Nat} {x : AV} {Θ : Tab} (h : s.sl t = x) (hx : (match x with | .v _ | .agg _ | .lst _ _ | .any => True | _ => False)) : kS Θ [.tmp t] ⟨x, []⟩ .ret s :=
 ⟨trivial, [], by simp, trivial, ⟨trivial, trivial⟩, trivial, ⟨.inl (by cases x <;> first | exact ⟨h, rfl⟩ | exact hx.elim), trivial⟩⟩
theorem aHy {t l : Nat} {ob : OB} {Θ : Tab} (h : s.sl t = .own l) (ho : s.hp l = some ob) (hok : okL l = true := by rfl) (hsh : ob.e.shut = true := by rfl) : kS Θ [.tmp t] ⟨.own 0, [ob]⟩ .ret s :=
 ⟨trivial, [l], by simp, ⟨⟨ho, hok, hsh⟩, trivial⟩, ⟨trivial, trivial⟩, trivial, ⟨.inl ⟨h, rfl⟩, trivial⟩⟩
end
theorem aIo {P : Program} {Θ : Tab} (hΘ : yB P Θ) (hm : P.follows .mixedOrders = true) {f : FuncId} {fn : Func} {c : Code} {n : Nat} {rs : List ResultVar} (hf : P.funcs[f]? = some fn) (hb : fn.body = some c) (hnt : fn.ntmps = n) (hrs : fn.results = rs.toArray) (hnm : (fn.name == "runtime.NumGoroutine") = false)
 {args : List AV} {out : Out} (hlen : Nat.ble args.length n = true) (h : xH P Θ n c (kS Θ rs out) (St.init args)) : AC P f args out :=
 aEc hΘ hm hf hb hnt (by rw [hrs]) hnm (Nat.le_of_ble_eq_true hlen) rfl rfl h
section
variable {P : Program} {Θ : Tab} {n : Nat} {ops : Array Oper} {draw : Bool} {s : St} {k : Nat} {r : List Oper} {K : St → Prop} {d : Option Tmp} {ty : TypeId} {pos : String} {after : Array Edge} {g : Option (Nat × Bool)}
theorem qs {x : Operand} {t : TypeId} {m : Nat} {c : ByteArray} (hx : s.ev x = .v (.string c)) (hl : vV s (.v (.string c)) = some m) (h : runK P Θ n ops draw (k + 1) r (s.put d (.v (.int .i64 (m : Int)))) K) (hok : aAf Θ t (.v (.string c)) := by exact rfl) (hg : xV ops s ⟨d, .call ⟨.builtin .len, #[x], #[t]⟩, ty, pos, after, g⟩ = some true := by exact rfl) (hin : inN n d = true := by exact rfl) : xJ P Θ n ops draw k (⟨d, .call ⟨.builtin .len, #[x], #[t]⟩, ty, pos, after, g⟩ :: r) s K := aEZ (aET hx hl hok) hg hin h
theorem qc {f : FuncId} {ags : Array Operand} {ts : Array TypeId} {t : Nat} {args : List AV} {out : Out} (hac : AC P f args out) (h : runK P Θ n ops draw (k + 1) r (s.app (some t) ⟨ren (t + 1) out.val, vK (t + 1) out.obs⟩) K) (ha : (ags.toList.map fun x => s.dat (s.ev x)) = args := by exact rfl) (hfl : (xY s ags.toList).isEmpty = true ∨ out.flat := by first | exact .inl rfl | exact .inr ⟨by simp [xh, yT], by first | exact aBH | exact aBI (by first | exact xK vS _ | exact xK vO _ | exact xK vN _ | exact xK vR _ | exact xK vQ _ | exact xK vP _) | exact aD7 (by first | exact xK vS _ | exact xK vO _ | exact xK vN _ | exact xK vR _ | exact xK vQ _ | exact xK vP _) (by first | exact xK vS _ | exact xK vO _ | exact xK vN _ | exact xK vR _ | exact xK vQ _ | exact xK vP _)⟩) (hfr : xg s (t + 1) 0 out.obs := by first | exact trivial | exact ⟨⟨rfl, rfl, rfl⟩, trivial⟩ | exact ⟨⟨rfl, rfl, rfl⟩, ⟨rfl, rfl, rfl⟩, trivial⟩ | exact ⟨⟨rfl, rfl, rfl⟩, ⟨rfl, rfl, rfl⟩, ⟨rfl, rfl, rfl⟩, trivial⟩) (hok : y5 s (ags.toList.map s.ev) = true := by exact rfl) (hc : wH ags.toList = true := by exact rfl) (hg : xV ops s ⟨some t, .call ⟨.value (.func f), ags, ts⟩, ty, pos, after, g⟩ = some true := by exact rfl) (hin : inN n (some t) = true := by exact rfl) (hu : draw = true → (⟨ren (t + 1) out.val, vK (t + 1) out.obs⟩ : Eff).upd = none ∨ tied ops k = true ∨ um Θ ops (fun j => Nat.blt j k) k s ⟨ren (t + 1) out.val, vK (t + 1) out.obs⟩ := by intro e; first | exact .inl rfl | contradiction | exact .inr (.inl (by kernel_rfl))) : xJ P Θ n ops draw k (⟨some t, .call ⟨.value (.func f), ags, ts⟩, ty, pos, after, g⟩ :: r) s K := aCp (jC hac ha hfl hfr hok hc) hg hin hu h
theorem qC {f : FuncId} {ags : Array Operand} {ts : Array TypeId} {t : Nat} {args : List AV} {out : Out} (hac : AC P f args out) (h : xJ P Θ n ops draw (k + 1) r (s.app (some t) ⟨ren (t + 1) out.val, vK (t + 1) out.obs⟩) K) (ha : (ags.toList.map fun x => s.dat (s.ev x)) = args := by exact rfl) (hfl : (xY s ags.toList).isEmpty = true ∨ out.flat := by first | exact .inl rfl | exact .inr ⟨by simp [xh, yT], by first | exact aBH | exact aBI (by first | exact xK vS _ | exact xK vO _ | exact xK vN _ | exact xK vR _ | exact xK vQ _ | exact xK vP _) | exact aD7 (by first | exact xK vS _ | exact xK vO _ | exact xK vN _ | exact xK vR _ | exact xK vQ _ | exact xK vP _) (by first | exact xK vS _ | exact xK vO _ | exact xK vN _ | exact xK vR _ | exact xK vQ _ | exact xK vP _)⟩) (hfr : xg s (t + 1) 0 out.obs := by first | exact trivial | exact ⟨⟨rfl, rfl, rfl⟩, trivial⟩ | exact ⟨⟨rfl, rfl, rfl⟩, ⟨rfl, rfl, rfl⟩, trivial⟩ | exact ⟨⟨rfl, rfl, rfl⟩, ⟨rfl, rfl, rfl⟩, ⟨rfl, rfl, rfl⟩, trivial⟩) (hok : y5 s (ags.toList.map s.ev) = true := by exact rfl) (hc : wH ags.toList = true := by exact rfl) (hg : xV ops s ⟨some t, .call ⟨.value (.func f), ags, ts⟩, ty, pos, after, g⟩ = some true := by exact rfl) (hin : inN n (some t) = true := by exact rfl) (hu : draw = true → (⟨ren (t + 1) out.val, vK (t + 1) out.obs⟩ : Eff).upd = none ∨ tied ops k = true ∨ um Θ ops (fun j => Nat.blt j k) k s ⟨ren (t + 1) out.val, vK (t + 1) out.obs⟩ := by intro e; first | exact .inl rfl | contradiction | exact .inr (.inl (by kernel_rfl))) : xJ P Θ n ops draw k (⟨some t, .call ⟨.value (.func f), ags, ts⟩, ty, pos, after, g⟩ :: r) s K := jB hg hin (jC hac ha hfl hfr hok hc) hu h
variable {op : Op}
theorem qz {v : AV} (h : runK P Θ n ops draw (k + 1) r (s.put d v) K) (hp : Pre P Θ ⟨d, op, ty, pos, after, g⟩ s ⟨v, none⟩ := by first | exact yJ (by first | exact aHN (by omega) | exact aEg (by omega) | exact aHM (by omega) | exact aHL (by omega) | exact aEf (by omega) | exact aEe (by omega) | exact aHK (by omega) | exact aEd (by omega) | exact aCT (by omega) | exact aCS (by omega) | exact aEh (by omega) | exact aCU (by omega) | exact aIR rfl (by omega) (by omega) | exact aGL rfl (by omega) (by omega)) rfl rfl rfl | exact aI8 (aFh _ (by assumption)) rfl rfl rfl | exact aFI rfl ⟨_, _, _, _, rfl⟩ | exact aDk rfl rfl ⟨_, _, _, _, rfl⟩ | exact aET (y := .v (.string _)) rfl rfl rfl | exact aET rfl rfl ⟨_, _, _, _, rfl⟩) (hg : xV ops s ⟨d, op, ty, pos, after, g⟩ = some true := by exact rfl) (hin : inN n d = true := by exact rfl) : xJ P Θ n ops draw k (⟨d, op, ty, pos, after, g⟩ :: r) s K := aEZ hp hg hin h
theorem qla {v : AV} (h : xJ P Θ n ops draw (k + 1) r (s.put d v) K) (hp : Pre P Θ ⟨d, op, ty, pos, after, g⟩ s ⟨v, none⟩ := by first | exact aCl rfl rfl rfl | exact aCE rfl rfl rfl rfl rfl rfl rfl | exact aFw (by conv => lhs; whnf) | exact aFv (by conv => lhs; whnf) | exact aGU rfl | exact aFL (z := .v _) rfl rfl rfl rfl | exact aGX rfl) (hg : xV ops s ⟨d, op, ty, pos, after, g⟩ = some true := by exact rfl) (hin : inN n d = true := by exact rfl) : xJ P Θ n ops draw k (⟨d, op, ty, pos, after, g⟩ :: r) s K := qZ hp hg hin h
theorem qlb {v : AV} (h : xJ P Θ n ops draw (k + 1) r (s.put d v) K) (hp : Pre P Θ ⟨d, op, ty, pos, after, g⟩ s ⟨v, none⟩ := by first | exact yJ (by first | exact aCT (by omega) | exact aCS (by omega) | exact aEh (by omega) | exact aCU (by omega) | exact aEf (by omega) | exact aEe (by omega) | exact qM (by assumption) | exact uz (by assumption) | exact aD5 (by assumption) | exact qN (by assumption)) rfl rfl rfl | exact aFI rfl ⟨_, _, _, _, rfl⟩) (hg : xV ops s ⟨d, op, ty, pos, after, g⟩ = some true := by exact rfl) (hin : inN n d = true := by exact rfl) : xJ P Θ n ops draw k (⟨d, op, ty, pos, after, g⟩ :: r) s K := qZ hp hg hin h
theorem qst {e : Eff} (h : runK P Θ n ops draw (k + 1) r (s.app d e) K) (hp : Pre P Θ ⟨d, op, ty, pos, after, g⟩ s e := by exact jY rfl rfl rfl rfl rfl (by conv => lhs; whnf) rfl) (hg : xV ops s ⟨d, op, ty, pos, after, g⟩ = some true := by exact rfl) (hin : inN n d = true := by exact rfl) (hu : draw = true → e.upd = none ∨ tied ops k = true ∨ um Θ ops (fun j => Nat.blt j k) k s e := by intro e; first | exact .inl rfl | contradiction | exact .inr (.inl (by kernel_rfl))) : xJ P Θ n ops draw k (⟨d, op, ty, pos, after, g⟩ :: r) s K := aCp hp hg hin hu h
theorem qp {v : AV} (hp : Pre P Θ ⟨d, op, ty, pos, after, g⟩ s ⟨v, none⟩) (h : runK P Θ n ops draw (k + 1) r (s.put d v) K) (hg : xV ops s ⟨d, op, ty, pos, after, g⟩ = some true := by exact rfl) (hin : inN n d = true := by exact rfl) : xJ P Θ n ops draw k (⟨d, op, ty, pos, after, g⟩ :: r) s K := aEZ hp hg hin h
theorem qP {v : AV} (hp : Pre P Θ ⟨d, op, ty, pos, after, g⟩ s ⟨v, none⟩) (h : xJ P Θ n ops draw (k + 1) r (s.put d v) K) (hg : xV ops s ⟨d, op, ty, pos, after, g⟩ = some true := by exact rfl) (hin : inN n d = true := by exact rfl) : xJ P Θ n ops draw k (⟨d, op, ty, pos, after, g⟩ :: r) s K := qZ hp hg hin h
theorem qr {e : Eff} (hp : Pre P Θ ⟨d, op, ty, pos, after, g⟩ s e) (h : runK P Θ n ops draw (k + 1) r (s.app d e) K) (hg : xV ops s ⟨d, op, ty, pos, after, g⟩ = some true := by exact rfl) (hin : inN n d = true := by exact rfl) (hu : draw = true → e.upd = none ∨ tied ops k = true ∨ um Θ ops (fun j => Nat.blt j k) k s e := by intro e; first | exact .inl rfl | contradiction | exact .inr (.inl (by kernel_rfl))) : xJ P Θ n ops draw k (⟨d, op, ty, pos, after, g⟩ :: r) s K := aCp hp hg hin hu h
theorem qx {a b : Prop} (h : a) (f : a → b := by first | exact fun h => aGT (aFS h) | exact aIV | exact aIT | exact aHU (by kernel_rfl) | exact aFe rfl | exact aFd rfl | exact aG6 | exact aHY | exact aFC rfl rfl | exact aFS | exact aGr | exact aGs | exact aHt | exact aHv | exact aHw | exact aHu rfl | exact aHV | exact aIU | exact aIc | exact aHx | exact jB rfl rfl (aGV (y := .agg _) rfl rfl rfl rfl) (fun e => by cases e) | exact qZ (yJ aIQ rfl rfl rfl) rfl rfl | exact qZ (yJ aHQ rfl rfl rfl) rfl rfl) : b := f h
theorem qle {i : Inv} (h : s.le i := by refine ⟨?_, ?_⟩ <;> (repeat (first | trivial | exact ⟨rfl, trivial⟩ | refine ⟨rfl, ?_⟩ | refine ⟨.inl ⟨rfl, rfl⟩, ?_⟩ | refine ⟨.inr ⟨_, _, rfl, rfl, rfl, rfl, rfl⟩, ?_⟩))) : s.le i := h
theorem qdr {a b c : Prop} (h : b) (ha : a := by kernel_rfl) : (a ∧ b) ∨ c := .inl ⟨ha, h⟩
theorem qe {a : Prop} (h : a := by exact ⟨trivial, [], by simp, trivial, ⟨trivial, trivial⟩, trivial, ⟨.inl ⟨rfl, rfl⟩, trivial⟩⟩) : a := h
theorem qO {f : FuncId} {fn : Func} {c : Code} {rs : List ResultVar} {args : List AV} {out : Out} (hf : P.funcs[f]? = some fn) (hnt : fn.ntmps = n) (hrs : fn.results = rs.toArray) (h : xH P Θ n c (kS Θ rs out) (St.init args)) (hΘ : yB P Θ := by exact aGI) (hb : fn.body = some c := by exact rfl) (hm : P.follows .mixedOrders = true := by kernel_rfl) (hnm : (fn.name == "runtime.NumGoroutine") = false := by kernel_rfl) (hlen : Nat.ble args.length n = true := by exact rfl) : AC P f args out := aIo hΘ hm hf hb hnt hrs hnm hlen h
theorem qrf {f : FuncId} {fn : Func} {c : Code} {rs : List ResultVar} {args : List AV} {out : Out} (hf : P.funcs[f]? = some fn) (hnt : fn.ntmps = n) (hrs : fn.results = rs.toArray) (h : kZ P Θ n c (kS Θ rs out) (St.init args)) (hΘ : yB P Θ := by exact aGI) (hb : fn.body = some c := by exact rfl) (hm : P.follows .mixedOrders = true := by kernel_rfl) (hnm : (fn.name == "runtime.NumGoroutine") = false := by kernel_rfl) (hlen : Nat.ble args.length n = true := by exact rfl) : AC P f args out := aIr hΘ hm hf hb hnt hrs hnm hlen h
end
theorem aHB {P : Program} : yB P [] := fun t => trivial
theorem xL {P : Program} {t : Nat} {x : TI} {Θ : Tab} (h : uZ P t x) (r : yB P Θ) : yB P ((t, x) :: Θ) := fun u => by
 show uZ P u (bif Nat.beq t u then x else Tab.look Θ u)
 by_cases e : t = u
 · subst e; simpa using h
 · rw [xS e]; exact r u
theorem aIN {P : Program} {t b : Nat} (hu : P.underlying t = some .string) (hi : (P.info? t).map (fun i => (i.zero, i.size, i.bytes)) = some (some (.string ByteArray.empty), 1, b)) : uZ P t .str := by
 obtain ⟨i, h1, h2, h3, _⟩ := info_parts hi
 exact ⟨hu, i, h1, h3, h2⟩
theorem aF4 {P : Program} {t b : Nat} {k : IntKind} (hu : P.underlying t = some (.int k)) (hi : (P.info? t).map (fun i => (i.zero, i.size, i.bytes)) = some (some (.int k 0), 1, b)) : uZ P t (.int k) := by
 obtain ⟨i, h1, h2, h3, _⟩ := info_parts hi
 exact ⟨hu, i, h1, h3, h2⟩
theorem aHC {P : Program} {t b : Nat} (hu : P.underlying t = some .bool) (hi : (P.info? t).map (fun i => (i.zero, i.size, i.bytes)) = some (some (.bool false), 1, b)) : uZ P t .bool := by
 obtain ⟨i, h1, h2, h3, _⟩ := info_parts hi
 exact ⟨hu, i, h1, h3, h2⟩
theorem yg {P : Program} {t e b sz by_ : Nat} {zv : Value} {z : AV} (hu : P.underlying t = some (.slice e)) (hj : (P.info? t).map (fun i => (i.zero, i.size, i.bytes)) = some (some (.slice none 0 0), 1, b)) (hi : (P.info? e).map (fun i => (i.zero, i.size, i.bytes)) = some (some zv, sz, by_))
 (h0 : 0 < sz) (hz : asz z = sz) (hr : ∀ w, RD w z Fa zv.cells.toList) : uZ P t (.slice e sz by_ z) := by
 obtain ⟨j, j1, j2, j3, _⟩ := info_parts hj
 obtain ⟨i, h1, h2, h3, h4⟩ := info_parts hi
 exact ⟨hu, ⟨j, j1, j3, j2⟩, i, zv, h1, h2, h3, h4, h0, hz, hr⟩
def qd (P : Program) : Nat → List Field → List (Nat × Nat) → Bool
 | _, [], [] => true
 | n, f :: fs, (o, z) :: r => Nat.beq f.offset o && (Nat.beq o n && (Nat.blt 0 z && ((match (P.info? f.type).map (·.size) with | some q => Nat.beq q z | none => false) && qd P (n + z) fs r)))
 | _, _, _ => false
theorem aCk {P : Program} : ∀ (fs : List Field) (r : List (Nat × Nat)) (n : Nat), qd P n fs r = true → vJ P n fs r
 | [], [], n, _ => trivial
 | [], _ :: _, n, h => by simp [qd] at h
 | _ :: _, [], n, h => by simp [qd] at h
 | f :: fs, (o, z) :: r, n, h => by
  simp only [qd, Bool.and_eq_true] at h
  obtain ⟨h1, h2, h3, h4, h5⟩ := h
  refine ⟨Nat.eq_of_beq_eq_true h1, Nat.eq_of_beq_eq_true h2, by simpa using h3, ?_, aCk fs r (n + z) h5⟩
  cases hq : (P.info? f.type).map (·.size) with
  | none => rw [hq] at h4; cases h4
  | some q => rw [hq] at h4; rw [Nat.eq_of_beq_eq_true h4]
theorem yL {P : Program} {t b : Nat} {fs : List (Nat × Nat)} {z : List AV} {cs : Array Value} (hu : P.underlying t = some (.struct (P.fieldsOf t))) (hi : (P.info? t).map (fun i => (i.zero, i.size, i.bytes)) = some (some (.agg cs), sizes fs, b))
 (ho : qd P 0 (P.fieldsOf t).toList fs = true) (hp : 0 < sizes fs) (hm : z.map asz = fs.map (·.2)) (hr : ∀ w, RDL w z Fa cs.toList) : uZ P t (.struct fs z) := by
 obtain ⟨i, h1, h2, h3, _⟩ := info_parts hi
 exact ⟨_, i, cs, hu, aCk _ _ _ ho, h1, h3, hp, hm, h2, hr⟩
theorem vF {S : Nat → Prop} {w : World} {x : AV} {xs : List AV} {c1 c2 : List Value} (h : RA S w x c1) (r : RL S w xs c2) : RL S w (x :: xs) (c1 ++ c2) := by unfold RL; exact ⟨c1, c2, rfl, h, r⟩
theorem aCs {S : Nat → Prop} {w : World} : RL S w [] [] := by unfold RL; rfl
theorem aBR {S : Nat → Prop} {w : World} {x : Value} (h : x.oneCell' = true) : RA S w (.v x) [x] := by unfold RA; exact ⟨rfl, h⟩
theorem aIA {S : Nat → Prop} {w : World} {sz : Nat} (h : 0 < sz) : RA S w (.lst sz []) [.slice none 0 0] := by unfold RA; exact ⟨none, 0, rfl, Nat.le_refl _, Nat.zero_le _, by simp, h, .inl rfl⟩
theorem aHz {S : Nat → Prop} {w : World} {xs : List AV} {cs : List Value} (h : RL S w xs cs) : RA S w (.agg xs) cs := by unfold RA; exact h
theorem yE {w : World} {x : Value} (h : x.oneCell' = true) : RD w (.v x) Fa [x] := by unfold RD; exact ⟨noF, rfl, h⟩
theorem zf {w : World} {sz : Nat} (h : 0 < sz) : RD w (.lst sz []) Fa [.slice none 0 0] := by
 unfold RD
 refine ⟨_, 0, [], Fa, rfl, World.ownsRow_nil _ _ _ _, by simp, h, by unfold RDL; exact ⟨rfl, noF⟩, fun g => ⟨fun h => h.elim, fun h => ?_⟩, fun g h => ?_⟩
 · rcases h with h | h
   · simp [Value.ownBlock] at h
   · exact h
 · simp [Value.ownBlock] at h
theorem zx {w : World} {xs : List AV} {cs : List Value} (h : RDL w xs Fa cs) : RD w (.agg xs) Fa cs := by unfold RD; exact h
theorem yc {w : World} : RDL w [] Fa [] := by unfold RDL; exact ⟨rfl, noF⟩
theorem xB {w : World} {x : AV} {xs : List AV} {c1 c2 : List Value} (h : RD w x Fa c1) (r : RDL w xs Fa c2) : RDL w (x :: xs) Fa (c1 ++ c2) := by unfold RDL; exact ⟨c1, c2, Fa, Fa, rfl, Split.l0 noF, h, r⟩
theorem aBS {w : World} {x : AV} {u : Value} (h : RD w x Fa [u]) : ∀ m, RDL w (List.replicate m x) Fa (List.replicate m u)
 | 0 => yc
 | m + 1 => by simp only [List.replicate_succ]; exact xB (c1 := [u]) h (aBS h m)
theorem aF3 {P : Program} {t b e m sz be : Nat} {z : AV} {cs : Array Value} {ze : Option Value} (hu : P.underlying t = some (.array m e)) (hi : (P.info? t).map (fun i => (i.zero, i.size, i.bytes)) = some (some (.agg cs), m * sz, b)) (he : (P.info? e).map (fun i => (i.zero, i.size, i.bytes)) = some (ze, sz, be))
 (hm : 0 < m) (h0 : 0 < sz) (hz : asz z = sz) (hr : ∀ w, RDL w (List.replicate m z) Fa cs.toList) : uZ P t (.arr e m sz z) := by
 obtain ⟨i, h1, h2, h3, _⟩ := info_parts hi
 refine ⟨hu, ⟨i, cs, h1, h3, h2, hr⟩, hm, h0, hz, ?_⟩
 cases hj : P.info? e with
 | none => rw [hj] at he; simp at he
 | some j => rw [hj] at he; simp at he; exact ⟨j, rfl, he.2.1⟩
abbrev zS : AV := .v (.string ByteArray.empty)
abbrev zI : AV := .v (.int .i64 0)
abbrev zB : AV := .v (.bool false)
def Th : Tab := [(9, .str), (3, .int .i64), (4, .bool), (5, .int .u8),
 (44, .slice 9 1 16 zS),
 (157, .slice 5 1 1 (.v (.int .u8 0))),
 (89, .struct [(0, 1), (1, 1)] [zS, zI]), (26, .slice 89 2 24 (.agg [zS, zI])),
 (86, .struct [(0, 1), (1, 1)] [zS, zI]), (22, .slice 86 2 24 (.agg [zS, zI])),
 (102, .struct [(0, 1), (1, 1), (2, 1)] [zS, zI, zB]), (37, .slice 102 3 32 (.agg [zS, zI, zB])),
 (99, .struct [(0, 1), (1, 1), (2, 1)] [zS, zI, zB]), (34, .slice 99 3 32 (.agg [zS, zI, zB])),
 (140, .slice 89 2 24 (.agg [zS, zI])),
 (158, .slice 102 3 32 (.agg [zS, zI, zB])),
 (120, .slice 3 1 8 zI),
 (122, .struct [(0, 1), (1, 1)] [.lst 1 [], .lst 2 []]), (61, .slice 122 2 48 (.agg [.lst 1 [], .lst 2 []])),
 (168, .struct [(0, 1), (1, 1)] [.lst 1 [], .lst 2 []]), (54, .slice 168 2 48 (.agg [.lst 1 [], .lst 2 []])),
 (125, .struct [(0, 1), (1, 1), (2, 1), (3, 1)] [zS, zI, zI, zB]), (62, .slice 125 4 40 (.agg [zS, zI, zI, zB])),
 (170, .struct [(0, 1), (1, 1), (2, 1), (3, 1)] [zS, zI, zI, zB]), (55, .slice 170 4 40 (.agg [zS, zI, zI, zB])),
 (64, .struct [(0, 1), (1, 1)] [.lst 2 [], .lst 4 []]),
 (57, .struct [(0, 1), (1, 1)] [.lst 2 [], .lst 4 []]),
 (78, .struct [(0, 1), (1, 1), (2, 1), (3, 1), (4, 1)] [zI, zI, zS, zS, .lst 3 []]),
 (72, .struct [(0, 1), (1, 1), (2, 1), (3, 1), (4, 1)] [zI, zI, zS, zS, .lst 3 []]),
 (50, .struct [(0, 1), (1, 1), (2, 1), (3, 1), (4, 1)] [zI, zI, zI, .lst 1 [], .lst 2 []]),
 (46, .struct [(0, 1), (1, 1), (2, 1), (3, 1), (4, 1)] [zI, zI, zI, .lst 1 [], .lst 2 []]),
 (80, .struct [(0, 1), (1, 1), (2, 1), (3, 5), (8, 5)] [zI, zI, zI, .agg [zI, zI, zS, zS, .lst 3 []], .agg [zI, zI, zI, .lst 1 [], .lst 2 []]]),
 (74, .struct [(0, 1), (1, 1), (2, 1), (3, 5), (8, 5)] [zI, zI, zI, .agg [zI, zI, zS, zS, .lst 3 []], .agg [zI, zI, zI, .lst 1 [], .lst 2 []]]),
 (188, .arr 9 19 1 zS),
 (179, .arr 9 7 1 zS),
 ]
theorem aGI : yB Tryd.prog Th := by
 unfold Th
 have e2 : ∀ w, RDL w [zS, zI] Fa [.string ByteArray.empty, .int .i64 0] := fun w => xB (c1 := [_]) (yE rfl) (xB (c1 := [_]) (yE rfl) yc)
 have e3 : ∀ w, RDL w [zS, zI, zB] Fa [.string ByteArray.empty, .int .i64 0, .bool false] := fun w => xB (c1 := [_]) (yE rfl) (xB (c1 := [_]) (yE rfl) (xB (c1 := [_]) (yE rfl) yc))
 have e4 : ∀ w, RDL w [zS, zI, zI, zB] Fa [.string ByteArray.empty, .int .i64 0, .int .i64 0, .bool false] := fun w => xB (c1 := [_]) (yE rfl) (xB (c1 := [_]) (yE rfl) (xB (c1 := [_]) (yE rfl) (xB (c1 := [_]) (yE rfl) yc)))
 have eC : ∀ w, RDL w [.lst 1 [], .lst 2 []] Fa [.slice none 0 0, .slice none 0 0] := fun w => xB (c1 := [_]) (zf (by omega)) (xB (c1 := [_]) (zf (by omega)) yc)
 have eN : ∀ w, RDL w [zI, .lst 1 []] Fa [.int .i64 0, .slice none 0 0] := fun w => xB (c1 := [_]) (yE rfl) (xB (c1 := [_]) (zf (by omega)) yc)
 have eV : ∀ w, RDL w [zI, zI, zB] Fa [.int .i64 0, .int .i64 0, .bool false] := fun w => xB (c1 := [_]) (yE rfl) (xB (c1 := [_]) (yE rfl) (xB (c1 := [_]) (yE rfl) yc))
 have eW : ∀ w, RDL w [zS, zI, .lst 3 []] Fa [.string ByteArray.empty, .int .i64 0, .slice none 0 0] := fun w => xB (c1 := [_]) (yE rfl) (xB (c1 := [_]) (yE rfl) (xB (c1 := [_]) (zf (by omega)) yc))
 have eB : ∀ w, RDL w [.lst 2 [], .lst 4 []] Fa [.slice none 0 0, .slice none 0 0] := fun w => xB (c1 := [_]) (zf (by omega)) (xB (c1 := [_]) (zf (by omega)) yc)
 have eO : ∀ w, RDL w [zI, zI, zS, zS, .lst 3 []] Fa [.int .i64 0, .int .i64 0, .string ByteArray.empty, .string ByteArray.empty, .slice none 0 0] := fun w => xB (c1 := [_]) (yE rfl) (xB (c1 := [_]) (yE rfl) (xB (c1 := [_]) (yE rfl) (xB (c1 := [_]) (yE rfl) (xB (c1 := [_]) (zf (by omega)) yc))))
 have eR : ∀ w, RDL w [zI, zI, zI, .lst 1 [], .lst 2 []] Fa [.int .i64 0, .int .i64 0, .int .i64 0, .slice none 0 0, .slice none 0 0] := fun w => xB (c1 := [_]) (yE rfl) (xB (c1 := [_]) (yE rfl) (xB (c1 := [_]) (yE rfl) (xB (c1 := [_]) (zf (by omega)) (xB (c1 := [_]) (zf (by omega)) yc))))
 have eH : ∀ w, RDL w [zI, zS, zS, zS, .lst 3 []] Fa [.int .i64 0, .string ByteArray.empty, .string ByteArray.empty, .string ByteArray.empty, .slice none 0 0] := fun w => xB (c1 := [_]) (yE rfl) (xB (c1 := [_]) (yE rfl) (xB (c1 := [_]) (yE rfl) (xB (c1 := [_]) (yE rfl) (xB (c1 := [_]) (zf (by omega)) (yc)))))
 have eK : ∀ w, RDL w [.lst 5 [], zI, zI, zI, zI, zI, zI, zI, .lst 2 []] Fa [.slice none 0 0, .int .i64 0, .int .i64 0, .int .i64 0, .int .i64 0, .int .i64 0, .int .i64 0, .int .i64 0, .slice none 0 0] := fun w => xB (c1 := [_]) (zf (by omega)) (xB (c1 := [_]) (yE rfl) (xB (c1 := [_]) (yE rfl) (xB (c1 := [_]) (yE rfl) (xB (c1 := [_]) (yE rfl) (xB (c1 := [_]) (yE rfl) (xB (c1 := [_]) (yE rfl) (xB (c1 := [_]) (yE rfl) (xB (c1 := [_]) (zf (by omega)) (yc)))))))))
 have eM : ∀ w, RDL w [zI, zI, zI, .agg [zI, zI, zS, zS, .lst 3 []], .agg [zI, zI, zI, .lst 1 [], .lst 2 []]] Fa [.int .i64 0, .int .i64 0, .int .i64 0, .int .i64 0, .int .i64 0, .string ByteArray.empty, .string ByteArray.empty, .slice none 0 0, .int .i64 0, .int .i64 0, .int .i64 0, .slice none 0 0, .slice none 0 0] := fun w => xB (c1 := [_]) (yE rfl) (xB (c1 := [_]) (yE rfl) (xB (c1 := [_]) (yE rfl) (xB (c1 := [_, _, _, _, _]) (zx (eO w)) (xB (c1 := [_, _, _, _, _]) (zx (eR w)) yc))))
 have eG : ∀ w, RDL w [.lst 1 [], zI, zI] Fa [.slice none 0 0, .int .i64 0, .int .i64 0] := fun w => xB (c1 := [_]) (zf (by omega)) (xB (c1 := [_]) (yE rfl) (xB (c1 := [_]) (yE rfl) yc))
 refine xL (aIN (b := 16) (by kernel_rfl) (by kernel_rfl)) (xL (aF4 (b := 8) (by kernel_rfl) (by kernel_rfl)) (xL (aHC (b := 1) (by kernel_rfl) (by kernel_rfl)) (xL (aF4 (b := 1) (by kernel_rfl) (by kernel_rfl)) ?_)))
 refine xL (yg (b := 24) (zv := .string ByteArray.empty) (by kernel_rfl) (by kernel_rfl) (by kernel_rfl) (by omega) rfl (fun w => yE rfl)) ?_
 refine xL (yg (b := 24) (zv := .int .u8 0) (by kernel_rfl) (by kernel_rfl) (by kernel_rfl) (by omega) rfl (fun w => yE rfl)) ?_
 refine xL (yL (b := 24) (cs := #[.string ByteArray.empty, .int .i64 0]) (by kernel_rfl) (by kernel_rfl) (by kernel_rfl) (by decide) rfl e2) (xL (yg (b := 24) (zv := .agg #[.string ByteArray.empty, .int .i64 0]) (by kernel_rfl) (by kernel_rfl) (by kernel_rfl) (by omega) rfl (fun w => zx (e2 w))) ?_)
 refine xL (yL (b := 24) (cs := #[.string ByteArray.empty, .int .i64 0]) (by kernel_rfl) (by kernel_rfl) (by kernel_rfl) (by decide) rfl e2) (xL (yg (b := 24) (zv := .agg #[.string ByteArray.empty, .int .i64 0]) (by kernel_rfl) (by kernel_rfl) (by kernel_rfl) (by omega) rfl (fun w => zx (e2 w))) ?_)
 refine xL (yL (b := 32) (cs := #[.string ByteArray.empty, .int .i64 0, .bool false]) (by kernel_rfl) (by kernel_rfl) (by kernel_rfl) (by decide) rfl e3) (xL (yg (b := 24) (zv := .agg #[.string ByteArray.empty, .int .i64 0, .bool false]) (by kernel_rfl) (by kernel_rfl) (by kernel_rfl) (by omega) rfl (fun w => zx (e3 w))) ?_)
 refine xL (yL (b := 32) (cs := #[.string ByteArray.empty, .int .i64 0, .bool false]) (by kernel_rfl) (by kernel_rfl) (by kernel_rfl) (by decide) rfl e3) (xL (yg (b := 24) (zv := .agg #[.string ByteArray.empty, .int .i64 0, .bool false]) (by kernel_rfl) (by kernel_rfl) (by kernel_rfl) (by omega) rfl (fun w => zx (e3 w))) ?_)
 refine xL (yg (b := 24) (zv := .agg #[.string ByteArray.empty, .int .i64 0]) (by kernel_rfl) (by kernel_rfl) (by kernel_rfl) (by omega) rfl (fun w => zx (e2 w))) ?_
 refine xL (yg (b := 24) (zv := .agg #[.string ByteArray.empty, .int .i64 0, .bool false]) (by kernel_rfl) (by kernel_rfl) (by kernel_rfl) (by omega) rfl (fun w => zx (e3 w))) ?_
 refine xL (yg (b := 24) (zv := .int .i64 0) (by kernel_rfl) (by kernel_rfl) (by kernel_rfl) (by omega) rfl (fun w => yE rfl)) ?_
 refine xL (yL (b := 48) (cs := #[.slice none 0 0, .slice none 0 0]) (by kernel_rfl) (by kernel_rfl) (by kernel_rfl) (by decide) rfl eC) (xL (yg (b := 24) (zv := .agg #[.slice none 0 0, .slice none 0 0]) (by kernel_rfl) (by kernel_rfl) (by kernel_rfl) (by omega) rfl (fun w => zx (eC w))) ?_)
 refine xL (yL (b := 48) (cs := #[.slice none 0 0, .slice none 0 0]) (by kernel_rfl) (by kernel_rfl) (by kernel_rfl) (by decide) rfl eC) (xL (yg (b := 24) (zv := .agg #[.slice none 0 0, .slice none 0 0]) (by kernel_rfl) (by kernel_rfl) (by kernel_rfl) (by omega) rfl (fun w => zx (eC w))) ?_)
 refine xL (yL (b := 40) (cs := #[.string ByteArray.empty, .int .i64 0, .int .i64 0, .bool false]) (by kernel_rfl) (by kernel_rfl) (by kernel_rfl) (by decide) rfl e4) (xL (yg (b := 24) (zv := .agg #[.string ByteArray.empty, .int .i64 0, .int .i64 0, .bool false]) (by kernel_rfl) (by kernel_rfl) (by kernel_rfl) (by omega) rfl (fun w => zx (e4 w))) ?_)
 refine xL (yL (b := 40) (cs := #[.string ByteArray.empty, .int .i64 0, .int .i64 0, .bool false]) (by kernel_rfl) (by kernel_rfl) (by kernel_rfl) (by decide) rfl e4) (xL (yg (b := 24) (zv := .agg #[.string ByteArray.empty, .int .i64 0, .int .i64 0, .bool false]) (by kernel_rfl) (by kernel_rfl) (by kernel_rfl) (by omega) rfl (fun w => zx (e4 w))) ?_)
 refine xL (yL (b := 48) (cs := #[.slice none 0 0, .slice none 0 0]) (by kernel_rfl) (by kernel_rfl) (by kernel_rfl) (by decide) rfl eB) ?_
 refine xL (yL (b := 48) (cs := #[.slice none 0 0, .slice none 0 0]) (by kernel_rfl) (by kernel_rfl) (by kernel_rfl) (by decide) rfl eB) ?_
 refine xL (yL (b := 72) (cs := #[.int .i64 0, .int .i64 0, .string ByteArray.empty, .string ByteArray.empty, .slice none 0 0]) (by kernel_rfl) (by kernel_rfl) (by kernel_rfl) (by decide) rfl eO) ?_
 refine xL (yL (b := 72) (cs := #[.int .i64 0, .int .i64 0, .string ByteArray.empty, .string ByteArray.empty, .slice none 0 0]) (by kernel_rfl) (by kernel_rfl) (by kernel_rfl) (by decide) rfl eO) ?_
 refine xL (yL (b := 72) (cs := #[.int .i64 0, .int .i64 0, .int .i64 0, .slice none 0 0, .slice none 0 0]) (by kernel_rfl) (by kernel_rfl) (by kernel_rfl) (by decide) rfl eR) ?_
 refine xL (yL (b := 72) (cs := #[.int .i64 0, .int .i64 0, .int .i64 0, .slice none 0 0, .slice none 0 0]) (by kernel_rfl) (by kernel_rfl) (by kernel_rfl) (by decide) rfl eR) ?_
 refine xL (yL (b := 168) (cs := #[.int .i64 0, .int .i64 0, .int .i64 0, .int .i64 0, .int .i64 0, .string ByteArray.empty, .string ByteArray.empty, .slice none 0 0, .int .i64 0, .int .i64 0, .int .i64 0, .slice none 0 0, .slice none 0 0]) (by kernel_rfl) (by kernel_rfl) (by kernel_rfl) (by decide) rfl eM) ?_
 refine xL (yL (b := 168) (cs := #[.int .i64 0, .int .i64 0, .int .i64 0, .int .i64 0, .int .i64 0, .string ByteArray.empty, .string ByteArray.empty, .slice none 0 0, .int .i64 0, .int .i64 0, .int .i64 0, .slice none 0 0, .slice none 0 0]) (by kernel_rfl) (by kernel_rfl) (by kernel_rfl) (by decide) rfl eM) ?_
 refine xL (aF3 (b := 304) (be := 16) (ze := some (.string ByteArray.empty)) (cs := (List.replicate 19 (.string ByteArray.empty)).toArray) (by kernel_rfl) (by kernel_rfl) (by kernel_rfl) (by omega) (by omega) rfl (fun w => aBS (yE rfl) 19)) ?_
 refine xL (aF3 (b := 112) (be := 16) (ze := some (.string ByteArray.empty)) (cs := (List.replicate 7 (.string ByteArray.empty)).toArray) (by kernel_rfl) (by kernel_rfl) (by kernel_rfl) (by omega) (by omega) rfl (fun w => aBS (yE rfl) 7)) ?_
 exact aHB
end Go.Proofs.YtodckioppgjbdaaDoor.AM
namespace Go.Proofs.YtodckioppgjbdaaDoor
open Go.RowKit
theorem xQ {a b : Bool} (h : a = b) : Ending.returned (.bool a) = .returned (.bool b) := by rw [h]
theorem toList_inj {a b : ByteArray} (h : a.toList = b.toList) : a = b := by
 have e : a.data.toList = b.data.toList := by simpa [ByteArray.toList_eq] using h
 cases a; cases b; simp at e; simp [e]
theorem wR (a b : ByteArray) : (a.toList == b.toList) = decide (a = b) := by
 rw [Bool.eq_iff_iff]; simp
 exact ⟨toList_inj, fun h => by rw [h]⟩
theorem _root_.Go.RowKit.Below.drewN {B : Nat} {a w : World} (h : Below B a w) (n : Nat) : Below B a (w.drewN n) := ⟨h.os, h.tape, h.output, h.size, h.block⟩
theorem aA9 {w wx w1 : World} (hb : Below w.heap.size w wx) (h1 : Below wx.heap.size wx w1) : Below w.heap.size w w1 := hb.trans (h1.mono hb.size)
theorem cellS {w wx : World} {b o : Nat} {u : Value} (hb : Below w.heap.size w wx) (hl : b < w.heap.size) (h : w.cell? ⟨b, o, none⟩ = some u) : wx.cell? ⟨b, o, none⟩ = some u := (hb.cell (p := ⟨b, o, none⟩) hl).trans h
structure Aft (w : World) where
 at_ : World
 below : Below w.heap.size w at_
instance Aft.some_ (w : World) : Nonempty (Aft w) := ⟨⟨w, Below.refl _ _⟩⟩
theorem uJ {P : Program} {id : Nat} {Q : Exit → Act → World → Prop} {a : Act} {w : World} {l : List Oper} (hm : P.follows .mixedOrders = true) (hB : Region.lexB .any l.toArray = true)
 (h : wpQuiet P l.toArray (fun w' => ∃ y : Aft w, w' = y.at_) (fun a' => ∀ w', (∃ y : Aft w, w' = y.at_) → Q .normal a' w') l a) : (Code.region id l.toArray true).wp P Q a w :=
 wp_region_quiet (C := fun w' => ∃ y : Aft w, w' = y.at_) hm hB ⟨⟨_, (Below.refl w.heap.size w).drew⟩, rfl⟩ (by simpa using h)
theorem Aft.cell {w : World} {b o : Nat} {u : Value} (hl : b < w.heap.size) (h : w.cell? ⟨b, o, none⟩ = some u) (y : Aft w) : y.at_.cell? ⟨b, o, none⟩ = some u := cellS y.below hl h
theorem Aft.call {P : Program} {f : FuncId} {args : Array Value} {w : World} {y : Aft w} {v : Value} (h : Calls P f args y.at_ fun e w' => e = .returned v ∧ Below y.at_.heap.size y.at_ w') :
 Calls P f args y.at_ fun e w'' => e = .returned v ∧ ∃ y' : Aft w, w'' = y'.at_ :=
 h.mono fun _ _ ⟨he, hb⟩ => ⟨he, ⟨_, aA9 y.below hb⟩, rfl⟩
theorem Aft.same {P : Program} {f : FuncId} {args : Array Value} {w : World} {y : Aft w} {v : Value} (h : Calls P f args y.at_ fun e w' => e = .returned v ∧ y.at_ = w') :
 Calls P f args y.at_ fun e w'' => e = .returned v ∧ ∃ y' : Aft w, w'' = y'.at_ :=
 h.mono fun _ _ ⟨he, hb⟩ => ⟨he, y, hb.symm⟩
def Rd (w : World) (sz : Nat) (A : Option Addr) (n : Nat) (xs : List Value) : Prop :=
 xs.length = n * sz ∧ (0 < n → ∃ b off, A = some ⟨b, off, none⟩ ∧ b < w.heap.size ∧ ∀ j u, xs[j]? = some u → w.cell? ⟨b, off + j, none⟩ = some u)
section
variable {w w' : World} {sz n : Nat} {A : Option Addr} {xs : List Value}
theorem Rd.nil : Rd w sz A 0 [] := ⟨by simp, fun h => absurd h (by omega)⟩
theorem Rd.below {B : Nat} (h : Rd w sz A n xs) (hb : Below B w w') (hB : w.heap.size ≤ B) : Rd w' sz A n xs :=
 ⟨h.1, fun hn => by
  obtain ⟨b, off, e, hlt, hc⟩ := h.2 hn
  exact ⟨b, off, e, Nat.lt_of_lt_of_le hlt hb.size, fun j u hu => (hb.cell (p := ⟨b, off + j, none⟩) (by show b < B; omega)).trans (hc j u hu)⟩⟩
theorem Rd.alloc (h : Rd w sz A n xs) (o : Obj) : Rd (w.alloc o) sz A n xs := h.below ((Below.refl _ _).alloc (Nat.le_refl _) o) (Nat.le_refl _)
theorem Rd.drew (h : Rd w sz A n xs) : Rd w.drew sz A n xs := h
theorem Rd.drewN (h : Rd w sz A n xs) (k : Nat) : Rd (w.drewN k) sz A n xs := h
end
theorem aBv {P : Program} (t e : TypeId) (i : TypeInfo) (z : Value) (ht : P.underlying t = some (.slice e)) (hi : P.info? e = some i) (hz : i.zero = some z)
 (kl kc : IntKind) (n c : Nat) (hnc : n ≤ c) (hbytes : i.bytes * c ≤ 281474976710656) (h63 : c ≤ 9223372036854775807) (w : World) :
 (Instr.makeSlice t (.int kl (n : Int)) (.int kc (c : Int))).run P w = .ok (.slice (some ⟨w.heap.size, 0, none⟩) n c) (w.alloc (.cells (madeCells z.cells (c * i.size)) e)) := by
 have hb : (i.bytes : Int) * (c : Int) ≤ 281474976710656 := by
  have h : ((i.bytes * c : Nat) : Int) ≤ 281474976710656 := by omega
  rwa [Int.natCast_mul] at h
 have hr := run_make (P := P) w t e i z ht hi hz kl kc n c (by omega) (by omega) hb (by omega)
 simp only [Int.toNat_natCast] at hr
 exact hr
def Blk (w : World) (g : Nat) (t : TypeId) (cs : Array Value) : Prop := w.heap[g]? = some (.cells cs t (0, 0))
section
variable {w w' : World} {g : Nat} {t : TypeId} {cs : Array Value}
theorem Blk.lt (h : Blk w g t cs) : g < w.heap.size := by
 rcases Nat.lt_or_ge g w.heap.size with hlt | hge
 · exact hlt
 · unfold Blk at h; rw [Array.getElem?_eq_none hge] at h; cases h
theorem Blk.cell (h : Blk w g t cs) (i : Nat) : w.cell? ⟨g, i, none⟩ = cs[i]? := cell_of_row w g i cs t (0, 0) h
theorem Blk.frozen (h : Blk w g t cs) (i : Nat) : w.frozen? ⟨g, i, none⟩ = false := frozen_of_row w g i cs t h
theorem Blk.new (w : World) (t : TypeId) (cs : Array Value) : Blk (w.alloc (.cells cs t)) w.heap.size t cs := heap_alloc_new w _
theorem Blk.drew (h : Blk w g t cs) : Blk w.drew g t cs := h
theorem Blk.drewN (h : Blk w g t cs) (n : Nat) : Blk (w.drewN n) g t cs := h
theorem Blk.alloc (h : Blk w g t cs) (o : Obj) : Blk (w.alloc o) g t cs := (Below.heap_alloc w o g h.lt).trans h
theorem Blk.set_ (h : Blk w g t cs) (i : Nat) (u : Value) : Blk (w.setCell ⟨g, i, none⟩ u) g t (cs.setIfInBounds i u) := by
 unfold Blk at h ⊢
 simp [World.setCell, Array.getElem?_modify, h]
theorem Blk.far (h : Blk w g t cs) {p : Addr} (hp : g ≠ p.block) (u : Value) : Blk (w.setCell p u) g t cs := (Below.heap_setCell w p u g hp).trans h
theorem Blk.below {B : Nat} (h : Blk w g t cs) (hb : Below B w w') (hg : g < B) : Blk w' g t cs := (hb.block g hg).trans h
theorem Blk.kept (h : Blk w g t cs) (hb : Below w.heap.size w w') : Blk w' g t cs := (hb.block g h.lt).trans h
theorem Blk.own (h : Blk w g t cs) {base sz n cap : Nat} {xs : List Value} (hb : base ≤ g) (hc : n ≤ cap) (hm : cap ≤ maxLen) (hs : cs.size = cap * sz) (ht : cs.toList.take (n * sz) = xs) : w.ownsRow base t sz (.slice (some ⟨g, 0, none⟩) n cap) n xs :=
 ⟨by rw [← ht, List.length_take, Array.length_toList, hs, Nat.min_eq_left (Nat.mul_le_mul_right _ hc)], .inr ⟨g, cap, cs, rfl, hb, h, hc, hm, hs, ht⟩⟩
end
theorem aF2 (cs : Array Value) (k : Nat) (u v : Value) (h : k * 2 + 1 < cs.size) : ((cs.setIfInBounds (k * 2) u).setIfInBounds (k * 2 + 1) v).toList.take ((k + 1) * 2) = cs.toList.take (k * 2) ++ [u, v] := by
 rw [show (k + 1) * 2 = k * 2 + 1 + 1 from by omega]
 rw [List.take_succ_eq_append_getElem (by simpa using h), List.take_succ_eq_append_getElem (by simp; omega)]
 simp [List.take_set_of_le]
abbrev Ent := ByteArray × Int
def aIj (e : Ent) : List Value := [.string e.1, .int .i64 e.2]
def xk (es : List Ent) : List Value := es.flatMap aIj
theorem uU (e : Ent) (es : List Ent) : xk (e :: es) = .string e.1 :: .int .i64 e.2 :: xk es := rfl
theorem aC1 (a b : List Ent) : xk (a ++ b) = xk a ++ xk b := by simp [xk]
theorem uM (es : List Ent) : (xk es).length = es.length * 2 := by
 induction es with
 | nil => rfl
 | cons e r ih => rw [uU, List.length_cons, List.length_cons, ih, List.length_cons]; omega
theorem aA5 (es : List Ent) (k : Nat) : (xk es).drop (k * 2) = xk (es.drop k) := by
 induction es generalizing k with
 | nil => simp [xk]
 | cons e r ih =>
  match k with
  | 0 => simp
  | k + 1 => rw [show (k + 1) * 2 = k * 2 + 1 + 1 from by omega, uU, List.drop_succ_cons, List.drop_succ_cons, ih, List.drop_succ_cons]
theorem aB5 (es : List Ent) (k : Nat) (h : k < es.length) : (xk es)[k * 2]? = some (.string es[k].1) := by
 have := aA5 es k
 rw [List.drop_eq_getElem_cons h, uU] at this
 have h2 : ((xk es).drop (k * 2))[0]? = some (.string es[k].1) := by rw [this]; rfl
 rwa [List.getElem?_drop, Nat.add_zero] at h2
theorem aB6 (es : List Ent) (k : Nat) (h : k < es.length) : (xk es)[k * 2 + 1]? = some (.int .i64 es[k].2) := by
 have := aA5 es k
 rw [List.drop_eq_getElem_cons h, uU] at this
 have h2 : ((xk es).drop (k * 2))[1]? = some (.int .i64 es[k].2) := by rw [this]; rfl
 rwa [List.getElem?_drop] at h2
theorem Rd.ent {w wr : World} {A : Option Addr} {n : Nat} {es : List Ent} (h : Rd w 2 A n (xk es)) (hb : Below w.heap.size w wr) {k : Nat} (hk : k < es.length) :
 ∃ b off, A = some ⟨b, off, none⟩ ∧ b < w.heap.size ∧ b < wr.heap.size ∧ wr.cell? ⟨b, off + k * 2, none⟩ = some (.string es[k].1) ∧ wr.cell? ⟨b, off + k * 2 + 1, none⟩ = some (.int .i64 es[k].2) := by
 have hl := uM es
 obtain ⟨b, off, e, hlt, hc⟩ := h.2 (by have := h.1; omega)
 refine ⟨b, off, e, hlt, Nat.lt_of_lt_of_le hlt hb.size, ?_, ?_⟩
 · exact (hb.cell (p := ⟨b, off + k * 2, none⟩) hlt).trans (hc _ _ (aB5 es k hk))
 · exact (hb.cell (p := ⟨b, off + k * 2 + 1, none⟩) hlt).trans (hc _ _ (aB6 es k hk))
theorem Rd.len {w : World} {A : Option Addr} {n : Nat} {es : List Ent} (h : Rd w 2 A n (xk es)) : es.length = n := by
 have h1 := uM es; have h2 := h.1; omega
structure Edt where
 key : ByteArray
 val : Int
 gone : Bool
def aIi (e : Edt) : List Value := [.string e.key, .int .i64 e.val, .bool e.gone]
def aGO (es : List Edt) : List Value := es.flatMap aIi
end Go.Proofs.YtodckioppgjbdaaDoor
