/- Texts of the machine over data, folded. -/
import Derived.Test.YtodckioppgjbdaaGreatDoorKd4
set_option linter.unusedVariables false
set_option linter.unusedSimpArgs false
namespace Go.Proofs.YtodckioppgjbdaaGreatDoor.AM
open Go Go.RowKit
section
variable {P : Program} {Θ : Tab} {n : Nat} {Q : AEx → St → Prop} {s : St}
theorem aJB {a b : Code} (h : xD P Θ n a (AEx.then (xD P Θ n b Q) Q) s) : xD P Θ n (.seq a b) Q s := .inl h
theorem aHR (h : Q .normal s) : xD P Θ n .skip Q s := h
theorem aIz {id : Nat} {l : List Oper} (h : xJ P Θ n l.toArray false 0 l s (Q .normal)) : xD P Θ n (.region id l.toArray false) Q s := .inl ⟨(fun e => by cases e), h⟩
theorem aHP {id : Nat} {l : List Oper} (hB : Region.lexB .any l.toArray = true) (h : xJ P Θ n l.toArray true 0 l s (Q .normal)) : xD P Θ n (.region id l.toArray true) Q s := .inl ⟨fun _ => hB, h⟩
theorem aEK {c : Operand} {x y : Code} (hc : s.ev c = .v (.bool true)) (h : xD P Θ n x Q s) : xD P Θ n (.cond c x y) Q s := ⟨true, hc, h⟩
theorem aEJ {c : Operand} {x y : Code} (hc : s.ev c = .v (.bool false)) (h : xD P Θ n y Q s) : xD P Θ n (.cond c x y) Q s := ⟨false, hc, h⟩
theorem aFb {id : Nat} {c : Code} (h : xD P Θ n c (AEx.inBlock id Q) s) : xD P Θ n (.block id c) Q s := h
theorem aKL {c : Code} {ι : Type} (I : ι → InvM) (μ : ι → Nat) (i0 : ι) (h0 : s.leM (I i0)) (h : ∀ i, xD P Θ n c (AEx.then (fun s' => ∃ j, s'.leM (I j) ∧ μ j < μ i) Q) (I i).st) : xD P Θ n (.loop c) Q s := ⟨ι, I, μ, ⟨i0, h0⟩, h⟩
theorem aHQ {id : Nat} (h : Q (.exit id) s) : xD P Θ n (.exit id) Q s := h
theorem aJA (h : Q .ret s) : xD P Θ n .ret Q s := h
theorem aC8 {K : St → Prop} (h : K s) : AEx.then K Q .normal s := h
theorem aFy {K : St → Prop} {id : Nat} (h : Q (.exit id) s) : AEx.then K Q (.exit id) s := h
theorem aFx {K : St → Prop} (h : Q .ret s) : AEx.then K Q .ret s := h
theorem aHq {id : Nat} (h : Q .normal s) : AEx.inBlock id Q .normal s := h
theorem aHs {id : Nat} (h : Q .ret s) : AEx.inBlock id Q .ret s := h
theorem aHt {id : Nat} (h : Q .normal s) : AEx.inBlock id Q (.exit id) s := by show (bif Nat.beq id id then _ else _); simpa using h
theorem aHr {id j : Nat} (hj : Nat.beq j id = false) (h : Q (.exit j) s) : AEx.inBlock id Q (.exit j) s := by show (bif Nat.beq j id then _ else _); rw [hj]; exact h
theorem aJK {rs : List ResultVar} {out : Out} (h : Ret Θ rs [] out s) : wN Θ rs out .ret s := h
theorem aHu {rs : List ResultVar} {out : Out} (h : Ret Θ rs [] out s) : wN Θ rs out .normal s := h
variable {ops : Array Oper} {draw : Bool} {k : Nat} {o : Oper} {r : List Oper} {K : St → Prop}
theorem aGc (h : K s) : xJ P Θ n ops draw k [] s K := h
theorem jw {e : Eff} (hg : xh ops s o = some true) (hin : inN n o.dst = true) (hp : Pre P Θ o s e) (hu : draw = true → e.upd = none ∨ tied ops k = true ∨ ve Θ ops (fun j => Nat.blt j k) k s e) (h : xJ P Θ n ops draw (k + 1) r (s.app o.dst e) K) : xJ P Θ n ops draw k (o :: r) s K := by
 unfold xJ; rw [hg]; exact ⟨hin, e, hp, hu, .inl h⟩
theorem zQ {d : Option Tmp} {op : Op} {ty : TypeId} {pos : String} {after : Array Edge} {g : Option (Nat × Bool)} {v : AV} (hp : Pre P Θ ⟨d, op, ty, pos, after, g⟩ s ⟨v, none⟩) (hg : xh ops s ⟨d, op, ty, pos, after, g⟩ = some true) (hin : inN n d = true) (h : xJ P Θ n ops draw (k + 1) r (s.put d v) K) : xJ P Θ n ops draw k (⟨d, op, ty, pos, after, g⟩ :: r) s K :=
 jw hg hin hp (fun _ => .inl rfl) h
theorem aEg (hg : xh ops s o = some false) (hin : inN n o.dst = true) (h : xJ P Θ n ops draw (k + 1) r (s.put o.dst (.tup [])) K) : xJ P Θ n ops draw k (o :: r) s K := by
 unfold xJ; rw [hg]; exact ⟨hin, h⟩
variable {d : Option Tmp} {ty : TypeId} {pos : String} {after : Array Edge} {g : Option (Nat × Bool)}
theorem aBp {t : Nat} {y : AV} (h : s.sl t = y) : Pre P Θ ⟨d, .move (.tmp t), ty, pos, after, g⟩ s ⟨y, none⟩ := ⟨(fun c e => by cases e), .inl (by rw [← h]; rfl)⟩
theorem aIl {t : Nat} {y : AV} (h : s.sl t = y) : Pre P Θ ⟨d, .assign (.tmp t), ty, pos, after, g⟩ s ⟨y, none⟩ := ⟨(fun c e => by cases e), .inl (by rw [← h]; rfl)⟩
theorem aGe {c : Value} (h : c.oneCell' = true) : Pre P Θ ⟨d, .assign (.const c), ty, pos, after, g⟩ s ⟨.v c, none⟩ := ⟨(fun c' e => by cases e; exact h), .inl rfl⟩
theorem aLC {c : Value} (h : c.oneCell' = true) : Pre P Θ ⟨d, .move (.const c), ty, pos, after, g⟩ s ⟨.v c, none⟩ := ⟨(fun c' e => by cases e; exact h), .inl rfl⟩
theorem xA {op : BinOp} {t t2 : TypeId} {x y : Operand} {a b r : Value} (h : zG P op t x y a b r) (hx : s.ev x = .v a) (hy : s.ev y = .v b) (h1 : r.oneCell' = true) : Pre P Θ ⟨d, .binOp op t x y t2, ty, pos, after, g⟩ s ⟨.v r, none⟩ :=
 .inl ⟨a, b, r, by rw [hx]; rfl, by rw [hy]; rfl, h, h1, rfl⟩
theorem aGh {t : TypeId} {x : Operand} {b : Bool} (hx : s.ev x = .v (.bool b)) : Pre P Θ ⟨d, .unOp .not t x, ty, pos, after, g⟩ s ⟨.v (.bool (!b)), none⟩ :=
 ⟨.bool b, .bool (!b), by rw [hx]; rfl, fun w => rfl, rfl, rfl⟩
def cOK : Operand → Bool
 | .const c => c.oneCell'
 | _ => true
theorem vI {x : Operand} (h : cOK x = true) : ∀ c, x = .const c → c.oneCell' = true := fun c e => by subst e; exact h
def vX : List Operand → Bool
 | [] => true
 | x :: r => cOK x && vX r
theorem zU : ∀ {xs : List Operand}, vX xs = true → ∀ x ∈ xs, ∀ c, x = .const c → c.oneCell' = true
 | [], _, x, hx => by simp at hx
 | y :: ys, h, x, hx => by
  simp only [vX, Bool.and_eq_true] at h
  rcases List.mem_cons.1 hx with rfl | hx
  · exact vI h.1
  · exact zU h.2 x hx
theorem aC7 {c x y : Operand} {t : Bool} {z : AV} (hc : s.ev c = .v (.bool t)) (hz : (bif t then s.ev x else s.ev y) = z) (hx : cOK x = true) (hy : cOK y = true) : Pre P Θ ⟨d, .pick c x y, ty, pos, after, g⟩ s ⟨z, none⟩ :=
 ⟨vI hx, vI hy, t, hc, by rw [hz]⟩
theorem aC5 {x : Operand} {t : TypeId} {m : Nat} {y : AV} (hx : s.ev x = y) (hl : kX s y = some m) (hok : aCV Θ t y) : Pre P Θ ⟨d, .call ⟨.builtin .len, #[x], #[t]⟩, ty, pos, after, g⟩ s ⟨.v (.int .i64 (m : Int)), none⟩ :=
 ⟨x, t, m, rfl, rfl, by rw [hx]; exact hl, by rw [hx]; exact hok, rfl⟩
theorem aEk {α : Type} {xs : List α} {f : α → AV} {sz : Nat} {x : Operand} {t : TypeId} (hx : s.ev x = .lst sz (xs.map f)) (hok : ∃ e sz b z, Θ.look t = .slice e sz b z) : Pre P Θ ⟨d, .call ⟨.builtin .len, #[x], #[t]⟩, ty, pos, after, g⟩ s ⟨.v (.int .i64 (xs.length : Int)), none⟩ :=
 ⟨x, t, xs.length, rfl, rfl, by rw [hx]; simp [kX], by rw [hx]; exact hok, rfl⟩
theorem aFu {α : Type} {xs : List α} {f : α → AV} {l sz e : Nat} {x : Operand} {t : TypeId} (hx : s.ev x = .own l) (ho : s.hp l = some ⟨e, sz, xs.map f⟩) (hok : ∃ e sz b z, Θ.look t = .slice e sz b z) : Pre P Θ ⟨d, .call ⟨.builtin .len, #[x], #[t]⟩, ty, pos, after, g⟩ s ⟨.v (.int .i64 (xs.length : Int)), none⟩ :=
 ⟨x, t, xs.length, rfl, rfl, by rw [hx]; simp [kX, ho], by rw [hx]; exact hok, rfl⟩
theorem xZ {t : TypeId} {x i : Operand} {a : ByteArray} {k : IntKind} {j : Nat} (hT : vB P t .str) (hx : s.ev x = .v (.string a)) (hi : s.ev i = .v (.int k (j : Int))) (hj : j < a.size) : Pre P Θ ⟨d, .index t x i, ty, pos, after, g⟩ s ⟨.v (.int .u8 ((a[j]).toNat : Int)), none⟩ := by
 refine .inl ⟨_, _, _, by rw [hx]; rfl, by rw [hi]; rfl, fun w => ?_, rfl, rfl⟩
 have h0 : (0 : Int) ≤ (j : Int) := by omega
 simp [Instr.index, asIntOf, run_underlying hT.1, hj]
theorem aLB {t1 t2 : TypeId} {x : Operand} {a r : Value} (hr : ∀ w, (convert t1 t2 a).run P w = .ok r w) (hx : s.ev x = .v a) (h1 : r.oneCell' = true) : Pre P Θ ⟨d, .convert t1 t2 x, ty, pos, after, g⟩ s ⟨.v r, none⟩ :=
 .inl ⟨a, r, by rw [hx]; rfl, hr, h1, rfl⟩
theorem zN {t el sz b : Nat} {z : AV} {x ix : Operand} {k : IntKind} {j : Nat} {xs : List AV} {y : AV} (hy : xs[j]? = some y) (ht : Θ.look t = .slice el sz b z) (hx : s.ev x = .lst sz xs) (hi : s.ev ix = .v (.int k ((j : Nat) : Int))) : Pre P Θ ⟨d, .indexAddr t x ix, ty, pos, after, g⟩ s ⟨.ptr y, none⟩ :=
 ⟨k, j, hi, .inl ⟨el, sz, b, z, ht, .inl ⟨xs, y, hx, hy, rfl⟩⟩⟩
theorem aAw {t el sz b : Nat} {z : AV} {x ix : Operand} {k : IntKind} {j l : Nat} {ob : OB} (hj : j < ob.xs.length) (ht : Θ.look t = .slice el sz b z) (hx : s.ev x = .own l) (hi : s.ev ix = .v (.int k ((j : Nat) : Int))) (ho : s.hp l = some ob) (hs : ob.sz = sz) : Pre P Θ ⟨d, .indexAddr t x ix, ty, pos, after, g⟩ s ⟨.optr l j [] 0, none⟩ :=
 ⟨k, j, hi, .inl ⟨el, sz, b, z, ht, .inr ⟨l, ob, hx, ho, hs, hj, rfl⟩⟩⟩
theorem aFs {t el m sz : Nat} {z : AV} {x ix : Operand} {k : IntKind} {j : Nat} {xs : List AV} {y : AV} (hy : xs[j]? = some y) (hj : j < m) (ht : Θ.look t = .arr el m sz z) (hx : s.ev x = .ptr (.agg xs)) (hi : s.ev ix = .v (.int k ((j : Nat) : Int))) (ha : ∀ x ∈ xs, asz x = sz) : Pre P Θ ⟨d, .indexAddr t x ix, ty, pos, after, g⟩ s ⟨.ptr y, none⟩ :=
 ⟨k, j, hi, .inr ⟨el, m, sz, z, ht, hj, .inl ⟨xs, y, hx, hy, ha, rfl⟩⟩⟩
theorem aJJ {t : TypeId} {x : Operand} {f : Nat} {fs : List (Nat × Nat)} {z ys : List AV} {o_ z_ : Nat} {y : AV} (ht : Θ.look t = .struct fs z) (hf : fs[f]? = some (o_, z_)) (hx : s.ev x = .ptr (.agg ys)) (hy : ys[f]? = some y) (hs : xB (ys.take f) = o_) : Pre P Θ ⟨d, .fieldAddr t x f, ty, pos, after, g⟩ s ⟨.ptr y, none⟩ :=
 ⟨fs, z, o_, z_, ht, hf, .inl ⟨ys, y, hx, hy, hs, rfl⟩⟩
theorem aEl {t : TypeId} {x : Operand} {f : Nat} {fs : List (Nat × Nat)} {z : List AV} {o_ z_ l i c : Nat} {p : List Nat} (ht : Θ.look t = .struct fs z) (hf : fs[f]? = some (o_, z_)) (hx : s.ev x = .optr l i p c) : Pre P Θ ⟨d, .fieldAddr t x f, ty, pos, after, g⟩ s ⟨.optr l i (p ++ [f]) (c + o_), none⟩ :=
 ⟨fs, z, o_, z_, ht, hf, .inr ⟨l, i, p, c, hx, rfl⟩⟩
theorem aGg {t : TypeId} {x : Operand} {y : AV} (hx : s.ev x = .ptr y) (hk : (Θ.look t).known = true) (ha : zV y = (Θ.look t).isAgg) (hs : asz y = (Θ.look t).size) : Pre P Θ ⟨d, .load t x, ty, pos, after, g⟩ s ⟨y, none⟩ :=
 ⟨hk, .inl ⟨y, hx, ha, hs, rfl⟩⟩
theorem aC6 {t : TypeId} {x : Operand} {l i c : Nat} {p : List Nat} {ob : OB} {y z : AV} (hx : s.ev x = .optr l i p c) (ho : s.hp l = some ob) (hy : ob.xs[i]? = some y) (hg : xU y p 0 = some (z, c)) (hk : (Θ.look t).known = true) (ha : zV z = (Θ.look t).isAgg) (hs : asz z = (Θ.look t).size) (hop : ob.e.open_ = true := by rfl) : Pre P Θ ⟨d, .load t x, ty, pos, after, g⟩ s ⟨z, none⟩ :=
 ⟨hk, .inr ⟨l, i, p, c, ob, hx, ho, .inl ⟨y, z, .inl hop, hy, hg, ha, hs, rfl⟩⟩⟩
theorem zW {t : TypeId} {x : Operand} {l i c : Nat} {p : List Nat} {ob : OB} {t' : Option Nat} {y z x' : AV} (hx : s.ev x = .optr l i p c) (ho : s.hp l = some ob) (hop : y8 ob.e ob.xs i = some (.o t' i y)) (hg : xU y p 0 = some (z, c)) (hz : ofO z = some x') (hk : (Θ.look t).known = true) (ha : zV x' = (Θ.look t).isAgg) (hs : asz x' = (Θ.look t).size) : Pre P Θ ⟨d, .load t x, ty, pos, after, g⟩ s ⟨x', none⟩ :=
 ⟨hk, .inr ⟨l, i, p, c, ob, hx, ho, .inr ⟨t', y, z, hop, hg, .inl ⟨x', hz, ha, hs, rfl⟩⟩⟩⟩
theorem aJI {x : Operand} {i : Nat} {xs : List AV} {y : AV} (hx : s.ev x = .tup xs) (hy : xs[i]? = some y) : Pre P Θ ⟨d, .extract x i, ty, pos, after, g⟩ s ⟨y, none⟩ := ⟨xs, y, hx, hy, rfl⟩
theorem aEj {f : FuncId} {ags : Array Operand} {ts : Array TypeId} {t : Nat} {args : List AV} {out : Out} (hac : AC P f args out) (ha : (ags.toList.map fun x => s.dat (s.ev x)) = args) (hfl : (yF s ags.toList).isEmpty = true ∨ out.flat) (hfr : yB s (t + 1) 0 out.obs) (hok : zo s (ags.toList.map s.ev) = true) (hc : vX ags.toList = true) :
 Pre P Θ ⟨some t, .call ⟨.value (.func f), ags, ts⟩, ty, pos, after, g⟩ s ⟨ren (t + 1) out.val, jC (t + 1) out.obs⟩ :=
 ⟨f, [], [], t, out, rfl, rfl, zU hc, .inl ⟨args, by rw [← ha]; simp [Function.comp_def], hac, hfr, by simpa using hok, .inl ⟨hfl.imp (fun h => by simpa [yF] using h) id, by simp [jC]⟩⟩⟩
theorem aFt {f : FuncId} {xs ys : List AV} {x : Operand} {ags : Array Operand} {ts : Array TypeId} {t : Nat} {args : List AV} {out : Out} (hac : AC P f args out) (hx : s.ev x = .fn f xs ys) (ha : ((xs ++ ags.toList.map s.ev ++ ys).map s.dat) = args) (hfl : (xu (xs ++ ags.toList.map s.ev ++ ys)).isEmpty = true ∨ out.flat) (hfr : yB s (t + 1) 0 out.obs) (hok : zo s (xs ++ ags.toList.map s.ev ++ ys) = true) (hc : vX ags.toList = true) :
 Pre P Θ ⟨some t, .call ⟨.value x, ags, ts⟩, ty, pos, after, g⟩ s ⟨ren (t + 1) out.val, jC (t + 1) out.obs⟩ :=
 ⟨f, xs, ys, t, out, hx, rfl, zU hc, .inl ⟨args, ha, hac, hfr, hok, .inl ⟨hfl.imp (fun h => by simpa using h) id, rfl⟩⟩⟩
end
theorem aJm {P : Program} {Θ : Tab} {s : St} {ty : TypeId} {pos : String} {after : Array Edge} {g : Option (Nat × Bool)} {f : FuncId} {ags : Array Operand} {ts : Array TypeId} {t : Nat} {args : List AV} {out : Out} (hac : AC P f args out) (ha : (ags.toList.map fun x => s.dat (s.ev x)) = args) (hfr : yB s (t + 1) 0 out.obs) (hok : zo s (ags.toList.map s.ev) = true) (hc : vX ags.toList = true) (hl : (yF s ags.toList).all okL = true := by rfl) :
 Pre P Θ ⟨some t, .call ⟨.value (.func f), ags, ts⟩, ty, pos, after, g⟩ s ⟨ren (t + 1) out.val, jk (yF s ags.toList) (yx (t + 1) 0 out.obs)⟩ :=
 ⟨f, [], [], t, out, rfl, rfl, zU hc, .inl ⟨args, by rw [← ha]; simp [Function.comp_def], hac, hfr, by simpa using hok, .inr ⟨by simpa [yF] using hl, by simp [yF]⟩⟩⟩
def aGb : List Nat → Bool
 | [] => true
 | l :: r => !r.contains l && aGb r
theorem aFk : ∀ {l : List Nat}, aGb l = true → l.Nodup
 | [], _ => List.nodup_nil
 | a :: l, h => by
  simp only [aGb, Bool.and_eq_true, Bool.not_eq_true', List.contains_eq_mem, decide_eq_false_iff_not] at h
  exact List.nodup_cons.2 ⟨h.1, aFk h.2⟩
theorem kg {P : Program} {Θ : Tab} {s : St} {ty : TypeId} {pos : String} {after : Array Edge} {g : Option (Nat × Bool)} {f : FuncId} {xs ys : List AV} {x : Operand} {ags : Array Operand} {ts : Array TypeId} {t : Nat} {args : List AV} {rin rout : List OB} {out : Out} (Ls : List Nat) (hac : ACG P f args rin rout out) (hx : s.ev x = .fn f xs ys) (ha : s.datHL Ls (xs ++ ags.toList.map s.ev ++ ys) = aDs Ls args) (hh : handed s Ls Ls rin) (hnd : aGb Ls = true) (hsz : rout.map OB.sz = rin.map OB.sz) (hfr : yB s (t + 1) 0 out.obs)
 (hok : wH s Ls (xs ++ ags.toList.map s.ev ++ ys) = true) (hwi : yC (fun l => (xH 0 rin l).isSome) args = true) (hwe : (rin ++ rout).all (fun ob => uT (fun l => (xH 0 rin l).isSome) ob.e) = true) (hfl : (uX Ls (xu (xs ++ ags.toList.map s.ev ++ ys))).isEmpty = true ∨ (out.flat ∧ ∀ ob ∈ rout, kE ob)) (hc : vX ags.toList = true) :
 Pre P Θ ⟨some t, .call ⟨.value x, ags, ts⟩, ty, pos, after, g⟩ s ⟨ren (t + 1) out.val, some fun s => yx (t + 1) 0 out.obs (yu Ls Ls rout s)⟩ :=
 ⟨f, xs, ys, t, out, hx, rfl, zU hc, .inr ⟨args, rin, rout, Ls, ha, hac, hh, aFk hnd, hsz, hfr, hok, hwi, hwe, hfl.imp (fun h => by simpa using h) id, rfl⟩⟩
theorem aG9 {ρ : Nat → Nat} : ∀ x : AV, x.within (fun _ => false) = true → mapA ρ x = x := by
 intro x
 refine AV.rec (motive_1 := fun x => x.within (fun _ => false) = true → mapA ρ x = x) (motive_2 := fun xs => yC (fun _ => false) xs = true → uN ρ xs = xs) ?_ ?_ ?_ ?_ ?_ ?_ ?_ ?_ ?_ ?_ ?_ ?_ ?_ ?_ ?_ x
 · intro _; rfl
 · intro _ _; rfl
 · intro _ _ _; rfl
 · intro _ _ _ _; rfl
 · intro _ _ _; rfl
 · intro _ h; cases h
 · intro _ _ _ _ h; cases h
 · intro xs ih h; simp only [mapA]; rw [ih (by simpa [AV.within] using h)]
 · intro _ h; cases h
 · intro xs ih h; simp only [mapA]; rw [ih (by simpa [AV.within] using h)]
 · intro _ _ _; rfl
 · intro f xs ys ih ih2 h
   simp only [AV.within, Bool.and_eq_true] at h
   simp only [mapA]; rw [ih h.1, ih2 h.2]
 · intro t x ih h; simp only [mapA]; rw [ih (by simpa [AV.within] using h)]
 · intro _; rfl
 · intro x xs ih ih2 h
   simp only [yC, Bool.and_eq_true] at h
   simp only [uN]; rw [ih h.1, ih2 h.2]
theorem aJn {P : Program} {Θ : Tab} {s : St} {d : Nat} {ty : TypeId} {pos : String} {after : Array Edge} {g : Option (Nat × Bool)} {f : FuncId} {x : Operand} {r : List Operand} {ts : Array TypeId} {l : Nat} {ob : OB} {xs' args : List AV} {v : Value} (hac : ACM P f ob xs' args v) (hx : s.ev x = .own l) (ho : s.hp l = some ob) (ha : (r.map fun x => s.dat (s.ev x)) = args) (how : (yF s r).isEmpty = true) (hok : zo s (r.map s.ev) = true) (hc : vX r = true) (h1 : v.oneCell' = true) (hsh : ob.e.shut = true := by rfl) (hcx : cOK x = true := by rfl) (hlb : yC (fun _ => false) args = true := by rfl) (hag : s.datHL [l] (r.map s.ev) = args := by rfl) (hah : wH s [l] (r.map s.ev) = true := by rfl) :
 Pre P Θ ⟨some d, .call ⟨.value (.func f), (x :: r).toArray, ts⟩, ty, pos, after, g⟩ s ⟨.v v, some fun s => s.set l (some ⟨ob.e, ob.sz, xs'⟩)⟩ := by
 have hse : ∀ e : ET, e.shut = true → aIx [l] e = e := fun e h => by cases e <;> first | rfl | cases h
 have hml : ∀ xs : List AV, yC (fun _ => false) xs = true → uN (xk 0 [l]) xs = xs := by
  intro xs
  induction xs with
  | nil => intro _; rfl
  | cons y ys ih =>
   intro h
   simp only [yC, Bool.and_eq_true] at h
   simp only [uN]; rw [aG9 y h.1, ih h.2]
 have hwl : ∀ xs : List AV, yC (fun _ => false) xs = true → ∀ p, yC p xs = true := fun xs h p => by
  have key : ∀ xs : List AV, yC (fun _ => false) xs = true → yC p xs = true := by
   have one : ∀ x : AV, x.within (fun _ => false) = true → x.within p = true := by
    intro x
    refine AV.rec (motive_1 := fun x => x.within (fun _ => false) = true → x.within p = true) (motive_2 := fun xs => yC (fun _ => false) xs = true → yC p xs = true) ?_ ?_ ?_ ?_ ?_ ?_ ?_ ?_ ?_ ?_ ?_ ?_ ?_ ?_ ?_ x
    · intro _; rfl
    · intro _ _; rfl
    · intro _ _ _; rfl
    · intro _ _ _ _; rfl
    · intro _ _ _; rfl
    · intro _ h; cases h
    · intro _ _ _ _ h; cases h
    · intro xs ih h; exact ih h
    · intro _ h; cases h
    · intro xs ih h; exact ih h
    · intro _ _ _; rfl
    · intro f xs ys ih ih2 h
      simp only [AV.within, Bool.and_eq_true] at h ⊢
      exact ⟨ih h.1, ih2 h.2⟩
    · intro t x ih h; exact ih h
    · intro _; rfl
    · intro x xs ih ih2 h
      simp only [yC, Bool.and_eq_true] at h ⊢
      exact ⟨ih h.1, ih2 h.2⟩
   intro xs
   induction xs with
   | nil => intro _; rfl
   | cons y ys ih =>
    intro h
    simp only [yC, Bool.and_eq_true] at h ⊢
    exact ⟨one y h.1, ih h.2⟩
  exact key xs h
 have hcs : ∀ y ∈ (x :: r), ∀ c, y = .const c → c.oneCell' = true := fun y hy => by
  rcases List.mem_cons.1 hy with rfl | hy
  · exact vI hcx
  · exact zU hc y hy
 have how' : xu (r.map s.ev) = [] := by simpa [yF] using how
 refine ⟨f, [], [], d, ⟨.v v, []⟩, rfl, rfl, hcs, .inr ⟨.own 0 :: args, [ob], [⟨ob.e, ob.sz, xs'⟩], [l], ?_, hac, ⟨?_, trivial⟩, by simp, rfl, trivial, ?_, ?_, ?_, .inl ?_, ?_⟩⟩
 · simp only [List.nil_append, List.append_nil, List.map_cons, hx, St.datHL, St.datH, aDs, uN, mapA, hag, hml _ hlb]
   simp [xk]
 · rw [ho]; unfold vY; rw [hse _ hsh]
 · simp only [List.nil_append, List.append_nil, List.map_cons, hx, wH, vW, hah]; simp
 · simp only [yC, AV.within, hwl _ hlb]; simp [xH]
 · have hw : ∀ (e : ET) (p : Nat → Bool), e.shut = true → uT p e = true := fun e p h => by cases e <;> first | rfl | cases h
   simp only [List.cons_append, List.nil_append, List.all_cons, List.all_nil, hw _ _ hsh]; rfl
 · simp only [List.nil_append, List.append_nil, List.map_cons, hx, xu, yT, how', uX]; simp
 · simp only [ren, mapA, yx, yu]; unfold vY; simp only [hse _ hsh]
theorem aK9 {P : Program} {Θ : Tab} {s : St} {d : Nat} {ty : TypeId} {pos : String} {after : Array Edge} {g : Option (Nat × Bool)} (el : ET) (sz : Nat) (h : 0 < sz) (hsh : el.row = true := by rfl) (hok : okL (d + 1) = true := by rfl) : Pre P Θ ⟨some d, .assign (.const (.slice none 0 0)), ty, pos, after, g⟩ s ⟨.own (d + 1), some fun s => (s.kill (d + 1)).set (d + 1) (some ⟨el, sz, []⟩)⟩ :=
 ⟨(fun c e => by cases e; rfl), .inr (.inr (.inl ⟨d, el, sz, rfl, h, hsh, hok, rfl, rfl⟩))⟩
theorem aKa {P : Program} {Θ : Tab} {s : St} {d : Nat} {ty : TypeId} {pos : String} {after : Array Edge} {g : Option (Nat × Bool)} (el : ET) (sz : Nat) (h : 0 < sz) (hsh : el.row = true := by rfl) (hok : okL (d + 1) = true := by rfl) : Pre P Θ ⟨some d, .move (.const (.slice none 0 0)), ty, pos, after, g⟩ s ⟨.own (d + 1), some fun s => (s.kill (d + 1)).set (d + 1) (some ⟨el, sz, []⟩)⟩ :=
 ⟨(fun c e => by cases e; rfl), .inr (.inr (.inl ⟨d, el, sz, rfl, h, hsh, hok, rfl, rfl⟩))⟩
theorem aGf {P : Program} {Θ : Tab} {s : St} {ty : TypeId} {pos : String} {after : Array Edge} {g : Option (Nat × Bool)} {t : TypeId} {x : Operand} {d : Nat} {y : AV} (hf : s.hp (d + 1) = none) (hx : s.ev x = y) (hk : (match y with | .v c => c.oneCell' | .agg _ => true | .lst _ _ => true | _ => false) = true) (hs : ((Θ.look t).known && Nat.beq (asz y) (Θ.look t).size) = true) (hok : okL (d + 1) = true := by rfl) :
 Pre P Θ ⟨some d, .box t x, ty, pos, after, g⟩ s ⟨.optr (d + 1) 0 [] 0, some fun s' => s'.set (d + 1) (some ⟨.s t, (Θ.look t).size, [y]⟩)⟩ := by
 have hd : s.dat (s.ev x) = y := by rw [hx]; cases y <;> first | rfl | simp at hk
 have ho : yT (s.ev x) = [] := by rw [hx]; cases y <;> first | rfl | simp at hk
 simp only [Bool.and_eq_true] at hs
 refine ⟨fun c e => ?_, d, rfl, hf, hok, hs.1, .inl ⟨by rw [hd]; exact Nat.eq_of_beq_eq_true hs.2, by rw [hx]; cases y <;> first | exact hk | rfl | simp at hk, by rw [ho]; rfl, ?_⟩⟩
 · subst e; simp only [St.ev] at hx; subst hx; exact hk
 · rw [hd, ho]; rfl
theorem aC4 {P : Program} {Θ : Tab} {s : St} {ty : TypeId} {pos : String} {after : Array Edge} {g : Option (Nat × Bool)} {t : TypeId} {x : Operand} {d : Nat} {y : AV} (hf : s.hp (d + 1) = none) (hx : toO (s.ev x) = some y) (hs : ((Θ.look t).known && Nat.beq (asz y) (Θ.look t).size) = true) (hc : cOK x = true := by rfl) (hok : okL (d + 1) = true := by rfl) :
 Pre P Θ ⟨some d, .box t x, ty, pos, after, g⟩ s ⟨.optr (d + 1) 0 [] 0, some fun s' => s'.set (d + 1) (some ⟨.o (some t) 0 y, (Θ.look t).size, [y]⟩)⟩ := by
 simp only [Bool.and_eq_true] at hs
 exact ⟨vI hc, d, rfl, hf, hok, hs.1, .inr ⟨y, hx, Nat.eq_of_beq_eq_true hs.2, rfl⟩⟩
theorem aHj {P : Program} {Θ : Tab} {s : St} {ty : TypeId} {pos : String} {after : Array Edge} {g : Option (Nat × Bool)} {t : TypeId} {d : Nat} (hf : s.hp (d + 1) = none) (hk : (Θ.look t).known = true) (hok : okL (d + 1) = true := by rfl) :
 Pre P Θ ⟨some d, .alloc t, ty, pos, after, g⟩ s ⟨.optr (d + 1) 0 [] 0, some fun s => s.set (d + 1) (some ⟨kz t (Θ.look t).zero, (Θ.look t).size, [(Θ.look t).zero]⟩)⟩ := ⟨d, rfl, hf, hok, hk, rfl⟩
theorem z8 {P : Program} {Θ : Tab} {s : St} {d : Option Tmp} {ty : TypeId} {pos : String} {after : Array Edge} {g : Option (Nat × Bool)} {t : TypeId} {x y : Operand} {l i c : Nat} {p : List Nat} {ob : OB} {q z v : AV} (hq : ob.xs[i]? = some q) (hx : s.ev x = .optr l i p c) (ho : s.hp l = some ob) (hg : xU q p 0 = some (z, c)) (hs : ((Θ.look t).known && (Nat.beq (asz z) (Θ.look t).size && Nat.beq (asz v) (asz z))) = true) (hy : s.ev y = v) (hv : (match v with | .v c => c.oneCell' | .agg _ => true | .lst _ _ => true | .ptr _ => true | _ => false) = true) (hop : ob.e.open_ = true := by rfl) :
 Pre P Θ ⟨d, .store t x y, ty, pos, after, g⟩ s ⟨.any, some fun s' => s'.set l (some ⟨.s (ob.e.typ.getD 0), ob.sz, ob.xs.set i (uO q p v)⟩)⟩ := by
 simp only [Bool.and_eq_true] at hs
 have hd : s.dat (s.ev y) = v := by rw [hy]; cases v <;> first | rfl | cases hv
 have hown : yT (s.ev y) = [] := by rw [hy]; cases v <;> first | rfl | cases hv
 have hda : xG s (s.ev y) = true := by rw [hy]; cases v <;> first | exact hv | rfl | cases hv
 obtain ⟨t0, he⟩ : ∃ t0, ob.e = .s t0 ∨ ob.e = .z t0 := by
  cases h : ob.e with
  | s t0 => exact ⟨t0, .inl rfl⟩
  | z t0 => exact ⟨t0, .inr rfl⟩
  | _ => rw [h] at hop; cases hop
 have ht : ob.e.typ.getD 0 = t0 := by rcases he with he | he <;> rw [he] <;> rfl
 refine ⟨fun c e => ?_, hs.1, l, i, p, c, ob, hx, ho, .inl ⟨t0, q, z, he, hq, hg, Nat.eq_of_beq_eq_true hs.2.1, by rw [hd]; exact Nat.eq_of_beq_eq_true hs.2.2, hda, by rw [hown]; rfl, by rw [hown]; rfl, ?_⟩⟩
 · subst e; simp only [St.ev] at hy; subst hy; exact hv
 · rw [hd, hown, ht]; rfl
theorem yU {P : Program} {Θ : Tab} {s : St} {d : Option Tmp} {ty : TypeId} {pos : String} {after : Array Edge} {g : Option (Nat × Bool)} {t : TypeId} {x y : Operand} {l i c : Nat} {p : List Nat} {ob : OB} {t' : Option Nat} {q z y' : AV} (hx : s.ev x = .optr l i p c) (ho : s.hp l = some ob) (hop : y8 ob.e ob.xs i = some (.o t' i q)) (hg : xU q p 0 = some (z, c)) (hy : toO (s.ev y) = some y') (hs : ((Θ.look t).known && (Nat.beq (asz z) (Θ.look t).size && Nat.beq (asz y') (asz z))) = true) (hc : cOK y = true := by rfl) :
 Pre P Θ ⟨d, .store t x y, ty, pos, after, g⟩ s ⟨.any, some fun s' => s'.set l (some ⟨.o t' i (setM q p y'), ob.sz, ob.xs⟩)⟩ := by
 simp only [Bool.and_eq_true] at hs
 exact ⟨vI hc, hs.1, l, i, p, c, ob, hx, ho, .inr (.inl ⟨t', q, z, y', hop, hg, Nat.eq_of_beq_eq_true hs.2.1, hy, Nat.eq_of_beq_eq_true hs.2.2, rfl⟩)⟩
theorem uQ {P : Program} {Θ : Tab} {s : St} {d : Option Tmp} {ty : TypeId} {pos : String} {after : Array Edge} {g : Option (Nat × Bool)} {t : TypeId} {x y : Operand} {l sz t0 : Nat} {q y' : AV} (hx : s.ev x = .optr l 0 [] 0) (ho : s.hp l = some ⟨.s t0, sz, [q]⟩) (hy : toO (s.ev y) = some y') (hs : ((Θ.look t).known && (Nat.beq (asz q) (Θ.look t).size && Nat.beq (asz y') (asz q))) = true) (hc : cOK y = true := by rfl) :
 Pre P Θ ⟨d, .store t x y, ty, pos, after, g⟩ s ⟨.any, some fun s' => s'.set l (some ⟨.o (some t0) 0 y', sz, [y']⟩)⟩ := by
 simp only [Bool.and_eq_true] at hs
 exact ⟨vI hc, hs.1, l, 0, [], 0, _, hx, ho, .inr (.inr (.inr (.inl ⟨t0, q, y', rfl, rfl, rfl, rfl, rfl, Nat.eq_of_beq_eq_true hs.2.1, hy, Nat.eq_of_beq_eq_true hs.2.2, rfl⟩)))⟩
theorem aIm {P : Program} {Θ : Tab} {s : St} {d : Option Tmp} {ty : TypeId} {pos : String} {after : Array Edge} {g : Option (Nat × Bool)} {t : TypeId} {x : Operand} {lo hi : Option Operand} {el sz b l h : Nat} {z : AV} {xs : List AV} (hl : l ≤ h) (hh : h ≤ xs.length) (ht : Θ.look t = .slice el sz b z) (hx : s.ev x = .lst sz xs) (h1 : aCX s lo l) (h2 : aAo s hi xs.length h) : Pre P Θ ⟨d, .slice t x lo hi none, ty, pos, after, g⟩ s ⟨.lst sz ((xs.take h).drop l), none⟩ :=
 .inr ⟨el, sz, b, z, xs, l, h, ht, rfl, hx, h1, h2, hl, hh, rfl⟩
theorem aGZ {α : Type} (f : α → AV) {es : List α} {k : Nat} (h : k < es.length) : (es.map f)[k]? = some (f es[k]) := by simp [h]
section
variable {P : Program} {t : TypeId} {x y : Operand} {k : IntKind} {a b : Int}
theorem aHO (h : a < b) : zG P .lss t x y (.int k a) (.int k b) (.bool true) := fun w => by simp [eqGuard, binOp, Op.intCmp, h]
theorem vQ (h : ¬ a < b) : zG P .lss t x y (.int k a) (.int k b) (.bool false) := fun w => by simp [eqGuard, binOp, Op.intCmp]; omega
theorem aHN (h : a ≤ b) : zG P .leq t x y (.int k a) (.int k b) (.bool true) := fun w => by simp [eqGuard, binOp, Op.intCmp, h]
theorem aHM (h : ¬ a ≤ b) : zG P .leq t x y (.int k a) (.int k b) (.bool false) := fun w => by simp [eqGuard, binOp, Op.intCmp]; omega
theorem aEH (h : a > b) : zG P .gtr t x y (.int k a) (.int k b) (.bool true) := fun w => by simp [eqGuard, binOp, Op.intCmp]; omega
theorem aEG (h : ¬ a > b) : zG P .gtr t x y (.int k a) (.int k b) (.bool false) := fun w => by simp [eqGuard, binOp, Op.intCmp]; omega
theorem aHL (h : a ≥ b) : zG P .geq t x y (.int k a) (.int k b) (.bool true) := fun w => by simp [eqGuard, binOp, Op.intCmp]; omega
theorem aHK (h : ¬ a ≥ b) : zG P .geq t x y (.int k a) (.int k b) (.bool false) := fun w => by simp [eqGuard, binOp, Op.intCmp]; omega
theorem aCD (h : a = b) : zG P .eql t x y (.int k a) (.int k b) (.bool true) := fun w => by simp [eqGuard, binOp, Op.intCmp, h]
theorem aCC (h : ¬ a = b) : zG P .eql t x y (.int k a) (.int k b) (.bool false) := fun w => by simp [eqGuard, binOp, Op.intCmp, h]
theorem aEI (h : ¬ a = b) : zG P .neq t x y (.int k a) (.int k b) (.bool true) := fun w => by simp [eqGuard, binOp, Op.intCmp, h]
theorem qi (h : a = b) : zG P .neq t x y (.int k a) (.int k b) (.bool false) := fun w => by simp [eqGuard, binOp, Op.intCmp, h]
theorem jT {c : Int} (h : c = a + b) (hl : -9223372036854775808 ≤ c) (hu : c ≤ 9223372036854775807) : zG P .add t x y (.int .i64 a) (.int .i64 b) (.int .i64 c) := fun w => by
 have hw : IntKind.i64.wrap (a + b) = c := by rw [IntKind.wrap_i64, ← h]; omega
 simp [eqGuard, binOp, Op.intArith, hw]
theorem aCE {c : Int} (h : c = a - b) (hl : -9223372036854775808 ≤ c) (hu : c ≤ 9223372036854775807) : zG P .sub t x y (.int .i64 a) (.int .i64 b) (.int .i64 c) := fun w => by
 have hw : IntKind.i64.wrap (a - b) = c := by rw [IntKind.wrap_i64, ← h]; omega
 simp [eqGuard, binOp, Op.intArith, hw]
theorem aDl {op : BinOp} {a b : ByteArray} {r : Value} (h : ∀ w, (Op.stringOp op a b).run P w = .ok r w) : zG P op t x y (.string a) (.string b) r := fun w => by
 cases op <;> simp only [eqGuard, binOp] <;> first | exact h w | simpa using h w
end
section
variable {P : Program} {Θ : Tab} {s : St} {ty : TypeId} {pos : String} {after : Array Edge} {g : Option (Nat × Bool)} {t kt vt : TypeId} {z : AV} {l : Nat} {ent : List (ByteArray × AV)} {kk : ByteArray}
theorem qF {d : Nat} (hf : s.hp (d + 1) = none) (ht : Θ.look t = .map kt vt z) (hok : okL (d + 1) = true := by rfl) : Pre P Θ ⟨some d, .makeMap t none, ty, pos, after, g⟩ s ⟨.mapv (d + 1), some fun s => (s.set (d + 1) (some ⟨.s t, 1, []⟩)).setM (d + 1) []⟩ :=
 ⟨d, kt, vt, z, rfl, hf, hok, ht, fun y hy => by simp at hy, rfl⟩
theorem qE {d : Option Tmp} {m k x : Operand} {v : AV} {b : Value} {ent' : List (ByteArray × AV)} (hm : s.ev m = .mapv l) (hp : s.mp l = some ent) (hk : s.ev k = .v (.string kk)) (hv : s.ev x = v) (hc : xX v = some b) (hcs : vX [x] = true) (ht : Θ.look t = .map kt vt z) (he : vE ent kk v = ent') : Pre P Θ ⟨d, .insert t m k x, ty, pos, after, g⟩ s ⟨.any, some fun s' => s'.setM l ent'⟩ :=
 ⟨l, ent, kk, b, kt, vt, z, ht, hm, hp, hk, by rw [hv]; exact hc, fun c e => zU hcs x (by simp) c e, by rw [hv, he]⟩
theorem qD {d : Option Tmp} {m k : Operand} {y : AV} {f : Bool} (hm : s.ev m = .mapv l) (hp : s.mp l = some ent) (hk : s.ev k = .v (.string kk)) (ht : Θ.look t = .map kt vt z) (hy : (zY ent kk).getD z = y) (hf : (zY ent kk).isSome = f) : Pre P Θ ⟨d, .lookup t m k true, ty, pos, after, g⟩ s ⟨.tup [y, .v (.bool f)], none⟩ :=
 ⟨l, ent, kk, kt, vt, z, ht, hm, hp, hk, by rw [hy, hf]; rfl⟩
end
def force (x : AV) (k : AV → Option St) : Option St :=
 match x with
 | .any => none
 | .v c => k (.v c)
 | .agg xs => k (.agg xs)
 | .lst z xs => k (.lst z xs)
 | .ptr y => k (.ptr y)
 | .own l => k (.own l)
 | .optr l i p c => k (.optr l i p c)
 | .tup xs => k (.tup xs)
 | .mapv l => k (.mapv l)
 | .mix xs => k (.mix xs)
 | .rd x => k (.rd x)
 | .fn f xs ys => k (.fn f xs ys)
 | .ifc t x => k (.ifc t x)
theorem force_eq {x : AV} {k : AV → Option St} {s : St} (h : force x k = some s) : k x = some s := by
 cases x <;> first | exact h | cases h
def jI : List AV → (List AV → Option St) → Option St
 | [], k => k []
 | x :: r, k => force x fun y => jI r fun ys => k (y :: ys)
theorem jJ {s : St} : ∀ {xs : List AV} {k : List AV → Option St}, jI xs k = some s → k xs = some s
 | [], k, h => h
 | x :: r, k, h => jJ (xs := r) (k := fun ys => k (x :: ys)) (force_eq (k := fun y => jI r fun ys => k (y :: ys)) h)
def aAx (s : St) : List AV → List (Nat × Operand) → Bool
 | _, [] => true
 | z, (i, x) :: r => (match z[i]? with | some y => Nat.beq (asz (s.dat (s.ev x))) (asz y) | none => false) && (xG s (s.ev x) && aAx s (z.set i (s.dat (s.ev x))) r)
theorem aAy {s : St} : ∀ (ps : List (Nat × Operand)) (z : List AV), aAx s z ps = true → vU s z ps
 | [], z, _ => trivial
 | (i, x) :: r, z, h => by
  simp only [aAx, Bool.and_eq_true] at h
  refine ⟨?_, h.2.1, aAy r _ h.2.2⟩
  have h1 := h.1
  split at h1
  · rename_i y hy; exact ⟨y, hy, Nat.eq_of_beq_eq_true h1⟩
  · cases h1
def aDp (Θ : Tab) (draw : Bool) (dst : Option Tmp) (ty : TypeId) (c : Value) : Option (Nat × Nat × Nat) :=
 match c, dst, Θ.look ty with
 | .slice none 0 0, some d, .slice el sz _ _ => bif !draw && (Nat.blt 0 sz && okL (d + 1)) then some (d, el, sz) else none
 | _, _, _ => none
theorem zF {α : Type} {b : Bool} {x : Option α} {y : α} (h : (bif b then x else none) = some y) : b = true ∧ x = some y := by cases b with
 | true => exact ⟨rfl, h⟩
 | false => cases h
theorem aEa {Θ : Tab} {draw : Bool} {dst : Option Tmp} {ty : TypeId} {c : Value} {d el sz : Nat} (h : aDp Θ draw dst ty c = some (d, el, sz)) : dst = some d ∧ c = .slice none 0 0 ∧ draw = false ∧ 0 < sz ∧ okL (d + 1) = true := by
 unfold aDp at h
 split at h
 · obtain ⟨h1, h2⟩ := zF h
   cases h2
   simp only [Bool.and_eq_true] at h1
   exact ⟨rfl, rfl, by cases draw <;> simp_all, by simpa using h1.2.1, h1.2.2⟩
 · cases h
def aH8 : AV → Bool
 | .v (.slice none 0 0) => true
 | _ => false
def TI.isIface : TI → Bool
 | .iface => true
 | _ => false
def zn (Θ : Tab) (draw : Bool) (o : Oper) (s : St) : Option St :=
 match o.op with
 | .move (.tmp t) => force (s.sl t) fun v => some (s.put o.dst v)
 | .assign (.tmp t) => force (s.sl t) fun v => some (s.put o.dst v)
 | .move (.const c) => match aDp Θ draw o.dst o.type c with
  | some (d, el, sz) => some (((s.kill (d + 1)).set (d + 1) (some ⟨.s el, sz, []⟩)).put (some d) (.own (d + 1)))
  | none => bif c.oneCell' then some (s.put o.dst (.v c)) else none
 | .assign (.const c) => match aDp Θ draw o.dst o.type c with
  | some (d, el, sz) => some (((s.kill (d + 1)).set (d + 1) (some ⟨.s el, sz, []⟩)).put (some d) (.own (d + 1)))
  | none => bif c.oneCell' then some (s.put o.dst (.v c)) else none
 | .pick c a b => match s.ev c with
  | .v (.bool t) => bif cOK a && cOK b then force (bif t then s.ev a else s.ev b) fun v => some (s.put o.dst v) else none
  | _ => none
 | .unOp .not _ x => match s.ev x with
  | .v (.bool b) => some (s.put o.dst (.v (.bool (!b))))
  | _ => none
 | .extract x i => match s.ev x with
  | .tup xs => match xs[i]? with
   | some y => force y fun v => some (s.put o.dst v)
   | none => none
  | _ => none
 | .fieldAddr t x f => match Θ.look t with
  | .struct fs _ => match fs[f]? with
   | some (o_, _) => match s.ev x with
    | .ptr (.agg ys) => match ys[f]? with
     | some y => bif Nat.beq (xB (ys.take f)) o_ then some (s.put o.dst (.ptr y)) else none
     | none => none
    | .optr l i p c => some (s.put o.dst (.optr l i (p ++ [f]) (c + o_)))
    | _ => none
   | none => none
  | _ => none
 | .load t x => match s.ev x with
  | .ptr y => bif (Θ.look t).known && (Bool.xor (zV y) (Θ.look t).isAgg).not && Nat.beq (asz y) (Θ.look t).size then force y fun v => some (s.put o.dst v) else none
  | .optr l i p c => match s.hp l with
   | some ob => bif ob.e.open_ then (match ob.xs[i]? with
    | some y => match xU y p 0 with
     | some (z, c') => bif Nat.beq c' c && (Θ.look t).known && (Bool.xor (zV z) (Θ.look t).isAgg).not && Nat.beq (asz z) (Θ.look t).size then force z fun v => some (s.put o.dst v) else none
     | none => none
    | none => none) else (match y8 ob.e ob.xs i with
    | some (.o t' i' y) => match xU y p 0 with
     | some (z, c') => bif aH8 z then none else (match ofO z with
      | some x' => bif Nat.beq i' i && Nat.beq c' c && (Θ.look t).known && (Bool.xor (zV x') (Θ.look t).isAgg).not && Nat.beq (asz x') (Θ.look t).size then force x' fun v => some (s.put o.dst v) else none
      | none => none)
     | none => none
    | _ => none)
   | none => none
  | _ => none
 | .alloc t => match o.dst with
  | some d => match s.hp (d + 1) with
   | none => bif !draw && ((Θ.look t).known && okL (d + 1)) then some ((s.set (d + 1) (some ⟨kz t (Θ.look t).zero, (Θ.look t).size, [(Θ.look t).zero]⟩)).put (some d) (.optr (d + 1) 0 [] 0)) else none
   | some _ => none
  | none => none
 | .box t x => match o.dst with
  | some d => match s.hp (d + 1) with
   | none => match s.ev x with
    | .agg ys => bif (!draw && okL (d + 1)) && ((Θ.look t).known && Nat.beq (asz (.agg ys)) (Θ.look t).size) then some ((s.set (d + 1) (some ⟨.s t, (Θ.look t).size, [.agg ys]⟩)).put (some d) (.optr (d + 1) 0 [] 0)) else none
    | _ => none
   | some _ => none
  | none => none
 | .build t ps => match Θ.look t with
  | .struct _ z => bif (yF s (ps.toList.map (·.2))).isEmpty && (vX (ps.toList.map (·.2)) && aAx s z ps.toList) then jI (zD s z ps.toList) fun ys => some (s.put o.dst (.agg ys)) else none
  | _ => none
 | .buildSlice t m ps => match o.dst with
  | some d => match s.hp (d + 1) with
   | none => match Θ.look t with
    | .slice el sz _ z => bif !draw && ((yF s (ps.toList.map (·.2))).isEmpty && (Nat.ble (m * sz) 65536 && (okL (d + 1) && (vX (ps.toList.map (·.2)) && aAx s (List.replicate m z) ps.toList)))) then jI (zD s (List.replicate m z) ps.toList) fun ys => some ((s.set (d + 1) (some ⟨.s el, sz, ys⟩)).put (some d) (.own (d + 1))) else none
    | _ => none
   | some _ => none
  | none => none
 | .nilCheck x => match s.ev x with
  | .ptr y => some (s.put o.dst (.ptr y))
  | .optr l i p c => some (s.put o.dst (.optr l i p c))
  | .fn f xs ys => some (s.put o.dst (.fn f xs ys))
  | .ifc t y => some (s.put o.dst (.ifc t y))
  | _ => none
 | .makeFunc (.func f) first captured => bif vX (first.toList ++ captured.toList) then jI (first.toList.map s.ev) fun xs => jI (captured.toList.map s.ev) fun ys => some (s.put o.dst (.fn f xs ys)) else none
 | .makeInterface t x => bif cOK x && (Θ.look t).known && !(Θ.look t).isIface then force (s.ev x) fun v => some (s.put o.dst (.ifc t v)) else none
 | _ => none
section
variable {P : Program} {Θ : Tab} {n : Nat} {ops : Array Oper} {draw : Bool} {s s' : St}
theorem xor_not {a b : Bool} (h : (Bool.xor a b).not = true) : a = b := by cases a <;> cases b <;> first | rfl | cases h
theorem aFB {o : Oper} (h : zn Θ draw o s = some s') : ∃ e, Pre P Θ o s e ∧ (draw = true → e.upd = none) ∧ s.app o.dst e = s' := by
 obtain ⟨dst, op, ty, pos, after, guard⟩ := o
 have fin : ∀ {v : AV}, Pre P Θ ⟨dst, op, ty, pos, after, guard⟩ s ⟨v, none⟩ → some (s.put dst v) = some s' → ∃ e, Pre P Θ ⟨dst, op, ty, pos, after, guard⟩ s e ∧ (draw = true → e.upd = none) ∧ s.app dst e = s' := fun hp he => ⟨_, hp, fun _ => rfl, by cases he; rfl⟩
 cases op with
 | move x => cases x with
  | tmp t => exact fin (aBp rfl) (force_eq (k := fun v => some (s.put dst v)) h)
  | const c =>
   simp only [zn] at h
   split at h
   · rename_i d el sz hn
     obtain ⟨rfl, rfl, hd, h0, hok⟩ := aEa hn
     refine ⟨_, aKa (.s el) sz h0 rfl hok, (fun e => by rw [e] at hd; cases hd), ?_⟩
     cases h; rfl
   · obtain ⟨h1, h2⟩ := zF h; exact fin (aLC h1) h2
  | _ => cases h
 | assign x => cases x with
  | tmp t => exact fin (aIl rfl) (force_eq (k := fun v => some (s.put dst v)) h)
  | const c =>
   simp only [zn] at h
   split at h
   · rename_i d el sz hn
     obtain ⟨rfl, rfl, hd, h0, hok⟩ := aEa hn
     refine ⟨_, aK9 (.s el) sz h0 rfl hok, (fun e => by rw [e] at hd; cases hd), ?_⟩
     cases h; rfl
   · obtain ⟨h1, h2⟩ := zF h; exact fin (aGe h1) h2
  | _ => cases h
 | pick c a b =>
  simp only [zn] at h
  split at h
  · rename_i t ht
    obtain ⟨h1, h2⟩ := zF h
    simp only [Bool.and_eq_true] at h1
    exact fin (aC7 ht rfl h1.1 h1.2) (force_eq h2)
  · cases h
 | unOp op t x =>
  cases op with
  | not =>
   simp only [zn] at h
   split at h
   · rename_i b hb; exact fin (aGh hb) h
   · cases h
  | _ => cases h
 | extract x i =>
  simp only [zn] at h
  split at h
  · rename_i xs hx
    split at h
    · rename_i y hy; exact fin (aJI hx hy) (force_eq h)
    · cases h
  · cases h
 | fieldAddr t x f =>
  simp only [zn] at h
  split at h
  · rename_i fs z ht
    split at h
    · rename_i o_ z_ hf
      split at h
      · rename_i ys hx
        split at h
        · rename_i y hy
          obtain ⟨h1, h2⟩ := zF h
          exact fin (aJJ ht hf hx hy (Nat.eq_of_beq_eq_true h1)) h2
        · cases h
      · rename_i l i p c hx; exact fin (aEl ht hf hx) h
      · cases h
    · cases h
  · cases h
 | load t x =>
  simp only [zn] at h
  split at h
  · rename_i y hx
    obtain ⟨h1, h2⟩ := zF h
    simp only [Bool.and_eq_true] at h1
    exact fin (aGg hx h1.1.1 (xor_not h1.1.2) (Nat.eq_of_beq_eq_true h1.2)) (force_eq h2)
  · rename_i l i p c hx
    split at h
    · rename_i ob ho
      cases hop : ob.e.open_ with
      | true =>
       rw [hop] at h
       simp only [cond_true] at h
       split at h
       · rename_i y hy
         split at h
         · rename_i z c' hg
           obtain ⟨h1, h2⟩ := zF h
           simp only [Bool.and_eq_true] at h1
           have hc := Nat.eq_of_beq_eq_true h1.1.1.1
           subst hc
           exact fin (aC6 hx ho hy hg h1.1.1.2 (xor_not h1.1.2) (Nat.eq_of_beq_eq_true h1.2) hop) (force_eq h2)
         · cases h
       · cases h
      | false =>
       rw [hop] at h
       simp only [cond_false] at h
       split at h
       · rename_i t' i' y hy
         split at h
         · rename_i z c' hg
           cases hn : aH8 z with
           | true => rw [hn] at h; cases h
           | false =>
            rw [hn] at h
            simp only [cond_false] at h
            split at h
            · rename_i x' hx'
              obtain ⟨h1, h2⟩ := zF h
              simp only [Bool.and_eq_true] at h1
              have hc := Nat.eq_of_beq_eq_true h1.1.1.1.2
              subst hc
              have hi := Nat.eq_of_beq_eq_true h1.1.1.1.1
              subst hi
              exact fin (zW hx ho hy hg hx' h1.1.1.2 (xor_not h1.1.2) (Nat.eq_of_beq_eq_true h1.2)) (force_eq h2)
            · cases h
         · cases h
       · cases h
    · cases h
  · cases h
 | alloc t =>
  cases dst with
  | none => cases h
  | some d =>
   simp only [zn] at h
   split at h
   · rename_i hf
     obtain ⟨h1, h2⟩ := zF h
     simp only [Bool.and_eq_true] at h1
     refine ⟨_, aHj hf h1.2.1 h1.2.2, fun e => by rw [e] at h1; simp at h1, ?_⟩
     cases h2; rfl
   · cases h
 | box t x =>
  cases dst with
  | none => cases h
  | some d =>
   simp only [zn] at h
   split at h
   · rename_i hf
     split at h
     · rename_i ys hx
       obtain ⟨h1, h2⟩ := zF h
       simp only [Bool.and_eq_true] at h1
       refine ⟨_, aGf hf hx rfl (by simp only [Bool.and_eq_true]; exact h1.2) h1.1.2, fun e => by rw [e] at h1; simp at h1, ?_⟩
       cases h2; rfl
     · cases h
   · cases h
 | build t ps =>
  simp only [zn] at h
  split at h
  · rename_i fs z ht
    obtain ⟨h1, h2⟩ := zF h
    simp only [Bool.and_eq_true] at h1
    have hown : yF s (ps.toList.map (·.2)) = [] := by simpa using h1.1
    exact fin (v := .agg (zD s z ps.toList)) ⟨fs, z, ht, .inl ⟨aAy _ _ h1.2.2, zU h1.2.1, by rw [hown]; rfl, by rw [hown]; rfl⟩⟩ (jJ (k := fun ys => some (s.put dst (.agg ys))) h2)
  · cases h
 | buildSlice t m ps =>
  cases dst with
  | none => cases h
  | some d =>
   simp only [zn] at h
   split at h
   · rename_i hf
     split at h
     · rename_i el sz b z ht
       obtain ⟨h1, h2⟩ := zF h
       simp only [Bool.and_eq_true] at h1
       have hown : yF s (ps.toList.map (·.2)) = [] := by simpa using h1.2.1
       have h3 := jJ (k := fun ys => some ((s.set (d + 1) (some ⟨el, sz, ys⟩)).put (some d) (.own (d + 1)))) h2
       refine ⟨⟨.own (d + 1), some fun s' => s'.set (d + 1) (some ⟨.s el, sz, zD s (List.replicate m z) ps.toList⟩)⟩, ⟨d, el, sz, b, z, rfl, hf, h1.2.2.2.1, ht, Nat.le_of_ble_eq_true h1.2.2.1, .inl ⟨aAy _ _ h1.2.2.2.2.2, zU h1.2.2.2.2.1, by rw [hown]; rfl, by rw [hown]; rfl⟩⟩, fun e => by rw [e] at h1; simp at h1, ?_⟩
       cases h3; rfl
     · cases h
   · cases h
 | nilCheck x =>
  simp only [zn] at h
  split at h
  · rename_i y hx; exact fin ⟨by rw [hx], .inl ⟨y, hx⟩⟩ h
  · rename_i l i p c hx; exact fin ⟨by rw [hx], .inr (.inl ⟨l, i, p, c, hx⟩)⟩ h
  · rename_i f xs ys hx; exact fin ⟨by rw [hx], .inr (.inr (.inl ⟨f, xs, ys, hx⟩))⟩ h
  · rename_i t y hx; exact fin ⟨by rw [hx], .inr (.inr (.inr ⟨t, y, hx⟩))⟩ h
  · cases h
 | makeFunc fn first captured =>
  cases fn with
  | func f =>
   simp only [zn] at h
   obtain ⟨h1, h2⟩ := zF h
   have h3 := jJ (k := fun xs => jI (captured.toList.map s.ev) fun ys => some (s.put dst (.fn f xs ys))) h2
   have h4 := jJ (k := fun ys => some (s.put dst (.fn f (first.toList.map s.ev) ys))) h3
   exact fin (v := .fn f (first.toList.map s.ev) (captured.toList.map s.ev)) ⟨f, rfl, zU h1, rfl⟩ h4
  | _ => cases h
 | makeInterface t x =>
  simp only [zn] at h
  obtain ⟨h1, h2⟩ := zF h
  simp only [Bool.and_eq_true, Bool.not_eq_true'] at h1
  exact fin (v := .ifc t (s.ev x)) ⟨vI h1.1.1, h1.1.2, fun e => by rw [e] at h1; exact absurd h1.2 (by simp [TI.isIface]), rfl⟩ (force_eq (k := fun v => some (s.put dst (.ifc t v))) h2)
 | _ => cases h
def runK (P : Program) (Θ : Tab) (n : Nat) (ops : Array Oper) (draw : Bool) : Nat → List Oper → St → (St → Prop) → Prop
 | _, [], s, K => K s
 | k, o :: r, s, K =>
  match inN n o.dst with
  | false => False
  | true => match xh ops s o with
   | some false => runK P Θ n ops draw (k + 1) r (s.put o.dst (.tup [])) K
   | some true => match zn Θ (draw && !(tied ops k)) o s with
    | some s' => runK P Θ n ops draw (k + 1) r s' K
    | none => xJ P Θ n ops draw k (o :: r) s K
   | none => xJ P Θ n ops draw k (o :: r) s K
theorem wM {K : St → Prop} : ∀ (l : List Oper) (k : Nat) (s : St), runK P Θ n ops draw k l s K → xJ P Θ n ops draw k l s K
 | [], k, s, h => aGc h
 | o :: r, k, s, h => by
  unfold runK at h
  cases hin : inN n o.dst with
  | false => rw [hin] at h; exact h.elim
  | true =>
   rw [hin] at h
   simp only at h
   cases hg : xh ops s o with
   | none => rw [hg] at h; exact h
   | some b => cases b with
    | false => rw [hg] at h; exact aEg hg hin (wM r (k + 1) _ h)
    | true =>
     rw [hg] at h
     simp only at h
     cases hs : zn Θ (draw && !(tied ops k)) o s with
     | none => rw [hs] at h; exact h
     | some s' =>
      rw [hs] at h
      obtain ⟨e, hp, hu, he⟩ := aFB (P := P) hs
      exact jw hg hin hp (fun hd => by cases ht : tied ops k with | true => exact .inr (.inl rfl) | false => exact .inl (hu (by rw [hd, ht]; rfl))) (by rw [he]; exact wM r (k + 1) _ h)
def qd (P : Program) (Θ : Tab) (n : Nat) : Code → (AEx → St → Prop) → St → Prop
 | .skip, Q, s => Q .normal s
 | .label _, Q, s => Q .normal s
 | .region _ ops false, Q, s => runK P Θ n ops false 0 ops.toList s (Q .normal)
 | .region _ ops true, Q, s => (Region.lexB .any ops = true ∧ runK P Θ n ops true 0 ops.toList s (Q .normal)) ∨ (Region.lexB .any ops = true ∧ qH ops ∧ xQ P Θ n ops 0 ops.toList s (Q .normal))
 | .seq a b, Q, s => qd P Θ n a (AEx.then (qd P Θ n b Q) Q) s
 | .cond c x y, Q, s => match s.ev c with
  | .v (.bool true) => qd P Θ n x Q s
  | .v (.bool false) => qd P Θ n y Q s
  | _ => xD P Θ n (.cond c x y) Q s
 | .block id c, Q, s => qd P Θ n c (AEx.inBlock id Q) s
 | .exit id, Q, s => Q (.exit id) s
 | .ret, Q, s => Q .ret s
 | c, Q, s => xD P Θ n c Q s
theorem aAH {ops : Array Oper} {K K' : St → Prop} : ∀ (l : List Oper) (k : Nat) (s : St), (∀ s, K s → K' s) → xQ P Θ n ops k l s K → xQ P Θ n ops k l s K'
 | [], k, s, hk, h => Gh.mono hk h
 | o :: r, k, s, hk, h => by
  unfold xQ at h ⊢
  refine ⟨h.1, h.2.1, h.2.2.imp (fun ⟨u, ks, nu, he, h⟩ => ⟨u, ks, nu, he, aAH r _ _ hk h⟩) (fun ⟨ht, e, hp, h⟩ => ⟨ht, e, hp, h.mono fun s' => aAH r _ s' hk⟩)⟩
theorem aBz {Q Q' : AEx → St → Prop} : ∀ (c : Code) (s : St), (∀ e s, Q e s → Q' e s) → xD P Θ n c Q s → xD P Θ n c Q' s := by
 have ops_mono : ∀ {ops : Array Oper} {draw : Bool} {K K' : St → Prop} (l : List Oper) (k : Nat) (s : St), (∀ s, K s → K' s) → xJ P Θ n ops draw k l s K → xJ P Θ n ops draw k l s K' := by
  intro ops draw K K' l
  induction l with
  | nil => intro k s hk h; exact hk s h
  | cons o r ih =>
   intro k s hk h
   unfold xJ at h ⊢
   refine ⟨h.1, ?_⟩
   have h2 := h.2
   split
   · rename_i hg; simp only [hg] at h2; obtain ⟨e, a, b, c⟩ := h2; exact ⟨e, a, b, c.imp (ih _ _ hk) (fun h => ⟨h.1, h.2.mono fun s' => ih _ s' hk⟩)⟩
   · rename_i hg; simp only [hg] at h2; exact ih _ _ hk h2
   · rename_i hg; simp only [hg] at h2
 intro c
 induction c generalizing Q Q' with
 | skip => intro s hq h; exact hq _ _ h
 | label l => intro s hq h; exact hq _ _ h
 | region id ops draw =>
  intro s hq h
  rcases h with h | ⟨h1, h2, h3, h⟩ | ⟨h1, h⟩
  · exact .inl ⟨h.1, ops_mono _ _ _ (fun s h => hq _ _ h) h.2⟩
  · exact .inr (.inl ⟨h1, h2, h3, aAH _ _ _ (fun s h => hq _ _ h) h⟩)
  · refine .inr (.inr ⟨h1, fun W M S0 a w hs b hb k cs => ?_⟩)
    obtain ⟨e, a', w', ⟨he, s', hk, hs'⟩, harr⟩ := h W M S0 a w hs b hb k cs
    exact ⟨e, a', w', ⟨he, s', hq _ _ hk, hs'⟩, harr⟩
 | seq a b iha ihb =>
  intro s hq h
  rcases h with h | ⟨ι, I, h, k⟩
  · exact .inl (iha s (fun e s he => by cases e <;> first | exact ihb s hq he | exact hq _ _ he) h)
  · exact .inr ⟨ι, I, iha s (fun e s he => by cases e <;> first | exact he | exact hq _ _ he) h, fun j => ihb _ hq (k j)⟩
 | cond c x y ihx ihy => intro s hq h; obtain ⟨b, hc, h⟩ := h; refine ⟨b, hc, ?_⟩; cases b <;> first | exact ihx s hq h | exact ihy s hq h
 | block id c ih =>
  intro s hq h
  refine ih s (fun e s he => ?_) h
  cases e with
  | exit j =>
   show (bif Nat.beq j id then Q' .normal s else Q' (.exit j) s)
   have he' : (bif Nat.beq j id then Q .normal s else Q (.exit j) s) := he
   cases hb : Nat.beq j id with
   | true => rw [hb] at he'; exact hq _ _ he'
   | false => rw [hb] at he'; exact hq _ _ he'
  | normal => exact hq _ _ he
  | ret => exact hq _ _ he
 | loop c ih =>
  intro s hq h
  obtain ⟨ι, I, μ, h0, hr⟩ := h
  exact ⟨ι, I, μ, h0, fun i => ih _ (fun e s he => by cases e <;> first | exact he | exact hq _ _ he) (hr i)⟩
 | exit id => intro s hq h; exact hq _ _ h
 | ret => intro s hq h; exact hq _ _ h
 | rangeFunc _ _ _ _ => intro s hq h; exact h.elim
 | scope _ => intro s hq h; exact h.elim
 | goto _ => intro s hq h; exact h.elim
 | refuse _ => intro s hq h; exact h.elim
theorem aA2 : ∀ (c : Code) (Q : AEx → St → Prop) (s : St), qd P Θ n c Q s → xD P Θ n c Q s := by
 intro c
 induction c with
 | skip => intro Q s h; exact h
 | label l => intro Q s h; exact h
 | region id ops draw =>
  intro Q s h
  cases draw with
  | false => exact .inl ⟨(fun e => by cases e), wM _ _ _ h⟩
  | true =>
   rcases h with h | ⟨h1, h2, h⟩
   · exact .inl ⟨fun _ => h.1, wM _ _ _ h.2⟩
   · exact .inr (.inl ⟨rfl, h1, h2, h⟩)
 | seq a b iha ihb =>
  intro Q s h
  exact .inl (aBz a s (fun e s he => by cases e <;> first | exact ihb Q s he | exact he) (iha _ s h))
 | cond c x y ihx ihy =>
  intro Q s h
  simp only [qd] at h
  split at h
  · rename_i hc; exact ⟨true, hc, ihx Q s h⟩
  · rename_i hc; exact ⟨false, hc, ihy Q s h⟩
  · exact h
 | block id c ih => intro Q s h; exact ih _ s h
 | exit id => intro Q s h; exact h
 | ret => intro Q s h; exact h
 | loop c ih => intro Q s h; exact h
 | rangeFunc _ _ _ _ => intro Q s h; exact h
 | scope _ => intro Q s h; exact h
 | goto _ => intro Q s h; exact h
 | refuse _ => intro Q s h; exact h
variable {k : Nat} {r : List Oper} {K : St → Prop} {d : Option Tmp} {op : Op} {ty : TypeId} {pos : String} {after : Array Edge} {g : Option (Nat × Bool)}
theorem aGq {v : AV} (hp : Pre P Θ ⟨d, op, ty, pos, after, g⟩ s ⟨v, none⟩) (hg : xh ops s ⟨d, op, ty, pos, after, g⟩ = some true) (hin : inN n d = true) (h : runK P Θ n ops draw (k + 1) r (s.put d v) K) : xJ P Θ n ops draw k (⟨d, op, ty, pos, after, g⟩ :: r) s K :=
 zQ hp hg hin (wM _ _ _ h)
theorem uK {e : Eff} (hp : Pre P Θ ⟨d, op, ty, pos, after, g⟩ s e) (hg : xh ops s ⟨d, op, ty, pos, after, g⟩ = some true) (hin : inN n d = true) (hu : draw = true → e.upd = none ∨ tied ops k = true ∨ ve Θ ops (fun j => Nat.blt j k) k s e) (h : runK P Θ n ops draw (k + 1) r (s.app d e) K) : xJ P Θ n ops draw k (⟨d, op, ty, pos, after, g⟩ :: r) s K :=
 jw hg hin hp hu (wM _ _ _ h)
theorem kK {c : Code} {Q : AEx → St → Prop} {ι : Type} (I : ι → Inv) (μ : ι → Nat) (i0 : ι) (h0 : s.le (I i0)) (h : ∀ i, qd P Θ n c (AEx.then (fun s' => ∃ j, s'.le (I j) ∧ μ j < μ i) Q) (I i).st) : xD P Θ n (.loop c) Q s :=
 aKL (fun i => (I i).m) μ i0 ⟨h0, trivial⟩ fun i => aBz (Q := AEx.then (fun s' => ∃ j, s'.le (I j) ∧ μ j < μ i) Q) c _ (fun e s he => by
  cases e with
  | normal => obtain ⟨j, h1, h2⟩ := he; exact ⟨j, ⟨h1, trivial⟩, h2⟩
  | _ => exact he) (aA2 _ _ _ (h i))
theorem aLS (hΘ : yP P Θ) (hm : P.follows .mixedOrders = true) {f : FuncId} {fn : Func} {c : Code} {n : Nat} {rs : List ResultVar} (hf : P.funcs[f]? = some fn) (hb : fn.body = some c) (hnt : fn.ntmps = n) (hrs : fn.results = rs.toArray) (hnm : (fn.name == "runtime.NumGoroutine") = false)
 {args : List AV} {out : Out} (hlen : Nat.ble args.length n = true) (h : qd P Θ n c (wN Θ rs out) (St.init args)) : AC P f args out :=
 aED hΘ hm hf hb hnt (by rw [hrs]) hnm (Nat.le_of_ble_eq_true hlen) rfl rfl (aA2 _ _ _ h)
def yJ (r : Nat) (e : ET) (sz : Nat) (xs' : List AV) (v : Value) : AEx → St → Prop
 | .normal, s | .ret, s => s.sl r = .v v ∧ s.hp 0 = some ⟨e, sz, xs'⟩
 | _, _ => False
theorem aK8 {α : Type} {x y : Operand} {t el sz b l l' : Nat} {e0 e' : ET} {z : AV} {xs : List α} {f : α → AV} (e : α) (hb : (xs.length + 1) * b ≤ 140737488355328) (hx : s.ev x = .own l) (hy : s.ev y = .own l') (ho : s.hp l = some ⟨e0, sz, xs.map f⟩) (ho' : s.hp l' = some ⟨e', sz, [f e]⟩) (hn : (Nat.beq l' l || Nat.beq l 0) = false) (ht : Θ.look t = .slice el sz b z) (hb1 : Nat.ble 1 b = true) (he : (e0 = .s el ∨ e0 = .z el) := by first | exact .inl rfl | exact .inr rfl) (he' : e'.open_ = true := by rfl) (hok : okL l = true := by rfl) :
 Pre P Θ ⟨d, .call ⟨.builtin .append, #[x, y], #[t, t]⟩, ty, pos, after, g⟩ s ⟨.own l, some fun s => (s.kill l).set l (some ⟨.s el, sz, (xs ++ [e]).map f⟩)⟩ := by
 simp only [Bool.or_eq_false_iff] at hn
 have n1 : l' ≠ l := fun h => by rw [h] at hn; simp at hn
 have hb1' := Nat.le_of_ble_eq_true hb1
 have hm : xs.length + 1 ≤ maxLen := by
  have : (xs.length + 1) * 1 ≤ (xs.length + 1) * b := Nat.mul_le_mul_left _ hb1'
  unfold maxLen; omega
 exact ⟨x, y, t, el, sz, b, z, l, _, [f e], rfl, rfl, ht, hx, ho, hok, rfl, by simpa using hb, by simpa using hm, .inl ⟨el, he, rfl, .inr ⟨l', _, hy, n1, ho', he', rfl, rfl⟩, by rw [List.map_append]; rfl⟩⟩
theorem kY {α : Type} {x y : Operand} {t el sz b l l' : Nat} {e0 e' : ET} {z : AV} {xs : List α} {f : α → AV} (e : α) (ys : List α) (hys : xs ++ [e] = ys) (hb : (xs.length + 1) * b ≤ 140737488355328) (hx : s.ev x = .own l) (hy : s.ev y = .own l') (ho : s.hp l = some ⟨e0, sz, xs.map f⟩) (ho' : s.hp l' = some ⟨e', sz, [f e]⟩) (hn : (Nat.beq l' l || Nat.beq l 0) = false) (ht : Θ.look t = .slice el sz b z) (hb1 : Nat.ble 1 b = true) (he : (e0 = .s el ∨ e0 = .z el) := by first | exact .inl rfl | exact .inr rfl) (he' : e'.open_ = true := by rfl) (hok : okL l = true := by rfl) :
 Pre P Θ ⟨d, .call ⟨.builtin .append, #[x, y], #[t, t]⟩, ty, pos, after, g⟩ s ⟨.own l, some fun s => (s.kill l).set l (some ⟨.s el, sz, ys.map f⟩)⟩ := by
 subst hys; exact aK8 e hb hx hy ho ho' hn ht hb1 he he' hok
theorem yE {t : Nat} {x : AV} {Θ : Tab} (h : s.sl t = x) (hx : (match x with | .v _ | .agg _ | .lst _ _ | .any => True | _ => False)) : wN Θ [.tmp t] ⟨x, []⟩ .ret s :=
 ⟨trivial, [], by simp, trivial, ⟨trivial, trivial⟩, trivial, ⟨.inl (by cases x <;> first | exact ⟨h, rfl⟩ | exact hx.elim), trivial⟩⟩
theorem aC9 {t l : Nat} {ob : OB} {Θ : Tab} (h : s.sl t = .own l) (ho : s.hp l = some ob) (hok : okL l = true := by rfl) (hsh : ob.e.shut = true := by rfl) : wN Θ [.tmp t] ⟨.own 0, [ob]⟩ .ret s :=
 ⟨trivial, [l], by simp, ⟨⟨ho, hok, hsh⟩, trivial⟩, ⟨trivial, trivial⟩, trivial, ⟨.inl ⟨h, rfl⟩, trivial⟩⟩
theorem aBU {t1 t2 l : Nat} {ob : OB} {v : Value} {Θ : Tab} (h1 : s.sl t1 = .own l) (h2 : s.sl t2 = .v v) (ho : s.hp l = some ob) (hok : okL l = true := by rfl) (hsh : ob.e.shut = true := by rfl) : wN Θ [.tmp t1, .tmp t2] ⟨.tup [.own 0, .v v], [ob]⟩ .ret s :=
 ⟨trivial, [l], by simp, ⟨⟨ho, hok, hsh⟩, trivial⟩, ⟨trivial, trivial, trivial⟩, ⟨_, rfl⟩, ⟨.inl ⟨h1, rfl⟩, .inl ⟨h2, rfl⟩, trivial⟩⟩
theorem xS {a t t2 l : Nat} {ob : OB} {x : AV} {v : Value} {Θ : Tab} (h1 : s.sl a = .optr l 0 [] 0) (ho : s.hp l = some ob) (hx : ob.xs[0]? = some x) (hk : ((Θ.look t).known && (Bool.xor (zV x) (Θ.look t).isAgg).not && Nat.beq (asz x) (Θ.look t).size) = true) (hd : (match x with | .v _ | .agg _ | .lst _ _ | .any => True | _ => False)) (h2 : s.sl t2 = .v v) (hop : ob.e.open_ = true := by rfl) :
 wN Θ [.cell a t, .tmp t2] ⟨.tup [x, .v v], []⟩ .ret s := by
 have hr : rvA s (.cell a t) = x := by
  simp only [rvA, h1, ho, hop, hx, cond_true, Option.getD_some]
 simp only [Bool.and_eq_true] at hk
 refine ⟨trivial, [], by simp, trivial, ⟨⟨hk.1.1, by rw [hr]; exact xor_not hk.1.2, by rw [hr]; exact Nat.eq_of_beq_eq_true hk.2, .inl ⟨l, ob, x, h1, ho, .inl ⟨hop, hx⟩⟩⟩, trivial, trivial⟩, ⟨_, rfl⟩, ⟨.inl ?_, .inl ⟨h2, rfl⟩, trivial⟩⟩
 rw [hr]
 cases x <;> first | exact ⟨rfl, rfl⟩ | exact hd.elim
end
theorem aLQ {P : Program} {Θ : Tab} (hΘ : yP P Θ) (hm : P.follows .mixedOrders = true) {f : FuncId} {fn : Func} {c : Code} {n : Nat} {rs : List ResultVar} (hf : P.funcs[f]? = some fn) (hb : fn.body = some c) (hnt : fn.ntmps = n) (hrs : fn.results = rs.toArray) (hnm : (fn.name == "runtime.NumGoroutine") = false)
 {args : List AV} {out : Out} (hlen : Nat.ble args.length n = true) (h : xD P Θ n c (wN Θ rs out) (St.init args)) : AC P f args out :=
 aED hΘ hm hf hb hnt (by rw [hrs]) hnm (Nat.le_of_ble_eq_true hlen) rfl rfl h
section
variable {P : Program} {Θ : Tab} {n : Nat} {ops : Array Oper} {draw : Bool} {s : St} {k : Nat} {r : List Oper} {K : St → Prop} {d : Option Tmp} {ty : TypeId} {pos : String} {after : Array Edge} {g : Option (Nat × Bool)}
theorem qs {x : Operand} {t : TypeId} {m : Nat} {c : ByteArray} (hx : s.ev x = .v (.string c)) (hl : kX s (.v (.string c)) = some m) (h : runK P Θ n ops draw (k + 1) r (s.put d (.v (.int .i64 (m : Int)))) K) (hok : aCV Θ t (.v (.string c)) := by exact rfl) (hg : xh ops s ⟨d, .call ⟨.builtin .len, #[x], #[t]⟩, ty, pos, after, g⟩ = some true := by exact rfl) (hin : inN n d = true := by exact rfl) : xJ P Θ n ops draw k (⟨d, .call ⟨.builtin .len, #[x], #[t]⟩, ty, pos, after, g⟩ :: r) s K := aGq (aC5 hx hl hok) hg hin h
theorem qc {f : FuncId} {ags : Array Operand} {ts : Array TypeId} {t : Nat} {args : List AV} {out : Out} (hac : AC P f args out) (h : runK P Θ n ops draw (k + 1) r (s.app (some t) ⟨ren (t + 1) out.val, jC (t + 1) out.obs⟩) K) (ha : (ags.toList.map fun x => s.dat (s.ev x)) = args := by exact rfl) (hfl : (yF s ags.toList).isEmpty = true ∨ out.flat := by first | exact .inl rfl | exact .inr ⟨by simp [yM, zH], by first | exact aFe | exact aCq (by first | exact xR kV _ | exact xR kR _ | exact xR kQ _ | exact xR kU _ | exact xR kT _ | exact xR kS _) | exact aFf (by first | exact xR kV _ | exact xR kR _ | exact xR kQ _ | exact xR kU _ | exact xR kT _ | exact xR kS _) (by first | exact xR kV _ | exact xR kR _ | exact xR kQ _ | exact xR kU _ | exact xR kT _ | exact xR kS _)⟩) (hfr : yB s (t + 1) 0 out.obs := by first | exact trivial | exact ⟨⟨rfl, rfl, rfl⟩, trivial⟩ | exact ⟨⟨rfl, rfl, rfl⟩, ⟨rfl, rfl, rfl⟩, trivial⟩ | exact ⟨⟨rfl, rfl, rfl⟩, ⟨rfl, rfl, rfl⟩, ⟨rfl, rfl, rfl⟩, trivial⟩) (hok : zo s (ags.toList.map s.ev) = true := by exact rfl) (hc : vX ags.toList = true := by exact rfl) (hg : xh ops s ⟨some t, .call ⟨.value (.func f), ags, ts⟩, ty, pos, after, g⟩ = some true := by exact rfl) (hin : inN n (some t) = true := by exact rfl) (hu : draw = true → (⟨ren (t + 1) out.val, jC (t + 1) out.obs⟩ : Eff).upd = none ∨ tied ops k = true ∨ ve Θ ops (fun j => Nat.blt j k) k s ⟨ren (t + 1) out.val, jC (t + 1) out.obs⟩ := by intro e; first | exact .inl rfl | contradiction | exact .inr (.inl (by kernel_rfl))) : xJ P Θ n ops draw k (⟨some t, .call ⟨.value (.func f), ags, ts⟩, ty, pos, after, g⟩ :: r) s K := uK (aEj hac ha hfl hfr hok hc) hg hin hu h
theorem qf {f : FuncId} {ags : Array Operand} {ts : Array TypeId} {t : Nat} {args : List AV} {out : Out} (hac : AC P f args out) (h : runK P Θ n ops draw (k + 1) r (s.app (some t) ⟨ren (t + 1) out.val, jk (yF s ags.toList) (yx (t + 1) 0 out.obs)⟩) K) (ha : (ags.toList.map fun x => s.dat (s.ev x)) = args := by exact rfl) (hfr : yB s (t + 1) 0 out.obs := by first | exact trivial | exact ⟨⟨rfl, rfl, rfl⟩, trivial⟩ | exact ⟨⟨rfl, rfl, rfl⟩, ⟨rfl, rfl, rfl⟩, trivial⟩ | exact ⟨⟨rfl, rfl, rfl⟩, ⟨rfl, rfl, rfl⟩, ⟨rfl, rfl, rfl⟩, trivial⟩) (hl : (yF s ags.toList).all okL = true := by exact rfl) (hok : zo s (ags.toList.map s.ev) = true := by exact rfl) (hc : vX ags.toList = true := by exact rfl) (hg : xh ops s ⟨some t, .call ⟨.value (.func f), ags, ts⟩, ty, pos, after, g⟩ = some true := by exact rfl) (hin : inN n (some t) = true := by exact rfl) (hu : draw = true → (⟨ren (t + 1) out.val, jk (yF s ags.toList) (yx (t + 1) 0 out.obs)⟩ : Eff).upd = none ∨ tied ops k = true ∨ ve Θ ops (fun j => Nat.blt j k) k s ⟨ren (t + 1) out.val, jk (yF s ags.toList) (yx (t + 1) 0 out.obs)⟩ := by intro e; first | exact .inl rfl | contradiction | exact .inr (.inl (by kernel_rfl))) : xJ P Θ n ops draw k (⟨some t, .call ⟨.value (.func f), ags, ts⟩, ty, pos, after, g⟩ :: r) s K := uK (aJm hac ha hfr hok hc hl) hg hin hu h
theorem qC {f : FuncId} {ags : Array Operand} {ts : Array TypeId} {t : Nat} {args : List AV} {out : Out} (hac : AC P f args out) (h : xJ P Θ n ops draw (k + 1) r (s.app (some t) ⟨ren (t + 1) out.val, jC (t + 1) out.obs⟩) K) (ha : (ags.toList.map fun x => s.dat (s.ev x)) = args := by exact rfl) (hfl : (yF s ags.toList).isEmpty = true ∨ out.flat := by first | exact .inl rfl | exact .inr ⟨by simp [yM, zH], by first | exact aFe | exact aCq (by first | exact xR kV _ | exact xR kR _ | exact xR kQ _ | exact xR kU _ | exact xR kT _ | exact xR kS _) | exact aFf (by first | exact xR kV _ | exact xR kR _ | exact xR kQ _ | exact xR kU _ | exact xR kT _ | exact xR kS _) (by first | exact xR kV _ | exact xR kR _ | exact xR kQ _ | exact xR kU _ | exact xR kT _ | exact xR kS _)⟩) (hfr : yB s (t + 1) 0 out.obs := by first | exact trivial | exact ⟨⟨rfl, rfl, rfl⟩, trivial⟩ | exact ⟨⟨rfl, rfl, rfl⟩, ⟨rfl, rfl, rfl⟩, trivial⟩ | exact ⟨⟨rfl, rfl, rfl⟩, ⟨rfl, rfl, rfl⟩, ⟨rfl, rfl, rfl⟩, trivial⟩) (hok : zo s (ags.toList.map s.ev) = true := by exact rfl) (hc : vX ags.toList = true := by exact rfl) (hg : xh ops s ⟨some t, .call ⟨.value (.func f), ags, ts⟩, ty, pos, after, g⟩ = some true := by exact rfl) (hin : inN n (some t) = true := by exact rfl) (hu : draw = true → (⟨ren (t + 1) out.val, jC (t + 1) out.obs⟩ : Eff).upd = none ∨ tied ops k = true ∨ ve Θ ops (fun j => Nat.blt j k) k s ⟨ren (t + 1) out.val, jC (t + 1) out.obs⟩ := by intro e; first | exact .inl rfl | contradiction | exact .inr (.inl (by kernel_rfl))) : xJ P Θ n ops draw k (⟨some t, .call ⟨.value (.func f), ags, ts⟩, ty, pos, after, g⟩ :: r) s K := jw hg hin (aEj hac ha hfl hfr hok hc) hu h
variable {op : Op}
theorem qz {v : AV} (h : runK P Θ n ops draw (k + 1) r (s.put d v) K) (hp : Pre P Θ ⟨d, op, ty, pos, after, g⟩ s ⟨v, none⟩ := by first | exact xA (by first | exact aHO (by omega) | exact vQ (by omega) | exact aHN (by omega) | exact aHM (by omega) | exact aEH (by omega) | exact aEG (by omega) | exact aHL (by omega) | exact aHK (by omega) | exact aCD (by omega) | exact aCC (by omega) | exact aEI (by omega) | exact qi (by omega) | exact aCE rfl (by omega) (by omega) | exact jT rfl (by omega) (by omega)) rfl rfl rfl | exact zN (aGZ _ (by assumption)) rfl rfl rfl | exact aEk rfl ⟨_, _, _, _, rfl⟩ | exact aFu rfl rfl ⟨_, _, _, _, rfl⟩ | exact aC5 (y := .v (.string _)) rfl rfl rfl | exact aC5 rfl rfl ⟨_, _, _, _, rfl⟩) (hg : xh ops s ⟨d, op, ty, pos, after, g⟩ = some true := by exact rfl) (hin : inN n d = true := by exact rfl) : xJ P Θ n ops draw k (⟨d, op, ty, pos, after, g⟩ :: r) s K := aGq hp hg hin h
theorem qla {v : AV} (h : xJ P Θ n ops draw (k + 1) r (s.put d v) K) (hp : Pre P Θ ⟨d, op, ty, pos, after, g⟩ s ⟨v, none⟩ := by first | exact aEl rfl rfl rfl | exact aC6 rfl rfl rfl rfl rfl rfl rfl | exact aBp (by conv => lhs; whnf) | exact aIl (by conv => lhs; whnf) | exact aGe rfl | exact aC7 (z := .v _) rfl rfl rfl rfl | exact aGh rfl) (hg : xh ops s ⟨d, op, ty, pos, after, g⟩ = some true := by exact rfl) (hin : inN n d = true := by exact rfl) : xJ P Θ n ops draw k (⟨d, op, ty, pos, after, g⟩ :: r) s K := zQ hp hg hin h
theorem qlb {v : AV} (h : xJ P Θ n ops draw (k + 1) r (s.put d v) K) (hp : Pre P Θ ⟨d, op, ty, pos, after, g⟩ s ⟨v, none⟩ := by first | exact xA (by first | exact aCD (by omega) | exact aCC (by omega) | exact aEI (by omega) | exact qi (by omega) | exact aEH (by omega) | exact aEG (by omega) | exact yh (by assumption) | exact yg (by assumption) | exact zR (by assumption) | exact zK (by assumption)) rfl rfl rfl | exact aEk rfl ⟨_, _, _, _, rfl⟩) (hg : xh ops s ⟨d, op, ty, pos, after, g⟩ = some true := by exact rfl) (hin : inN n d = true := by exact rfl) : xJ P Θ n ops draw k (⟨d, op, ty, pos, after, g⟩ :: r) s K := zQ hp hg hin h
theorem qst {e : Eff} (h : runK P Θ n ops draw (k + 1) r (s.app d e) K) (hp : Pre P Θ ⟨d, op, ty, pos, after, g⟩ s e := by exact z8 rfl rfl rfl rfl rfl (by conv => lhs; whnf) rfl) (hg : xh ops s ⟨d, op, ty, pos, after, g⟩ = some true := by exact rfl) (hin : inN n d = true := by exact rfl) (hu : draw = true → e.upd = none ∨ tied ops k = true ∨ ve Θ ops (fun j => Nat.blt j k) k s e := by intro e; first | exact .inl rfl | contradiction | exact .inr (.inl (by kernel_rfl))) : xJ P Θ n ops draw k (⟨d, op, ty, pos, after, g⟩ :: r) s K := uK hp hg hin hu h
theorem qp {v : AV} (hp : Pre P Θ ⟨d, op, ty, pos, after, g⟩ s ⟨v, none⟩) (h : runK P Θ n ops draw (k + 1) r (s.put d v) K) (hg : xh ops s ⟨d, op, ty, pos, after, g⟩ = some true := by exact rfl) (hin : inN n d = true := by exact rfl) : xJ P Θ n ops draw k (⟨d, op, ty, pos, after, g⟩ :: r) s K := aGq hp hg hin h
theorem qr {e : Eff} (hp : Pre P Θ ⟨d, op, ty, pos, after, g⟩ s e) (h : runK P Θ n ops draw (k + 1) r (s.app d e) K) (hg : xh ops s ⟨d, op, ty, pos, after, g⟩ = some true := by exact rfl) (hin : inN n d = true := by exact rfl) (hu : draw = true → e.upd = none ∨ tied ops k = true ∨ ve Θ ops (fun j => Nat.blt j k) k s e := by intro e; first | exact .inl rfl | contradiction | exact .inr (.inl (by kernel_rfl))) : xJ P Θ n ops draw k (⟨d, op, ty, pos, after, g⟩ :: r) s K := uK hp hg hin hu h
theorem qx {a b : Prop} (h : a) (f : a → b := by first | exact fun h => aGc (aC8 h) | exact aJB | exact aIz | exact aHP (by kernel_rfl) | exact aEK rfl | exact aEJ rfl | exact aFb | exact aHR | exact aEg rfl rfl | exact aC8 | exact aFx | exact aFy | exact aHq | exact aHs | exact aHt | exact aHr rfl | exact aHQ | exact aJA | exact aJK | exact aHu | exact jw rfl rfl (aGf (y := .agg _) rfl rfl rfl rfl) (fun e => by cases e) | exact zQ (xA uy rfl rfl rfl) rfl rfl | exact zQ (xA uI rfl rfl rfl) rfl rfl) : b := f h
theorem qy {a b : Prop} (h : a) (f : a → b := by first | exact zQ (aBp (by conv => lhs; whnf)) rfl rfl | exact zQ (aIl (by conv => lhs; whnf)) rfl rfl | exact zQ (aGe rfl) rfl rfl | exact zQ (zN (aGZ _ (by assumption)) rfl rfl rfl) rfl rfl | exact zQ (aJJ rfl rfl rfl rfl rfl) rfl rfl | exact zQ (aGg rfl rfl rfl rfl) rfl rfl | exact zQ (xA (by first | exact aHO (by omega) | exact vQ (by omega) | exact aHN (by omega) | exact aHM (by omega) | exact aEH (by omega) | exact aEG (by omega) | exact aHL (by omega) | exact aHK (by omega) | exact aCD (by omega) | exact aCC (by omega) | exact aEI (by omega) | exact qi (by omega) | exact aCE rfl (by omega) (by omega) | exact jT rfl (by omega) (by omega)) rfl rfl rfl) rfl rfl | exact zQ (aEk rfl ⟨_, _, _, _, rfl⟩) rfl rfl | exact zQ (aFu rfl rfl ⟨_, _, _, _, rfl⟩) rfl rfl | exact zQ (aC5 (y := .v (.string _)) rfl rfl rfl) rfl rfl | exact zQ (aC5 rfl rfl ⟨_, _, _, _, rfl⟩) rfl rfl | exact zQ (aGh rfl) rfl rfl | exact zQ (aC7 (z := .v _) rfl rfl rfl rfl) rfl rfl | exact zQ (aC7 rfl rfl rfl rfl) rfl rfl | exact zQ (aJI rfl (by conv => lhs; whnf)) rfl rfl | exact aEg rfl rfl | exact fun h => aGc (aC8 h) | exact aJB | exact aIz | exact aHP (by kernel_rfl) | exact aEK rfl | exact aEJ rfl | exact aFb | exact aHR | exact aC8 | exact aFx | exact aFy | exact aHq | exact aHs | exact aHt | exact aHr rfl | exact aHQ | exact aJA | exact aJK | exact aHu | exact zQ (aEl rfl rfl rfl) rfl rfl | exact zQ (aC6 rfl rfl rfl rfl rfl rfl rfl) rfl rfl | exact zQ (aAw (by simpa using (by assumption)) rfl rfl rfl rfl rfl) rfl rfl | exact jw rfl rfl (aGf (y := .agg _) rfl rfl rfl rfl) (fun e => by cases e) | exact jw rfl rfl (aHj rfl rfl) (fun e => by cases e)) : b := f h
theorem qle {i : Inv} (h : s.le i := by refine ⟨?_, ?_⟩ <;> (repeat (first | trivial | exact ⟨rfl, trivial⟩ | refine ⟨rfl, ?_⟩ | refine ⟨.inl ⟨rfl, rfl⟩, ?_⟩ | refine ⟨.inr ⟨_, _, rfl, rfl, rfl, rfl, rfl⟩, ?_⟩))) : s.le i := h
theorem qdr {a b c : Prop} (h : b) (ha : a := by kernel_rfl) : (a ∧ b) ∨ c := .inl ⟨ha, h⟩
theorem qe {a : Prop} (h : a := by exact ⟨trivial, [], by simp, trivial, ⟨trivial, trivial⟩, trivial, ⟨.inl ⟨rfl, rfl⟩, trivial⟩⟩) : a := h
theorem qO {f : FuncId} {fn : Func} {c : Code} {rs : List ResultVar} {args : List AV} {out : Out} (hf : P.funcs[f]? = some fn) (hnt : fn.ntmps = n) (hrs : fn.results = rs.toArray) (h : xD P Θ n c (wN Θ rs out) (St.init args)) (hΘ : yP P Θ := by exact yL) (hb : fn.body = some c := by exact rfl) (hm : P.follows .mixedOrders = true := by kernel_rfl) (hnm : (fn.name == "runtime.NumGoroutine") = false := by kernel_rfl) (hlen : Nat.ble args.length n = true := by exact rfl) : AC P f args out := aLQ hΘ hm hf hb hnt hrs hnm hlen h
theorem qrf {f : FuncId} {fn : Func} {c : Code} {rs : List ResultVar} {args : List AV} {out : Out} (hf : P.funcs[f]? = some fn) (hnt : fn.ntmps = n) (hrs : fn.results = rs.toArray) (h : qd P Θ n c (wN Θ rs out) (St.init args)) (hΘ : yP P Θ := by exact yL) (hb : fn.body = some c := by exact rfl) (hm : P.follows .mixedOrders = true := by kernel_rfl) (hnm : (fn.name == "runtime.NumGoroutine") = false := by kernel_rfl) (hlen : Nat.ble args.length n = true := by exact rfl) : AC P f args out := aLS hΘ hm hf hb hnt hrs hnm hlen h
end
end Go.Proofs.YtodckioppgjbdaaGreatDoor.AM
