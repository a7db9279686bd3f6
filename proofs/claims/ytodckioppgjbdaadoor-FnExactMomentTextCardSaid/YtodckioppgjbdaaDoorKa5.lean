/- Texts of the machine over data, folded. -/
import Derived.Test.YtodckioppgjbdaaDoorKa4
set_option linter.unusedVariables false
set_option linter.unusedSimpArgs false
namespace Go.Proofs.YtodckioppgjbdaaDoor.AM
open Go Go.RowKit
section
variable {P : Program} {Θ : Tab} {n : Nat} {Q : AEx → St → Prop} {s : St}
theorem aKA {a b : Code} (h : xJ P Θ n a (AEx.then (xJ P Θ n b Q) Q) s) : xJ P Θ n (.seq a b) Q s := .inl h
theorem aIz (h : Q .normal s) : xJ P Θ n .skip Q s := h
theorem aJy {id : Nat} {l : List Oper} (h : xN P Θ n l.toArray false 0 l s (Q .normal)) : xJ P Θ n (.region id l.toArray false) Q s := .inl ⟨(fun e => by cases e), h⟩
theorem aIu {id : Nat} {l : List Oper} (hB : Region.lexB .any l.toArray = true) (h : xN P Θ n l.toArray true 0 l s (Q .normal)) : xJ P Θ n (.region id l.toArray true) Q s := .inl ⟨fun _ => hB, h⟩
theorem aHR {c : Operand} {x y : Code} (hc : s.ev c = .v (.bool true)) (h : xJ P Θ n x Q s) : xJ P Θ n (.cond c x y) Q s := ⟨true, hc, h⟩
theorem aHQ {c : Operand} {x y : Code} (hc : s.ev c = .v (.bool false)) (h : xJ P Θ n y Q s) : xJ P Θ n (.cond c x y) Q s := ⟨false, hc, h⟩
theorem aIM {id : Nat} {c : Code} (h : xJ P Θ n c (AEx.inBlock id Q) s) : xJ P Θ n (.block id c) Q s := h
theorem aIy {c : Code} {ι : Type} (I : ι → InvM) (μ : ι → Nat) (i0 : ι) (h0 : s.leM (I i0)) (h : ∀ i, xJ P Θ n c (AEx.then (fun s' => ∃ j, s'.leM (I j) ∧ μ j < μ i) Q) (I i).st) : xJ P Θ n (.loop c) Q s := ⟨ι, I, μ, ⟨i0, h0⟩, h⟩
theorem aIv {id : Nat} (h : Q (.exit id) s) : xJ P Θ n (.exit id) Q s := h
theorem aJz (h : Q .ret s) : xJ P Θ n .ret Q s := h
theorem aGq {K : St → Prop} (h : K s) : AEx.then K Q .normal s := h
theorem aI7 {K : St → Prop} {id : Nat} (h : Q (.exit id) s) : AEx.then K Q (.exit id) s := h
theorem aI6 {K : St → Prop} (h : Q .ret s) : AEx.then K Q .ret s := h
theorem aJb {id : Nat} (h : Q .normal s) : AEx.inBlock id Q .normal s := h
theorem aJd {id : Nat} (h : Q .ret s) : AEx.inBlock id Q .ret s := h
theorem aJe {id : Nat} (h : Q .normal s) : AEx.inBlock id Q (.exit id) s := by show (bif Nat.beq id id then _ else _); simpa using h
theorem aJc {id j : Nat} (hj : Nat.beq j id = false) (h : Q (.exit j) s) : AEx.inBlock id Q (.exit j) s := by show (bif Nat.beq j id then _ else _); rw [hj]; exact h
theorem aKQ {rs : List ResultVar} {out : Out} (h : Ret Θ rs [] out s) : je Θ rs out .ret s := h
theorem aJf {rs : List ResultVar} {out : Out} (h : Ret Θ rs [] out s) : je Θ rs out .normal s := h
variable {ops : Array Oper} {draw : Bool} {k : Nat} {o : Oper} {r : List Oper} {K : St → Prop}
theorem aHq (h : K s) : xN P Θ n ops draw k [] s K := h
theorem qK {e : Eff} (hg : xZ ops s o = some true) (hin : inN n o.dst = true) (hp : Pre P Θ o s e) (hu : draw = true → e.upd = none ∨ tied ops k = true ∨ vY Θ ops (fun j => Nat.blt j k) k s e) (h : xN P Θ n ops draw (k + 1) r (s.app o.dst e) K) : xN P Θ n ops draw k (o :: r) s K := by
 unfold xN; rw [hg]; exact ⟨hin, e, hp, hu, .inl h⟩
theorem aAr {d : Option Tmp} {op : Op} {ty : TypeId} {pos : String} {after : Array Edge} {g : Option (Nat × Bool)} {v : AV} (hp : Pre P Θ ⟨d, op, ty, pos, after, g⟩ s ⟨v, none⟩) (hg : xZ ops s ⟨d, op, ty, pos, after, g⟩ = some true) (hin : inN n d = true) (h : xN P Θ n ops draw (k + 1) r (s.put d v) K) : xN P Θ n ops draw k (⟨d, op, ty, pos, after, g⟩ :: r) s K :=
 qK hg hin hp (fun _ => .inl rfl) h
theorem aGb (hg : xZ ops s o = some false) (hin : inN n o.dst = true) (h : xN P Θ n ops draw (k + 1) r (s.put o.dst (.tup [])) K) : xN P Θ n ops draw k (o :: r) s K := by
 unfold xN; rw [hg]; exact ⟨hin, h⟩
variable {d : Option Tmp} {ty : TypeId} {pos : String} {after : Array Edge} {g : Option (Nat × Bool)}
theorem aEE {t : Nat} {y : AV} (h : s.sl t = y) : Pre P Θ ⟨d, .move (.tmp t), ty, pos, after, g⟩ s ⟨y, none⟩ := ⟨(fun c e => by cases e), .inl (by rw [← h]; rfl)⟩
theorem aH7 {t : Nat} {y : AV} (h : s.sl t = y) : Pre P Θ ⟨d, .assign (.tmp t), ty, pos, after, g⟩ s ⟨y, none⟩ := ⟨(fun c e => by cases e), .inl (by rw [← h]; rfl)⟩
theorem aHr {c : Value} (h : c.oneCell' = true) : Pre P Θ ⟨d, .assign (.const c), ty, pos, after, g⟩ s ⟨.v c, none⟩ := ⟨(fun c' e => by cases e; exact h), .inl rfl⟩
theorem aKN {c : Value} (h : c.oneCell' = true) : Pre P Θ ⟨d, .move (.const c), ty, pos, after, g⟩ s ⟨.v c, none⟩ := ⟨(fun c' e => by cases e; exact h), .inl rfl⟩
theorem xA {op : BinOp} {t t2 : TypeId} {x y : Operand} {a b r : Value} (h : yo P op t x y a b r) (hx : s.ev x = .v a) (hy : s.ev y = .v b) (h1 : r.oneCell' = true) : Pre P Θ ⟨d, .binOp op t x y t2, ty, pos, after, g⟩ s ⟨.v r, none⟩ :=
 .inl ⟨a, b, r, by rw [hx]; rfl, by rw [hy]; rfl, h, h1, rfl⟩
theorem aHu {t : TypeId} {x : Operand} {b : Bool} (hx : s.ev x = .v (.bool b)) : Pre P Θ ⟨d, .unOp .not t x, ty, pos, after, g⟩ s ⟨.v (.bool (!b)), none⟩ :=
 ⟨.bool b, .bool (!b), by rw [hx]; rfl, fun w => rfl, rfl, rfl⟩
def cOK : Operand → Bool
 | .const c => c.oneCell'
 | _ => true
theorem wP {x : Operand} (h : cOK x = true) : ∀ c, x = .const c → c.oneCell' = true := fun c e => by subst e; exact h
def kU : List Operand → Bool
 | [] => true
 | x :: r => cOK x && kU r
theorem vw : ∀ {xs : List Operand}, kU xs = true → ∀ x ∈ xs, ∀ c, x = .const c → c.oneCell' = true
 | [], _, x, hx => by simp at hx
 | y :: ys, h, x, hx => by
  simp only [kU, Bool.and_eq_true] at h
  rcases List.mem_cons.1 hx with rfl | hx
  · exact wP h.1
  · exact vw h.2 x hx
theorem aGj {c x y : Operand} {t : Bool} {z : AV} (hc : s.ev c = .v (.bool t)) (hz : (bif t then s.ev x else s.ev y) = z) (hx : cOK x = true) (hy : cOK y = true) : Pre P Θ ⟨d, .pick c x y, ty, pos, after, g⟩ s ⟨z, none⟩ :=
 ⟨wP hx, wP hy, t, hc, by rw [hz]⟩
theorem aFo {x : Operand} {t : TypeId} {m : Nat} {y : AV} (hx : s.ev x = y) (hl : wX s y = some m) (hok : aBp Θ t y) : Pre P Θ ⟨d, .call ⟨.builtin .len, #[x], #[t]⟩, ty, pos, after, g⟩ s ⟨.v (.int .i64 (m : Int)), none⟩ :=
 ⟨x, t, m, rfl, rfl, by rw [hx]; exact hl, by rw [hx]; exact hok, rfl⟩
theorem aGh {α : Type} {xs : List α} {f : α → AV} {sz : Nat} {x : Operand} {t : TypeId} (hx : s.ev x = .lst sz (xs.map f)) (hok : ∃ e sz b z, Θ.look t = .slice e sz b z) : Pre P Θ ⟨d, .call ⟨.builtin .len, #[x], #[t]⟩, ty, pos, after, g⟩ s ⟨.v (.int .i64 (xs.length : Int)), none⟩ :=
 ⟨x, t, xs.length, rfl, rfl, by rw [hx]; simp [wX], by rw [hx]; exact hok, rfl⟩
theorem aFH {α : Type} {xs : List α} {f : α → AV} {l sz e : Nat} {x : Operand} {t : TypeId} (hx : s.ev x = .own l) (ho : s.hp l = some ⟨e, sz, xs.map f⟩) (hok : ∃ e sz b z, Θ.look t = .slice e sz b z) : Pre P Θ ⟨d, .call ⟨.builtin .len, #[x], #[t]⟩, ty, pos, after, g⟩ s ⟨.v (.int .i64 (xs.length : Int)), none⟩ :=
 ⟨x, t, xs.length, rfl, rfl, by rw [hx]; simp [wX, ho], by rw [hx]; exact hok, rfl⟩
theorem aHt {t1 t2 : TypeId} {x : Operand} {q : AV} {r : Value} (h : aDL P t1 t2 q r) (hx : s.dat (s.ev x) = q) (hok : zK s [s.ev x] = true) (hc : cOK x = true) (h1 : r.oneCell' = true) : Pre P Θ ⟨d, .convert t1 t2 x, ty, pos, after, g⟩ s ⟨.v r, none⟩ :=
 .inr ⟨r, wP hc, hok, hx ▸ h, h1, rfl⟩
theorem aKJ {t1 t2 : TypeId} {x : Operand} {a r : Value} (hr : ∀ w, (convert t1 t2 a).run P w = .ok r w) (hx : s.ev x = .v a) (h1 : r.oneCell' = true) : Pre P Θ ⟨d, .convert t1 t2 x, ty, pos, after, g⟩ s ⟨.v r, none⟩ :=
 .inl ⟨a, r, by rw [hx]; rfl, hr, h1, rfl⟩
theorem aKM {t el sz b : Nat} {z : AV} {x ix : Operand} {k : IntKind} {j : Nat} {xs : List AV} {y : AV} (hy : xs[j]? = some y) (ht : Θ.look t = .slice el sz b z) (hx : s.ev x = .lst sz xs) (hi : s.ev ix = .v (.int k ((j : Nat) : Int))) : Pre P Θ ⟨d, .indexAddr t x ix, ty, pos, after, g⟩ s ⟨.ptr y, none⟩ :=
 ⟨k, j, hi, .inl ⟨el, sz, b, z, ht, .inl ⟨xs, y, hx, hy, rfl⟩⟩⟩
theorem aAa {t el sz b : Nat} {z : AV} {x ix : Operand} {k : IntKind} {j l : Nat} {ob : OB} (hj : j < ob.xs.length) (ht : Θ.look t = .slice el sz b z) (hx : s.ev x = .own l) (hi : s.ev ix = .v (.int k ((j : Nat) : Int))) (ho : s.hp l = some ob) (hs : ob.sz = sz) : Pre P Θ ⟨d, .indexAddr t x ix, ty, pos, after, g⟩ s ⟨.optr l j [] 0, none⟩ :=
 ⟨k, j, hi, .inl ⟨el, sz, b, z, ht, .inr ⟨l, ob, hx, ho, hs, hj, rfl⟩⟩⟩
theorem aFG {t el m sz : Nat} {z : AV} {x ix : Operand} {k : IntKind} {j : Nat} {xs : List AV} {y : AV} (hy : xs[j]? = some y) (hj : j < m) (ht : Θ.look t = .arr el m sz z) (hx : s.ev x = .ptr (.agg xs)) (hi : s.ev ix = .v (.int k ((j : Nat) : Int))) (ha : ∀ x ∈ xs, asz x = sz) : Pre P Θ ⟨d, .indexAddr t x ix, ty, pos, after, g⟩ s ⟨.ptr y, none⟩ :=
 ⟨k, j, hi, .inr ⟨el, m, sz, z, ht, hj, .inl ⟨xs, y, hx, hy, ha, rfl⟩⟩⟩
theorem aKL {t : TypeId} {x : Operand} {f : Nat} {fs : List (Nat × Nat)} {z ys : List AV} {o_ z_ : Nat} {y : AV} (ht : Θ.look t = .struct fs z) (hf : fs[f]? = some (o_, z_)) (hx : s.ev x = .ptr (.agg ys)) (hy : ys[f]? = some y) (hs : xC (ys.take f) = o_) : Pre P Θ ⟨d, .fieldAddr t x f, ty, pos, after, g⟩ s ⟨.ptr y, none⟩ :=
 ⟨fs, z, o_, z_, ht, hf, .inl ⟨ys, y, hx, hy, hs, rfl⟩⟩
theorem jS {t : TypeId} {x : Operand} {f : Nat} {fs : List (Nat × Nat)} {z : List AV} {o_ z_ l i c : Nat} {p : List Nat} (ht : Θ.look t = .struct fs z) (hf : fs[f]? = some (o_, z_)) (hx : s.ev x = .optr l i p c) : Pre P Θ ⟨d, .fieldAddr t x f, ty, pos, after, g⟩ s ⟨.optr l i (p ++ [f]) (c + o_), none⟩ :=
 ⟨fs, z, o_, z_, ht, hf, .inr ⟨l, i, p, c, hx, rfl⟩⟩
theorem aJ7 {t : TypeId} {x : Operand} {y : AV} (hx : s.ev x = .ptr y) (hk : (Θ.look t).known = true) (ha : zR y = (Θ.look t).isAgg) (hs : asz y = (Θ.look t).size) : Pre P Θ ⟨d, .load t x, ty, pos, after, g⟩ s ⟨y, none⟩ :=
 ⟨hk, .inl ⟨y, hx, ha, hs, rfl⟩⟩
theorem kK {t : TypeId} {x : Operand} {l i c : Nat} {p : List Nat} {ob : OB} {y z : AV} (hx : s.ev x = .optr l i p c) (ho : s.hp l = some ob) (hy : ob.xs[i]? = some y) (hg : xR y p 0 = some (z, c)) (hk : (Θ.look t).known = true) (ha : zR z = (Θ.look t).isAgg) (hs : asz z = (Θ.look t).size) (hop : ob.e.open_ = true := by rfl) : Pre P Θ ⟨d, .load t x, ty, pos, after, g⟩ s ⟨z, none⟩ :=
 ⟨hk, .inr ⟨l, i, p, c, ob, hx, ho, .inl ⟨y, z, .inl hop, hy, hg, ha, hs, rfl⟩⟩⟩
theorem aJa {t : TypeId} {x : Operand} {l i c : Nat} {p : List Nat} {ob : OB} {t' : Option Nat} {y z x' : AV} (hx : s.ev x = .optr l i p c) (ho : s.hp l = some ob) (hop : yh ob.e ob.xs i = some (.o t' i y)) (hg : xR y p 0 = some (z, c)) (hz : ofO z = some x') (hk : (Θ.look t).known = true) (ha : zR x' = (Θ.look t).isAgg) (hs : asz x' = (Θ.look t).size) : Pre P Θ ⟨d, .load t x, ty, pos, after, g⟩ s ⟨x', none⟩ :=
 ⟨hk, .inr ⟨l, i, p, c, ob, hx, ho, .inr ⟨t', y, z, hop, hg, .inl ⟨x', hz, ha, hs, rfl⟩⟩⟩⟩
theorem aKK {x : Operand} {i : Nat} {xs : List AV} {y : AV} (hx : s.ev x = .tup xs) (hy : xs[i]? = some y) : Pre P Θ ⟨d, .extract x i, ty, pos, after, g⟩ s ⟨y, none⟩ := ⟨xs, y, hx, hy, rfl⟩
theorem kQ {f : FuncId} {ags : Array Operand} {ts : Array TypeId} {t : Nat} {args : List AV} {out : Out} (hac : AC P f args out) (ha : (ags.toList.map fun x => s.dat (s.ev x)) = args) (hfl : (xq s ags.toList).isEmpty = true ∨ out.flat) (hfr : yE s (t + 1) 0 out.obs) (hok : zK s (ags.toList.map s.ev) = true) (hc : kU ags.toList = true) :
 Pre P Θ ⟨some t, .call ⟨.value (.func f), ags, ts⟩, ty, pos, after, g⟩ s ⟨ren (t + 1) out.val, wL (t + 1) out.obs⟩ :=
 ⟨f, [], [], t, out, rfl, rfl, vw hc, .inl ⟨args, by rw [← ha]; simp [Function.comp_def], hac, hfr, by simpa using hok, .inl ⟨hfl.imp (fun h => by simpa [xq] using h) id, by simp [wL]⟩⟩⟩
theorem aC0 {f : FuncId} {xs ys : List AV} {x : Operand} {ags : Array Operand} {ts : Array TypeId} {t : Nat} {args : List AV} {out : Out} (hac : AC P f args out) (hx : s.ev x = .fn f xs ys) (ha : ((xs ++ ags.toList.map s.ev ++ ys).map s.dat) = args) (hfl : (xW (xs ++ ags.toList.map s.ev ++ ys)).isEmpty = true ∨ out.flat) (hfr : yE s (t + 1) 0 out.obs) (hok : zK s (xs ++ ags.toList.map s.ev ++ ys) = true) (hc : kU ags.toList = true) :
 Pre P Θ ⟨some t, .call ⟨.value x, ags, ts⟩, ty, pos, after, g⟩ s ⟨ren (t + 1) out.val, wL (t + 1) out.obs⟩ :=
 ⟨f, xs, ys, t, out, hx, rfl, vw hc, .inl ⟨args, ha, hac, hfr, hok, .inl ⟨hfl.imp (fun h => by simpa using h) id, rfl⟩⟩⟩
end
theorem aJ8 {P : Program} {Θ : Tab} {s : St} {d : Nat} {ty : TypeId} {pos : String} {after : Array Edge} {g : Option (Nat × Bool)} (el : ET) (sz : Nat) (h : 0 < sz) (hsh : el.row = true := by rfl) (hok : okL (d + 1) = true := by rfl) : Pre P Θ ⟨some d, .assign (.const (.slice none 0 0)), ty, pos, after, g⟩ s ⟨.own (d + 1), some fun s => (s.kill (d + 1)).set (d + 1) (some ⟨el, sz, []⟩)⟩ :=
 ⟨(fun c e => by cases e; rfl), .inr (.inr (.inl ⟨d, el, sz, rfl, h, hsh, hok, rfl, rfl⟩))⟩
theorem aJ9 {P : Program} {Θ : Tab} {s : St} {d : Nat} {ty : TypeId} {pos : String} {after : Array Edge} {g : Option (Nat × Bool)} (el : ET) (sz : Nat) (h : 0 < sz) (hsh : el.row = true := by rfl) (hok : okL (d + 1) = true := by rfl) : Pre P Θ ⟨some d, .move (.const (.slice none 0 0)), ty, pos, after, g⟩ s ⟨.own (d + 1), some fun s => (s.kill (d + 1)).set (d + 1) (some ⟨el, sz, []⟩)⟩ :=
 ⟨(fun c e => by cases e; rfl), .inr (.inr (.inl ⟨d, el, sz, rfl, h, hsh, hok, rfl, rfl⟩))⟩
theorem aGi {P : Program} {Θ : Tab} {s : St} {d : Nat} {ty : TypeId} {pos : String} {after : Array Edge} {g : Option (Nat × Bool)} {t : TypeId} {l c : Operand} {el sz b n : Nat} {z : AV} {k k' : IntKind} (hn : b * n ≤ 140737488355328) (hn' : n ≤ 9223372036854775807) (hl : s.ev l = .v (.int k (n : Int))) (hc : s.ev c = .v (.int k' (n : Int))) (hf : s.hp (d + 1) = none) (ht : Θ.look t = .slice el sz b z) (hok : okL (d + 1) = true := by rfl) :
 Pre P Θ ⟨some d, .makeSlice t l c, ty, pos, after, g⟩ s ⟨.own (d + 1), some fun s => s.set (d + 1) (some ⟨kz el z, sz, List.replicate n z⟩)⟩ := ⟨d, el, sz, b, z, n, k, k', rfl, hf, hok, ht, hl, hc, hn, hn', rfl⟩
theorem aHs {P : Program} {Θ : Tab} {s : St} {ty : TypeId} {pos : String} {after : Array Edge} {g : Option (Nat × Bool)} {t : TypeId} {x : Operand} {d : Nat} {y : AV} (hf : s.hp (d + 1) = none) (hx : s.ev x = y) (hk : (match y with | .v c => c.oneCell' | .agg _ => true | .lst _ _ => true | _ => false) = true) (hs : ((Θ.look t).known && Nat.beq (asz y) (Θ.look t).size) = true) (hok : okL (d + 1) = true := by rfl) :
 Pre P Θ ⟨some d, .box t x, ty, pos, after, g⟩ s ⟨.optr (d + 1) 0 [] 0, some fun s' => s'.set (d + 1) (some ⟨.s t, (Θ.look t).size, [y]⟩)⟩ := by
 have hd : s.dat (s.ev x) = y := by rw [hx]; cases y <;> first | rfl | simp at hk
 have ho : yH (s.ev x) = [] := by rw [hx]; cases y <;> first | rfl | simp at hk
 simp only [Bool.and_eq_true] at hs
 refine ⟨fun c e => ?_, d, rfl, hf, hok, hs.1, .inl ⟨by rw [hd]; exact Nat.eq_of_beq_eq_true hs.2, by rw [hx]; cases y <;> first | exact hk | rfl | simp at hk, by rw [ho]; rfl, ?_⟩⟩
 · subst e; simp only [St.ev] at hx; subst hx; exact hk
 · rw [hd, ho]; rfl
theorem aJ3 {P : Program} {Θ : Tab} {s : St} {ty : TypeId} {pos : String} {after : Array Edge} {g : Option (Nat × Bool)} {t : TypeId} {d : Nat} (hf : s.hp (d + 1) = none) (hk : (Θ.look t).known = true) (hok : okL (d + 1) = true := by rfl) :
 Pre P Θ ⟨some d, .alloc t, ty, pos, after, g⟩ s ⟨.optr (d + 1) 0 [] 0, some fun s => s.set (d + 1) (some ⟨kz t (Θ.look t).zero, (Θ.look t).size, [(Θ.look t).zero]⟩)⟩ := ⟨d, rfl, hf, hok, hk, rfl⟩
theorem wh {P : Program} {Θ : Tab} {s : St} {d : Option Tmp} {ty : TypeId} {pos : String} {after : Array Edge} {g : Option (Nat × Bool)} {t : TypeId} {x y : Operand} {l i c : Nat} {p : List Nat} {ob : OB} {q z v : AV} (hq : ob.xs[i]? = some q) (hx : s.ev x = .optr l i p c) (ho : s.hp l = some ob) (hg : xR q p 0 = some (z, c)) (hs : ((Θ.look t).known && (Nat.beq (asz z) (Θ.look t).size && Nat.beq (asz v) (asz z))) = true) (hy : s.ev y = v) (hv : (match v with | .v c => c.oneCell' | .agg _ => true | .lst _ _ => true | .ptr _ => true | _ => false) = true) (hop : ob.e.open_ = true := by rfl) :
 Pre P Θ ⟨d, .store t x y, ty, pos, after, g⟩ s ⟨.any, some fun s' => s'.set l (some ⟨.s (ob.e.typ.getD 0), ob.sz, ob.xs.set i (zl q p v)⟩)⟩ := by
 simp only [Bool.and_eq_true] at hs
 have hd : s.dat (s.ev y) = v := by rw [hy]; cases v <;> first | rfl | cases hv
 have hown : yH (s.ev y) = [] := by rw [hy]; cases v <;> first | rfl | cases hv
 have hda : xG s (s.ev y) = true := by rw [hy]; cases v <;> first | exact hv | rfl | cases hv
 obtain ⟨t0, he⟩ : ∃ t0, ob.e = .s t0 ∨ ob.e = .z t0 := by
  cases h : ob.e with
  | s t0 => exact ⟨t0, .inl rfl⟩
  | z t0 => exact ⟨t0, .inr rfl⟩
  | _ => rw [h] at hop; cases hop
 have ht : ob.e.typ.getD 0 = t0 := by rcases he with he | he <;> rw [he] <;> rfl
 refine ⟨fun c e => ?_, hs.1, l, i, p, c, ob, hx, ho, .inl ⟨t0, q, z, he, hq, hg, Nat.eq_of_beq_eq_true hs.2.1, by rw [hd]; exact Nat.eq_of_beq_eq_true hs.2.2, hda, by rw [hown]; rfl, by rw [hown]; rfl, ?_⟩⟩
 · subst e; simp only [St.ev] at hy; subst hy; exact hv
 · rw [hd, hown, ht]; rfl
theorem aHV {α : Type} (f : α → AV) {es : List α} {k : Nat} (h : k < es.length) : (es.map f)[k]? = some (f es[k]) := by simp [h]
section
variable {P : Program} {t : TypeId} {x y : Operand} {k : IntKind} {a b : Int}
theorem vV (h : a < b) : yo P .lss t x y (.int k a) (.int k b) (.bool true) := fun w => by simp [eqGuard, binOp, Op.intCmp, h]
theorem uz (h : ¬ a < b) : yo P .lss t x y (.int k a) (.int k b) (.bool false) := fun w => by simp [eqGuard, binOp, Op.intCmp]; omega
theorem aIo (h : a ≤ b) : yo P .leq t x y (.int k a) (.int k b) (.bool true) := fun w => by simp [eqGuard, binOp, Op.intCmp, h]
theorem aIn (h : ¬ a ≤ b) : yo P .leq t x y (.int k a) (.int k b) (.bool false) := fun w => by simp [eqGuard, binOp, Op.intCmp]; omega
theorem aGN (h : a > b) : yo P .gtr t x y (.int k a) (.int k b) (.bool true) := fun w => by simp [eqGuard, binOp, Op.intCmp]; omega
theorem aGM (h : ¬ a > b) : yo P .gtr t x y (.int k a) (.int k b) (.bool false) := fun w => by simp [eqGuard, binOp, Op.intCmp]; omega
theorem aIm (h : a ≥ b) : yo P .geq t x y (.int k a) (.int k b) (.bool true) := fun w => by simp [eqGuard, binOp, Op.intCmp]; omega
theorem aGL (h : ¬ a ≥ b) : yo P .geq t x y (.int k a) (.int k b) (.bool false) := fun w => by simp [eqGuard, binOp, Op.intCmp]; omega
theorem aD5 (h : a = b) : yo P .eql t x y (.int k a) (.int k b) (.bool true) := fun w => by simp [eqGuard, binOp, Op.intCmp, h]
theorem aD4 (h : ¬ a = b) : yo P .eql t x y (.int k a) (.int k b) (.bool false) := fun w => by simp [eqGuard, binOp, Op.intCmp, h]
theorem aGO (h : ¬ a = b) : yo P .neq t x y (.int k a) (.int k b) (.bool true) := fun w => by simp [eqGuard, binOp, Op.intCmp, h]
theorem aAU (h : a = b) : yo P .neq t x y (.int k a) (.int k b) (.bool false) := fun w => by simp [eqGuard, binOp, Op.intCmp, h]
theorem aHj {c : Int} (h : c = a + b) (hl : -9223372036854775808 ≤ c) (hu : c ≤ 9223372036854775807) : yo P .add t x y (.int .i64 a) (.int .i64 b) (.int .i64 c) := fun w => by
 have hw : IntKind.i64.wrap (a + b) = c := by rw [IntKind.wrap_i64, ← h]; omega
 simp [eqGuard, binOp, Op.intArith, hw]
theorem aF2 {c : Int} (h : c = a - b) (hl : -9223372036854775808 ≤ c) (hu : c ≤ 9223372036854775807) : yo P .sub t x y (.int .i64 a) (.int .i64 b) (.int .i64 c) := fun w => by
 have hw : IntKind.i64.wrap (a - b) = c := by rw [IntKind.wrap_i64, ← h]; omega
 simp [eqGuard, binOp, Op.intArith, hw]
theorem aB5 {op : BinOp} {a b : ByteArray} {r : Value} (h : ∀ w, (Op.stringOp op a b).run P w = .ok r w) : yo P op t x y (.string a) (.string b) r := fun w => by
 cases op <;> simp only [eqGuard, binOp] <;> first | exact h w | simpa using h w
end
section
variable {P : Program} {Θ : Tab} {s : St} {ty : TypeId} {pos : String} {after : Array Edge} {g : Option (Nat × Bool)} {t kt vt : TypeId} {z : AV} {l : Nat} {ent : List (ByteArray × AV)} {kk : ByteArray}
end
def force (x : AV) (k : AV → Option St) : Option St :=
 match x with
 | .any => none
 | .v c => k (.v c)
 | .agg xs => k (.agg xs)
 | .lst z xs => k (.lst z xs)
 | .ptr y => k (.ptr y)
 | .own l => k (.own l)
 | .optr l i p c => k (.optr l i p c)
 | .tup xs => k (.tup xs)
 | .mapv l => k (.mapv l)
 | .mix xs => k (.mix xs)
 | .rd x => k (.rd x)
 | .fn f xs ys => k (.fn f xs ys)
 | .ifc t x => k (.ifc t x)
theorem force_eq {x : AV} {k : AV → Option St} {s : St} (h : force x k = some s) : k x = some s := by
 cases x <;> first | exact h | cases h
def kN : List AV → (List AV → Option St) → Option St
 | [], k => k []
 | x :: r, k => force x fun y => kN r fun ys => k (y :: ys)
theorem kP {s : St} : ∀ {xs : List AV} {k : List AV → Option St}, kN xs k = some s → k xs = some s
 | [], k, h => h
 | x :: r, k, h => kP (xs := r) (k := fun ys => k (x :: ys)) (force_eq (k := fun y => kN r fun ys => k (y :: ys)) h)
def aAc (s : St) : List AV → List (Nat × Operand) → Bool
 | _, [] => true
 | z, (i, x) :: r => (match z[i]? with | some y => Nat.beq (asz (s.dat (s.ev x))) (asz y) | none => false) && (xG s (s.ev x) && aAc s (z.set i (s.dat (s.ev x))) r)
theorem aAd {s : St} : ∀ (ps : List (Nat × Operand)) (z : List AV), aAc s z ps = true → uO s z ps
 | [], z, _ => trivial
 | (i, x) :: r, z, h => by
  simp only [aAc, Bool.and_eq_true] at h
  refine ⟨?_, h.2.1, aAd r _ h.2.2⟩
  have h1 := h.1
  split at h1
  · rename_i y hy; exact ⟨y, hy, Nat.eq_of_beq_eq_true h1⟩
  · cases h1
def aDS (Θ : Tab) (draw : Bool) (dst : Option Tmp) (ty : TypeId) (c : Value) : Option (Nat × Nat × Nat) :=
 match c, dst, Θ.look ty with
 | .slice none 0 0, some d, .slice el sz _ _ => bif !draw && (Nat.blt 0 sz && okL (d + 1)) then some (d, el, sz) else none
 | _, _, _ => none
theorem yw {α : Type} {b : Bool} {x : Option α} {y : α} (h : (bif b then x else none) = some y) : b = true ∧ x = some y := by cases b with
 | true => exact ⟨rfl, h⟩
 | false => cases h
theorem aDx {Θ : Tab} {draw : Bool} {dst : Option Tmp} {ty : TypeId} {c : Value} {d el sz : Nat} (h : aDS Θ draw dst ty c = some (d, el, sz)) : dst = some d ∧ c = .slice none 0 0 ∧ draw = false ∧ 0 < sz ∧ okL (d + 1) = true := by
 unfold aDS at h
 split at h
 · obtain ⟨h1, h2⟩ := yw h
   cases h2
   simp only [Bool.and_eq_true] at h1
   exact ⟨rfl, rfl, by cases draw <;> simp_all, by simpa using h1.2.1, h1.2.2⟩
 · cases h
def aGV : AV → Bool
 | .v (.slice none 0 0) => true
 | _ => false
def TI.isIface : TI → Bool
 | .iface => true
 | _ => false
def zV (Θ : Tab) (draw : Bool) (o : Oper) (s : St) : Option St :=
 match o.op with
 | .move (.tmp t) => force (s.sl t) fun v => some (s.put o.dst v)
 | .assign (.tmp t) => force (s.sl t) fun v => some (s.put o.dst v)
 | .move (.const c) => match aDS Θ draw o.dst o.type c with
  | some (d, el, sz) => some (((s.kill (d + 1)).set (d + 1) (some ⟨.s el, sz, []⟩)).put (some d) (.own (d + 1)))
  | none => bif c.oneCell' then some (s.put o.dst (.v c)) else none
 | .assign (.const c) => match aDS Θ draw o.dst o.type c with
  | some (d, el, sz) => some (((s.kill (d + 1)).set (d + 1) (some ⟨.s el, sz, []⟩)).put (some d) (.own (d + 1)))
  | none => bif c.oneCell' then some (s.put o.dst (.v c)) else none
 | .pick c a b => match s.ev c with
  | .v (.bool t) => bif cOK a && cOK b then force (bif t then s.ev a else s.ev b) fun v => some (s.put o.dst v) else none
  | _ => none
 | .unOp .not _ x => match s.ev x with
  | .v (.bool b) => some (s.put o.dst (.v (.bool (!b))))
  | _ => none
 | .extract x i => match s.ev x with
  | .tup xs => match xs[i]? with
   | some y => force y fun v => some (s.put o.dst v)
   | none => none
  | _ => none
 | .fieldAddr t x f => match Θ.look t with
  | .struct fs _ => match fs[f]? with
   | some (o_, _) => match s.ev x with
    | .ptr (.agg ys) => match ys[f]? with
     | some y => bif Nat.beq (xC (ys.take f)) o_ then some (s.put o.dst (.ptr y)) else none
     | none => none
    | .optr l i p c => some (s.put o.dst (.optr l i (p ++ [f]) (c + o_)))
    | _ => none
   | none => none
  | _ => none
 | .load t x => match s.ev x with
  | .ptr y => bif (Θ.look t).known && (Bool.xor (zR y) (Θ.look t).isAgg).not && Nat.beq (asz y) (Θ.look t).size then force y fun v => some (s.put o.dst v) else none
  | .optr l i p c => match s.hp l with
   | some ob => bif ob.e.open_ then (match ob.xs[i]? with
    | some y => match xR y p 0 with
     | some (z, c') => bif Nat.beq c' c && (Θ.look t).known && (Bool.xor (zR z) (Θ.look t).isAgg).not && Nat.beq (asz z) (Θ.look t).size then force z fun v => some (s.put o.dst v) else none
     | none => none
    | none => none) else (match yh ob.e ob.xs i with
    | some (.o t' i' y) => match xR y p 0 with
     | some (z, c') => bif aGV z then none else (match ofO z with
      | some x' => bif Nat.beq i' i && Nat.beq c' c && (Θ.look t).known && (Bool.xor (zR x') (Θ.look t).isAgg).not && Nat.beq (asz x') (Θ.look t).size then force x' fun v => some (s.put o.dst v) else none
      | none => none)
     | none => none
    | _ => none)
   | none => none
  | _ => none
 | .alloc t => match o.dst with
  | some d => match s.hp (d + 1) with
   | none => bif !draw && ((Θ.look t).known && okL (d + 1)) then some ((s.set (d + 1) (some ⟨kz t (Θ.look t).zero, (Θ.look t).size, [(Θ.look t).zero]⟩)).put (some d) (.optr (d + 1) 0 [] 0)) else none
   | some _ => none
  | none => none
 | .box t x => match o.dst with
  | some d => match s.hp (d + 1) with
   | none => match s.ev x with
    | .agg ys => bif (!draw && okL (d + 1)) && ((Θ.look t).known && Nat.beq (asz (.agg ys)) (Θ.look t).size) then some ((s.set (d + 1) (some ⟨.s t, (Θ.look t).size, [.agg ys]⟩)).put (some d) (.optr (d + 1) 0 [] 0)) else none
    | _ => none
   | some _ => none
  | none => none
 | .build t ps => match Θ.look t with
  | .struct _ z => bif (xq s (ps.toList.map (·.2))).isEmpty && (kU (ps.toList.map (·.2)) && aAc s z ps.toList) then kN (yG s z ps.toList) fun ys => some (s.put o.dst (.agg ys)) else none
  | _ => none
 | .buildSlice t m ps => match o.dst with
  | some d => match s.hp (d + 1) with
   | none => match Θ.look t with
    | .slice el sz _ z => bif !draw && ((xq s (ps.toList.map (·.2))).isEmpty && (Nat.ble (m * sz) 65536 && (okL (d + 1) && (kU (ps.toList.map (·.2)) && aAc s (List.replicate m z) ps.toList)))) then kN (yG s (List.replicate m z) ps.toList) fun ys => some ((s.set (d + 1) (some ⟨.s el, sz, ys⟩)).put (some d) (.own (d + 1))) else none
    | _ => none
   | some _ => none
  | none => none
 | .nilCheck x => match s.ev x with
  | .ptr y => some (s.put o.dst (.ptr y))
  | .optr l i p c => some (s.put o.dst (.optr l i p c))
  | .fn f xs ys => some (s.put o.dst (.fn f xs ys))
  | .ifc t y => some (s.put o.dst (.ifc t y))
  | _ => none
 | .makeFunc (.func f) first captured => bif kU (first.toList ++ captured.toList) then kN (first.toList.map s.ev) fun xs => kN (captured.toList.map s.ev) fun ys => some (s.put o.dst (.fn f xs ys)) else none
 | .makeInterface t x => bif cOK x && (Θ.look t).known && !(Θ.look t).isIface then force (s.ev x) fun v => some (s.put o.dst (.ifc t v)) else none
 | _ => none
section
variable {P : Program} {Θ : Tab} {n : Nat} {ops : Array Oper} {draw : Bool} {s s' : St}
theorem xor_not {a b : Bool} (h : (Bool.xor a b).not = true) : a = b := by cases a <;> cases b <;> first | rfl | cases h
theorem aEQ {o : Oper} (h : zV Θ draw o s = some s') : ∃ e, Pre P Θ o s e ∧ (draw = true → e.upd = none) ∧ s.app o.dst e = s' := by
 obtain ⟨dst, op, ty, pos, after, guard⟩ := o
 have fin : ∀ {v : AV}, Pre P Θ ⟨dst, op, ty, pos, after, guard⟩ s ⟨v, none⟩ → some (s.put dst v) = some s' → ∃ e, Pre P Θ ⟨dst, op, ty, pos, after, guard⟩ s e ∧ (draw = true → e.upd = none) ∧ s.app dst e = s' := fun hp he => ⟨_, hp, fun _ => rfl, by cases he; rfl⟩
 cases op with
 | move x => cases x with
  | tmp t => exact fin (aEE rfl) (force_eq (k := fun v => some (s.put dst v)) h)
  | const c =>
   simp only [zV] at h
   split at h
   · rename_i d el sz hn
     obtain ⟨rfl, rfl, hd, h0, hok⟩ := aDx hn
     refine ⟨_, aJ9 (.s el) sz h0 rfl hok, (fun e => by rw [e] at hd; cases hd), ?_⟩
     cases h; rfl
   · obtain ⟨h1, h2⟩ := yw h; exact fin (aKN h1) h2
  | _ => cases h
 | assign x => cases x with
  | tmp t => exact fin (aH7 rfl) (force_eq (k := fun v => some (s.put dst v)) h)
  | const c =>
   simp only [zV] at h
   split at h
   · rename_i d el sz hn
     obtain ⟨rfl, rfl, hd, h0, hok⟩ := aDx hn
     refine ⟨_, aJ8 (.s el) sz h0 rfl hok, (fun e => by rw [e] at hd; cases hd), ?_⟩
     cases h; rfl
   · obtain ⟨h1, h2⟩ := yw h; exact fin (aHr h1) h2
  | _ => cases h
 | pick c a b =>
  simp only [zV] at h
  split at h
  · rename_i t ht
    obtain ⟨h1, h2⟩ := yw h
    simp only [Bool.and_eq_true] at h1
    exact fin (aGj ht rfl h1.1 h1.2) (force_eq h2)
  · cases h
 | unOp op t x =>
  cases op with
  | not =>
   simp only [zV] at h
   split at h
   · rename_i b hb; exact fin (aHu hb) h
   · cases h
  | _ => cases h
 | extract x i =>
  simp only [zV] at h
  split at h
  · rename_i xs hx
    split at h
    · rename_i y hy; exact fin (aKK hx hy) (force_eq h)
    · cases h
  · cases h
 | fieldAddr t x f =>
  simp only [zV] at h
  split at h
  · rename_i fs z ht
    split at h
    · rename_i o_ z_ hf
      split at h
      · rename_i ys hx
        split at h
        · rename_i y hy
          obtain ⟨h1, h2⟩ := yw h
          exact fin (aKL ht hf hx hy (Nat.eq_of_beq_eq_true h1)) h2
        · cases h
      · rename_i l i p c hx; exact fin (jS ht hf hx) h
      · cases h
    · cases h
  · cases h
 | load t x =>
  simp only [zV] at h
  split at h
  · rename_i y hx
    obtain ⟨h1, h2⟩ := yw h
    simp only [Bool.and_eq_true] at h1
    exact fin (aJ7 hx h1.1.1 (xor_not h1.1.2) (Nat.eq_of_beq_eq_true h1.2)) (force_eq h2)
  · rename_i l i p c hx
    split at h
    · rename_i ob ho
      cases hop : ob.e.open_ with
      | true =>
       rw [hop] at h
       simp only [cond_true] at h
       split at h
       · rename_i y hy
         split at h
         · rename_i z c' hg
           obtain ⟨h1, h2⟩ := yw h
           simp only [Bool.and_eq_true] at h1
           have hc := Nat.eq_of_beq_eq_true h1.1.1.1
           subst hc
           exact fin (kK hx ho hy hg h1.1.1.2 (xor_not h1.1.2) (Nat.eq_of_beq_eq_true h1.2) hop) (force_eq h2)
         · cases h
       · cases h
      | false =>
       rw [hop] at h
       simp only [cond_false] at h
       split at h
       · rename_i t' i' y hy
         split at h
         · rename_i z c' hg
           cases hn : aGV z with
           | true => rw [hn] at h; cases h
           | false =>
            rw [hn] at h
            simp only [cond_false] at h
            split at h
            · rename_i x' hx'
              obtain ⟨h1, h2⟩ := yw h
              simp only [Bool.and_eq_true] at h1
              have hc := Nat.eq_of_beq_eq_true h1.1.1.1.2
              subst hc
              have hi := Nat.eq_of_beq_eq_true h1.1.1.1.1
              subst hi
              exact fin (aJa hx ho hy hg hx' h1.1.1.2 (xor_not h1.1.2) (Nat.eq_of_beq_eq_true h1.2)) (force_eq h2)
            · cases h
         · cases h
       · cases h
    · cases h
  · cases h
 | alloc t =>
  cases dst with
  | none => cases h
  | some d =>
   simp only [zV] at h
   split at h
   · rename_i hf
     obtain ⟨h1, h2⟩ := yw h
     simp only [Bool.and_eq_true] at h1
     refine ⟨_, aJ3 hf h1.2.1 h1.2.2, fun e => by rw [e] at h1; simp at h1, ?_⟩
     cases h2; rfl
   · cases h
 | box t x =>
  cases dst with
  | none => cases h
  | some d =>
   simp only [zV] at h
   split at h
   · rename_i hf
     split at h
     · rename_i ys hx
       obtain ⟨h1, h2⟩ := yw h
       simp only [Bool.and_eq_true] at h1
       refine ⟨_, aHs hf hx rfl (by simp only [Bool.and_eq_true]; exact h1.2) h1.1.2, fun e => by rw [e] at h1; simp at h1, ?_⟩
       cases h2; rfl
     · cases h
   · cases h
 | build t ps =>
  simp only [zV] at h
  split at h
  · rename_i fs z ht
    obtain ⟨h1, h2⟩ := yw h
    simp only [Bool.and_eq_true] at h1
    have hown : xq s (ps.toList.map (·.2)) = [] := by simpa using h1.1
    exact fin (v := .agg (yG s z ps.toList)) ⟨fs, z, ht, .inl ⟨aAd _ _ h1.2.2, vw h1.2.1, by rw [hown]; rfl, by rw [hown]; rfl⟩⟩ (kP (k := fun ys => some (s.put dst (.agg ys))) h2)
  · cases h
 | buildSlice t m ps =>
  cases dst with
  | none => cases h
  | some d =>
   simp only [zV] at h
   split at h
   · rename_i hf
     split at h
     · rename_i el sz b z ht
       obtain ⟨h1, h2⟩ := yw h
       simp only [Bool.and_eq_true] at h1
       have hown : xq s (ps.toList.map (·.2)) = [] := by simpa using h1.2.1
       have h3 := kP (k := fun ys => some ((s.set (d + 1) (some ⟨el, sz, ys⟩)).put (some d) (.own (d + 1)))) h2
       refine ⟨⟨.own (d + 1), some fun s' => s'.set (d + 1) (some ⟨.s el, sz, yG s (List.replicate m z) ps.toList⟩)⟩, ⟨d, el, sz, b, z, rfl, hf, h1.2.2.2.1, ht, Nat.le_of_ble_eq_true h1.2.2.1, .inl ⟨aAd _ _ h1.2.2.2.2.2, vw h1.2.2.2.2.1, by rw [hown]; rfl, by rw [hown]; rfl⟩⟩, fun e => by rw [e] at h1; simp at h1, ?_⟩
       cases h3; rfl
     · cases h
   · cases h
 | nilCheck x =>
  simp only [zV] at h
  split at h
  · rename_i y hx; exact fin ⟨by rw [hx], .inl ⟨y, hx⟩⟩ h
  · rename_i l i p c hx; exact fin ⟨by rw [hx], .inr (.inl ⟨l, i, p, c, hx⟩)⟩ h
  · rename_i f xs ys hx; exact fin ⟨by rw [hx], .inr (.inr (.inl ⟨f, xs, ys, hx⟩))⟩ h
  · rename_i t y hx; exact fin ⟨by rw [hx], .inr (.inr (.inr ⟨t, y, hx⟩))⟩ h
  · cases h
 | makeFunc fn first captured =>
  cases fn with
  | func f =>
   simp only [zV] at h
   obtain ⟨h1, h2⟩ := yw h
   have h3 := kP (k := fun xs => kN (captured.toList.map s.ev) fun ys => some (s.put dst (.fn f xs ys))) h2
   have h4 := kP (k := fun ys => some (s.put dst (.fn f (first.toList.map s.ev) ys))) h3
   exact fin (v := .fn f (first.toList.map s.ev) (captured.toList.map s.ev)) ⟨f, rfl, vw h1, rfl⟩ h4
  | _ => cases h
 | makeInterface t x =>
  simp only [zV] at h
  obtain ⟨h1, h2⟩ := yw h
  simp only [Bool.and_eq_true, Bool.not_eq_true'] at h1
  exact fin (v := .ifc t (s.ev x)) ⟨wP h1.1.1, h1.1.2, fun e => by rw [e] at h1; exact absurd h1.2 (by simp [TI.isIface]), rfl⟩ (force_eq (k := fun v => some (s.put dst (.ifc t v))) h2)
 | _ => cases h
def runK (P : Program) (Θ : Tab) (n : Nat) (ops : Array Oper) (draw : Bool) : Nat → List Oper → St → (St → Prop) → Prop
 | _, [], s, K => K s
 | k, o :: r, s, K =>
  match inN n o.dst with
  | false => False
  | true => match xZ ops s o with
   | some false => runK P Θ n ops draw (k + 1) r (s.put o.dst (.tup [])) K
   | some true => match zV Θ (draw && !(tied ops k)) o s with
    | some s' => runK P Θ n ops draw (k + 1) r s' K
    | none => xN P Θ n ops draw k (o :: r) s K
   | none => xN P Θ n ops draw k (o :: r) s K
theorem vO {K : St → Prop} : ∀ (l : List Oper) (k : Nat) (s : St), runK P Θ n ops draw k l s K → xN P Θ n ops draw k l s K
 | [], k, s, h => aHq h
 | o :: r, k, s, h => by
  unfold runK at h
  cases hin : inN n o.dst with
  | false => rw [hin] at h; exact h.elim
  | true =>
   rw [hin] at h
   simp only at h
   cases hg : xZ ops s o with
   | none => rw [hg] at h; exact h
   | some b => cases b with
    | false => rw [hg] at h; exact aGb hg hin (vO r (k + 1) _ h)
    | true =>
     rw [hg] at h
     simp only at h
     cases hs : zV Θ (draw && !(tied ops k)) o s with
     | none => rw [hs] at h; exact h
     | some s' =>
      rw [hs] at h
      obtain ⟨e, hp, hu, he⟩ := aEQ (P := P) hs
      exact qK hg hin hp (fun hd => by cases ht : tied ops k with | true => exact .inr (.inl rfl) | false => exact .inl (hu (by rw [hd, ht]; rfl))) (by rw [he]; exact vO r (k + 1) _ h)
def jw (P : Program) (Θ : Tab) (n : Nat) : Code → (AEx → St → Prop) → St → Prop
 | .skip, Q, s => Q .normal s
 | .label _, Q, s => Q .normal s
 | .region _ ops false, Q, s => runK P Θ n ops false 0 ops.toList s (Q .normal)
 | .region _ ops true, Q, s => (Region.lexB .any ops = true ∧ runK P Θ n ops true 0 ops.toList s (Q .normal)) ∨ (Region.lexB .any ops = true ∧ jU ops ∧ xQ P Θ n ops 0 ops.toList s (Q .normal))
 | .seq a b, Q, s => jw P Θ n a (AEx.then (jw P Θ n b Q) Q) s
 | .cond c x y, Q, s => match s.ev c with
  | .v (.bool true) => jw P Θ n x Q s
  | .v (.bool false) => jw P Θ n y Q s
  | _ => xJ P Θ n (.cond c x y) Q s
 | .block id c, Q, s => jw P Θ n c (AEx.inBlock id Q) s
 | .exit id, Q, s => Q (.exit id) s
 | .ret, Q, s => Q .ret s
 | c, Q, s => xJ P Θ n c Q s
theorem qZ {ops : Array Oper} {K K' : St → Prop} : ∀ (l : List Oper) (k : Nat) (s : St), (∀ s, K s → K' s) → xQ P Θ n ops k l s K → xQ P Θ n ops k l s K'
 | [], k, s, hk, h => Gh.mono hk h
 | o :: r, k, s, hk, h => by
  unfold xQ at h ⊢
  refine ⟨h.1, h.2.1, h.2.2.imp (fun ⟨u, ks, nu, he, h⟩ => ⟨u, ks, nu, he, qZ r _ _ hk h⟩) (fun ⟨ht, e, hp, h⟩ => ⟨ht, e, hp, h.mono fun s' => qZ r _ s' hk⟩)⟩
theorem aB2 {Q Q' : AEx → St → Prop} : ∀ (c : Code) (s : St), (∀ e s, Q e s → Q' e s) → xJ P Θ n c Q s → xJ P Θ n c Q' s := by
 have ops_mono : ∀ {ops : Array Oper} {draw : Bool} {K K' : St → Prop} (l : List Oper) (k : Nat) (s : St), (∀ s, K s → K' s) → xN P Θ n ops draw k l s K → xN P Θ n ops draw k l s K' := by
  intro ops draw K K' l
  induction l with
  | nil => intro k s hk h; exact hk s h
  | cons o r ih =>
   intro k s hk h
   unfold xN at h ⊢
   refine ⟨h.1, ?_⟩
   have h2 := h.2
   split
   · rename_i hg; simp only [hg] at h2; obtain ⟨e, a, b, c⟩ := h2; exact ⟨e, a, b, c.imp (ih _ _ hk) (fun h => ⟨h.1, h.2.mono fun s' => ih _ s' hk⟩)⟩
   · rename_i hg; simp only [hg] at h2; exact ih _ _ hk h2
   · rename_i hg; simp only [hg] at h2
 intro c
 induction c generalizing Q Q' with
 | skip => intro s hq h; exact hq _ _ h
 | label l => intro s hq h; exact hq _ _ h
 | region id ops draw =>
  intro s hq h
  rcases h with h | ⟨h1, h2, h3, h⟩ | ⟨h1, h⟩
  · exact .inl ⟨h.1, ops_mono _ _ _ (fun s h => hq _ _ h) h.2⟩
  · exact .inr (.inl ⟨h1, h2, h3, qZ _ _ _ (fun s h => hq _ _ h) h⟩)
  · refine .inr (.inr ⟨h1, fun W M S0 a w hs b hb k cs => ?_⟩)
    obtain ⟨e, a', w', ⟨he, s', hk, hs'⟩, harr⟩ := h W M S0 a w hs b hb k cs
    exact ⟨e, a', w', ⟨he, s', hq _ _ hk, hs'⟩, harr⟩
 | seq a b iha ihb =>
  intro s hq h
  rcases h with h | ⟨ι, I, h, k⟩
  · exact .inl (iha s (fun e s he => by cases e <;> first | exact ihb s hq he | exact hq _ _ he) h)
  · exact .inr ⟨ι, I, iha s (fun e s he => by cases e <;> first | exact he | exact hq _ _ he) h, fun j => ihb _ hq (k j)⟩
 | cond c x y ihx ihy => intro s hq h; obtain ⟨b, hc, h⟩ := h; refine ⟨b, hc, ?_⟩; cases b <;> first | exact ihx s hq h | exact ihy s hq h
 | block id c ih =>
  intro s hq h
  refine ih s (fun e s he => ?_) h
  cases e with
  | exit j =>
   show (bif Nat.beq j id then Q' .normal s else Q' (.exit j) s)
   have he' : (bif Nat.beq j id then Q .normal s else Q (.exit j) s) := he
   cases hb : Nat.beq j id with
   | true => rw [hb] at he'; exact hq _ _ he'
   | false => rw [hb] at he'; exact hq _ _ he'
  | normal => exact hq _ _ he
  | ret => exact hq _ _ he
 | loop c ih =>
  intro s hq h
  obtain ⟨ι, I, μ, h0, hr⟩ := h
  exact ⟨ι, I, μ, h0, fun i => ih _ (fun e s he => by cases e <;> first | exact he | exact hq _ _ he) (hr i)⟩
 | exit id => intro s hq h; exact hq _ _ h
 | ret => intro s hq h; exact hq _ _ h
 | rangeFunc _ _ _ _ => intro s hq h; exact h.elim
 | scope _ => intro s hq h; exact h.elim
 | goto _ => intro s hq h; exact h.elim
 | refuse _ => intro s hq h; exact h.elim
theorem aAH : ∀ (c : Code) (Q : AEx → St → Prop) (s : St), jw P Θ n c Q s → xJ P Θ n c Q s := by
 intro c
 induction c with
 | skip => intro Q s h; exact h
 | label l => intro Q s h; exact h
 | region id ops draw =>
  intro Q s h
  cases draw with
  | false => exact .inl ⟨(fun e => by cases e), vO _ _ _ h⟩
  | true =>
   rcases h with h | ⟨h1, h2, h⟩
   · exact .inl ⟨fun _ => h.1, vO _ _ _ h.2⟩
   · exact .inr (.inl ⟨rfl, h1, h2, h⟩)
 | seq a b iha ihb =>
  intro Q s h
  exact .inl (aB2 a s (fun e s he => by cases e <;> first | exact ihb Q s he | exact he) (iha _ s h))
 | cond c x y ihx ihy =>
  intro Q s h
  simp only [jw] at h
  split at h
  · rename_i hc; exact ⟨true, hc, ihx Q s h⟩
  · rename_i hc; exact ⟨false, hc, ihy Q s h⟩
  · exact h
 | block id c ih => intro Q s h; exact ih _ s h
 | exit id => intro Q s h; exact h
 | ret => intro Q s h; exact h
 | loop c ih => intro Q s h; exact h
 | rangeFunc _ _ _ _ => intro Q s h; exact h
 | scope _ => intro Q s h; exact h
 | goto _ => intro Q s h; exact h
 | refuse _ => intro Q s h; exact h
variable {k : Nat} {r : List Oper} {K : St → Prop} {d : Option Tmp} {op : Op} {ty : TypeId} {pos : String} {after : Array Edge} {g : Option (Nat × Bool)}
theorem aFu {v : AV} (hp : Pre P Θ ⟨d, op, ty, pos, after, g⟩ s ⟨v, none⟩) (hg : xZ ops s ⟨d, op, ty, pos, after, g⟩ = some true) (hin : inN n d = true) (h : runK P Θ n ops draw (k + 1) r (s.put d v) K) : xN P Θ n ops draw k (⟨d, op, ty, pos, after, g⟩ :: r) s K :=
 aAr hp hg hin (vO _ _ _ h)
theorem aEG {e : Eff} (hp : Pre P Θ ⟨d, op, ty, pos, after, g⟩ s e) (hg : xZ ops s ⟨d, op, ty, pos, after, g⟩ = some true) (hin : inN n d = true) (hu : draw = true → e.upd = none ∨ tied ops k = true ∨ vY Θ ops (fun j => Nat.blt j k) k s e) (h : runK P Θ n ops draw (k + 1) r (s.app d e) K) : xN P Θ n ops draw k (⟨d, op, ty, pos, after, g⟩ :: r) s K :=
 qK hg hin hp hu (vO _ _ _ h)
theorem vI {c : Code} {Q : AEx → St → Prop} {ι : Type} (I : ι → Inv) (μ : ι → Nat) (i0 : ι) (h0 : s.le (I i0)) (h : ∀ i, jw P Θ n c (AEx.then (fun s' => ∃ j, s'.le (I j) ∧ μ j < μ i) Q) (I i).st) : xJ P Θ n (.loop c) Q s :=
 aIy (fun i => (I i).m) μ i0 ⟨h0, trivial⟩ fun i => aB2 (Q := AEx.then (fun s' => ∃ j, s'.le (I j) ∧ μ j < μ i) Q) c _ (fun e s he => by
  cases e with
  | normal => obtain ⟨j, h1, h2⟩ := he; exact ⟨j, ⟨h1, trivial⟩, h2⟩
  | _ => exact he) (aAH _ _ _ (h i))
theorem aK3 (hΘ : yK P Θ) (hm : P.follows .mixedOrders = true) {f : FuncId} {fn : Func} {c : Code} {n : Nat} {rs : List ResultVar} (hf : P.funcs[f]? = some fn) (hb : fn.body = some c) (hnt : fn.ntmps = n) (hrs : fn.results = rs.toArray) (hnm : (fn.name == "runtime.NumGoroutine") = false)
 {args : List AV} {out : Out} (hlen : Nat.ble args.length n = true) (h : jw P Θ n c (je Θ rs out) (St.init args)) : AC P f args out :=
 aGK hΘ hm hf hb hnt (by rw [hrs]) hnm (Nat.le_of_ble_eq_true hlen) rfl rfl (aAH _ _ _ h)
def yU (r : Nat) (e : ET) (sz : Nat) (xs' : List AV) (v : Value) : AEx → St → Prop
 | .normal, s | .ret, s => s.sl r = .v v ∧ s.hp 0 = some ⟨e, sz, xs'⟩
 | _, _ => False
theorem aJ4 {α : Type} {x y : Operand} {t el sz b l l' : Nat} {e0 e' : ET} {z : AV} {xs : List α} {f : α → AV} (e : α) (hb : (xs.length + 1) * b ≤ 140737488355328) (hx : s.ev x = .own l) (hy : s.ev y = .own l') (ho : s.hp l = some ⟨e0, sz, xs.map f⟩) (ho' : s.hp l' = some ⟨e', sz, [f e]⟩) (hn : (Nat.beq l' l || Nat.beq l 0) = false) (ht : Θ.look t = .slice el sz b z) (hb1 : Nat.ble 1 b = true) (he : (e0 = .s el ∨ e0 = .z el) := by first | exact .inl rfl | exact .inr rfl) (he' : e'.open_ = true := by rfl) (hok : okL l = true := by rfl) :
 Pre P Θ ⟨d, .call ⟨.builtin .append, #[x, y], #[t, t]⟩, ty, pos, after, g⟩ s ⟨.own l, some fun s => (s.kill l).set l (some ⟨.s el, sz, (xs ++ [e]).map f⟩)⟩ := by
 simp only [Bool.or_eq_false_iff] at hn
 have n1 : l' ≠ l := fun h => by rw [h] at hn; simp at hn
 have hb1' := Nat.le_of_ble_eq_true hb1
 have hm : xs.length + 1 ≤ maxLen := by
  have : (xs.length + 1) * 1 ≤ (xs.length + 1) * b := Nat.mul_le_mul_left _ hb1'
  unfold maxLen; omega
 exact ⟨x, y, t, el, sz, b, z, l, _, [f e], rfl, rfl, ht, hx, ho, hok, rfl, by simpa using hb, by simpa using hm, .inl ⟨el, he, rfl, .inr ⟨l', _, hy, n1, ho', he', rfl, rfl⟩, by rw [List.map_append]; rfl⟩⟩
theorem aI2 {α : Type} {x y : Operand} {t el sz b l l' : Nat} {e0 e' : ET} {z : AV} {xs : List α} {f : α → AV} (e : α) (ys : List α) (hys : xs ++ [e] = ys) (hb : (xs.length + 1) * b ≤ 140737488355328) (hx : s.ev x = .own l) (hy : s.ev y = .own l') (ho : s.hp l = some ⟨e0, sz, xs.map f⟩) (ho' : s.hp l' = some ⟨e', sz, [f e]⟩) (hn : (Nat.beq l' l || Nat.beq l 0) = false) (ht : Θ.look t = .slice el sz b z) (hb1 : Nat.ble 1 b = true) (he : (e0 = .s el ∨ e0 = .z el) := by first | exact .inl rfl | exact .inr rfl) (he' : e'.open_ = true := by rfl) (hok : okL l = true := by rfl) :
 Pre P Θ ⟨d, .call ⟨.builtin .append, #[x, y], #[t, t]⟩, ty, pos, after, g⟩ s ⟨.own l, some fun s => (s.kill l).set l (some ⟨.s el, sz, ys.map f⟩)⟩ := by
 subst hys; exact aJ4 e hb hx hy ho ho' hn ht hb1 he he' hok
theorem xB {t : Nat} {x : AV} {Θ : Tab} (h : s.sl t = x) (hx : (match x with | .v _ | .agg _ | .lst _ _ | .any => True | _ => False)) : je Θ [.tmp t] ⟨x, []⟩ .ret s :=
 ⟨trivial, [], by simp, trivial, ⟨trivial, trivial⟩, trivial, ⟨.inl (by cases x <;> first | exact ⟨h, rfl⟩ | exact hx.elim), trivial⟩⟩
theorem aGr {t l : Nat} {ob : OB} {Θ : Tab} (h : s.sl t = .own l) (ho : s.hp l = some ob) (hok : okL l = true := by rfl) (hsh : ob.e.shut = true := by rfl) : je Θ [.tmp t] ⟨.own 0, [ob]⟩ .ret s :=
 ⟨trivial, [l], by simp, ⟨⟨ho, hok, hsh⟩, trivial⟩, ⟨trivial, trivial⟩, trivial, ⟨.inl ⟨h, rfl⟩, trivial⟩⟩
end
theorem aK1 {P : Program} {Θ : Tab} (hΘ : yK P Θ) (hm : P.follows .mixedOrders = true) {f : FuncId} {fn : Func} {c : Code} {n : Nat} {rs : List ResultVar} (hf : P.funcs[f]? = some fn) (hb : fn.body = some c) (hnt : fn.ntmps = n) (hrs : fn.results = rs.toArray) (hnm : (fn.name == "runtime.NumGoroutine") = false)
 {args : List AV} {out : Out} (hlen : Nat.ble args.length n = true) (h : xJ P Θ n c (je Θ rs out) (St.init args)) : AC P f args out :=
 aGK hΘ hm hf hb hnt (by rw [hrs]) hnm (Nat.le_of_ble_eq_true hlen) rfl rfl h
section
variable {P : Program} {Θ : Tab} {n : Nat} {ops : Array Oper} {draw : Bool} {s : St} {k : Nat} {r : List Oper} {K : St → Prop} {d : Option Tmp} {ty : TypeId} {pos : String} {after : Array Edge} {g : Option (Nat × Bool)}
theorem qs {x : Operand} {t : TypeId} {m : Nat} {c : ByteArray} (hx : s.ev x = .v (.string c)) (hl : wX s (.v (.string c)) = some m) (h : runK P Θ n ops draw (k + 1) r (s.put d (.v (.int .i64 (m : Int)))) K) (hok : aBp Θ t (.v (.string c)) := by exact rfl) (hg : xZ ops s ⟨d, .call ⟨.builtin .len, #[x], #[t]⟩, ty, pos, after, g⟩ = some true := by exact rfl) (hin : inN n d = true := by exact rfl) : xN P Θ n ops draw k (⟨d, .call ⟨.builtin .len, #[x], #[t]⟩, ty, pos, after, g⟩ :: r) s K := aFu (aFo hx hl hok) hg hin h
theorem qc {f : FuncId} {ags : Array Operand} {ts : Array TypeId} {t : Nat} {args : List AV} {out : Out} (hac : AC P f args out) (h : runK P Θ n ops draw (k + 1) r (s.app (some t) ⟨ren (t + 1) out.val, wL (t + 1) out.obs⟩) K) (ha : (ags.toList.map fun x => s.dat (s.ev x)) = args := by exact rfl) (hfl : (xq s ags.toList).isEmpty = true ∨ out.flat := by first | exact .inl rfl | exact .inr ⟨by simp [yB, yg], by first | exact qG | exact aCQ (by first | exact xO wV _ | exact xO wR _ | exact xO wQ _ | exact xO wU _ | exact xO wT _ | exact xO wS _) | exact aEt (by first | exact xO wV _ | exact xO wR _ | exact xO wQ _ | exact xO wU _ | exact xO wT _ | exact xO wS _) (by first | exact xO wV _ | exact xO wR _ | exact xO wQ _ | exact xO wU _ | exact xO wT _ | exact xO wS _)⟩) (hfr : yE s (t + 1) 0 out.obs := by first | exact trivial | exact ⟨⟨rfl, rfl, rfl⟩, trivial⟩ | exact ⟨⟨rfl, rfl, rfl⟩, ⟨rfl, rfl, rfl⟩, trivial⟩ | exact ⟨⟨rfl, rfl, rfl⟩, ⟨rfl, rfl, rfl⟩, ⟨rfl, rfl, rfl⟩, trivial⟩) (hok : zK s (ags.toList.map s.ev) = true := by exact rfl) (hc : kU ags.toList = true := by exact rfl) (hg : xZ ops s ⟨some t, .call ⟨.value (.func f), ags, ts⟩, ty, pos, after, g⟩ = some true := by exact rfl) (hin : inN n (some t) = true := by exact rfl) (hu : draw = true → (⟨ren (t + 1) out.val, wL (t + 1) out.obs⟩ : Eff).upd = none ∨ tied ops k = true ∨ vY Θ ops (fun j => Nat.blt j k) k s ⟨ren (t + 1) out.val, wL (t + 1) out.obs⟩ := by intro e; first | exact .inl rfl | contradiction | exact .inr (.inl (by kernel_rfl))) : xN P Θ n ops draw k (⟨some t, .call ⟨.value (.func f), ags, ts⟩, ty, pos, after, g⟩ :: r) s K := aEG (kQ hac ha hfl hfr hok hc) hg hin hu h
theorem qC {f : FuncId} {ags : Array Operand} {ts : Array TypeId} {t : Nat} {args : List AV} {out : Out} (hac : AC P f args out) (h : xN P Θ n ops draw (k + 1) r (s.app (some t) ⟨ren (t + 1) out.val, wL (t + 1) out.obs⟩) K) (ha : (ags.toList.map fun x => s.dat (s.ev x)) = args := by exact rfl) (hfl : (xq s ags.toList).isEmpty = true ∨ out.flat := by first | exact .inl rfl | exact .inr ⟨by simp [yB, yg], by first | exact qG | exact aCQ (by first | exact xO wV _ | exact xO wR _ | exact xO wQ _ | exact xO wU _ | exact xO wT _ | exact xO wS _) | exact aEt (by first | exact xO wV _ | exact xO wR _ | exact xO wQ _ | exact xO wU _ | exact xO wT _ | exact xO wS _) (by first | exact xO wV _ | exact xO wR _ | exact xO wQ _ | exact xO wU _ | exact xO wT _ | exact xO wS _)⟩) (hfr : yE s (t + 1) 0 out.obs := by first | exact trivial | exact ⟨⟨rfl, rfl, rfl⟩, trivial⟩ | exact ⟨⟨rfl, rfl, rfl⟩, ⟨rfl, rfl, rfl⟩, trivial⟩ | exact ⟨⟨rfl, rfl, rfl⟩, ⟨rfl, rfl, rfl⟩, ⟨rfl, rfl, rfl⟩, trivial⟩) (hok : zK s (ags.toList.map s.ev) = true := by exact rfl) (hc : kU ags.toList = true := by exact rfl) (hg : xZ ops s ⟨some t, .call ⟨.value (.func f), ags, ts⟩, ty, pos, after, g⟩ = some true := by exact rfl) (hin : inN n (some t) = true := by exact rfl) (hu : draw = true → (⟨ren (t + 1) out.val, wL (t + 1) out.obs⟩ : Eff).upd = none ∨ tied ops k = true ∨ vY Θ ops (fun j => Nat.blt j k) k s ⟨ren (t + 1) out.val, wL (t + 1) out.obs⟩ := by intro e; first | exact .inl rfl | contradiction | exact .inr (.inl (by kernel_rfl))) : xN P Θ n ops draw k (⟨some t, .call ⟨.value (.func f), ags, ts⟩, ty, pos, after, g⟩ :: r) s K := qK hg hin (kQ hac ha hfl hfr hok hc) hu h
variable {op : Op}
theorem qz {v : AV} (h : runK P Θ n ops draw (k + 1) r (s.put d v) K) (hp : Pre P Θ ⟨d, op, ty, pos, after, g⟩ s ⟨v, none⟩ := by first | exact xA (by first | exact vV (by omega) | exact uz (by omega) | exact aIo (by omega) | exact aIn (by omega) | exact aGN (by omega) | exact aGM (by omega) | exact aIm (by omega) | exact aGL (by omega) | exact aD5 (by omega) | exact aD4 (by omega) | exact aGO (by omega) | exact aAU (by omega) | exact aF2 rfl (by omega) (by omega) | exact aHj rfl (by omega) (by omega)) rfl rfl rfl | exact aKM (aHV _ (by assumption)) rfl rfl rfl | exact aGh rfl ⟨_, _, _, _, rfl⟩ | exact aFH rfl rfl ⟨_, _, _, _, rfl⟩ | exact aFo (y := .v (.string _)) rfl rfl rfl | exact aFo rfl rfl ⟨_, _, _, _, rfl⟩) (hg : xZ ops s ⟨d, op, ty, pos, after, g⟩ = some true := by exact rfl) (hin : inN n d = true := by exact rfl) : xN P Θ n ops draw k (⟨d, op, ty, pos, after, g⟩ :: r) s K := aFu hp hg hin h
theorem qla {v : AV} (h : xN P Θ n ops draw (k + 1) r (s.put d v) K) (hp : Pre P Θ ⟨d, op, ty, pos, after, g⟩ s ⟨v, none⟩ := by first | exact jS rfl rfl rfl | exact kK rfl rfl rfl rfl rfl rfl rfl | exact aEE (by conv => lhs; whnf) | exact aH7 (by conv => lhs; whnf) | exact aHr rfl | exact aGj (z := .v _) rfl rfl rfl rfl | exact aHu rfl) (hg : xZ ops s ⟨d, op, ty, pos, after, g⟩ = some true := by exact rfl) (hin : inN n d = true := by exact rfl) : xN P Θ n ops draw k (⟨d, op, ty, pos, after, g⟩ :: r) s K := aAr hp hg hin h
theorem qlb {v : AV} (h : xN P Θ n ops draw (k + 1) r (s.put d v) K) (hp : Pre P Θ ⟨d, op, ty, pos, after, g⟩ s ⟨v, none⟩ := by first | exact xA (by first | exact aD5 (by omega) | exact aD4 (by omega) | exact aGO (by omega) | exact aAU (by omega) | exact aGN (by omega) | exact aGM (by omega) | exact yt (by assumption) | exact yR (by assumption) | exact zC (by assumption) | exact y9 (by assumption)) rfl rfl rfl | exact aGh rfl ⟨_, _, _, _, rfl⟩) (hg : xZ ops s ⟨d, op, ty, pos, after, g⟩ = some true := by exact rfl) (hin : inN n d = true := by exact rfl) : xN P Θ n ops draw k (⟨d, op, ty, pos, after, g⟩ :: r) s K := aAr hp hg hin h
theorem qst {e : Eff} (h : runK P Θ n ops draw (k + 1) r (s.app d e) K) (hp : Pre P Θ ⟨d, op, ty, pos, after, g⟩ s e := by exact wh rfl rfl rfl rfl rfl (by conv => lhs; whnf) rfl) (hg : xZ ops s ⟨d, op, ty, pos, after, g⟩ = some true := by exact rfl) (hin : inN n d = true := by exact rfl) (hu : draw = true → e.upd = none ∨ tied ops k = true ∨ vY Θ ops (fun j => Nat.blt j k) k s e := by intro e; first | exact .inl rfl | contradiction | exact .inr (.inl (by kernel_rfl))) : xN P Θ n ops draw k (⟨d, op, ty, pos, after, g⟩ :: r) s K := aEG hp hg hin hu h
theorem qp {v : AV} (hp : Pre P Θ ⟨d, op, ty, pos, after, g⟩ s ⟨v, none⟩) (h : runK P Θ n ops draw (k + 1) r (s.put d v) K) (hg : xZ ops s ⟨d, op, ty, pos, after, g⟩ = some true := by exact rfl) (hin : inN n d = true := by exact rfl) : xN P Θ n ops draw k (⟨d, op, ty, pos, after, g⟩ :: r) s K := aFu hp hg hin h
theorem qP {v : AV} (hp : Pre P Θ ⟨d, op, ty, pos, after, g⟩ s ⟨v, none⟩) (h : xN P Θ n ops draw (k + 1) r (s.put d v) K) (hg : xZ ops s ⟨d, op, ty, pos, after, g⟩ = some true := by exact rfl) (hin : inN n d = true := by exact rfl) : xN P Θ n ops draw k (⟨d, op, ty, pos, after, g⟩ :: r) s K := aAr hp hg hin h
theorem qr {e : Eff} (hp : Pre P Θ ⟨d, op, ty, pos, after, g⟩ s e) (h : runK P Θ n ops draw (k + 1) r (s.app d e) K) (hg : xZ ops s ⟨d, op, ty, pos, after, g⟩ = some true := by exact rfl) (hin : inN n d = true := by exact rfl) (hu : draw = true → e.upd = none ∨ tied ops k = true ∨ vY Θ ops (fun j => Nat.blt j k) k s e := by intro e; first | exact .inl rfl | contradiction | exact .inr (.inl (by kernel_rfl))) : xN P Θ n ops draw k (⟨d, op, ty, pos, after, g⟩ :: r) s K := aEG hp hg hin hu h
theorem qx {a b : Prop} (h : a) (f : a → b := by first | exact fun h => aHq (aGq h) | exact aKA | exact aJy | exact aIu (by kernel_rfl) | exact aHR rfl | exact aHQ rfl | exact aIM | exact aIz | exact aGb rfl rfl | exact aGq | exact aI6 | exact aI7 | exact aJb | exact aJd | exact aJe | exact aJc rfl | exact aIv | exact aJz | exact aKQ | exact aJf | exact qK rfl rfl (aHs (y := .agg _) rfl rfl rfl rfl) (fun e => by cases e) | exact aAr (xA uM rfl rfl rfl) rfl rfl | exact aAr (xA zb rfl rfl rfl) rfl rfl) : b := f h
theorem qle {i : Inv} (h : s.le i := by refine ⟨?_, ?_⟩ <;> (repeat (first | trivial | exact ⟨rfl, trivial⟩ | refine ⟨rfl, ?_⟩ | refine ⟨.inl ⟨rfl, rfl⟩, ?_⟩ | refine ⟨.inr ⟨_, _, rfl, rfl, rfl, rfl, rfl⟩, ?_⟩))) : s.le i := h
theorem qdr {a b c : Prop} (h : b) (ha : a := by kernel_rfl) : (a ∧ b) ∨ c := .inl ⟨ha, h⟩
theorem qe {a : Prop} (h : a := by exact ⟨trivial, [], by simp, trivial, ⟨trivial, trivial⟩, trivial, ⟨.inl ⟨rfl, rfl⟩, trivial⟩⟩) : a := h
theorem qO {f : FuncId} {fn : Func} {c : Code} {rs : List ResultVar} {args : List AV} {out : Out} (hf : P.funcs[f]? = some fn) (hnt : fn.ntmps = n) (hrs : fn.results = rs.toArray) (h : xJ P Θ n c (je Θ rs out) (St.init args)) (hΘ : yK P Θ := by exact aHh) (hb : fn.body = some c := by exact rfl) (hm : P.follows .mixedOrders = true := by kernel_rfl) (hnm : (fn.name == "runtime.NumGoroutine") = false := by kernel_rfl) (hlen : Nat.ble args.length n = true := by exact rfl) : AC P f args out := aK1 hΘ hm hf hb hnt hrs hnm hlen h
theorem qrf {f : FuncId} {fn : Func} {c : Code} {rs : List ResultVar} {args : List AV} {out : Out} (hf : P.funcs[f]? = some fn) (hnt : fn.ntmps = n) (hrs : fn.results = rs.toArray) (h : jw P Θ n c (je Θ rs out) (St.init args)) (hΘ : yK P Θ := by exact aHh) (hb : fn.body = some c := by exact rfl) (hm : P.follows .mixedOrders = true := by kernel_rfl) (hnm : (fn.name == "runtime.NumGoroutine") = false := by kernel_rfl) (hlen : Nat.ble args.length n = true := by exact rfl) : AC P f args out := aK3 hΘ hm hf hb hnt hrs hnm hlen h
end
theorem aIg {P : Program} : yK P [] := fun t => trivial
theorem xP {P : Program} {t : Nat} {x : TI} {Θ : Tab} (h : vP P t x) (r : yK P Θ) : yK P ((t, x) :: Θ) := fun u => by
 show vP P u (bif Nat.beq t u then x else Tab.look Θ u)
 by_cases e : t = u
 · subst e; simpa using h
 · rw [xX e]; exact r u
theorem aJu {P : Program} {t b : Nat} (hu : P.underlying t = some .string) (hi : (P.info? t).map (fun i => (i.zero, i.size, i.bytes)) = some (some (.string ByteArray.empty), 1, b)) : vP P t .str := by
 obtain ⟨i, h1, h2, h3, _⟩ := info_parts hi
 exact ⟨hu, i, h1, h3, h2⟩
theorem aHE {P : Program} {t b : Nat} {k : IntKind} (hu : P.underlying t = some (.int k)) (hi : (P.info? t).map (fun i => (i.zero, i.size, i.bytes)) = some (some (.int k 0), 1, b)) : vP P t (.int k) := by
 obtain ⟨i, h1, h2, h3, _⟩ := info_parts hi
 exact ⟨hu, i, h1, h3, h2⟩
theorem aIh {P : Program} {t b : Nat} (hu : P.underlying t = some .bool) (hi : (P.info? t).map (fun i => (i.zero, i.size, i.bytes)) = some (some (.bool false), 1, b)) : vP P t .bool := by
 obtain ⟨i, h1, h2, h3, _⟩ := info_parts hi
 exact ⟨hu, i, h1, h3, h2⟩
theorem zO {P : Program} {t e b sz by_ : Nat} {zv : Value} {z : AV} (hu : P.underlying t = some (.slice e)) (hj : (P.info? t).map (fun i => (i.zero, i.size, i.bytes)) = some (some (.slice none 0 0), 1, b)) (hi : (P.info? e).map (fun i => (i.zero, i.size, i.bytes)) = some (some zv, sz, by_))
 (h0 : 0 < sz) (hz : asz z = sz) (hr : ∀ w, RD w z Fa zv.cells.toList) : vP P t (.slice e sz by_ z) := by
 obtain ⟨j, j1, j2, j3, _⟩ := info_parts hj
 obtain ⟨i, h1, h2, h3, h4⟩ := info_parts hi
 exact ⟨hu, ⟨j, j1, j3, j2⟩, i, zv, h1, h2, h3, h4, h0, hz, hr⟩
def aAt (P : Program) : Nat → List Field → List (Nat × Nat) → Bool
 | _, [], [] => true
 | n, f :: fs, (o, z) :: r => Nat.beq f.offset o && (Nat.beq o n && (Nat.blt 0 z && ((match (P.info? f.type).map (·.size) with | some q => Nat.beq q z | none => false) && aAt P (n + z) fs r)))
 | _, _, _ => false
theorem aDz {P : Program} : ∀ (fs : List Field) (r : List (Nat × Nat)) (n : Nat), aAt P n fs r = true → wJ P n fs r
 | [], [], n, _ => trivial
 | [], _ :: _, n, h => by simp [aAt] at h
 | _ :: _, [], n, h => by simp [aAt] at h
 | f :: fs, (o, z) :: r, n, h => by
  simp only [aAt, Bool.and_eq_true] at h
  obtain ⟨h1, h2, h3, h4, h5⟩ := h
  refine ⟨Nat.eq_of_beq_eq_true h1, Nat.eq_of_beq_eq_true h2, by simpa using h3, ?_, aDz fs r (n + z) h5⟩
  cases hq : (P.info? f.type).map (·.size) with
  | none => rw [hq] at h4; cases h4
  | some q => rw [hq] at h4; rw [Nat.eq_of_beq_eq_true h4]
theorem yZ {P : Program} {t b : Nat} {fs : List (Nat × Nat)} {z : List AV} {cs : Array Value} (hu : P.underlying t = some (.struct (P.fieldsOf t))) (hi : (P.info? t).map (fun i => (i.zero, i.size, i.bytes)) = some (some (.agg cs), sizes fs, b))
 (ho : aAt P 0 (P.fieldsOf t).toList fs = true) (hp : 0 < sizes fs) (hm : z.map asz = fs.map (·.2)) (hr : ∀ w, RDL w z Fa cs.toList) : vP P t (.struct fs z) := by
 obtain ⟨i, h1, h2, h3, _⟩ := info_parts hi
 exact ⟨_, i, cs, hu, aDz _ _ _ ho, h1, h3, hp, hm, h2, hr⟩
theorem yY {S : Nat → Prop} {w : World} {x : AV} {xs : List AV} {c1 c2 : List Value} (h : RA S w x c1) (r : RL S w xs c2) : RL S w (x :: xs) (c1 ++ c2) := by unfold RL; exact ⟨c1, c2, rfl, h, r⟩
theorem qR {S : Nat → Prop} {w : World} : RL S w [] [] := by unfold RL; rfl
theorem vS {S : Nat → Prop} {w : World} {x : Value} (h : x.oneCell' = true) : RA S w (.v x) [x] := by unfold RA; exact ⟨rfl, h⟩
theorem aJg {S : Nat → Prop} {w : World} {sz : Nat} (h : 0 < sz) : RA S w (.lst sz []) [.slice none 0 0] := by unfold RA; exact ⟨none, 0, rfl, Nat.le_refl _, Nat.zero_le _, by simp, h, .inl rfl⟩
theorem aEH {S : Nat → Prop} {w : World} {xs : List AV} {cs : List Value} (h : RL S w xs cs) : RA S w (.agg xs) cs := by unfold RA; exact h
theorem yO {w : World} {x : Value} (h : x.oneCell' = true) : RD w (.v x) Fa [x] := by unfold RD; exact ⟨noF, rfl, h⟩
theorem uP {w : World} {sz : Nat} (h : 0 < sz) : RD w (.lst sz []) Fa [.slice none 0 0] := by
 unfold RD
 refine ⟨_, 0, [], Fa, rfl, World.ownsRow_nil _ _ _ _, by simp, h, by unfold RDL; exact ⟨rfl, noF⟩, fun g => ⟨fun h => h.elim, fun h => ?_⟩, fun g h => ?_⟩
 · rcases h with h | h
   · simp [Value.ownBlock] at h
   · exact h
 · simp [Value.ownBlock] at h
theorem ug {w : World} {xs : List AV} {cs : List Value} (h : RDL w xs Fa cs) : RD w (.agg xs) Fa cs := by unfold RD; exact h
theorem zN {w : World} : RDL w [] Fa [] := by unfold RDL; exact ⟨rfl, noF⟩
theorem xD {w : World} {x : AV} {xs : List AV} {c1 c2 : List Value} (h : RD w x Fa c1) (r : RDL w xs Fa c2) : RDL w (x :: xs) Fa (c1 ++ c2) := by unfold RDL; exact ⟨c1, c2, Fa, Fa, rfl, Split.l0 noF, h, r⟩
theorem aC4 {w : World} {x : AV} {u : Value} (h : RD w x Fa [u]) : ∀ m, RDL w (List.replicate m x) Fa (List.replicate m u)
 | 0 => zN
 | m + 1 => by simp only [List.replicate_succ]; exact xD (c1 := [u]) h (aC4 h m)
theorem aHD {P : Program} {t b e m sz be : Nat} {z : AV} {cs : Array Value} {ze : Option Value} (hu : P.underlying t = some (.array m e)) (hi : (P.info? t).map (fun i => (i.zero, i.size, i.bytes)) = some (some (.agg cs), m * sz, b)) (he : (P.info? e).map (fun i => (i.zero, i.size, i.bytes)) = some (ze, sz, be))
 (hm : 0 < m) (h0 : 0 < sz) (hz : asz z = sz) (hr : ∀ w, RDL w (List.replicate m z) Fa cs.toList) : vP P t (.arr e m sz z) := by
 obtain ⟨i, h1, h2, h3, _⟩ := info_parts hi
 refine ⟨hu, ⟨i, cs, h1, h3, h2, hr⟩, hm, h0, hz, ?_⟩
 cases hj : P.info? e with
 | none => rw [hj] at he; simp at he
 | some j => rw [hj] at he; simp at he; exact ⟨j, rfl, he.2.1⟩
abbrev zS : AV := .v (.string ByteArray.empty)
abbrev zI : AV := .v (.int .i64 0)
abbrev zB : AV := .v (.bool false)
def Th : Tab := [(9, .str), (3, .int .i64), (4, .bool), (5, .int .u8),
 (44, .slice 9 1 16 zS),
 (157, .slice 5 1 1 (.v (.int .u8 0))),
 (89, .struct [(0, 1), (1, 1)] [zS, zI]), (26, .slice 89 2 24 (.agg [zS, zI])),
 (86, .struct [(0, 1), (1, 1)] [zS, zI]), (22, .slice 86 2 24 (.agg [zS, zI])),
 (102, .struct [(0, 1), (1, 1), (2, 1)] [zS, zI, zB]), (37, .slice 102 3 32 (.agg [zS, zI, zB])),
 (99, .struct [(0, 1), (1, 1), (2, 1)] [zS, zI, zB]), (34, .slice 99 3 32 (.agg [zS, zI, zB])),
 (140, .slice 89 2 24 (.agg [zS, zI])),
 (158, .slice 102 3 32 (.agg [zS, zI, zB])),
 (120, .slice 3 1 8 zI),
 (122, .struct [(0, 1), (1, 1)] [.lst 1 [], .lst 2 []]), (61, .slice 122 2 48 (.agg [.lst 1 [], .lst 2 []])),
 (168, .struct [(0, 1), (1, 1)] [.lst 1 [], .lst 2 []]), (54, .slice 168 2 48 (.agg [.lst 1 [], .lst 2 []])),
 (125, .struct [(0, 1), (1, 1), (2, 1), (3, 1)] [zS, zI, zI, zB]), (62, .slice 125 4 40 (.agg [zS, zI, zI, zB])),
 (170, .struct [(0, 1), (1, 1), (2, 1), (3, 1)] [zS, zI, zI, zB]), (55, .slice 170 4 40 (.agg [zS, zI, zI, zB])),
 (64, .struct [(0, 1), (1, 1)] [.lst 2 [], .lst 4 []]),
 (57, .struct [(0, 1), (1, 1)] [.lst 2 [], .lst 4 []]),
 (78, .struct [(0, 1), (1, 1), (2, 1), (3, 1), (4, 1)] [zI, zI, zS, zS, .lst 3 []]),
 (72, .struct [(0, 1), (1, 1), (2, 1), (3, 1), (4, 1)] [zI, zI, zS, zS, .lst 3 []]),
 (50, .struct [(0, 1), (1, 1), (2, 1), (3, 1), (4, 1)] [zI, zI, zI, .lst 1 [], .lst 2 []]),
 (46, .struct [(0, 1), (1, 1), (2, 1), (3, 1), (4, 1)] [zI, zI, zI, .lst 1 [], .lst 2 []]),
 (80, .struct [(0, 1), (1, 1), (2, 1), (3, 5), (8, 5)] [zI, zI, zI, .agg [zI, zI, zS, zS, .lst 3 []], .agg [zI, zI, zI, .lst 1 [], .lst 2 []]]),
 (74, .struct [(0, 1), (1, 1), (2, 1), (3, 5), (8, 5)] [zI, zI, zI, .agg [zI, zI, zS, zS, .lst 3 []], .agg [zI, zI, zI, .lst 1 [], .lst 2 []]]),
 (188, .arr 9 19 1 zS),
 (179, .arr 9 7 1 zS),
 ]
theorem aHh : yK Tryd.prog Th := by
 unfold Th
 have e2 : ∀ w, RDL w [zS, zI] Fa [.string ByteArray.empty, .int .i64 0] := fun w => xD (c1 := [_]) (yO rfl) (xD (c1 := [_]) (yO rfl) zN)
 have e3 : ∀ w, RDL w [zS, zI, zB] Fa [.string ByteArray.empty, .int .i64 0, .bool false] := fun w => xD (c1 := [_]) (yO rfl) (xD (c1 := [_]) (yO rfl) (xD (c1 := [_]) (yO rfl) zN))
 have e4 : ∀ w, RDL w [zS, zI, zI, zB] Fa [.string ByteArray.empty, .int .i64 0, .int .i64 0, .bool false] := fun w => xD (c1 := [_]) (yO rfl) (xD (c1 := [_]) (yO rfl) (xD (c1 := [_]) (yO rfl) (xD (c1 := [_]) (yO rfl) zN)))
 have eC : ∀ w, RDL w [.lst 1 [], .lst 2 []] Fa [.slice none 0 0, .slice none 0 0] := fun w => xD (c1 := [_]) (uP (by omega)) (xD (c1 := [_]) (uP (by omega)) zN)
 have eN : ∀ w, RDL w [zI, .lst 1 []] Fa [.int .i64 0, .slice none 0 0] := fun w => xD (c1 := [_]) (yO rfl) (xD (c1 := [_]) (uP (by omega)) zN)
 have eV : ∀ w, RDL w [zI, zI, zB] Fa [.int .i64 0, .int .i64 0, .bool false] := fun w => xD (c1 := [_]) (yO rfl) (xD (c1 := [_]) (yO rfl) (xD (c1 := [_]) (yO rfl) zN))
 have eW : ∀ w, RDL w [zS, zI, .lst 3 []] Fa [.string ByteArray.empty, .int .i64 0, .slice none 0 0] := fun w => xD (c1 := [_]) (yO rfl) (xD (c1 := [_]) (yO rfl) (xD (c1 := [_]) (uP (by omega)) zN))
 have eB : ∀ w, RDL w [.lst 2 [], .lst 4 []] Fa [.slice none 0 0, .slice none 0 0] := fun w => xD (c1 := [_]) (uP (by omega)) (xD (c1 := [_]) (uP (by omega)) zN)
 have eO : ∀ w, RDL w [zI, zI, zS, zS, .lst 3 []] Fa [.int .i64 0, .int .i64 0, .string ByteArray.empty, .string ByteArray.empty, .slice none 0 0] := fun w => xD (c1 := [_]) (yO rfl) (xD (c1 := [_]) (yO rfl) (xD (c1 := [_]) (yO rfl) (xD (c1 := [_]) (yO rfl) (xD (c1 := [_]) (uP (by omega)) zN))))
 have eR : ∀ w, RDL w [zI, zI, zI, .lst 1 [], .lst 2 []] Fa [.int .i64 0, .int .i64 0, .int .i64 0, .slice none 0 0, .slice none 0 0] := fun w => xD (c1 := [_]) (yO rfl) (xD (c1 := [_]) (yO rfl) (xD (c1 := [_]) (yO rfl) (xD (c1 := [_]) (uP (by omega)) (xD (c1 := [_]) (uP (by omega)) zN))))
 have eH : ∀ w, RDL w [zI, zS, zS, zS, .lst 3 []] Fa [.int .i64 0, .string ByteArray.empty, .string ByteArray.empty, .string ByteArray.empty, .slice none 0 0] := fun w => xD (c1 := [_]) (yO rfl) (xD (c1 := [_]) (yO rfl) (xD (c1 := [_]) (yO rfl) (xD (c1 := [_]) (yO rfl) (xD (c1 := [_]) (uP (by omega)) (zN)))))
 have eK : ∀ w, RDL w [.lst 5 [], zI, zI, zI, zI, zI, zI, zI, .lst 2 []] Fa [.slice none 0 0, .int .i64 0, .int .i64 0, .int .i64 0, .int .i64 0, .int .i64 0, .int .i64 0, .int .i64 0, .slice none 0 0] := fun w => xD (c1 := [_]) (uP (by omega)) (xD (c1 := [_]) (yO rfl) (xD (c1 := [_]) (yO rfl) (xD (c1 := [_]) (yO rfl) (xD (c1 := [_]) (yO rfl) (xD (c1 := [_]) (yO rfl) (xD (c1 := [_]) (yO rfl) (xD (c1 := [_]) (yO rfl) (xD (c1 := [_]) (uP (by omega)) (zN)))))))))
 have eM : ∀ w, RDL w [zI, zI, zI, .agg [zI, zI, zS, zS, .lst 3 []], .agg [zI, zI, zI, .lst 1 [], .lst 2 []]] Fa [.int .i64 0, .int .i64 0, .int .i64 0, .int .i64 0, .int .i64 0, .string ByteArray.empty, .string ByteArray.empty, .slice none 0 0, .int .i64 0, .int .i64 0, .int .i64 0, .slice none 0 0, .slice none 0 0] := fun w => xD (c1 := [_]) (yO rfl) (xD (c1 := [_]) (yO rfl) (xD (c1 := [_]) (yO rfl) (xD (c1 := [_, _, _, _, _]) (ug (eO w)) (xD (c1 := [_, _, _, _, _]) (ug (eR w)) zN))))
 have eG : ∀ w, RDL w [.lst 1 [], zI, zI] Fa [.slice none 0 0, .int .i64 0, .int .i64 0] := fun w => xD (c1 := [_]) (uP (by omega)) (xD (c1 := [_]) (yO rfl) (xD (c1 := [_]) (yO rfl) zN))
 refine xP (aJu (b := 16) (by kernel_rfl) (by kernel_rfl)) (xP (aHE (b := 8) (by kernel_rfl) (by kernel_rfl)) (xP (aIh (b := 1) (by kernel_rfl) (by kernel_rfl)) (xP (aHE (b := 1) (by kernel_rfl) (by kernel_rfl)) ?_)))
 refine xP (zO (b := 24) (zv := .string ByteArray.empty) (by kernel_rfl) (by kernel_rfl) (by kernel_rfl) (by omega) rfl (fun w => yO rfl)) ?_
 refine xP (zO (b := 24) (zv := .int .u8 0) (by kernel_rfl) (by kernel_rfl) (by kernel_rfl) (by omega) rfl (fun w => yO rfl)) ?_
 refine xP (yZ (b := 24) (cs := #[.string ByteArray.empty, .int .i64 0]) (by kernel_rfl) (by kernel_rfl) (by kernel_rfl) (by decide) rfl e2) (xP (zO (b := 24) (zv := .agg #[.string ByteArray.empty, .int .i64 0]) (by kernel_rfl) (by kernel_rfl) (by kernel_rfl) (by omega) rfl (fun w => ug (e2 w))) ?_)
 refine xP (yZ (b := 24) (cs := #[.string ByteArray.empty, .int .i64 0]) (by kernel_rfl) (by kernel_rfl) (by kernel_rfl) (by decide) rfl e2) (xP (zO (b := 24) (zv := .agg #[.string ByteArray.empty, .int .i64 0]) (by kernel_rfl) (by kernel_rfl) (by kernel_rfl) (by omega) rfl (fun w => ug (e2 w))) ?_)
 refine xP (yZ (b := 32) (cs := #[.string ByteArray.empty, .int .i64 0, .bool false]) (by kernel_rfl) (by kernel_rfl) (by kernel_rfl) (by decide) rfl e3) (xP (zO (b := 24) (zv := .agg #[.string ByteArray.empty, .int .i64 0, .bool false]) (by kernel_rfl) (by kernel_rfl) (by kernel_rfl) (by omega) rfl (fun w => ug (e3 w))) ?_)
 refine xP (yZ (b := 32) (cs := #[.string ByteArray.empty, .int .i64 0, .bool false]) (by kernel_rfl) (by kernel_rfl) (by kernel_rfl) (by decide) rfl e3) (xP (zO (b := 24) (zv := .agg #[.string ByteArray.empty, .int .i64 0, .bool false]) (by kernel_rfl) (by kernel_rfl) (by kernel_rfl) (by omega) rfl (fun w => ug (e3 w))) ?_)
 refine xP (zO (b := 24) (zv := .agg #[.string ByteArray.empty, .int .i64 0]) (by kernel_rfl) (by kernel_rfl) (by kernel_rfl) (by omega) rfl (fun w => ug (e2 w))) ?_
 refine xP (zO (b := 24) (zv := .agg #[.string ByteArray.empty, .int .i64 0, .bool false]) (by kernel_rfl) (by kernel_rfl) (by kernel_rfl) (by omega) rfl (fun w => ug (e3 w))) ?_
 refine xP (zO (b := 24) (zv := .int .i64 0) (by kernel_rfl) (by kernel_rfl) (by kernel_rfl) (by omega) rfl (fun w => yO rfl)) ?_
 refine xP (yZ (b := 48) (cs := #[.slice none 0 0, .slice none 0 0]) (by kernel_rfl) (by kernel_rfl) (by kernel_rfl) (by decide) rfl eC) (xP (zO (b := 24) (zv := .agg #[.slice none 0 0, .slice none 0 0]) (by kernel_rfl) (by kernel_rfl) (by kernel_rfl) (by omega) rfl (fun w => ug (eC w))) ?_)
 refine xP (yZ (b := 48) (cs := #[.slice none 0 0, .slice none 0 0]) (by kernel_rfl) (by kernel_rfl) (by kernel_rfl) (by decide) rfl eC) (xP (zO (b := 24) (zv := .agg #[.slice none 0 0, .slice none 0 0]) (by kernel_rfl) (by kernel_rfl) (by kernel_rfl) (by omega) rfl (fun w => ug (eC w))) ?_)
 refine xP (yZ (b := 40) (cs := #[.string ByteArray.empty, .int .i64 0, .int .i64 0, .bool false]) (by kernel_rfl) (by kernel_rfl) (by kernel_rfl) (by decide) rfl e4) (xP (zO (b := 24) (zv := .agg #[.string ByteArray.empty, .int .i64 0, .int .i64 0, .bool false]) (by kernel_rfl) (by kernel_rfl) (by kernel_rfl) (by omega) rfl (fun w => ug (e4 w))) ?_)
 refine xP (yZ (b := 40) (cs := #[.string ByteArray.empty, .int .i64 0, .int .i64 0, .bool false]) (by kernel_rfl) (by kernel_rfl) (by kernel_rfl) (by decide) rfl e4) (xP (zO (b := 24) (zv := .agg #[.string ByteArray.empty, .int .i64 0, .int .i64 0, .bool false]) (by kernel_rfl) (by kernel_rfl) (by kernel_rfl) (by omega) rfl (fun w => ug (e4 w))) ?_)
 refine xP (yZ (b := 48) (cs := #[.slice none 0 0, .slice none 0 0]) (by kernel_rfl) (by kernel_rfl) (by kernel_rfl) (by decide) rfl eB) ?_
 refine xP (yZ (b := 48) (cs := #[.slice none 0 0, .slice none 0 0]) (by kernel_rfl) (by kernel_rfl) (by kernel_rfl) (by decide) rfl eB) ?_
 refine xP (yZ (b := 72) (cs := #[.int .i64 0, .int .i64 0, .string ByteArray.empty, .string ByteArray.empty, .slice none 0 0]) (by kernel_rfl) (by kernel_rfl) (by kernel_rfl) (by decide) rfl eO) ?_
 refine xP (yZ (b := 72) (cs := #[.int .i64 0, .int .i64 0, .string ByteArray.empty, .string ByteArray.empty, .slice none 0 0]) (by kernel_rfl) (by kernel_rfl) (by kernel_rfl) (by decide) rfl eO) ?_
 refine xP (yZ (b := 72) (cs := #[.int .i64 0, .int .i64 0, .int .i64 0, .slice none 0 0, .slice none 0 0]) (by kernel_rfl) (by kernel_rfl) (by kernel_rfl) (by decide) rfl eR) ?_
 refine xP (yZ (b := 72) (cs := #[.int .i64 0, .int .i64 0, .int .i64 0, .slice none 0 0, .slice none 0 0]) (by kernel_rfl) (by kernel_rfl) (by kernel_rfl) (by decide) rfl eR) ?_
 refine xP (yZ (b := 168) (cs := #[.int .i64 0, .int .i64 0, .int .i64 0, .int .i64 0, .int .i64 0, .string ByteArray.empty, .string ByteArray.empty, .slice none 0 0, .int .i64 0, .int .i64 0, .int .i64 0, .slice none 0 0, .slice none 0 0]) (by kernel_rfl) (by kernel_rfl) (by kernel_rfl) (by decide) rfl eM) ?_
 refine xP (yZ (b := 168) (cs := #[.int .i64 0, .int .i64 0, .int .i64 0, .int .i64 0, .int .i64 0, .string ByteArray.empty, .string ByteArray.empty, .slice none 0 0, .int .i64 0, .int .i64 0, .int .i64 0, .slice none 0 0, .slice none 0 0]) (by kernel_rfl) (by kernel_rfl) (by kernel_rfl) (by decide) rfl eM) ?_
 refine xP (aHD (b := 304) (be := 16) (ze := some (.string ByteArray.empty)) (cs := (List.replicate 19 (.string ByteArray.empty)).toArray) (by kernel_rfl) (by kernel_rfl) (by kernel_rfl) (by omega) (by omega) rfl (fun w => aC4 (yO rfl) 19)) ?_
 refine xP (aHD (b := 112) (be := 16) (ze := some (.string ByteArray.empty)) (cs := (List.replicate 7 (.string ByteArray.empty)).toArray) (by kernel_rfl) (by kernel_rfl) (by kernel_rfl) (by omega) (by omega) rfl (fun w => aC4 (yO rfl) 7)) ?_
 exact aIg
end Go.Proofs.YtodckioppgjbdaaDoor.AM
