/- Texts of the machine over data, folded. -/
import Derived.Test.YtodckioppgjbdaaGreatDoorKc4
set_option linter.unusedVariables false
set_option linter.unusedSimpArgs false
namespace Go.Proofs.YtodckioppgjbdaaGreatDoor.AM
open Go Go.RowKit
section
variable {P : Program} {Θ : Tab} {n : Nat} {Q : AEx → St → Prop} {s : St}
theorem aGs {a b : Code} (h : xM P Θ n a (AEx.then (xM P Θ n b Q) Q) s) : xM P Θ n (.seq a b) Q s := .inl h
theorem aF3 (h : Q .normal s) : xM P Θ n .skip Q s := h
theorem aGq {id : Nat} {l : List Oper} (h : xR P Θ n l.toArray false 0 l s (Q .normal)) : xM P Θ n (.region id l.toArray false) Q s := .inl ⟨(fun e => by cases e), h⟩
theorem aF1 {id : Nat} {l : List Oper} (hB : Region.lexB .any l.toArray = true) (h : xR P Θ n l.toArray true 0 l s (Q .normal)) : xM P Θ n (.region id l.toArray true) Q s := .inl ⟨fun _ => hB, h⟩
theorem aCu {c : Operand} {x y : Code} (hc : s.ev c = .v (.bool true)) (h : xM P Θ n x Q s) : xM P Θ n (.cond c x y) Q s := ⟨true, hc, h⟩
theorem aCt {c : Operand} {x y : Code} (hc : s.ev c = .v (.bool false)) (h : xM P Θ n y Q s) : xM P Θ n (.cond c x y) Q s := ⟨false, hc, h⟩
theorem aDy {id : Nat} {c : Code} (h : xM P Θ n c (AEx.inBlock id Q) s) : xM P Θ n (.block id c) Q s := h
theorem aHv {c : Code} {ι : Type} (I : ι → InvM) (μ : ι → Nat) (i0 : ι) (h0 : s.leM (I i0)) (h : ∀ i, xM P Θ n c (AEx.then (fun s' => ∃ j, s'.leM (I j) ∧ μ j < μ i) Q) (I i).st) : xM P Θ n (.loop c) Q s := ⟨ι, I, μ, ⟨i0, h0⟩, h⟩
theorem aF2 {id : Nat} (h : Q (.exit id) s) : xM P Θ n (.exit id) Q s := h
theorem aGr (h : Q .ret s) : xM P Θ n .ret Q s := h
theorem aBa {K : St → Prop} (h : K s) : AEx.then K Q .normal s := h
theorem aEQ {K : St → Prop} {id : Nat} (h : Q (.exit id) s) : AEx.then K Q (.exit id) s := h
theorem aEP {K : St → Prop} (h : Q .ret s) : AEx.then K Q .ret s := h
theorem aFz {id : Nat} (h : Q .normal s) : AEx.inBlock id Q .normal s := h
theorem aGB {id : Nat} (h : Q .ret s) : AEx.inBlock id Q .ret s := h
theorem aGC {id : Nat} (h : Q .normal s) : AEx.inBlock id Q (.exit id) s := by show (bif Nat.beq id id then _ else _); simpa using h
theorem aGA {id j : Nat} (hj : Nat.beq j id = false) (h : Q (.exit j) s) : AEx.inBlock id Q (.exit j) s := by show (bif Nat.beq j id then _ else _); rw [hj]; exact h
theorem aHE {rs : List ResultVar} {out : Out} (h : Ret Θ rs [] out s) : kE Θ rs out .ret s := h
theorem aGD {rs : List ResultVar} {out : Out} (h : Ret Θ rs [] out s) : kE Θ rs out .normal s := h
variable {ops : Array Oper} {draw : Bool} {k : Nat} {o : Oper} {r : List Oper} {K : St → Prop}
theorem aEr (h : K s) : xR P Θ n ops draw k [] s K := h
theorem jD {e : Eff} (hg : xq ops s o = some true) (hin : inN n o.dst = true) (hp : Pre P Θ o s e) (hu : draw = true → e.upd = none ∨ tied ops k = true ∨ vU Θ ops (fun j => Nat.blt j k) k s e) (h : xR P Θ n ops draw (k + 1) r (s.app o.dst e) K) : xR P Θ n ops draw k (o :: r) s K := by
 unfold xR; rw [hg]; exact ⟨hin, e, hp, hu, .inl h⟩
theorem zH {d : Option Tmp} {op : Op} {ty : TypeId} {pos : String} {after : Array Edge} {g : Option (Nat × Bool)} {v : AV} (hp : Pre P Θ ⟨d, op, ty, pos, after, g⟩ s ⟨v, none⟩) (hg : xq ops s ⟨d, op, ty, pos, after, g⟩ = some true) (hin : inN n d = true) (h : xR P Θ n ops draw (k + 1) r (s.put d v) K) : xR P Θ n ops draw k (⟨d, op, ty, pos, after, g⟩ :: r) s K :=
 jD hg hin hp (fun _ => .inl rfl) h
theorem aDT (hg : xq ops s o = some false) (hin : inN n o.dst = true) (h : xR P Θ n ops draw (k + 1) r (s.put o.dst (.tup [])) K) : xR P Θ n ops draw k (o :: r) s K := by
 unfold xR; rw [hg]; exact ⟨hin, h⟩
variable {d : Option Tmp} {ty : TypeId} {pos : String} {after : Array Edge} {g : Option (Nat × Bool)}
theorem aAT {t : Nat} {y : AV} (h : s.sl t = y) : Pre P Θ ⟨d, .move (.tmp t), ty, pos, after, g⟩ s ⟨y, none⟩ := ⟨(fun c e => by cases e), .inl (by rw [← h]; rfl)⟩
theorem aEs {t : Nat} {y : AV} (h : s.sl t = y) : Pre P Θ ⟨d, .assign (.tmp t), ty, pos, after, g⟩ s ⟨y, none⟩ := ⟨(fun c e => by cases e), .inl (by rw [← h]; rfl)⟩
theorem aCh {c : Value} (h : c.oneCell' = true) : Pre P Θ ⟨d, .assign (.const c), ty, pos, after, g⟩ s ⟨.v c, none⟩ := ⟨(fun c' e => by cases e; exact h), .inl rfl⟩
theorem aIn {c : Value} (h : c.oneCell' = true) : Pre P Θ ⟨d, .move (.const c), ty, pos, after, g⟩ s ⟨.v c, none⟩ := ⟨(fun c' e => by cases e; exact h), .inl rfl⟩
theorem xA {op : BinOp} {t t2 : TypeId} {x y : Operand} {a b r : Value} (h : yg P op t x y a b r) (hx : s.ev x = .v a) (hy : s.ev y = .v b) (h1 : r.oneCell' = true) : Pre P Θ ⟨d, .binOp op t x y t2, ty, pos, after, g⟩ s ⟨.v r, none⟩ :=
 .inl ⟨a, b, r, by rw [hx]; rfl, by rw [hy]; rfl, h, h1, rfl⟩
theorem aEu {t : TypeId} {x : Operand} {b : Bool} (hx : s.ev x = .v (.bool b)) : Pre P Θ ⟨d, .unOp .not t x, ty, pos, after, g⟩ s ⟨.v (.bool (!b)), none⟩ :=
 ⟨.bool b, .bool (!b), by rw [hx]; rfl, fun w => rfl, rfl, rfl⟩
def cOK : Operand → Bool
 | .const c => c.oneCell'
 | _ => true
theorem vX {x : Operand} (h : cOK x = true) : ∀ c, x = .const c → c.oneCell' = true := fun c e => by subst e; exact h
def vY : List Operand → Bool
 | [] => true
 | x :: r => cOK x && vY r
theorem uQ : ∀ {xs : List Operand}, vY xs = true → ∀ x ∈ xs, ∀ c, x = .const c → c.oneCell' = true
 | [], _, x, hx => by simp at hx
 | y :: ys, h, x, hx => by
  simp only [vY, Bool.and_eq_true] at h
  rcases List.mem_cons.1 hx with rfl | hx
  · exact vX h.1
  · exact uQ h.2 x hx
theorem aB9 {c x y : Operand} {t : Bool} {z : AV} (hc : s.ev c = .v (.bool t)) (hz : (bif t then s.ev x else s.ev y) = z) (hx : cOK x = true) (hy : cOK y = true) : Pre P Θ ⟨d, .pick c x y, ty, pos, after, g⟩ s ⟨z, none⟩ :=
 ⟨vX hx, vX hy, t, hc, by rw [hz]⟩
theorem aB8 {x : Operand} {t : TypeId} {m : Nat} {y : AV} (hx : s.ev x = y) (hl : wS s y = some m) (hok : aB2 Θ t y) : Pre P Θ ⟨d, .call ⟨.builtin .len, #[x], #[t]⟩, ty, pos, after, g⟩ s ⟨.v (.int .i64 (m : Int)), none⟩ :=
 ⟨x, t, m, rfl, rfl, by rw [hx]; exact hl, by rw [hx]; exact hok, rfl⟩
theorem aDX {α : Type} {xs : List α} {f : α → AV} {sz : Nat} {x : Operand} {t : TypeId} (hx : s.ev x = .lst sz (xs.map f)) (hok : ∃ e sz b z, Θ.look t = .slice e sz b z) : Pre P Θ ⟨d, .call ⟨.builtin .len, #[x], #[t]⟩, ty, pos, after, g⟩ s ⟨.v (.int .i64 (xs.length : Int)), none⟩ :=
 ⟨x, t, xs.length, rfl, rfl, by rw [hx]; simp [wS], by rw [hx]; exact hok, rfl⟩
theorem aEO {α : Type} {xs : List α} {f : α → AV} {l sz e : Nat} {x : Operand} {t : TypeId} (hx : s.ev x = .own l) (ho : s.hp l = some ⟨e, sz, xs.map f⟩) (hok : ∃ e sz b z, Θ.look t = .slice e sz b z) : Pre P Θ ⟨d, .call ⟨.builtin .len, #[x], #[t]⟩, ty, pos, after, g⟩ s ⟨.v (.int .i64 (xs.length : Int)), none⟩ :=
 ⟨x, t, xs.length, rfl, rfl, by rw [hx]; simp [wS, ho], by rw [hx]; exact hok, rfl⟩
theorem aGz {t1 t2 : TypeId} {x : Operand} {q : AV} {r : Value} (h : aCb P t1 t2 q r) (hx : s.dat (s.ev x) = q) (hok : zD s [s.ev x] = true) (hc : cOK x = true) (h1 : r.oneCell' = true) : Pre P Θ ⟨d, .convert t1 t2 x, ty, pos, after, g⟩ s ⟨.v r, none⟩ :=
 .inr ⟨r, vX hc, hok, hx ▸ h, h1, rfl⟩
theorem aIm {t1 t2 : TypeId} {x : Operand} {a r : Value} (hr : ∀ w, (convert t1 t2 a).run P w = .ok r w) (hx : s.ev x = .v a) (h1 : r.oneCell' = true) : Pre P Θ ⟨d, .convert t1 t2 x, ty, pos, after, g⟩ s ⟨.v r, none⟩ :=
 .inl ⟨a, r, by rw [hx]; rfl, hr, h1, rfl⟩
theorem aHC {t el sz b : Nat} {z : AV} {x ix : Operand} {k : IntKind} {j : Nat} {xs : List AV} {y : AV} (hy : xs[j]? = some y) (ht : Θ.look t = .slice el sz b z) (hx : s.ev x = .lst sz xs) (hi : s.ev ix = .v (.int k ((j : Nat) : Int))) : Pre P Θ ⟨d, .indexAddr t x ix, ty, pos, after, g⟩ s ⟨.ptr y, none⟩ :=
 ⟨k, j, hi, .inl ⟨el, sz, b, z, ht, .inl ⟨xs, y, hx, hy, rfl⟩⟩⟩
theorem wz {t el sz b : Nat} {z : AV} {x ix : Operand} {k : IntKind} {j l : Nat} {ob : OB} (hj : j < ob.xs.length) (ht : Θ.look t = .slice el sz b z) (hx : s.ev x = .own l) (hi : s.ev ix = .v (.int k ((j : Nat) : Int))) (ho : s.hp l = some ob) (hs : ob.sz = sz) : Pre P Θ ⟨d, .indexAddr t x ix, ty, pos, after, g⟩ s ⟨.optr l j [] 0, none⟩ :=
 ⟨k, j, hi, .inl ⟨el, sz, b, z, ht, .inr ⟨l, ob, hx, ho, hs, hj, rfl⟩⟩⟩
theorem kV {t el m sz : Nat} {z : AV} {x ix : Operand} {k : IntKind} {j : Nat} {xs : List AV} {y : AV} (hy : xs[j]? = some y) (hj : j < m) (ht : Θ.look t = .arr el m sz z) (hx : s.ev x = .ptr (.agg xs)) (hi : s.ev ix = .v (.int k ((j : Nat) : Int))) (ha : ∀ x ∈ xs, asz x = sz) : Pre P Θ ⟨d, .indexAddr t x ix, ty, pos, after, g⟩ s ⟨.ptr y, none⟩ :=
 ⟨k, j, hi, .inr ⟨el, m, sz, z, ht, hj, .inl ⟨xs, y, hx, hy, ha, rfl⟩⟩⟩
theorem aHB {t : TypeId} {x : Operand} {f : Nat} {fs : List (Nat × Nat)} {z ys : List AV} {o_ z_ : Nat} {y : AV} (ht : Θ.look t = .struct fs z) (hf : fs[f]? = some (o_, z_)) (hx : s.ev x = .ptr (.agg ys)) (hy : ys[f]? = some y) (hs : xB (ys.take f) = o_) : Pre P Θ ⟨d, .fieldAddr t x f, ty, pos, after, g⟩ s ⟨.ptr y, none⟩ :=
 ⟨fs, z, o_, z_, ht, hf, .inl ⟨ys, y, hx, hy, hs, rfl⟩⟩
theorem uL {t : TypeId} {x : Operand} {f : Nat} {fs : List (Nat × Nat)} {z : List AV} {o_ z_ l i c : Nat} {p : List Nat} (ht : Θ.look t = .struct fs z) (hf : fs[f]? = some (o_, z_)) (hx : s.ev x = .optr l i p c) : Pre P Θ ⟨d, .fieldAddr t x f, ty, pos, after, g⟩ s ⟨.optr l i (p ++ [f]) (c + o_), none⟩ :=
 ⟨fs, z, o_, z_, ht, hf, .inr ⟨l, i, p, c, hx, rfl⟩⟩
theorem aIR {t : TypeId} {x : Operand} {y : AV} (hx : s.ev x = .ptr y) (hk : (Θ.look t).known = true) (ha : zK y = (Θ.look t).isAgg) (hs : asz y = (Θ.look t).size) : Pre P Θ ⟨d, .load t x, ty, pos, after, g⟩ s ⟨y, none⟩ :=
 ⟨hk, .inl ⟨y, hx, ha, hs, rfl⟩⟩
theorem vO {t : TypeId} {x : Operand} {l i c : Nat} {p : List Nat} {ob : OB} {y z : AV} (hx : s.ev x = .optr l i p c) (ho : s.hp l = some ob) (hy : ob.xs[i]? = some y) (hg : xU y p 0 = some (z, c)) (hk : (Θ.look t).known = true) (ha : zK z = (Θ.look t).isAgg) (hs : asz z = (Θ.look t).size) (hop : ob.e.open_ = true := by rfl) : Pre P Θ ⟨d, .load t x, ty, pos, after, g⟩ s ⟨z, none⟩ :=
 ⟨hk, .inr ⟨l, i, p, c, ob, hx, ho, .inl ⟨y, z, .inl hop, hy, hg, ha, hs, rfl⟩⟩⟩
theorem zh {t : TypeId} {x : Operand} {l i c : Nat} {p : List Nat} {ob : OB} {t' : Option Nat} {y z x' : AV} (hx : s.ev x = .optr l i p c) (ho : s.hp l = some ob) (hop : yT ob.e ob.xs i = some (.o t' i y)) (hg : xU y p 0 = some (z, c)) (hz : ofO z = some x') (hk : (Θ.look t).known = true) (ha : zK x' = (Θ.look t).isAgg) (hs : asz x' = (Θ.look t).size) : Pre P Θ ⟨d, .load t x, ty, pos, after, g⟩ s ⟨x', none⟩ :=
 ⟨hk, .inr ⟨l, i, p, c, ob, hx, ho, .inr ⟨t', y, z, hop, hg, .inl ⟨x', hz, ha, hs, rfl⟩⟩⟩⟩
theorem aHA {x : Operand} {i : Nat} {xs : List AV} {y : AV} (hx : s.ev x = .tup xs) (hy : xs[i]? = some y) : Pre P Θ ⟨d, .extract x i, ty, pos, after, g⟩ s ⟨y, none⟩ := ⟨xs, y, hx, hy, rfl⟩
theorem jq {f : FuncId} {ags : Array Operand} {ts : Array TypeId} {t : Nat} {args : List AV} {out : Out} (hac : AC P f args out) (ha : (ags.toList.map fun x => s.dat (s.ev x)) = args) (hfl : (yF s ags.toList).isEmpty = true ∨ out.flat) (hfr : yG s (t + 1) 0 out.obs) (hok : zD s (ags.toList.map s.ev) = true) (hc : vY ags.toList = true) :
 Pre P Θ ⟨some t, .call ⟨.value (.func f), ags, ts⟩, ty, pos, after, g⟩ s ⟨ren (t + 1) out.val, vk (t + 1) out.obs⟩ :=
 ⟨f, [], [], t, out, rfl, rfl, uQ hc, .inl ⟨args, by rw [← ha]; simp [Function.comp_def], hac, hfr, by simpa using hok, .inl ⟨hfl.imp (fun h => by simpa [yF] using h) id, by simp [vk]⟩⟩⟩
theorem aEN {f : FuncId} {xs ys : List AV} {x : Operand} {ags : Array Operand} {ts : Array TypeId} {t : Nat} {args : List AV} {out : Out} (hac : AC P f args out) (hx : s.ev x = .fn f xs ys) (ha : ((xs ++ ags.toList.map s.ev ++ ys).map s.dat) = args) (hfl : (xk (xs ++ ags.toList.map s.ev ++ ys)).isEmpty = true ∨ out.flat) (hfr : yG s (t + 1) 0 out.obs) (hok : zD s (xs ++ ags.toList.map s.ev ++ ys) = true) (hc : vY ags.toList = true) :
 Pre P Θ ⟨some t, .call ⟨.value x, ags, ts⟩, ty, pos, after, g⟩ s ⟨ren (t + 1) out.val, vk (t + 1) out.obs⟩ :=
 ⟨f, xs, ys, t, out, hx, rfl, uQ hc, .inl ⟨args, ha, hac, hfr, hok, .inl ⟨hfl.imp (fun h => by simpa using h) id, rfl⟩⟩⟩
end
theorem aIT {P : Program} {Θ : Tab} {s : St} {d : Nat} {ty : TypeId} {pos : String} {after : Array Edge} {g : Option (Nat × Bool)} (el : ET) (sz : Nat) (h : 0 < sz) (hsh : el.row = true := by rfl) (hok : okL (d + 1) = true := by rfl) : Pre P Θ ⟨some d, .assign (.const (.slice none 0 0)), ty, pos, after, g⟩ s ⟨.own (d + 1), some fun s => (s.kill (d + 1)).set (d + 1) (some ⟨el, sz, []⟩)⟩ :=
 ⟨(fun c e => by cases e; rfl), .inr (.inr (.inl ⟨d, el, sz, rfl, h, hsh, hok, rfl, rfl⟩))⟩
theorem aIU {P : Program} {Θ : Tab} {s : St} {d : Nat} {ty : TypeId} {pos : String} {after : Array Edge} {g : Option (Nat × Bool)} (el : ET) (sz : Nat) (h : 0 < sz) (hsh : el.row = true := by rfl) (hok : okL (d + 1) = true := by rfl) : Pre P Θ ⟨some d, .move (.const (.slice none 0 0)), ty, pos, after, g⟩ s ⟨.own (d + 1), some fun s => (s.kill (d + 1)).set (d + 1) (some ⟨el, sz, []⟩)⟩ :=
 ⟨(fun c e => by cases e; rfl), .inr (.inr (.inl ⟨d, el, sz, rfl, h, hsh, hok, rfl, rfl⟩))⟩
theorem aIS {P : Program} {Θ : Tab} {s : St} {d : Nat} {ty : TypeId} {pos : String} {after : Array Edge} {g : Option (Nat × Bool)} {t : TypeId} {l c : Operand} {el sz b n : Nat} {z : AV} {k k' : IntKind} (hn : b * n ≤ 140737488355328) (hn' : n ≤ 9223372036854775807) (hl : s.ev l = .v (.int k (n : Int))) (hc : s.ev c = .v (.int k' (n : Int))) (hf : s.hp (d + 1) = none) (ht : Θ.look t = .slice el sz b z) (hok : okL (d + 1) = true := by rfl) :
 Pre P Θ ⟨some d, .makeSlice t l c, ty, pos, after, g⟩ s ⟨.own (d + 1), some fun s => s.set (d + 1) (some ⟨kz el z, sz, List.replicate n z⟩)⟩ := ⟨d, el, sz, b, z, n, k, k', rfl, hf, hok, ht, hl, hc, hn, hn', rfl⟩
theorem aEt {P : Program} {Θ : Tab} {s : St} {ty : TypeId} {pos : String} {after : Array Edge} {g : Option (Nat × Bool)} {t : TypeId} {x : Operand} {d : Nat} {y : AV} (hf : s.hp (d + 1) = none) (hx : s.ev x = y) (hk : (match y with | .v c => c.oneCell' | .agg _ => true | .lst _ _ => true | _ => false) = true) (hs : ((Θ.look t).known && Nat.beq (asz y) (Θ.look t).size) = true) (hok : okL (d + 1) = true := by rfl) :
 Pre P Θ ⟨some d, .box t x, ty, pos, after, g⟩ s ⟨.optr (d + 1) 0 [] 0, some fun s' => s'.set (d + 1) (some ⟨.s t, (Θ.look t).size, [y]⟩)⟩ := by
 have hd : s.dat (s.ev x) = y := by rw [hx]; cases y <;> first | rfl | simp at hk
 have ho : yK (s.ev x) = [] := by rw [hx]; cases y <;> first | rfl | simp at hk
 simp only [Bool.and_eq_true] at hs
 refine ⟨fun c e => ?_, d, rfl, hf, hok, hs.1, .inl ⟨by rw [hd]; exact Nat.eq_of_beq_eq_true hs.2, by rw [hx]; cases y <;> first | exact hk | rfl | simp at hk, by rw [ho]; rfl, ?_⟩⟩
 · subst e; simp only [St.ev] at hx; subst hx; exact hk
 · rw [hd, ho]; rfl
theorem aFr {P : Program} {Θ : Tab} {s : St} {ty : TypeId} {pos : String} {after : Array Edge} {g : Option (Nat × Bool)} {t : TypeId} {d : Nat} (hf : s.hp (d + 1) = none) (hk : (Θ.look t).known = true) (hok : okL (d + 1) = true := by rfl) :
 Pre P Θ ⟨some d, .alloc t, ty, pos, after, g⟩ s ⟨.optr (d + 1) 0 [] 0, some fun s => s.set (d + 1) (some ⟨kz t (Θ.look t).zero, (Θ.look t).size, [(Θ.look t).zero]⟩)⟩ := ⟨d, rfl, hf, hok, hk, rfl⟩
theorem aAv {P : Program} {Θ : Tab} {s : St} {d : Option Tmp} {ty : TypeId} {pos : String} {after : Array Edge} {g : Option (Nat × Bool)} {t : TypeId} {x y : Operand} {l i c : Nat} {p : List Nat} {ob : OB} {q z v : AV} (hq : ob.xs[i]? = some q) (hx : s.ev x = .optr l i p c) (ho : s.hp l = some ob) (hg : xU q p 0 = some (z, c)) (hs : ((Θ.look t).known && (Nat.beq (asz z) (Θ.look t).size && Nat.beq (asz v) (asz z))) = true) (hy : s.ev y = v) (hv : (match v with | .v c => c.oneCell' | .agg _ => true | .lst _ _ => true | .ptr _ => true | _ => false) = true) (hop : ob.e.open_ = true := by rfl) :
 Pre P Θ ⟨d, .store t x y, ty, pos, after, g⟩ s ⟨.any, some fun s' => s'.set l (some ⟨.s (ob.e.typ.getD 0), ob.sz, ob.xs.set i (zm q p v)⟩)⟩ := by
 simp only [Bool.and_eq_true] at hs
 have hd : s.dat (s.ev y) = v := by rw [hy]; cases v <;> first | rfl | cases hv
 have hown : yK (s.ev y) = [] := by rw [hy]; cases v <;> first | rfl | cases hv
 have hda : xE s (s.ev y) = true := by rw [hy]; cases v <;> first | exact hv | rfl | cases hv
 obtain ⟨t0, he⟩ : ∃ t0, ob.e = .s t0 ∨ ob.e = .z t0 := by
  cases h : ob.e with
  | s t0 => exact ⟨t0, .inl rfl⟩
  | z t0 => exact ⟨t0, .inr rfl⟩
  | _ => rw [h] at hop; cases hop
 have ht : ob.e.typ.getD 0 = t0 := by rcases he with he | he <;> rw [he] <;> rfl
 refine ⟨fun c e => ?_, hs.1, l, i, p, c, ob, hx, ho, .inl ⟨t0, q, z, he, hq, hg, Nat.eq_of_beq_eq_true hs.2.1, by rw [hd]; exact Nat.eq_of_beq_eq_true hs.2.2, hda, by rw [hown]; rfl, by rw [hown]; rfl, ?_⟩⟩
 · subst e; simp only [St.ev] at hy; subst hy; exact hv
 · rw [hd, hown, ht]; rfl
theorem zQ {P : Program} {Θ : Tab} {s : St} {d : Option Tmp} {ty : TypeId} {pos : String} {after : Array Edge} {g : Option (Nat × Bool)} {t : TypeId} {x y : Operand} {l i c : Nat} {p : List Nat} {ob : OB} {t' : Option Nat} {q z y' : AV} (hx : s.ev x = .optr l i p c) (ho : s.hp l = some ob) (hop : yT ob.e ob.xs i = some (.o t' i q)) (hg : xU q p 0 = some (z, c)) (hy : toO (s.ev y) = some y') (hs : ((Θ.look t).known && (Nat.beq (asz z) (Θ.look t).size && Nat.beq (asz y') (asz z))) = true) (hc : cOK y = true := by rfl) :
 Pre P Θ ⟨d, .store t x y, ty, pos, after, g⟩ s ⟨.any, some fun s' => s'.set l (some ⟨.o t' i (setM q p y'), ob.sz, ob.xs⟩)⟩ := by
 simp only [Bool.and_eq_true] at hs
 exact ⟨vX hc, hs.1, l, i, p, c, ob, hx, ho, .inr (.inl ⟨t', q, z, y', hop, hg, Nat.eq_of_beq_eq_true hs.2.1, hy, Nat.eq_of_beq_eq_true hs.2.2, rfl⟩)⟩
theorem aGZ {α : Type} (f : α → AV) {es : List α} {k : Nat} (h : k < es.length) : (es.map f)[k]? = some (f es[k]) := by simp [h]
section
variable {P : Program} {t : TypeId} {x y : Operand} {k : IntKind} {a b : Int}
theorem aF0 (h : a < b) : yg P .lss t x y (.int k a) (.int k b) (.bool true) := fun w => by simp [eqGuard, binOp, Op.intCmp, h]
theorem aFZ (h : ¬ a < b) : yg P .lss t x y (.int k a) (.int k b) (.bool false) := fun w => by simp [eqGuard, binOp, Op.intCmp]; omega
theorem aFY (h : a ≤ b) : yg P .leq t x y (.int k a) (.int k b) (.bool true) := fun w => by simp [eqGuard, binOp, Op.intCmp, h]
theorem aFX (h : ¬ a ≤ b) : yg P .leq t x y (.int k a) (.int k b) (.bool false) := fun w => by simp [eqGuard, binOp, Op.intCmp]; omega
theorem aCr (h : a > b) : yg P .gtr t x y (.int k a) (.int k b) (.bool true) := fun w => by simp [eqGuard, binOp, Op.intCmp]; omega
theorem aCq (h : ¬ a > b) : yg P .gtr t x y (.int k a) (.int k b) (.bool false) := fun w => by simp [eqGuard, binOp, Op.intCmp]; omega
theorem aFW (h : a ≥ b) : yg P .geq t x y (.int k a) (.int k b) (.bool true) := fun w => by simp [eqGuard, binOp, Op.intCmp]; omega
theorem aFV (h : ¬ a ≥ b) : yg P .geq t x y (.int k a) (.int k b) (.bool false) := fun w => by simp [eqGuard, binOp, Op.intCmp]; omega
theorem aBG (h : a = b) : yg P .eql t x y (.int k a) (.int k b) (.bool true) := fun w => by simp [eqGuard, binOp, Op.intCmp, h]
theorem aBF (h : ¬ a = b) : yg P .eql t x y (.int k a) (.int k b) (.bool false) := fun w => by simp [eqGuard, binOp, Op.intCmp, h]
theorem aCs (h : ¬ a = b) : yg P .neq t x y (.int k a) (.int k b) (.bool true) := fun w => by simp [eqGuard, binOp, Op.intCmp, h]
theorem aBH (h : a = b) : yg P .neq t x y (.int k a) (.int k b) (.bool false) := fun w => by simp [eqGuard, binOp, Op.intCmp, h]
theorem aEc {c : Int} (h : c = a + b) (hl : -9223372036854775808 ≤ c) (hu : c ≤ 9223372036854775807) : yg P .add t x y (.int .i64 a) (.int .i64 b) (.int .i64 c) := fun w => by
 have hw : IntKind.i64.wrap (a + b) = c := by rw [IntKind.wrap_i64, ← h]; omega
 simp [eqGuard, binOp, Op.intArith, hw]
theorem jO {c : Int} (h : c = a - b) (hl : -9223372036854775808 ≤ c) (hu : c ≤ 9223372036854775807) : yg P .sub t x y (.int .i64 a) (.int .i64 b) (.int .i64 c) := fun w => by
 have hw : IntKind.i64.wrap (a - b) = c := by rw [IntKind.wrap_i64, ← h]; omega
 simp [eqGuard, binOp, Op.intArith, hw]
theorem aBI {op : BinOp} {a b : ByteArray} {r : Value} (h : ∀ w, (Op.stringOp op a b).run P w = .ok r w) : yg P op t x y (.string a) (.string b) r := fun w => by
 cases op <;> simp only [eqGuard, binOp] <;> first | exact h w | simpa using h w
end
section
variable {P : Program} {Θ : Tab} {s : St} {ty : TypeId} {pos : String} {after : Array Edge} {g : Option (Nat × Bool)} {t kt vt : TypeId} {z : AV} {l : Nat} {ent : List (ByteArray × AV)} {kk : ByteArray}
theorem jJ {d : Nat} (hf : s.hp (d + 1) = none) (ht : Θ.look t = .map kt vt z) (hok : okL (d + 1) = true := by rfl) : Pre P Θ ⟨some d, .makeMap t none, ty, pos, after, g⟩ s ⟨.mapv (d + 1), some fun s => (s.set (d + 1) (some ⟨.s t, 1, []⟩)).setM (d + 1) []⟩ :=
 ⟨d, kt, vt, z, rfl, hf, hok, ht, fun y hy => by simp at hy, rfl⟩
theorem jI {d : Option Tmp} {m k x : Operand} {v : AV} {b : Value} {ent' : List (ByteArray × AV)} (hm : s.ev m = .mapv l) (hp : s.mp l = some ent) (hk : s.ev k = .v (.string kk)) (hv : s.ev x = v) (hc : xY v = some b) (hcs : vY [x] = true) (ht : Θ.look t = .map kt vt z) (he : uK ent kk v = ent') : Pre P Θ ⟨d, .insert t m k x, ty, pos, after, g⟩ s ⟨.any, some fun s' => s'.setM l ent'⟩ :=
 ⟨l, ent, kk, b, kt, vt, z, ht, hm, hp, hk, by rw [hv]; exact hc, fun c e => uQ hcs x (by simp) c e, by rw [hv, he]⟩
theorem jH {d : Option Tmp} {m k : Operand} {y : AV} {f : Bool} (hm : s.ev m = .mapv l) (hp : s.mp l = some ent) (hk : s.ev k = .v (.string kk)) (ht : Θ.look t = .map kt vt z) (hy : (zM ent kk).getD z = y) (hf : (zM ent kk).isSome = f) : Pre P Θ ⟨d, .lookup t m k true, ty, pos, after, g⟩ s ⟨.tup [y, .v (.bool f)], none⟩ :=
 ⟨l, ent, kk, kt, vt, z, ht, hm, hp, hk, by rw [hy, hf]; rfl⟩
end
def force (x : AV) (k : AV → Option St) : Option St :=
 match x with
 | .any => none
 | .v c => k (.v c)
 | .agg xs => k (.agg xs)
 | .lst z xs => k (.lst z xs)
 | .ptr y => k (.ptr y)
 | .own l => k (.own l)
 | .optr l i p c => k (.optr l i p c)
 | .tup xs => k (.tup xs)
 | .mapv l => k (.mapv l)
 | .mix xs => k (.mix xs)
 | .rd x => k (.rd x)
 | .fn f xs ys => k (.fn f xs ys)
 | .ifc t x => k (.ifc t x)
theorem force_eq {x : AV} {k : AV → Option St} {s : St} (h : force x k = some s) : k x = some s := by
 cases x <;> first | exact h | cases h
def wo : List AV → (List AV → Option St) → Option St
 | [], k => k []
 | x :: r, k => force x fun y => wo r fun ys => k (y :: ys)
theorem wu {s : St} : ∀ {xs : List AV} {k : List AV → Option St}, wo xs k = some s → k xs = some s
 | [], k, h => h
 | x :: r, k, h => wu (xs := r) (k := fun ys => k (x :: ys)) (force_eq (k := fun y => wo r fun ys => k (y :: ys)) h)
def aAU (s : St) : List AV → List (Nat × Operand) → Bool
 | _, [] => true
 | z, (i, x) :: r => (match z[i]? with | some y => Nat.beq (asz (s.dat (s.ev x))) (asz y) | none => false) && (xE s (s.ev x) && aAU s (z.set i (s.dat (s.ev x))) r)
theorem aAV {s : St} : ∀ (ps : List (Nat × Operand)) (z : List AV), aAU s z ps = true → uh s z ps
 | [], z, _ => trivial
 | (i, x) :: r, z, h => by
  simp only [aAU, Bool.and_eq_true] at h
  refine ⟨?_, h.2.1, aAV r _ h.2.2⟩
  have h1 := h.1
  split at h1
  · rename_i y hy; exact ⟨y, hy, Nat.eq_of_beq_eq_true h1⟩
  · cases h1
def aCg (Θ : Tab) (draw : Bool) (dst : Option Tmp) (ty : TypeId) (c : Value) : Option (Nat × Nat × Nat) :=
 match c, dst, Θ.look ty with
 | .slice none 0 0, some d, .slice el sz _ _ => bif !draw && (Nat.blt 0 sz && okL (d + 1)) then some (d, el, sz) else none
 | _, _, _ => none
theorem yh {α : Type} {b : Bool} {x : Option α} {y : α} (h : (bif b then x else none) = some y) : b = true ∧ x = some y := by cases b with
 | true => exact ⟨rfl, h⟩
 | false => cases h
theorem aDR {Θ : Tab} {draw : Bool} {dst : Option Tmp} {ty : TypeId} {c : Value} {d el sz : Nat} (h : aCg Θ draw dst ty c = some (d, el, sz)) : dst = some d ∧ c = .slice none 0 0 ∧ draw = false ∧ 0 < sz ∧ okL (d + 1) = true := by
 unfold aCg at h
 split at h
 · obtain ⟨h1, h2⟩ := yh h
   cases h2
   simp only [Bool.and_eq_true] at h1
   exact ⟨rfl, rfl, by cases draw <;> simp_all, by simpa using h1.2.1, h1.2.2⟩
 · cases h
def aFd : AV → Bool
 | .v (.slice none 0 0) => true
 | _ => false
def TI.isIface : TI → Bool
 | .iface => true
 | _ => false
def zU (Θ : Tab) (draw : Bool) (o : Oper) (s : St) : Option St :=
 match o.op with
 | .move (.tmp t) => force (s.sl t) fun v => some (s.put o.dst v)
 | .assign (.tmp t) => force (s.sl t) fun v => some (s.put o.dst v)
 | .move (.const c) => match aCg Θ draw o.dst o.type c with
  | some (d, el, sz) => some (((s.kill (d + 1)).set (d + 1) (some ⟨.s el, sz, []⟩)).put (some d) (.own (d + 1)))
  | none => bif c.oneCell' then some (s.put o.dst (.v c)) else none
 | .assign (.const c) => match aCg Θ draw o.dst o.type c with
  | some (d, el, sz) => some (((s.kill (d + 1)).set (d + 1) (some ⟨.s el, sz, []⟩)).put (some d) (.own (d + 1)))
  | none => bif c.oneCell' then some (s.put o.dst (.v c)) else none
 | .pick c a b => match s.ev c with
  | .v (.bool t) => bif cOK a && cOK b then force (bif t then s.ev a else s.ev b) fun v => some (s.put o.dst v) else none
  | _ => none
 | .unOp .not _ x => match s.ev x with
  | .v (.bool b) => some (s.put o.dst (.v (.bool (!b))))
  | _ => none
 | .extract x i => match s.ev x with
  | .tup xs => match xs[i]? with
   | some y => force y fun v => some (s.put o.dst v)
   | none => none
  | _ => none
 | .fieldAddr t x f => match Θ.look t with
  | .struct fs _ => match fs[f]? with
   | some (o_, _) => match s.ev x with
    | .ptr (.agg ys) => match ys[f]? with
     | some y => bif Nat.beq (xB (ys.take f)) o_ then some (s.put o.dst (.ptr y)) else none
     | none => none
    | .optr l i p c => some (s.put o.dst (.optr l i (p ++ [f]) (c + o_)))
    | _ => none
   | none => none
  | _ => none
 | .load t x => match s.ev x with
  | .ptr y => bif (Θ.look t).known && (Bool.xor (zK y) (Θ.look t).isAgg).not && Nat.beq (asz y) (Θ.look t).size then force y fun v => some (s.put o.dst v) else none
  | .optr l i p c => match s.hp l with
   | some ob => bif ob.e.open_ then (match ob.xs[i]? with
    | some y => match xU y p 0 with
     | some (z, c') => bif Nat.beq c' c && (Θ.look t).known && (Bool.xor (zK z) (Θ.look t).isAgg).not && Nat.beq (asz z) (Θ.look t).size then force z fun v => some (s.put o.dst v) else none
     | none => none
    | none => none) else (match yT ob.e ob.xs i with
    | some (.o t' i' y) => match xU y p 0 with
     | some (z, c') => bif aFd z then none else (match ofO z with
      | some x' => bif Nat.beq i' i && Nat.beq c' c && (Θ.look t).known && (Bool.xor (zK x') (Θ.look t).isAgg).not && Nat.beq (asz x') (Θ.look t).size then force x' fun v => some (s.put o.dst v) else none
      | none => none)
     | none => none
    | _ => none)
   | none => none
  | _ => none
 | .alloc t => match o.dst with
  | some d => match s.hp (d + 1) with
   | none => bif !draw && ((Θ.look t).known && okL (d + 1)) then some ((s.set (d + 1) (some ⟨kz t (Θ.look t).zero, (Θ.look t).size, [(Θ.look t).zero]⟩)).put (some d) (.optr (d + 1) 0 [] 0)) else none
   | some _ => none
  | none => none
 | .box t x => match o.dst with
  | some d => match s.hp (d + 1) with
   | none => match s.ev x with
    | .agg ys => bif (!draw && okL (d + 1)) && ((Θ.look t).known && Nat.beq (asz (.agg ys)) (Θ.look t).size) then some ((s.set (d + 1) (some ⟨.s t, (Θ.look t).size, [.agg ys]⟩)).put (some d) (.optr (d + 1) 0 [] 0)) else none
    | _ => none
   | some _ => none
  | none => none
 | .build t ps => match Θ.look t with
  | .struct _ z => bif (yF s (ps.toList.map (·.2))).isEmpty && (vY (ps.toList.map (·.2)) && aAU s z ps.toList) then wo (yS s z ps.toList) fun ys => some (s.put o.dst (.agg ys)) else none
  | _ => none
 | .buildSlice t m ps => match o.dst with
  | some d => match s.hp (d + 1) with
   | none => match Θ.look t with
    | .slice el sz _ z => bif !draw && ((yF s (ps.toList.map (·.2))).isEmpty && (Nat.ble (m * sz) 65536 && (okL (d + 1) && (vY (ps.toList.map (·.2)) && aAU s (List.replicate m z) ps.toList)))) then wo (yS s (List.replicate m z) ps.toList) fun ys => some ((s.set (d + 1) (some ⟨.s el, sz, ys⟩)).put (some d) (.own (d + 1))) else none
    | _ => none
   | some _ => none
  | none => none
 | .nilCheck x => match s.ev x with
  | .ptr y => some (s.put o.dst (.ptr y))
  | .optr l i p c => some (s.put o.dst (.optr l i p c))
  | .fn f xs ys => some (s.put o.dst (.fn f xs ys))
  | .ifc t y => some (s.put o.dst (.ifc t y))
  | _ => none
 | .makeFunc (.func f) first captured => bif vY (first.toList ++ captured.toList) then wo (first.toList.map s.ev) fun xs => wo (captured.toList.map s.ev) fun ys => some (s.put o.dst (.fn f xs ys)) else none
 | .makeInterface t x => bif cOK x && (Θ.look t).known && !(Θ.look t).isIface then force (s.ev x) fun v => some (s.put o.dst (.ifc t v)) else none
 | _ => none
section
variable {P : Program} {Θ : Tab} {n : Nat} {ops : Array Oper} {draw : Bool} {s s' : St}
theorem xor_not {a b : Bool} (h : (Bool.xor a b).not = true) : a = b := by cases a <;> cases b <;> first | rfl | cases h
theorem aD8 {o : Oper} (h : zU Θ draw o s = some s') : ∃ e, Pre P Θ o s e ∧ (draw = true → e.upd = none) ∧ s.app o.dst e = s' := by
 obtain ⟨dst, op, ty, pos, after, guard⟩ := o
 have fin : ∀ {v : AV}, Pre P Θ ⟨dst, op, ty, pos, after, guard⟩ s ⟨v, none⟩ → some (s.put dst v) = some s' → ∃ e, Pre P Θ ⟨dst, op, ty, pos, after, guard⟩ s e ∧ (draw = true → e.upd = none) ∧ s.app dst e = s' := fun hp he => ⟨_, hp, fun _ => rfl, by cases he; rfl⟩
 cases op with
 | move x => cases x with
  | tmp t => exact fin (aAT rfl) (force_eq (k := fun v => some (s.put dst v)) h)
  | const c =>
   simp only [zU] at h
   split at h
   · rename_i d el sz hn
     obtain ⟨rfl, rfl, hd, h0, hok⟩ := aDR hn
     refine ⟨_, aIU (.s el) sz h0 rfl hok, (fun e => by rw [e] at hd; cases hd), ?_⟩
     cases h; rfl
   · obtain ⟨h1, h2⟩ := yh h; exact fin (aIn h1) h2
  | _ => cases h
 | assign x => cases x with
  | tmp t => exact fin (aEs rfl) (force_eq (k := fun v => some (s.put dst v)) h)
  | const c =>
   simp only [zU] at h
   split at h
   · rename_i d el sz hn
     obtain ⟨rfl, rfl, hd, h0, hok⟩ := aDR hn
     refine ⟨_, aIT (.s el) sz h0 rfl hok, (fun e => by rw [e] at hd; cases hd), ?_⟩
     cases h; rfl
   · obtain ⟨h1, h2⟩ := yh h; exact fin (aCh h1) h2
  | _ => cases h
 | pick c a b =>
  simp only [zU] at h
  split at h
  · rename_i t ht
    obtain ⟨h1, h2⟩ := yh h
    simp only [Bool.and_eq_true] at h1
    exact fin (aB9 ht rfl h1.1 h1.2) (force_eq h2)
  · cases h
 | unOp op t x =>
  cases op with
  | not =>
   simp only [zU] at h
   split at h
   · rename_i b hb; exact fin (aEu hb) h
   · cases h
  | _ => cases h
 | extract x i =>
  simp only [zU] at h
  split at h
  · rename_i xs hx
    split at h
    · rename_i y hy; exact fin (aHA hx hy) (force_eq h)
    · cases h
  · cases h
 | fieldAddr t x f =>
  simp only [zU] at h
  split at h
  · rename_i fs z ht
    split at h
    · rename_i o_ z_ hf
      split at h
      · rename_i ys hx
        split at h
        · rename_i y hy
          obtain ⟨h1, h2⟩ := yh h
          exact fin (aHB ht hf hx hy (Nat.eq_of_beq_eq_true h1)) h2
        · cases h
      · rename_i l i p c hx; exact fin (uL ht hf hx) h
      · cases h
    · cases h
  · cases h
 | load t x =>
  simp only [zU] at h
  split at h
  · rename_i y hx
    obtain ⟨h1, h2⟩ := yh h
    simp only [Bool.and_eq_true] at h1
    exact fin (aIR hx h1.1.1 (xor_not h1.1.2) (Nat.eq_of_beq_eq_true h1.2)) (force_eq h2)
  · rename_i l i p c hx
    split at h
    · rename_i ob ho
      cases hop : ob.e.open_ with
      | true =>
       rw [hop] at h
       simp only [cond_true] at h
       split at h
       · rename_i y hy
         split at h
         · rename_i z c' hg
           obtain ⟨h1, h2⟩ := yh h
           simp only [Bool.and_eq_true] at h1
           have hc := Nat.eq_of_beq_eq_true h1.1.1.1
           subst hc
           exact fin (vO hx ho hy hg h1.1.1.2 (xor_not h1.1.2) (Nat.eq_of_beq_eq_true h1.2) hop) (force_eq h2)
         · cases h
       · cases h
      | false =>
       rw [hop] at h
       simp only [cond_false] at h
       split at h
       · rename_i t' i' y hy
         split at h
         · rename_i z c' hg
           cases hn : aFd z with
           | true => rw [hn] at h; cases h
           | false =>
            rw [hn] at h
            simp only [cond_false] at h
            split at h
            · rename_i x' hx'
              obtain ⟨h1, h2⟩ := yh h
              simp only [Bool.and_eq_true] at h1
              have hc := Nat.eq_of_beq_eq_true h1.1.1.1.2
              subst hc
              have hi := Nat.eq_of_beq_eq_true h1.1.1.1.1
              subst hi
              exact fin (zh hx ho hy hg hx' h1.1.1.2 (xor_not h1.1.2) (Nat.eq_of_beq_eq_true h1.2)) (force_eq h2)
            · cases h
         · cases h
       · cases h
    · cases h
  · cases h
 | alloc t =>
  cases dst with
  | none => cases h
  | some d =>
   simp only [zU] at h
   split at h
   · rename_i hf
     obtain ⟨h1, h2⟩ := yh h
     simp only [Bool.and_eq_true] at h1
     refine ⟨_, aFr hf h1.2.1 h1.2.2, fun e => by rw [e] at h1; simp at h1, ?_⟩
     cases h2; rfl
   · cases h
 | box t x =>
  cases dst with
  | none => cases h
  | some d =>
   simp only [zU] at h
   split at h
   · rename_i hf
     split at h
     · rename_i ys hx
       obtain ⟨h1, h2⟩ := yh h
       simp only [Bool.and_eq_true] at h1
       refine ⟨_, aEt hf hx rfl (by simp only [Bool.and_eq_true]; exact h1.2) h1.1.2, fun e => by rw [e] at h1; simp at h1, ?_⟩
       cases h2; rfl
     · cases h
   · cases h
 | build t ps =>
  simp only [zU] at h
  split at h
  · rename_i fs z ht
    obtain ⟨h1, h2⟩ := yh h
    simp only [Bool.and_eq_true] at h1
    have hown : yF s (ps.toList.map (·.2)) = [] := by simpa using h1.1
    exact fin (v := .agg (yS s z ps.toList)) ⟨fs, z, ht, .inl ⟨aAV _ _ h1.2.2, uQ h1.2.1, by rw [hown]; rfl, by rw [hown]; rfl⟩⟩ (wu (k := fun ys => some (s.put dst (.agg ys))) h2)
  · cases h
 | buildSlice t m ps =>
  cases dst with
  | none => cases h
  | some d =>
   simp only [zU] at h
   split at h
   · rename_i hf
     split at h
     · rename_i el sz b z ht
       obtain ⟨h1, h2⟩ := yh h
       simp only [Bool.and_eq_true] at h1
       have hown : yF s (ps.toList.map (·.2)) = [] := by simpa using h1.2.1
       have h3 := wu (k := fun ys => some ((s.set (d + 1) (some ⟨el, sz, ys⟩)).put (some d) (.own (d + 1)))) h2
       refine ⟨⟨.own (d + 1), some fun s' => s'.set (d + 1) (some ⟨.s el, sz, yS s (List.replicate m z) ps.toList⟩)⟩, ⟨d, el, sz, b, z, rfl, hf, h1.2.2.2.1, ht, Nat.le_of_ble_eq_true h1.2.2.1, .inl ⟨aAV _ _ h1.2.2.2.2.2, uQ h1.2.2.2.2.1, by rw [hown]; rfl, by rw [hown]; rfl⟩⟩, fun e => by rw [e] at h1; simp at h1, ?_⟩
       cases h3; rfl
     · cases h
   · cases h
 | nilCheck x =>
  simp only [zU] at h
  split at h
  · rename_i y hx; exact fin ⟨by rw [hx], .inl ⟨y, hx⟩⟩ h
  · rename_i l i p c hx; exact fin ⟨by rw [hx], .inr (.inl ⟨l, i, p, c, hx⟩)⟩ h
  · rename_i f xs ys hx; exact fin ⟨by rw [hx], .inr (.inr (.inl ⟨f, xs, ys, hx⟩))⟩ h
  · rename_i t y hx; exact fin ⟨by rw [hx], .inr (.inr (.inr ⟨t, y, hx⟩))⟩ h
  · cases h
 | makeFunc fn first captured =>
  cases fn with
  | func f =>
   simp only [zU] at h
   obtain ⟨h1, h2⟩ := yh h
   have h3 := wu (k := fun xs => wo (captured.toList.map s.ev) fun ys => some (s.put dst (.fn f xs ys))) h2
   have h4 := wu (k := fun ys => some (s.put dst (.fn f (first.toList.map s.ev) ys))) h3
   exact fin (v := .fn f (first.toList.map s.ev) (captured.toList.map s.ev)) ⟨f, rfl, uQ h1, rfl⟩ h4
  | _ => cases h
 | makeInterface t x =>
  simp only [zU] at h
  obtain ⟨h1, h2⟩ := yh h
  simp only [Bool.and_eq_true, Bool.not_eq_true'] at h1
  exact fin (v := .ifc t (s.ev x)) ⟨vX h1.1.1, h1.1.2, fun e => by rw [e] at h1; exact absurd h1.2 (by simp [TI.isIface]), rfl⟩ (force_eq (k := fun v => some (s.put dst (.ifc t v))) h2)
 | _ => cases h
def runK (P : Program) (Θ : Tab) (n : Nat) (ops : Array Oper) (draw : Bool) : Nat → List Oper → St → (St → Prop) → Prop
 | _, [], s, K => K s
 | k, o :: r, s, K =>
  match inN n o.dst with
  | false => False
  | true => match xq ops s o with
   | some false => runK P Θ n ops draw (k + 1) r (s.put o.dst (.tup [])) K
   | some true => match zU Θ (draw && !(tied ops k)) o s with
    | some s' => runK P Θ n ops draw (k + 1) r s' K
    | none => xR P Θ n ops draw k (o :: r) s K
   | none => xR P Θ n ops draw k (o :: r) s K
theorem vQ {K : St → Prop} : ∀ (l : List Oper) (k : Nat) (s : St), runK P Θ n ops draw k l s K → xR P Θ n ops draw k l s K
 | [], k, s, h => aEr h
 | o :: r, k, s, h => by
  unfold runK at h
  cases hin : inN n o.dst with
  | false => rw [hin] at h; exact h.elim
  | true =>
   rw [hin] at h
   simp only at h
   cases hg : xq ops s o with
   | none => rw [hg] at h; exact h
   | some b => cases b with
    | false => rw [hg] at h; exact aDT hg hin (vQ r (k + 1) _ h)
    | true =>
     rw [hg] at h
     simp only at h
     cases hs : zU Θ (draw && !(tied ops k)) o s with
     | none => rw [hs] at h; exact h
     | some s' =>
      rw [hs] at h
      obtain ⟨e, hp, hu, he⟩ := aD8 (P := P) hs
      exact jD hg hin hp (fun hd => by cases ht : tied ops k with | true => exact .inr (.inl rfl) | false => exact .inl (hu (by rw [hd, ht]; rfl))) (by rw [he]; exact vQ r (k + 1) _ h)
def jf (P : Program) (Θ : Tab) (n : Nat) : Code → (AEx → St → Prop) → St → Prop
 | .skip, Q, s => Q .normal s
 | .label _, Q, s => Q .normal s
 | .region _ ops false, Q, s => runK P Θ n ops false 0 ops.toList s (Q .normal)
 | .region _ ops true, Q, s => (Region.lexB .any ops = true ∧ runK P Θ n ops true 0 ops.toList s (Q .normal)) ∨ (Region.lexB .any ops = true ∧ jL ops ∧ xh P Θ n ops 0 ops.toList s (Q .normal))
 | .seq a b, Q, s => jf P Θ n a (AEx.then (jf P Θ n b Q) Q) s
 | .cond c x y, Q, s => match s.ev c with
  | .v (.bool true) => jf P Θ n x Q s
  | .v (.bool false) => jf P Θ n y Q s
  | _ => xM P Θ n (.cond c x y) Q s
 | .block id c, Q, s => jf P Θ n c (AEx.inBlock id Q) s
 | .exit id, Q, s => Q (.exit id) s
 | .ret, Q, s => Q .ret s
 | c, Q, s => xM P Θ n c Q s
theorem qF {ops : Array Oper} {K K' : St → Prop} : ∀ (l : List Oper) (k : Nat) (s : St), (∀ s, K s → K' s) → xh P Θ n ops k l s K → xh P Θ n ops k l s K'
 | [], k, s, hk, h => Gh.mono hk h
 | o :: r, k, s, hk, h => by
  unfold xh at h ⊢
  refine ⟨h.1, h.2.1, h.2.2.imp (fun ⟨u, ks, nu, he, h⟩ => ⟨u, ks, nu, he, qF r _ _ hk h⟩) (fun ⟨ht, e, hp, h⟩ => ⟨ht, e, hp, h.mono fun s' => qF r _ s' hk⟩)⟩
theorem aBC {Q Q' : AEx → St → Prop} : ∀ (c : Code) (s : St), (∀ e s, Q e s → Q' e s) → xM P Θ n c Q s → xM P Θ n c Q' s := by
 have ops_mono : ∀ {ops : Array Oper} {draw : Bool} {K K' : St → Prop} (l : List Oper) (k : Nat) (s : St), (∀ s, K s → K' s) → xR P Θ n ops draw k l s K → xR P Θ n ops draw k l s K' := by
  intro ops draw K K' l
  induction l with
  | nil => intro k s hk h; exact hk s h
  | cons o r ih =>
   intro k s hk h
   unfold xR at h ⊢
   refine ⟨h.1, ?_⟩
   have h2 := h.2
   split
   · rename_i hg; simp only [hg] at h2; obtain ⟨e, a, b, c⟩ := h2; exact ⟨e, a, b, c.imp (ih _ _ hk) (fun h => ⟨h.1, h.2.mono fun s' => ih _ s' hk⟩)⟩
   · rename_i hg; simp only [hg] at h2; exact ih _ _ hk h2
   · rename_i hg; simp only [hg] at h2
 intro c
 induction c generalizing Q Q' with
 | skip => intro s hq h; exact hq _ _ h
 | label l => intro s hq h; exact hq _ _ h
 | region id ops draw =>
  intro s hq h
  rcases h with h | ⟨h1, h2, h3, h⟩ | ⟨h1, h⟩
  · exact .inl ⟨h.1, ops_mono _ _ _ (fun s h => hq _ _ h) h.2⟩
  · exact .inr (.inl ⟨h1, h2, h3, qF _ _ _ (fun s h => hq _ _ h) h⟩)
  · refine .inr (.inr ⟨h1, fun W M S0 a w hs b hb k cs => ?_⟩)
    obtain ⟨e, a', w', ⟨he, s', hk, hs'⟩, harr⟩ := h W M S0 a w hs b hb k cs
    exact ⟨e, a', w', ⟨he, s', hq _ _ hk, hs'⟩, harr⟩
 | seq a b iha ihb =>
  intro s hq h
  rcases h with h | ⟨ι, I, h, k⟩
  · exact .inl (iha s (fun e s he => by cases e <;> first | exact ihb s hq he | exact hq _ _ he) h)
  · exact .inr ⟨ι, I, iha s (fun e s he => by cases e <;> first | exact he | exact hq _ _ he) h, fun j => ihb _ hq (k j)⟩
 | cond c x y ihx ihy => intro s hq h; obtain ⟨b, hc, h⟩ := h; refine ⟨b, hc, ?_⟩; cases b <;> first | exact ihx s hq h | exact ihy s hq h
 | block id c ih =>
  intro s hq h
  refine ih s (fun e s he => ?_) h
  cases e with
  | exit j =>
   show (bif Nat.beq j id then Q' .normal s else Q' (.exit j) s)
   have he' : (bif Nat.beq j id then Q .normal s else Q (.exit j) s) := he
   cases hb : Nat.beq j id with
   | true => rw [hb] at he'; exact hq _ _ he'
   | false => rw [hb] at he'; exact hq _ _ he'
  | normal => exact hq _ _ he
  | ret => exact hq _ _ he
 | loop c ih =>
  intro s hq h
  obtain ⟨ι, I, μ, h0, hr⟩ := h
  exact ⟨ι, I, μ, h0, fun i => ih _ (fun e s he => by cases e <;> first | exact he | exact hq _ _ he) (hr i)⟩
 | exit id => intro s hq h; exact hq _ _ h
 | ret => intro s hq h; exact hq _ _ h
 | rangeFunc _ _ _ _ => intro s hq h; exact h.elim
 | scope _ => intro s hq h; exact h.elim
 | goto _ => intro s hq h; exact h.elim
 | refuse _ => intro s hq h; exact h.elim
theorem aBd : ∀ (c : Code) (Q : AEx → St → Prop) (s : St), jf P Θ n c Q s → xM P Θ n c Q s := by
 intro c
 induction c with
 | skip => intro Q s h; exact h
 | label l => intro Q s h; exact h
 | region id ops draw =>
  intro Q s h
  cases draw with
  | false => exact .inl ⟨(fun e => by cases e), vQ _ _ _ h⟩
  | true =>
   rcases h with h | ⟨h1, h2, h⟩
   · exact .inl ⟨fun _ => h.1, vQ _ _ _ h.2⟩
   · exact .inr (.inl ⟨rfl, h1, h2, h⟩)
 | seq a b iha ihb =>
  intro Q s h
  exact .inl (aBC a s (fun e s he => by cases e <;> first | exact ihb Q s he | exact he) (iha _ s h))
 | cond c x y ihx ihy =>
  intro Q s h
  simp only [jf] at h
  split at h
  · rename_i hc; exact ⟨true, hc, ihx Q s h⟩
  · rename_i hc; exact ⟨false, hc, ihy Q s h⟩
  · exact h
 | block id c ih => intro Q s h; exact ih _ s h
 | exit id => intro Q s h; exact h
 | ret => intro Q s h; exact h
 | loop c ih => intro Q s h; exact h
 | rangeFunc _ _ _ _ => intro Q s h; exact h
 | scope _ => intro Q s h; exact h
 | goto _ => intro Q s h; exact h
 | refuse _ => intro Q s h; exact h
variable {k : Nat} {r : List Oper} {K : St → Prop} {d : Option Tmp} {op : Op} {ty : TypeId} {pos : String} {after : Array Edge} {g : Option (Nat × Bool)}
theorem aFB {v : AV} (hp : Pre P Θ ⟨d, op, ty, pos, after, g⟩ s ⟨v, none⟩) (hg : xq ops s ⟨d, op, ty, pos, after, g⟩ = some true) (hin : inN n d = true) (h : runK P Θ n ops draw (k + 1) r (s.put d v) K) : xR P Θ n ops draw k (⟨d, op, ty, pos, after, g⟩ :: r) s K :=
 zH hp hg hin (vQ _ _ _ h)
theorem aDZ {e : Eff} (hp : Pre P Θ ⟨d, op, ty, pos, after, g⟩ s e) (hg : xq ops s ⟨d, op, ty, pos, after, g⟩ = some true) (hin : inN n d = true) (hu : draw = true → e.upd = none ∨ tied ops k = true ∨ vU Θ ops (fun j => Nat.blt j k) k s e) (h : runK P Θ n ops draw (k + 1) r (s.app d e) K) : xR P Θ n ops draw k (⟨d, op, ty, pos, after, g⟩ :: r) s K :=
 jD hg hin hp hu (vQ _ _ _ h)
theorem aBb {c : Code} {Q : AEx → St → Prop} {ι : Type} (I : ι → Inv) (μ : ι → Nat) (i0 : ι) (h0 : s.le (I i0)) (h : ∀ i, jf P Θ n c (AEx.then (fun s' => ∃ j, s'.le (I j) ∧ μ j < μ i) Q) (I i).st) : xM P Θ n (.loop c) Q s :=
 aHv (fun i => (I i).m) μ i0 ⟨h0, trivial⟩ fun i => aBC (Q := AEx.then (fun s' => ∃ j, s'.le (I j) ∧ μ j < μ i) Q) c _ (fun e s he => by
  cases e with
  | normal => obtain ⟨j, h1, h2⟩ := he; exact ⟨j, ⟨h1, trivial⟩, h2⟩
  | _ => exact he) (aBd _ _ _ (h i))
theorem aJI (hΘ : yJ P Θ) (hm : P.follows .mixedOrders = true) {f : FuncId} {fn : Func} {c : Code} {n : Nat} {rs : List ResultVar} (hf : P.funcs[f]? = some fn) (hb : fn.body = some c) (hnt : fn.ntmps = n) (hrs : fn.results = rs.toArray) (hnm : (fn.name == "runtime.NumGoroutine") = false)
 {args : List AV} {out : Out} (hlen : Nat.ble args.length n = true) (h : jf P Θ n c (kE Θ rs out) (St.init args)) : AC P f args out :=
 aFT hΘ hm hf hb hnt (by rw [hrs]) hnm (Nat.le_of_ble_eq_true hlen) rfl rfl (aBd _ _ _ h)
def zF (r : Nat) (e : ET) (sz : Nat) (xs' : List AV) (v : Value) : AEx → St → Prop
 | .normal, s | .ret, s => s.sl r = .v v ∧ s.hp 0 = some ⟨e, sz, xs'⟩
 | _, _ => False
theorem aIP {α : Type} {x y : Operand} {t el sz b l l' : Nat} {e0 e' : ET} {z : AV} {xs : List α} {f : α → AV} (e : α) (hb : (xs.length + 1) * b ≤ 140737488355328) (hx : s.ev x = .own l) (hy : s.ev y = .own l') (ho : s.hp l = some ⟨e0, sz, xs.map f⟩) (ho' : s.hp l' = some ⟨e', sz, [f e]⟩) (hn : (Nat.beq l' l || Nat.beq l 0) = false) (ht : Θ.look t = .slice el sz b z) (hb1 : Nat.ble 1 b = true) (he : (e0 = .s el ∨ e0 = .z el) := by first | exact .inl rfl | exact .inr rfl) (he' : e'.open_ = true := by rfl) (hok : okL l = true := by rfl) :
 Pre P Θ ⟨d, .call ⟨.builtin .append, #[x, y], #[t, t]⟩, ty, pos, after, g⟩ s ⟨.own l, some fun s => (s.kill l).set l (some ⟨.s el, sz, (xs ++ [e]).map f⟩)⟩ := by
 simp only [Bool.or_eq_false_iff] at hn
 have n1 : l' ≠ l := fun h => by rw [h] at hn; simp at hn
 have hb1' := Nat.le_of_ble_eq_true hb1
 have hm : xs.length + 1 ≤ maxLen := by
  have : (xs.length + 1) * 1 ≤ (xs.length + 1) * b := Nat.mul_le_mul_left _ hb1'
  unfold maxLen; omega
 exact ⟨x, y, t, el, sz, b, z, l, _, [f e], rfl, rfl, ht, hx, ho, hok, rfl, by simpa using hb, by simpa using hm, .inl ⟨el, he, rfl, .inr ⟨l', _, hy, n1, ho', he', rfl, rfl⟩, by rw [List.map_append]; rfl⟩⟩
theorem aH8 {α : Type} {x y : Operand} {t el sz b l l' : Nat} {e0 e' : ET} {z : AV} {xs : List α} {f : α → AV} (e : α) (ys : List α) (hys : xs ++ [e] = ys) (hb : (xs.length + 1) * b ≤ 140737488355328) (hx : s.ev x = .own l) (hy : s.ev y = .own l') (ho : s.hp l = some ⟨e0, sz, xs.map f⟩) (ho' : s.hp l' = some ⟨e', sz, [f e]⟩) (hn : (Nat.beq l' l || Nat.beq l 0) = false) (ht : Θ.look t = .slice el sz b z) (hb1 : Nat.ble 1 b = true) (he : (e0 = .s el ∨ e0 = .z el) := by first | exact .inl rfl | exact .inr rfl) (he' : e'.open_ = true := by rfl) (hok : okL l = true := by rfl) :
 Pre P Θ ⟨d, .call ⟨.builtin .append, #[x, y], #[t, t]⟩, ty, pos, after, g⟩ s ⟨.own l, some fun s => (s.kill l).set l (some ⟨.s el, sz, ys.map f⟩)⟩ := by
 subst hys; exact aIP e hb hx hy ho ho' hn ht hb1 he he' hok
theorem xI {t : Nat} {x : AV} {Θ : Tab} (h : s.sl t = x) (hx : (match x with | .v _ | .agg _ | .lst _ _ | .any => True | _ => False)) : kE Θ [.tmp t] ⟨x, []⟩ .ret s :=
 ⟨trivial, [], by simp, trivial, ⟨trivial, trivial⟩, trivial, ⟨.inl (by cases x <;> first | exact ⟨h, rfl⟩ | exact hx.elim), trivial⟩⟩
theorem aIV {t l : Nat} {ob : OB} {Θ : Tab} (h : s.sl t = .own l) (ho : s.hp l = some ob) (hok : okL l = true := by rfl) (hsh : ob.e.shut = true := by rfl) : kE Θ [.tmp t] ⟨.own 0, [ob]⟩ .ret s :=
 ⟨trivial, [l], by simp, ⟨⟨ho, hok, hsh⟩, trivial⟩, ⟨trivial, trivial⟩, trivial, ⟨.inl ⟨h, rfl⟩, trivial⟩⟩
theorem aHc {a t t2 l : Nat} {ob : OB} {x : AV} {v : Value} {Θ : Tab} (h1 : s.sl a = .optr l 0 [] 0) (ho : s.hp l = some ob) (hx : ob.xs[0]? = some x) (hk : ((Θ.look t).known && (Bool.xor (zK x) (Θ.look t).isAgg).not && Nat.beq (asz x) (Θ.look t).size) = true) (hd : (match x with | .v _ | .agg _ | .lst _ _ | .any => True | _ => False)) (h2 : s.sl t2 = .v v) (hop : ob.e.open_ = true := by rfl) :
 kE Θ [.cell a t, .tmp t2] ⟨.tup [x, .v v], []⟩ .ret s := by
 have hr : rvA s (.cell a t) = x := by
  simp only [rvA, h1, ho, hop, hx, cond_true, Option.getD_some]
 simp only [Bool.and_eq_true] at hk
 refine ⟨trivial, [], by simp, trivial, ⟨⟨hk.1.1, by rw [hr]; exact xor_not hk.1.2, by rw [hr]; exact Nat.eq_of_beq_eq_true hk.2, .inl ⟨l, ob, x, h1, ho, .inl ⟨hop, hx⟩⟩⟩, trivial, trivial⟩, ⟨_, rfl⟩, ⟨.inl ?_, .inl ⟨h2, rfl⟩, trivial⟩⟩
 rw [hr]
 cases x <;> first | exact ⟨rfl, rfl⟩ | exact hd.elim
end
theorem aJG {P : Program} {Θ : Tab} (hΘ : yJ P Θ) (hm : P.follows .mixedOrders = true) {f : FuncId} {fn : Func} {c : Code} {n : Nat} {rs : List ResultVar} (hf : P.funcs[f]? = some fn) (hb : fn.body = some c) (hnt : fn.ntmps = n) (hrs : fn.results = rs.toArray) (hnm : (fn.name == "runtime.NumGoroutine") = false)
 {args : List AV} {out : Out} (hlen : Nat.ble args.length n = true) (h : xM P Θ n c (kE Θ rs out) (St.init args)) : AC P f args out :=
 aFT hΘ hm hf hb hnt (by rw [hrs]) hnm (Nat.le_of_ble_eq_true hlen) rfl rfl h
section
variable {P : Program} {Θ : Tab} {n : Nat} {ops : Array Oper} {draw : Bool} {s : St} {k : Nat} {r : List Oper} {K : St → Prop} {d : Option Tmp} {ty : TypeId} {pos : String} {after : Array Edge} {g : Option (Nat × Bool)}
theorem qs {x : Operand} {t : TypeId} {m : Nat} {c : ByteArray} (hx : s.ev x = .v (.string c)) (hl : wS s (.v (.string c)) = some m) (h : runK P Θ n ops draw (k + 1) r (s.put d (.v (.int .i64 (m : Int)))) K) (hok : aB2 Θ t (.v (.string c)) := by exact rfl) (hg : xq ops s ⟨d, .call ⟨.builtin .len, #[x], #[t]⟩, ty, pos, after, g⟩ = some true := by exact rfl) (hin : inN n d = true := by exact rfl) : xR P Θ n ops draw k (⟨d, .call ⟨.builtin .len, #[x], #[t]⟩, ty, pos, after, g⟩ :: r) s K := aFB (aB8 hx hl hok) hg hin h
theorem qc {f : FuncId} {ags : Array Operand} {ts : Array TypeId} {t : Nat} {args : List AV} {out : Out} (hac : AC P f args out) (h : runK P Θ n ops draw (k + 1) r (s.app (some t) ⟨ren (t + 1) out.val, vk (t + 1) out.obs⟩) K) (ha : (ags.toList.map fun x => s.dat (s.ev x)) = args := by exact rfl) (hfl : (yF s ags.toList).isEmpty = true ∨ out.flat := by first | exact .inl rfl | exact .inr ⟨by simp [yB, yX], by first | exact kT | exact aBs (by first | exact xO wQ _ | exact xO wM _ | exact xO wL _ | exact xO wP _ | exact xO wO _ | exact xO wN _) | exact aEB (by first | exact xO wQ _ | exact xO wM _ | exact xO wL _ | exact xO wP _ | exact xO wO _ | exact xO wN _) (by first | exact xO wQ _ | exact xO wM _ | exact xO wL _ | exact xO wP _ | exact xO wO _ | exact xO wN _)⟩) (hfr : yG s (t + 1) 0 out.obs := by first | exact trivial | exact ⟨⟨rfl, rfl, rfl⟩, trivial⟩ | exact ⟨⟨rfl, rfl, rfl⟩, ⟨rfl, rfl, rfl⟩, trivial⟩ | exact ⟨⟨rfl, rfl, rfl⟩, ⟨rfl, rfl, rfl⟩, ⟨rfl, rfl, rfl⟩, trivial⟩) (hok : zD s (ags.toList.map s.ev) = true := by exact rfl) (hc : vY ags.toList = true := by exact rfl) (hg : xq ops s ⟨some t, .call ⟨.value (.func f), ags, ts⟩, ty, pos, after, g⟩ = some true := by exact rfl) (hin : inN n (some t) = true := by exact rfl) (hu : draw = true → (⟨ren (t + 1) out.val, vk (t + 1) out.obs⟩ : Eff).upd = none ∨ tied ops k = true ∨ vU Θ ops (fun j => Nat.blt j k) k s ⟨ren (t + 1) out.val, vk (t + 1) out.obs⟩ := by intro e; first | exact .inl rfl | contradiction | exact .inr (.inl (by kernel_rfl))) : xR P Θ n ops draw k (⟨some t, .call ⟨.value (.func f), ags, ts⟩, ty, pos, after, g⟩ :: r) s K := aDZ (jq hac ha hfl hfr hok hc) hg hin hu h
theorem qC {f : FuncId} {ags : Array Operand} {ts : Array TypeId} {t : Nat} {args : List AV} {out : Out} (hac : AC P f args out) (h : xR P Θ n ops draw (k + 1) r (s.app (some t) ⟨ren (t + 1) out.val, vk (t + 1) out.obs⟩) K) (ha : (ags.toList.map fun x => s.dat (s.ev x)) = args := by exact rfl) (hfl : (yF s ags.toList).isEmpty = true ∨ out.flat := by first | exact .inl rfl | exact .inr ⟨by simp [yB, yX], by first | exact kT | exact aBs (by first | exact xO wQ _ | exact xO wM _ | exact xO wL _ | exact xO wP _ | exact xO wO _ | exact xO wN _) | exact aEB (by first | exact xO wQ _ | exact xO wM _ | exact xO wL _ | exact xO wP _ | exact xO wO _ | exact xO wN _) (by first | exact xO wQ _ | exact xO wM _ | exact xO wL _ | exact xO wP _ | exact xO wO _ | exact xO wN _)⟩) (hfr : yG s (t + 1) 0 out.obs := by first | exact trivial | exact ⟨⟨rfl, rfl, rfl⟩, trivial⟩ | exact ⟨⟨rfl, rfl, rfl⟩, ⟨rfl, rfl, rfl⟩, trivial⟩ | exact ⟨⟨rfl, rfl, rfl⟩, ⟨rfl, rfl, rfl⟩, ⟨rfl, rfl, rfl⟩, trivial⟩) (hok : zD s (ags.toList.map s.ev) = true := by exact rfl) (hc : vY ags.toList = true := by exact rfl) (hg : xq ops s ⟨some t, .call ⟨.value (.func f), ags, ts⟩, ty, pos, after, g⟩ = some true := by exact rfl) (hin : inN n (some t) = true := by exact rfl) (hu : draw = true → (⟨ren (t + 1) out.val, vk (t + 1) out.obs⟩ : Eff).upd = none ∨ tied ops k = true ∨ vU Θ ops (fun j => Nat.blt j k) k s ⟨ren (t + 1) out.val, vk (t + 1) out.obs⟩ := by intro e; first | exact .inl rfl | contradiction | exact .inr (.inl (by kernel_rfl))) : xR P Θ n ops draw k (⟨some t, .call ⟨.value (.func f), ags, ts⟩, ty, pos, after, g⟩ :: r) s K := jD hg hin (jq hac ha hfl hfr hok hc) hu h
variable {op : Op}
theorem qz {v : AV} (h : runK P Θ n ops draw (k + 1) r (s.put d v) K) (hp : Pre P Θ ⟨d, op, ty, pos, after, g⟩ s ⟨v, none⟩ := by first | exact xA (by first | exact aF0 (by omega) | exact aFZ (by omega) | exact aFY (by omega) | exact aFX (by omega) | exact aCr (by omega) | exact aCq (by omega) | exact aFW (by omega) | exact aFV (by omega) | exact aBG (by omega) | exact aBF (by omega) | exact aCs (by omega) | exact aBH (by omega) | exact jO rfl (by omega) (by omega) | exact aEc rfl (by omega) (by omega)) rfl rfl rfl | exact aHC (aGZ _ (by assumption)) rfl rfl rfl | exact aDX rfl ⟨_, _, _, _, rfl⟩ | exact aEO rfl rfl ⟨_, _, _, _, rfl⟩ | exact aB8 (y := .v (.string _)) rfl rfl rfl | exact aB8 rfl rfl ⟨_, _, _, _, rfl⟩) (hg : xq ops s ⟨d, op, ty, pos, after, g⟩ = some true := by exact rfl) (hin : inN n d = true := by exact rfl) : xR P Θ n ops draw k (⟨d, op, ty, pos, after, g⟩ :: r) s K := aFB hp hg hin h
theorem qla {v : AV} (h : xR P Θ n ops draw (k + 1) r (s.put d v) K) (hp : Pre P Θ ⟨d, op, ty, pos, after, g⟩ s ⟨v, none⟩ := by first | exact uL rfl rfl rfl | exact vO rfl rfl rfl rfl rfl rfl rfl | exact aAT (by conv => lhs; whnf) | exact aEs (by conv => lhs; whnf) | exact aCh rfl | exact aB9 (z := .v _) rfl rfl rfl rfl | exact aEu rfl) (hg : xq ops s ⟨d, op, ty, pos, after, g⟩ = some true := by exact rfl) (hin : inN n d = true := by exact rfl) : xR P Θ n ops draw k (⟨d, op, ty, pos, after, g⟩ :: r) s K := zH hp hg hin h
theorem qlb {v : AV} (h : xR P Θ n ops draw (k + 1) r (s.put d v) K) (hp : Pre P Θ ⟨d, op, ty, pos, after, g⟩ s ⟨v, none⟩ := by first | exact xA (by first | exact aBG (by omega) | exact aBF (by omega) | exact aCs (by omega) | exact aBH (by omega) | exact aCr (by omega) | exact aCq (by omega) | exact yo (by assumption) | exact yj (by assumption) | exact yw (by assumption) | exact y5 (by assumption)) rfl rfl rfl | exact aDX rfl ⟨_, _, _, _, rfl⟩) (hg : xq ops s ⟨d, op, ty, pos, after, g⟩ = some true := by exact rfl) (hin : inN n d = true := by exact rfl) : xR P Θ n ops draw k (⟨d, op, ty, pos, after, g⟩ :: r) s K := zH hp hg hin h
theorem qst {e : Eff} (h : runK P Θ n ops draw (k + 1) r (s.app d e) K) (hp : Pre P Θ ⟨d, op, ty, pos, after, g⟩ s e := by exact aAv rfl rfl rfl rfl rfl (by conv => lhs; whnf) rfl) (hg : xq ops s ⟨d, op, ty, pos, after, g⟩ = some true := by exact rfl) (hin : inN n d = true := by exact rfl) (hu : draw = true → e.upd = none ∨ tied ops k = true ∨ vU Θ ops (fun j => Nat.blt j k) k s e := by intro e; first | exact .inl rfl | contradiction | exact .inr (.inl (by kernel_rfl))) : xR P Θ n ops draw k (⟨d, op, ty, pos, after, g⟩ :: r) s K := aDZ hp hg hin hu h
theorem qp {v : AV} (hp : Pre P Θ ⟨d, op, ty, pos, after, g⟩ s ⟨v, none⟩) (h : runK P Θ n ops draw (k + 1) r (s.put d v) K) (hg : xq ops s ⟨d, op, ty, pos, after, g⟩ = some true := by exact rfl) (hin : inN n d = true := by exact rfl) : xR P Θ n ops draw k (⟨d, op, ty, pos, after, g⟩ :: r) s K := aFB hp hg hin h
theorem qr {e : Eff} (hp : Pre P Θ ⟨d, op, ty, pos, after, g⟩ s e) (h : runK P Θ n ops draw (k + 1) r (s.app d e) K) (hg : xq ops s ⟨d, op, ty, pos, after, g⟩ = some true := by exact rfl) (hin : inN n d = true := by exact rfl) (hu : draw = true → e.upd = none ∨ tied ops k = true ∨ vU Θ ops (fun j => Nat.blt j k) k s e := by intro e; first | exact .inl rfl | contradiction | exact .inr (.inl (by kernel_rfl))) : xR P Θ n ops draw k (⟨d, op, ty, pos, after, g⟩ :: r) s K := aDZ hp hg hin hu h
theorem qx {a b : Prop} (h : a) (f : a → b := by first | exact fun h => aEr (aBa h) | exact aGs | exact aGq | exact aF1 (by kernel_rfl) | exact aCu rfl | exact aCt rfl | exact aDy | exact aF3 | exact aDT rfl rfl | exact aBa | exact aEP | exact aEQ | exact aFz | exact aGB | exact aGC | exact aGA rfl | exact aF2 | exact aGr | exact aHE | exact aGD | exact jD rfl rfl (aEt (y := .agg _) rfl rfl rfl rfl) (fun e => by cases e) | exact zH (xA uJ rfl rfl rfl) rfl rfl | exact zH (xA zb rfl rfl rfl) rfl rfl) : b := f h
theorem qy {a b : Prop} (h : a) (f : a → b := by first | exact zH (aAT (by conv => lhs; whnf)) rfl rfl | exact zH (aEs (by conv => lhs; whnf)) rfl rfl | exact zH (aCh rfl) rfl rfl | exact zH (aHC (aGZ _ (by assumption)) rfl rfl rfl) rfl rfl | exact zH (aHB rfl rfl rfl rfl rfl) rfl rfl | exact zH (aIR rfl rfl rfl rfl) rfl rfl | exact zH (xA (by first | exact aF0 (by omega) | exact aFZ (by omega) | exact aFY (by omega) | exact aFX (by omega) | exact aCr (by omega) | exact aCq (by omega) | exact aFW (by omega) | exact aFV (by omega) | exact aBG (by omega) | exact aBF (by omega) | exact aCs (by omega) | exact aBH (by omega) | exact jO rfl (by omega) (by omega) | exact aEc rfl (by omega) (by omega)) rfl rfl rfl) rfl rfl | exact zH (aDX rfl ⟨_, _, _, _, rfl⟩) rfl rfl | exact zH (aEO rfl rfl ⟨_, _, _, _, rfl⟩) rfl rfl | exact zH (aB8 (y := .v (.string _)) rfl rfl rfl) rfl rfl | exact zH (aB8 rfl rfl ⟨_, _, _, _, rfl⟩) rfl rfl | exact zH (aEu rfl) rfl rfl | exact zH (aB9 (z := .v _) rfl rfl rfl rfl) rfl rfl | exact zH (aB9 rfl rfl rfl rfl) rfl rfl | exact zH (aHA rfl (by conv => lhs; whnf)) rfl rfl | exact aDT rfl rfl | exact fun h => aEr (aBa h) | exact aGs | exact aGq | exact aF1 (by kernel_rfl) | exact aCu rfl | exact aCt rfl | exact aDy | exact aF3 | exact aBa | exact aEP | exact aEQ | exact aFz | exact aGB | exact aGC | exact aGA rfl | exact aF2 | exact aGr | exact aHE | exact aGD | exact zH (uL rfl rfl rfl) rfl rfl | exact zH (vO rfl rfl rfl rfl rfl rfl rfl) rfl rfl | exact zH (wz (by simpa using (by assumption)) rfl rfl rfl rfl rfl) rfl rfl | exact jD rfl rfl (aEt (y := .agg _) rfl rfl rfl rfl) (fun e => by cases e) | exact jD rfl rfl (aFr rfl rfl) (fun e => by cases e)) : b := f h
theorem qle {i : Inv} (h : s.le i := by refine ⟨?_, ?_⟩ <;> (repeat (first | trivial | exact ⟨rfl, trivial⟩ | refine ⟨rfl, ?_⟩ | refine ⟨.inl ⟨rfl, rfl⟩, ?_⟩ | refine ⟨.inr ⟨_, _, rfl, rfl, rfl, rfl, rfl⟩, ?_⟩))) : s.le i := h
theorem qdr {a b c : Prop} (h : b) (ha : a := by kernel_rfl) : (a ∧ b) ∨ c := .inl ⟨ha, h⟩
theorem qe {a : Prop} (h : a := by exact ⟨trivial, [], by simp, trivial, ⟨trivial, trivial⟩, trivial, ⟨.inl ⟨rfl, rfl⟩, trivial⟩⟩) : a := h
theorem qO {f : FuncId} {fn : Func} {c : Code} {rs : List ResultVar} {args : List AV} {out : Out} (hf : P.funcs[f]? = some fn) (hnt : fn.ntmps = n) (hrs : fn.results = rs.toArray) (h : xM P Θ n c (kE Θ rs out) (St.init args)) (hΘ : yJ P Θ := by exact aGo) (hb : fn.body = some c := by exact rfl) (hm : P.follows .mixedOrders = true := by kernel_rfl) (hnm : (fn.name == "runtime.NumGoroutine") = false := by kernel_rfl) (hlen : Nat.ble args.length n = true := by exact rfl) : AC P f args out := aJG hΘ hm hf hb hnt hrs hnm hlen h
theorem qrf {f : FuncId} {fn : Func} {c : Code} {rs : List ResultVar} {args : List AV} {out : Out} (hf : P.funcs[f]? = some fn) (hnt : fn.ntmps = n) (hrs : fn.results = rs.toArray) (h : jf P Θ n c (kE Θ rs out) (St.init args)) (hΘ : yJ P Θ := by exact aGo) (hb : fn.body = some c := by exact rfl) (hm : P.follows .mixedOrders = true := by kernel_rfl) (hnm : (fn.name == "runtime.NumGoroutine") = false := by kernel_rfl) (hlen : Nat.ble args.length n = true := by exact rfl) : AC P f args out := aJI hΘ hm hf hb hnt hrs hnm hlen h
end
theorem aHk {P : Program} : yJ P [] := fun t => trivial
theorem xJ {P : Program} {t : Nat} {x : TI} {Θ : Tab} (h : uR P t x) (r : yJ P Θ) : yJ P ((t, x) :: Θ) := fun u => by
 show uR P u (bif Nat.beq t u then x else Tab.look Θ u)
 by_cases e : t = u
 · subst e; simpa using h
 · rw [x9 e]; exact r u
theorem aIa {P : Program} {t b : Nat} (hu : P.underlying t = some .string) (hi : (P.info? t).map (fun i => (i.zero, i.size, i.bytes)) = some (some (.string ByteArray.empty), 1, b)) : uR P t .str := by
 obtain ⟨i, h1, h2, h3, _⟩ := info_parts hi
 exact ⟨hu, i, h1, h3, h2⟩
theorem aGP {P : Program} {t b : Nat} {k : IntKind} (hu : P.underlying t = some (.int k)) (hi : (P.info? t).map (fun i => (i.zero, i.size, i.bytes)) = some (some (.int k 0), 1, b)) : uR P t (.int k) := by
 obtain ⟨i, h1, h2, h3, _⟩ := info_parts hi
 exact ⟨hu, i, h1, h3, h2⟩
theorem aHl {P : Program} {t b : Nat} (hu : P.underlying t = some .bool) (hi : (P.info? t).map (fun i => (i.zero, i.size, i.bytes)) = some (some (.bool false), 1, b)) : uR P t .bool := by
 obtain ⟨i, h1, h2, h3, _⟩ := info_parts hi
 exact ⟨hu, i, h1, h3, h2⟩
theorem yZ {P : Program} {t e b sz by_ : Nat} {zv : Value} {z : AV} (hu : P.underlying t = some (.slice e)) (hj : (P.info? t).map (fun i => (i.zero, i.size, i.bytes)) = some (some (.slice none 0 0), 1, b)) (hi : (P.info? e).map (fun i => (i.zero, i.size, i.bytes)) = some (some zv, sz, by_))
 (h0 : 0 < sz) (hz : asz z = sz) (hr : ∀ w, RD w z Fa zv.cells.toList) : uR P t (.slice e sz by_ z) := by
 obtain ⟨j, j1, j2, j3, _⟩ := info_parts hj
 obtain ⟨i, h1, h2, h3, h4⟩ := info_parts hi
 exact ⟨hu, ⟨j, j1, j3, j2⟩, i, zv, h1, h2, h3, h4, h0, hz, hr⟩
theorem aI8 {P : Program} {t kt vt b c : Nat} {zv : Value} {z : AV} (hu : P.underlying t = some (.map kt vt)) (hk : P.underlying kt = some .string) (hi : (P.info? vt).map (fun i => (i.zero, i.size, i.bytes)) = some (some zv, c, b)) (hz : ∀ S w hp B V, RV S w hp B V z zv) : uR P t (.map kt vt z) := by
 obtain ⟨i, h1, h2, h3, h4⟩ := info_parts hi
 exact ⟨hu, hk, i, zv, h1, h2, hz⟩
def aA8 (P : Program) : Nat → List Field → List (Nat × Nat) → Bool
 | _, [], [] => true
 | n, f :: fs, (o, z) :: r => Nat.beq f.offset o && (Nat.beq o n && (Nat.blt 0 z && ((match (P.info? f.type).map (·.size) with | some q => Nat.beq q z | none => false) && aA8 P (n + z) fs r)))
 | _, _, _ => false
theorem aDU {P : Program} : ∀ (fs : List Field) (r : List (Nat × Nat)) (n : Nat), aA8 P n fs r = true → wI P n fs r
 | [], [], n, _ => trivial
 | [], _ :: _, n, h => by simp [aA8] at h
 | _ :: _, [], n, h => by simp [aA8] at h
 | f :: fs, (o, z) :: r, n, h => by
  simp only [aA8, Bool.and_eq_true] at h
  obtain ⟨h1, h2, h3, h4, h5⟩ := h
  refine ⟨Nat.eq_of_beq_eq_true h1, Nat.eq_of_beq_eq_true h2, by simpa using h3, ?_, aDU fs r (n + z) h5⟩
  cases hq : (P.info? f.type).map (·.size) with
  | none => rw [hq] at h4; cases h4
  | some q => rw [hq] at h4; rw [Nat.eq_of_beq_eq_true h4]
theorem yQ {P : Program} {t b : Nat} {fs : List (Nat × Nat)} {z : List AV} {cs : Array Value} (hu : P.underlying t = some (.struct (P.fieldsOf t))) (hi : (P.info? t).map (fun i => (i.zero, i.size, i.bytes)) = some (some (.agg cs), sizes fs, b))
 (ho : aA8 P 0 (P.fieldsOf t).toList fs = true) (hp : 0 < sizes fs) (hm : z.map asz = fs.map (·.2)) (hr : ∀ w, RDL w z Fa cs.toList) : uR P t (.struct fs z) := by
 obtain ⟨i, h1, h2, h3, _⟩ := info_parts hi
 exact ⟨_, i, cs, hu, aDU _ _ _ ho, h1, h3, hp, hm, h2, hr⟩
theorem ul {S : Nat → Prop} {w : World} {x : AV} {xs : List AV} {c1 c2 : List Value} (h : RA S w x c1) (r : RL S w xs c2) : RL S w (x :: xs) (c1 ++ c2) := by unfold RL; exact ⟨c1, c2, rfl, h, r⟩
theorem aD1 {S : Nat → Prop} {w : World} : RL S w [] [] := by unfold RL; rfl
theorem qf {S : Nat → Prop} {w : World} {x : Value} (h : x.oneCell' = true) : RA S w (.v x) [x] := by unfold RA; exact ⟨rfl, h⟩
theorem aIW {S : Nat → Prop} {w : World} {xs : List AV} {cs : List Value} (h : RL S w xs cs) : RA S w (.agg xs) cs := by unfold RA; exact h
theorem yI {w : World} {x : Value} (h : x.oneCell' = true) : RD w (.v x) Fa [x] := by unfold RD; exact ⟨noF, rfl, h⟩
theorem zR {w : World} {sz : Nat} (h : 0 < sz) : RD w (.lst sz []) Fa [.slice none 0 0] := by
 unfold RD
 refine ⟨_, 0, [], Fa, rfl, World.ownsRow_nil _ _ _ _, by simp, h, by unfold RDL; exact ⟨rfl, noF⟩, fun g => ⟨fun h => h.elim, fun h => ?_⟩, fun g h => ?_⟩
 · rcases h with h | h
   · simp [Value.ownBlock] at h
   · exact h
 · simp [Value.ownBlock] at h
theorem zx {w : World} {xs : List AV} {cs : List Value} (h : RDL w xs Fa cs) : RD w (.agg xs) Fa cs := by unfold RD; exact h
theorem zA {w : World} : RDL w [] Fa [] := by unfold RDL; exact ⟨rfl, noF⟩
theorem xC {w : World} {x : AV} {xs : List AV} {c1 c2 : List Value} (h : RD w x Fa c1) (r : RDL w xs Fa c2) : RDL w (x :: xs) Fa (c1 ++ c2) := by unfold RDL; exact ⟨c1, c2, Fa, Fa, rfl, Split.l0 noF, h, r⟩
theorem aCB {w : World} {x : AV} {u : Value} (h : RD w x Fa [u]) : ∀ m, RDL w (List.replicate m x) Fa (List.replicate m u)
 | 0 => zA
 | m + 1 => by simp only [List.replicate_succ]; exact xC (c1 := [u]) h (aCB h m)
theorem aI9 {P : Program} {t b e : Nat} (hu : P.underlying t = some (.pointer e)) (hi : (P.info? t).map (fun i => (i.zero, i.size, i.bytes)) = some (some (.pointer none), 1, b)) : uR P t .ptr := by
 obtain ⟨i, h1, h2, h3, _⟩ := info_parts hi
 exact ⟨⟨e, hu⟩, i, h1, h3, h2⟩
def aGv (P : Program) (t : TypeId) : Bool := match P.underlying t with | some (.func _ _ _) => true | _ => false
theorem aE0 {P : Program} {t b : Nat} (hu : aGv P t = true) (hi : (P.info? t).map (fun i => (i.zero, i.size, i.bytes)) = some (some .nilFunc, 1, b)) : uR P t .func := by
 obtain ⟨i, h1, h2, h3, _⟩ := info_parts hi
 refine ⟨?_, i, h1, h3, h2⟩
 unfold aGv at hu
 split at hu
 · rename_i x y z h; exact ⟨x, y, z, h⟩
 · cases hu
theorem aGO {P : Program} {t b e m sz be : Nat} {z : AV} {cs : Array Value} {ze : Option Value} (hu : P.underlying t = some (.array m e)) (hi : (P.info? t).map (fun i => (i.zero, i.size, i.bytes)) = some (some (.agg cs), m * sz, b)) (he : (P.info? e).map (fun i => (i.zero, i.size, i.bytes)) = some (ze, sz, be))
 (hm : 0 < m) (h0 : 0 < sz) (hz : asz z = sz) (hr : ∀ w, RDL w (List.replicate m z) Fa cs.toList) : uR P t (.arr e m sz z) := by
 obtain ⟨i, h1, h2, h3, _⟩ := info_parts hi
 refine ⟨hu, ⟨i, cs, h1, h3, h2, hr⟩, hm, h0, hz, ?_⟩
 cases hj : P.info? e with
 | none => rw [hj] at he; simp at he
 | some j => rw [hj] at he; simp at he; exact ⟨j, rfl, he.2.1⟩
abbrev zS : AV := .v (.string ByteArray.empty)
abbrev zI : AV := .v (.int .i64 0)
abbrev zB : AV := .v (.bool false)
def Th : Tab := [(9, .str), (3, .int .i64), (4, .bool), (5, .int .u8),
 (63, .slice 9 1 16 zS),
 (38, .slice 5 1 1 (.v (.int .u8 0))),
 (101, .struct [(0, 1), (1, 1)] [zS, zI]), (39, .slice 101 2 24 (.agg [zS, zI])),
 (107, .struct [(0, 1), (1, 1), (2, 1)] [zS, zI, zB]), (28, .slice 107 3 32 (.agg [zS, zI, zB])),
 (139, .struct [(0, 1), (1, 1), (2, 1)] [zS, zI, zB]), (22, .slice 139 3 32 (.agg [zS, zI, zB])),
 (156, .slice 101 2 24 (.agg [zS, zI])),
 (168, .slice 107 3 32 (.agg [zS, zI, zB])),
 (117, .slice 3 1 8 zI),
 (119, .struct [(0, 1), (1, 1)] [.lst 1 [], .lst 2 []]), (53, .slice 119 2 48 (.agg [.lst 1 [], .lst 2 []])),
 (288, .slice 4 1 1 zB),
 (153, .struct [(0, 1), (1, 1), (2, 1)] [.lst 1 [], zI, zI]), (93, .ptr),
 (122, .struct [(0, 1), (1, 1), (2, 1), (3, 1)] [zS, zI, zI, zB]), (54, .slice 122 4 40 (.agg [zS, zI, zI, zB])),
 (56, .struct [(0, 1), (1, 1)] [.lst 2 [], .lst 4 []]),
 (69, .struct [(0, 1), (1, 1), (2, 1), (3, 1), (4, 1)] [zI, zI, zS, zS, .lst 3 []]),
 (71, .struct [(0, 1), (1, 1), (2, 1), (3, 1), (4, 1)] [zI, zI, zI, .lst 1 [], .lst 2 []]),
 (304, .struct [(0, 1), (1, 1), (2, 1)] [zI, zI, zB]), (218, .slice 304 3 24 (.agg [zI, zI, zB])),
 (220, .struct [(0, 1), (1, 1), (2, 1)] [zS, zI, .lst 3 []]),
 (30, .struct [(0, 1), (1, 1), (2, 1), (3, 1), (4, 1)] [zI, zS, zS, zS, .lst 3 []]),
 (213, .slice 30 5 80 (.agg [zI, zS, zS, zS, .lst 3 []])),
 (215, .struct [(0, 1), (1, 1), (2, 1), (3, 1), (4, 1), (5, 1), (6, 1), (7, 1), (8, 1)] [.lst 5 [], zI, zI, zI, zI, zI, zI, zI, .lst 2 []]),
 (73, .struct [(0, 1), (1, 1), (2, 1), (3, 5), (8, 5)] [zI, zI, zI, .agg [zI, zI, zS, zS, .lst 3 []], .agg [zI, zI, zI, .lst 1 [], .lst 2 []]]),
 (24, .struct [(0, 1), (1, 1), (2, 1), (3, 1), (4, 1)] [zI, zS, zS, zS, .lst 3 []]),
 (57, .slice 215 9 104 (.agg [.lst 5 [], zI, zI, zI, zI, zI, zI, zI, .lst 2 []])),
 (58, .slice 220 3 48 (.agg [zS, zI, .lst 3 []])),
 (59, .slice 73 13 168 (.agg [zI, zI, zI, .agg [zI, zI, zS, zS, .lst 3 []], .agg [zI, zI, zI, .lst 1 [], .lst 2 []]])),
 (209, .slice 213 1 24 (.lst 5 [])),
 (61, .struct [(0, 2), (2, 1), (3, 1), (4, 1), (5, 1)] [.agg [.lst 2 [], .lst 4 []], .lst 9 [], .lst 3 [], .lst 13 [], zI]),
 (226, .arr 9 19 1 zS),
 (82, .arr 9 7 1 zS),
 (85, .struct [(0, 1), (1, 1)] [.v .nilFunc, .v .nilFunc]), (145, .map 9 85 (.agg [.v .nilFunc, .v .nilFunc])), (80, .func), (83, .func),
 ]
theorem aGo : yJ Tryz.prog Th := by
 unfold Th
 have e2 : ∀ w, RDL w [zS, zI] Fa [.string ByteArray.empty, .int .i64 0] := fun w => xC (c1 := [_]) (yI rfl) (xC (c1 := [_]) (yI rfl) zA)
 have e3 : ∀ w, RDL w [zS, zI, zB] Fa [.string ByteArray.empty, .int .i64 0, .bool false] := fun w => xC (c1 := [_]) (yI rfl) (xC (c1 := [_]) (yI rfl) (xC (c1 := [_]) (yI rfl) zA))
 have e4 : ∀ w, RDL w [zS, zI, zI, zB] Fa [.string ByteArray.empty, .int .i64 0, .int .i64 0, .bool false] := fun w => xC (c1 := [_]) (yI rfl) (xC (c1 := [_]) (yI rfl) (xC (c1 := [_]) (yI rfl) (xC (c1 := [_]) (yI rfl) zA)))
 have eC : ∀ w, RDL w [.lst 1 [], .lst 2 []] Fa [.slice none 0 0, .slice none 0 0] := fun w => xC (c1 := [_]) (zR (by omega)) (xC (c1 := [_]) (zR (by omega)) zA)
 have eN : ∀ w, RDL w [zI, .lst 1 []] Fa [.int .i64 0, .slice none 0 0] := fun w => xC (c1 := [_]) (yI rfl) (xC (c1 := [_]) (zR (by omega)) zA)
 have eV : ∀ w, RDL w [zI, zI, zB] Fa [.int .i64 0, .int .i64 0, .bool false] := fun w => xC (c1 := [_]) (yI rfl) (xC (c1 := [_]) (yI rfl) (xC (c1 := [_]) (yI rfl) zA))
 have eW : ∀ w, RDL w [zS, zI, .lst 3 []] Fa [.string ByteArray.empty, .int .i64 0, .slice none 0 0] := fun w => xC (c1 := [_]) (yI rfl) (xC (c1 := [_]) (yI rfl) (xC (c1 := [_]) (zR (by omega)) zA))
 have eB : ∀ w, RDL w [.lst 2 [], .lst 4 []] Fa [.slice none 0 0, .slice none 0 0] := fun w => xC (c1 := [_]) (zR (by omega)) (xC (c1 := [_]) (zR (by omega)) zA)
 have eO : ∀ w, RDL w [zI, zI, zS, zS, .lst 3 []] Fa [.int .i64 0, .int .i64 0, .string ByteArray.empty, .string ByteArray.empty, .slice none 0 0] := fun w => xC (c1 := [_]) (yI rfl) (xC (c1 := [_]) (yI rfl) (xC (c1 := [_]) (yI rfl) (xC (c1 := [_]) (yI rfl) (xC (c1 := [_]) (zR (by omega)) zA))))
 have eR : ∀ w, RDL w [zI, zI, zI, .lst 1 [], .lst 2 []] Fa [.int .i64 0, .int .i64 0, .int .i64 0, .slice none 0 0, .slice none 0 0] := fun w => xC (c1 := [_]) (yI rfl) (xC (c1 := [_]) (yI rfl) (xC (c1 := [_]) (yI rfl) (xC (c1 := [_]) (zR (by omega)) (xC (c1 := [_]) (zR (by omega)) zA))))
 have eH : ∀ w, RDL w [zI, zS, zS, zS, .lst 3 []] Fa [.int .i64 0, .string ByteArray.empty, .string ByteArray.empty, .string ByteArray.empty, .slice none 0 0] := fun w => xC (c1 := [_]) (yI rfl) (xC (c1 := [_]) (yI rfl) (xC (c1 := [_]) (yI rfl) (xC (c1 := [_]) (yI rfl) (xC (c1 := [_]) (zR (by omega)) (zA)))))
 have eK : ∀ w, RDL w [.lst 5 [], zI, zI, zI, zI, zI, zI, zI, .lst 2 []] Fa [.slice none 0 0, .int .i64 0, .int .i64 0, .int .i64 0, .int .i64 0, .int .i64 0, .int .i64 0, .int .i64 0, .slice none 0 0] := fun w => xC (c1 := [_]) (zR (by omega)) (xC (c1 := [_]) (yI rfl) (xC (c1 := [_]) (yI rfl) (xC (c1 := [_]) (yI rfl) (xC (c1 := [_]) (yI rfl) (xC (c1 := [_]) (yI rfl) (xC (c1 := [_]) (yI rfl) (xC (c1 := [_]) (yI rfl) (xC (c1 := [_]) (zR (by omega)) (zA)))))))))
 have eM : ∀ w, RDL w [zI, zI, zI, .agg [zI, zI, zS, zS, .lst 3 []], .agg [zI, zI, zI, .lst 1 [], .lst 2 []]] Fa [.int .i64 0, .int .i64 0, .int .i64 0, .int .i64 0, .int .i64 0, .string ByteArray.empty, .string ByteArray.empty, .slice none 0 0, .int .i64 0, .int .i64 0, .int .i64 0, .slice none 0 0, .slice none 0 0] := fun w => xC (c1 := [_]) (yI rfl) (xC (c1 := [_]) (yI rfl) (xC (c1 := [_]) (yI rfl) (xC (c1 := [_, _, _, _, _]) (zx (eO w)) (xC (c1 := [_, _, _, _, _]) (zx (eR w)) zA))))
 have eG : ∀ w, RDL w [.lst 1 [], zI, zI] Fa [.slice none 0 0, .int .i64 0, .int .i64 0] := fun w => xC (c1 := [_]) (zR (by omega)) (xC (c1 := [_]) (yI rfl) (xC (c1 := [_]) (yI rfl) zA))
 refine xJ (aIa (b := 16) (by kernel_rfl) (by kernel_rfl)) (xJ (aGP (b := 8) (by kernel_rfl) (by kernel_rfl)) (xJ (aHl (b := 1) (by kernel_rfl) (by kernel_rfl)) (xJ (aGP (b := 1) (by kernel_rfl) (by kernel_rfl)) ?_)))
 refine xJ (yZ (b := 24) (zv := .string ByteArray.empty) (by kernel_rfl) (by kernel_rfl) (by kernel_rfl) (by omega) rfl (fun w => yI rfl)) ?_
 refine xJ (yZ (b := 24) (zv := .int .u8 0) (by kernel_rfl) (by kernel_rfl) (by kernel_rfl) (by omega) rfl (fun w => yI rfl)) ?_
 refine xJ (yQ (b := 24) (cs := #[.string ByteArray.empty, .int .i64 0]) (by kernel_rfl) (by kernel_rfl) (by kernel_rfl) (by decide) rfl e2) (xJ (yZ (b := 24) (zv := .agg #[.string ByteArray.empty, .int .i64 0]) (by kernel_rfl) (by kernel_rfl) (by kernel_rfl) (by omega) rfl (fun w => zx (e2 w))) ?_)
 refine xJ (yQ (b := 32) (cs := #[.string ByteArray.empty, .int .i64 0, .bool false]) (by kernel_rfl) (by kernel_rfl) (by kernel_rfl) (by decide) rfl e3) (xJ (yZ (b := 24) (zv := .agg #[.string ByteArray.empty, .int .i64 0, .bool false]) (by kernel_rfl) (by kernel_rfl) (by kernel_rfl) (by omega) rfl (fun w => zx (e3 w))) ?_)
 refine xJ (yQ (b := 32) (cs := #[.string ByteArray.empty, .int .i64 0, .bool false]) (by kernel_rfl) (by kernel_rfl) (by kernel_rfl) (by decide) rfl e3) (xJ (yZ (b := 24) (zv := .agg #[.string ByteArray.empty, .int .i64 0, .bool false]) (by kernel_rfl) (by kernel_rfl) (by kernel_rfl) (by omega) rfl (fun w => zx (e3 w))) ?_)
 refine xJ (yZ (b := 24) (zv := .agg #[.string ByteArray.empty, .int .i64 0]) (by kernel_rfl) (by kernel_rfl) (by kernel_rfl) (by omega) rfl (fun w => zx (e2 w))) ?_
 refine xJ (yZ (b := 24) (zv := .agg #[.string ByteArray.empty, .int .i64 0, .bool false]) (by kernel_rfl) (by kernel_rfl) (by kernel_rfl) (by omega) rfl (fun w => zx (e3 w))) ?_
 refine xJ (yZ (b := 24) (zv := .int .i64 0) (by kernel_rfl) (by kernel_rfl) (by kernel_rfl) (by omega) rfl (fun w => yI rfl)) ?_
 refine xJ (yQ (b := 48) (cs := #[.slice none 0 0, .slice none 0 0]) (by kernel_rfl) (by kernel_rfl) (by kernel_rfl) (by decide) rfl eC) (xJ (yZ (b := 24) (zv := .agg #[.slice none 0 0, .slice none 0 0]) (by kernel_rfl) (by kernel_rfl) (by kernel_rfl) (by omega) rfl (fun w => zx (eC w))) ?_)
 refine xJ (yZ (b := 24) (zv := .bool false) (by kernel_rfl) (by kernel_rfl) (by kernel_rfl) (by omega) rfl (fun w => yI rfl)) ?_
 refine xJ (yQ (b := 40) (cs := #[.slice none 0 0, .int .i64 0, .int .i64 0]) (by kernel_rfl) (by kernel_rfl) (by kernel_rfl) (by decide) rfl eG) (xJ (aI9 (b := 8) (e := 153) (by kernel_rfl) (by kernel_rfl)) ?_)
 refine xJ (yQ (b := 40) (cs := #[.string ByteArray.empty, .int .i64 0, .int .i64 0, .bool false]) (by kernel_rfl) (by kernel_rfl) (by kernel_rfl) (by decide) rfl e4) (xJ (yZ (b := 24) (zv := .agg #[.string ByteArray.empty, .int .i64 0, .int .i64 0, .bool false]) (by kernel_rfl) (by kernel_rfl) (by kernel_rfl) (by omega) rfl (fun w => zx (e4 w))) ?_)
 refine xJ (yQ (b := 48) (cs := #[.slice none 0 0, .slice none 0 0]) (by kernel_rfl) (by kernel_rfl) (by kernel_rfl) (by decide) rfl eB) ?_
 refine xJ (yQ (b := 72) (cs := #[.int .i64 0, .int .i64 0, .string ByteArray.empty, .string ByteArray.empty, .slice none 0 0]) (by kernel_rfl) (by kernel_rfl) (by kernel_rfl) (by decide) rfl eO) ?_
 refine xJ (yQ (b := 72) (cs := #[.int .i64 0, .int .i64 0, .int .i64 0, .slice none 0 0, .slice none 0 0]) (by kernel_rfl) (by kernel_rfl) (by kernel_rfl) (by decide) rfl eR) ?_
 refine xJ (yQ (b := 24) (cs := #[.int .i64 0, .int .i64 0, .bool false]) (by kernel_rfl) (by kernel_rfl) (by kernel_rfl) (by decide) rfl eV) (xJ (yZ (b := 24) (zv := .agg #[.int .i64 0, .int .i64 0, .bool false]) (by kernel_rfl) (by kernel_rfl) (by kernel_rfl) (by omega) rfl (fun w => zx (eV w))) ?_)
 refine xJ (yQ (b := 48) (cs := #[.string ByteArray.empty, .int .i64 0, .slice none 0 0]) (by kernel_rfl) (by kernel_rfl) (by kernel_rfl) (by decide) rfl eW) ?_
 refine xJ (yQ (b := 80) (cs := #[.int .i64 0, .string ByteArray.empty, .string ByteArray.empty, .string ByteArray.empty, .slice none 0 0]) (by kernel_rfl) (by kernel_rfl) (by kernel_rfl) (by decide) rfl eH) ?_
 refine xJ (yZ (b := 24) (zv := .agg #[.int .i64 0, .string ByteArray.empty, .string ByteArray.empty, .string ByteArray.empty, .slice none 0 0]) (by kernel_rfl) (by kernel_rfl) (by kernel_rfl) (by omega) rfl (fun w => zx (eH w))) ?_
 refine xJ (yQ (b := 104) (cs := #[.slice none 0 0, .int .i64 0, .int .i64 0, .int .i64 0, .int .i64 0, .int .i64 0, .int .i64 0, .int .i64 0, .slice none 0 0]) (by kernel_rfl) (by kernel_rfl) (by kernel_rfl) (by decide) rfl eK) ?_
 refine xJ (yQ (b := 168) (cs := #[.int .i64 0, .int .i64 0, .int .i64 0, .int .i64 0, .int .i64 0, .string ByteArray.empty, .string ByteArray.empty, .slice none 0 0, .int .i64 0, .int .i64 0, .int .i64 0, .slice none 0 0, .slice none 0 0]) (by kernel_rfl) (by kernel_rfl) (by kernel_rfl) (by decide) rfl eM) ?_
 refine xJ (yQ (b := 80) (cs := #[.int .i64 0, .string ByteArray.empty, .string ByteArray.empty, .string ByteArray.empty, .slice none 0 0]) (by kernel_rfl) (by kernel_rfl) (by kernel_rfl) (by decide) rfl eH) ?_
 refine xJ (yZ (b := 24) (zv := .agg #[.slice none 0 0, .int .i64 0, .int .i64 0, .int .i64 0, .int .i64 0, .int .i64 0, .int .i64 0, .int .i64 0, .slice none 0 0]) (by kernel_rfl) (by kernel_rfl) (by kernel_rfl) (by omega) rfl (fun w => zx (eK w))) ?_
 refine xJ (yZ (b := 24) (zv := .agg #[.string ByteArray.empty, .int .i64 0, .slice none 0 0]) (by kernel_rfl) (by kernel_rfl) (by kernel_rfl) (by omega) rfl (fun w => zx (eW w))) ?_
 refine xJ (yZ (b := 24) (zv := .agg #[.int .i64 0, .int .i64 0, .int .i64 0, .int .i64 0, .int .i64 0, .string ByteArray.empty, .string ByteArray.empty, .slice none 0 0, .int .i64 0, .int .i64 0, .int .i64 0, .slice none 0 0, .slice none 0 0]) (by kernel_rfl) (by kernel_rfl) (by kernel_rfl) (by omega) rfl (fun w => zx (eM w))) ?_
 refine xJ (yZ (b := 24) (zv := .slice none 0 0) (by kernel_rfl) (by kernel_rfl) (by kernel_rfl) (by omega) rfl (fun w => zR (by omega))) ?_
 refine xJ (yQ (b := 128) (cs := #[.slice none 0 0, .slice none 0 0, .slice none 0 0, .slice none 0 0, .slice none 0 0, .int .i64 0]) (by kernel_rfl) (by kernel_rfl) (by kernel_rfl) (by decide) rfl (fun w => xC (c1 := [_, _]) (zx (eB w)) (xC (c1 := [_]) (zR (by omega)) (xC (c1 := [_]) (zR (by omega)) (xC (c1 := [_]) (zR (by omega)) (xC (c1 := [_]) (yI rfl) zA)))))) ?_
 refine xJ (aGO (b := 304) (be := 16) (ze := some (.string ByteArray.empty)) (cs := (List.replicate 19 (.string ByteArray.empty)).toArray) (by kernel_rfl) (by kernel_rfl) (by kernel_rfl) (by omega) (by omega) rfl (fun w => aCB (yI rfl) 19)) ?_
 refine xJ (aGO (b := 112) (be := 16) (ze := some (.string ByteArray.empty)) (cs := (List.replicate 7 (.string ByteArray.empty)).toArray) (by kernel_rfl) (by kernel_rfl) (by kernel_rfl) (by omega) (by omega) rfl (fun w => aCB (yI rfl) 7)) ?_
 refine xJ (yQ (b := 16) (cs := #[.nilFunc, .nilFunc]) (by kernel_rfl) (by kernel_rfl) (by kernel_rfl) (by decide) rfl (fun w => xC (c1 := [_]) (yI rfl) (xC (c1 := [_]) (yI rfl) zA))) (xJ (aI8 (b := 16) (c := 2) (zv := .agg #[.nilFunc, .nilFunc]) (by kernel_rfl) (by kernel_rfl) (by kernel_rfl) (fun S w hp B V => by unfold RV; exact ⟨[_, _], rfl, ul (c1 := [_]) (qf rfl) (ul (c1 := [_]) (qf rfl) aD1)⟩)) (xJ (aE0 (b := 8) (by kernel_rfl) (by kernel_rfl)) (xJ (aE0 (b := 8) (by kernel_rfl) (by kernel_rfl)) ?_)))
 exact aHk
end Go.Proofs.YtodckioppgjbdaaGreatDoor.AM
