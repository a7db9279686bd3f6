/- Texts of the machine over data, folded. -/
import Derived.Test.YtodckioppgjbdaaDoorKb4
set_option linter.unusedVariables false
set_option linter.unusedSimpArgs false
namespace Go.Proofs.YtodckioppgjbdaaDoor.AM
open Go Go.RowKit
section
variable {P : Program} {Θ : Tab} {n : Nat} {Q : AEx → St → Prop} {s : St}
theorem aHy {c : Code} {ι : Type} (I : ι → InvM) (μ : ι → Nat) (i0 : ι) (h0 : s.leM (I i0)) (h : ∀ i, xN P Θ n c (AEx.then (fun s' => ∃ j, s'.leM (I j) ∧ μ j < μ i) Q) (I i).st) : xN P Θ n (.loop c) Q s := ⟨ι, I, μ, ⟨i0, h0⟩, h⟩
variable {ops : Array Oper} {draw : Bool} {k : Nat} {o : Oper} {r : List Oper} {K : St → Prop}
theorem aIs (h : K s) : xO P Θ n ops draw k [] s K := h
theorem aDk {e : Eff} (hg : xZ ops s o = some true) (hin : inN n o.dst = true) (hp : Pre P Θ o s e) (hu : draw = true → e.upd = none ∨ tied ops k = true ∨ vK Θ ops (fun j => Nat.blt j k) k s e) (h : xO P Θ n ops draw (k + 1) r (s.app o.dst e) K) : xO P Θ n ops draw k (o :: r) s K := by
 unfold xO; rw [hg]; exact ⟨hin, e, hp, hu, .inl h⟩
theorem aIt {d : Option Tmp} {op : Op} {ty : TypeId} {pos : String} {after : Array Edge} {g : Option (Nat × Bool)} {v : AV} (hp : Pre P Θ ⟨d, op, ty, pos, after, g⟩ s ⟨v, none⟩) (hg : xZ ops s ⟨d, op, ty, pos, after, g⟩ = some true) (hin : inN n d = true) (h : xO P Θ n ops draw (k + 1) r (s.put d v) K) : xO P Θ n ops draw k (⟨d, op, ty, pos, after, g⟩ :: r) s K :=
 aDk hg hin hp (fun _ => .inl rfl) h
theorem aIY (hg : xZ ops s o = some false) (hin : inN n o.dst = true) (h : xO P Θ n ops draw (k + 1) r (s.put o.dst (.tup [])) K) : xO P Θ n ops draw k (o :: r) s K := by
 unfold xO; rw [hg]; exact ⟨hin, h⟩
variable {d : Option Tmp} {ty : TypeId} {pos : String} {after : Array Edge} {g : Option (Nat × Bool)}
theorem aJQ {t : Nat} {y : AV} (h : s.sl t = y) : Pre P Θ ⟨d, .move (.tmp t), ty, pos, after, g⟩ s ⟨y, none⟩ := ⟨(fun c e => by cases e), .inl (by rw [← h]; rfl)⟩
theorem aJO {t : Nat} {y : AV} (h : s.sl t = y) : Pre P Θ ⟨d, .assign (.tmp t), ty, pos, after, g⟩ s ⟨y, none⟩ := ⟨(fun c e => by cases e), .inl (by rw [← h]; rfl)⟩
theorem aIu {c : Value} (h : c.oneCell' = true) : Pre P Θ ⟨d, .assign (.const c), ty, pos, after, g⟩ s ⟨.v c, none⟩ := ⟨(fun c' e => by cases e; exact h), .inl rfl⟩
theorem aJA {c : Value} (h : c.oneCell' = true) : Pre P Θ ⟨d, .move (.const c), ty, pos, after, g⟩ s ⟨.v c, none⟩ := ⟨(fun c' e => by cases e; exact h), .inl rfl⟩
theorem zo {op : BinOp} {t t2 : TypeId} {x y : Operand} {a b r : Value} (h : zQ P op t x y a b r) (hx : s.ev x = .v a) (hy : s.ev y = .v b) (h1 : r.oneCell' = true) : Pre P Θ ⟨d, .binOp op t x y t2, ty, pos, after, g⟩ s ⟨.v r, none⟩ :=
 .inl ⟨a, b, r, by rw [hx]; rfl, by rw [hy]; rfl, h, h1, rfl⟩
theorem aJB {t : TypeId} {x : Operand} {b : Bool} (hx : s.ev x = .v (.bool b)) : Pre P Θ ⟨d, .unOp .not t x, ty, pos, after, g⟩ s ⟨.v (.bool (!b)), none⟩ :=
 ⟨.bool b, .bool (!b), by rw [hx]; rfl, fun w => rfl, rfl, rfl⟩
def cOK : Operand → Bool
 | .const c => c.oneCell'
 | _ => true
theorem kT {x : Operand} (h : cOK x = true) : ∀ c, x = .const c → c.oneCell' = true := fun c e => by subst e; exact h
def qD : List Operand → Bool
 | [] => true
 | x :: r => cOK x && qD r
theorem vW : ∀ {xs : List Operand}, qD xs = true → ∀ x ∈ xs, ∀ c, x = .const c → c.oneCell' = true
 | [], _, x, hx => by simp at hx
 | y :: ys, h, x, hx => by
  simp only [qD, Bool.and_eq_true] at h
  rcases List.mem_cons.1 hx with rfl | hx
  · exact kT h.1
  · exact vW h.2 x hx
theorem aI9 {c x y : Operand} {t : Bool} {z : AV} (hc : s.ev c = .v (.bool t)) (hz : (bif t then s.ev x else s.ev y) = z) (hx : cOK x = true) (hy : cOK y = true) : Pre P Θ ⟨d, .pick c x y, ty, pos, after, g⟩ s ⟨z, none⟩ :=
 ⟨kT hx, kT hy, t, hc, by rw [hz]⟩
theorem aFV {x : Operand} {t : TypeId} {m : Nat} {y : AV} (hx : s.ev x = y) (hl : wE s y = some m) (hok : aB3 Θ t y) : Pre P Θ ⟨d, .call ⟨.builtin .len, #[x], #[t]⟩, ty, pos, after, g⟩ s ⟨.v (.int .i64 (m : Int)), none⟩ :=
 ⟨x, t, m, rfl, rfl, by rw [hx]; exact hl, by rw [hx]; exact hok, rfl⟩
theorem aI4 {α : Type} {xs : List α} {f : α → AV} {sz : Nat} {x : Operand} {t : TypeId} (hx : s.ev x = .lst sz (xs.map f)) (hok : ∃ e sz b z, Θ.look t = .slice e sz b z) : Pre P Θ ⟨d, .call ⟨.builtin .len, #[x], #[t]⟩, ty, pos, after, g⟩ s ⟨.v (.int .i64 (xs.length : Int)), none⟩ :=
 ⟨x, t, xs.length, rfl, rfl, by rw [hx]; simp [wE], by rw [hx]; exact hok, rfl⟩
theorem aH2 {α : Type} {xs : List α} {f : α → AV} {l sz e : Nat} {x : Operand} {t : TypeId} (hx : s.ev x = .own l) (ho : s.hp l = some ⟨e, sz, xs.map f⟩) (hok : ∃ e sz b z, Θ.look t = .slice e sz b z) : Pre P Θ ⟨d, .call ⟨.builtin .len, #[x], #[t]⟩, ty, pos, after, g⟩ s ⟨.v (.int .i64 (xs.length : Int)), none⟩ :=
 ⟨x, t, xs.length, rfl, rfl, by rw [hx]; simp [wE, ho], by rw [hx]; exact hok, rfl⟩
theorem xR {t : TypeId} {x i : Operand} {a : ByteArray} {k : IntKind} {j : Nat} (hT : u6 P t .str) (hx : s.ev x = .v (.string a)) (hi : s.ev i = .v (.int k (j : Int))) (hj : j < a.size) : Pre P Θ ⟨d, .index t x i, ty, pos, after, g⟩ s ⟨.v (.int .u8 ((a[j]).toNat : Int)), none⟩ := by
 refine .inl ⟨_, _, _, by rw [hx]; rfl, by rw [hi]; rfl, fun w => ?_, rfl, rfl⟩
 have h0 : (0 : Int) ≤ (j : Int) := by omega
 simp [Instr.index, asIntOf, run_underlying hT.1, hj]
theorem aIw {t1 t2 : TypeId} {x : Operand} {a r : Value} (hr : ∀ w, (convert t1 t2 a).run P w = .ok r w) (hx : s.ev x = .v a) (h1 : r.oneCell' = true) : Pre P Θ ⟨d, .convert t1 t2 x, ty, pos, after, g⟩ s ⟨.v r, none⟩ :=
 .inl ⟨a, r, by rw [hx]; rfl, hr, h1, rfl⟩
theorem aIz {t el sz b : Nat} {z : AV} {x ix : Operand} {k : IntKind} {j : Nat} {xs : List AV} {y : AV} (hy : xs[j]? = some y) (ht : Θ.look t = .slice el sz b z) (hx : s.ev x = .lst sz xs) (hi : s.ev ix = .v (.int k ((j : Nat) : Int))) : Pre P Θ ⟨d, .indexAddr t x ix, ty, pos, after, g⟩ s ⟨.ptr y, none⟩ :=
 ⟨k, j, hi, .inl ⟨el, sz, b, z, ht, .inl ⟨xs, y, hx, hy, rfl⟩⟩⟩
theorem aGG {t el sz b : Nat} {z : AV} {x ix : Operand} {k : IntKind} {j l : Nat} {ob : OB} (hj : j < ob.xs.length) (ht : Θ.look t = .slice el sz b z) (hx : s.ev x = .own l) (hi : s.ev ix = .v (.int k ((j : Nat) : Int))) (ho : s.hp l = some ob) (hs : ob.sz = sz) : Pre P Θ ⟨d, .indexAddr t x ix, ty, pos, after, g⟩ s ⟨.optr l j [] 0, none⟩ :=
 ⟨k, j, hi, .inl ⟨el, sz, b, z, ht, .inr ⟨l, ob, hx, ho, hs, hj, rfl⟩⟩⟩
theorem aIy {t : TypeId} {x : Operand} {f : Nat} {fs : List (Nat × Nat)} {z ys : List AV} {o_ z_ : Nat} {y : AV} (ht : Θ.look t = .struct fs z) (hf : fs[f]? = some (o_, z_)) (hx : s.ev x = .ptr (.agg ys)) (hy : ys[f]? = some y) (hs : xA (ys.take f) = o_) : Pre P Θ ⟨d, .fieldAddr t x f, ty, pos, after, g⟩ s ⟨.ptr y, none⟩ :=
 ⟨fs, z, o_, z_, ht, hf, .inl ⟨ys, y, hx, hy, hs, rfl⟩⟩
theorem aI7 {t : TypeId} {x : Operand} {f : Nat} {fs : List (Nat × Nat)} {z : List AV} {o_ z_ l i c : Nat} {p : List Nat} (ht : Θ.look t = .struct fs z) (hf : fs[f]? = some (o_, z_)) (hx : s.ev x = .optr l i p c) : Pre P Θ ⟨d, .fieldAddr t x f, ty, pos, after, g⟩ s ⟨.optr l i (p ++ [f]) (c + o_), none⟩ :=
 ⟨fs, z, o_, z_, ht, hf, .inr ⟨l, i, p, c, hx, rfl⟩⟩
theorem aJP {t : TypeId} {x : Operand} {y : AV} (hx : s.ev x = .ptr y) (hk : (Θ.look t).known = true) (ha : zN y = (Θ.look t).isAgg) (hs : asz y = (Θ.look t).size) : Pre P Θ ⟨d, .load t x, ty, pos, after, g⟩ s ⟨y, none⟩ :=
 ⟨hk, .inl ⟨y, hx, ha, hs, rfl⟩⟩
theorem aJC {t : TypeId} {x : Operand} {l i c : Nat} {p : List Nat} {ob : OB} {y z : AV} (hx : s.ev x = .optr l i p c) (ho : s.hp l = some ob) (hy : ob.xs[i]? = some y) (hg : xK y p 0 = some (z, c)) (hk : (Θ.look t).known = true) (ha : zN z = (Θ.look t).isAgg) (hs : asz z = (Θ.look t).size) (hop : ob.e.open_ = true := by rfl) : Pre P Θ ⟨d, .load t x, ty, pos, after, g⟩ s ⟨z, none⟩ :=
 ⟨hk, .inr ⟨l, i, p, c, ob, hx, ho, .inl ⟨y, z, .inl hop, hy, hg, ha, hs, rfl⟩⟩⟩
theorem aI8 {t : TypeId} {x : Operand} {l i c : Nat} {p : List Nat} {ob : OB} {t' : Option Nat} {y z x' : AV} (hx : s.ev x = .optr l i p c) (ho : s.hp l = some ob) (hop : yV ob.e ob.xs i = some (.o t' i y)) (hg : xK y p 0 = some (z, c)) (hz : ofO z = some x') (hk : (Θ.look t).known = true) (ha : zN x' = (Θ.look t).isAgg) (hs : asz x' = (Θ.look t).size) : Pre P Θ ⟨d, .load t x, ty, pos, after, g⟩ s ⟨x', none⟩ :=
 ⟨hk, .inr ⟨l, i, p, c, ob, hx, ho, .inr ⟨t', y, z, hop, hg, .inl ⟨x', hz, ha, hs, rfl⟩⟩⟩⟩
theorem aIx {x : Operand} {i : Nat} {xs : List AV} {y : AV} (hx : s.ev x = .tup xs) (hy : xs[i]? = some y) : Pre P Θ ⟨d, .extract x i, ty, pos, after, g⟩ s ⟨y, none⟩ := ⟨xs, y, hx, hy, rfl⟩
theorem aI3 {f : FuncId} {ags : Array Operand} {ts : Array TypeId} {t : Nat} {args : List AV} {out : Out} (hac : AC P f args out) (ha : (ags.toList.map fun x => s.dat (s.ev x)) = args) (hfl : (yo s ags.toList).isEmpty = true ∨ out.flat) (hfr : yZ s (t + 1) 0 out.obs) (hok : vM s (ags.toList.map s.ev) = true) (hc : qD ags.toList = true) :
 Pre P Θ ⟨some t, .call ⟨.value (.func f), ags, ts⟩, ty, pos, after, g⟩ s ⟨ren (t + 1) out.val, aAK (t + 1) out.obs⟩ :=
 ⟨f, [], [], t, out, rfl, rfl, vW hc, .inl ⟨args, by rw [← ha]; simp [Function.comp_def], hac, hfr, by simpa using hok, .inl ⟨hfl.imp (fun h => by simpa [yo] using h) id, by simp [aAK]⟩⟩⟩
end
theorem aFP {ρ : Nat → Nat} : ∀ x : AV, x.within (fun _ => false) = true → mapA ρ x = x := by
 intro x
 refine AV.rec (motive_1 := fun x => x.within (fun _ => false) = true → mapA ρ x = x) (motive_2 := fun xs => xg (fun _ => false) xs = true → za ρ xs = xs) ?_ ?_ ?_ ?_ ?_ ?_ ?_ ?_ ?_ ?_ ?_ ?_ ?_ ?_ ?_ x
 · intro _; rfl
 · intro _ _; rfl
 · intro _ _ _; rfl
 · intro _ _ _ _; rfl
 · intro _ _ _; rfl
 · intro _ h; cases h
 · intro _ _ _ _ h; cases h
 · intro xs ih h; simp only [mapA]; rw [ih (by simpa [AV.within] using h)]
 · intro _ h; cases h
 · intro xs ih h; simp only [mapA]; rw [ih (by simpa [AV.within] using h)]
 · intro _ _ _; rfl
 · intro f xs ys ih ih2 h
   simp only [AV.within, Bool.and_eq_true] at h
   simp only [mapA]; rw [ih h.1, ih2 h.2]
 · intro t x ih h; simp only [mapA]; rw [ih (by simpa [AV.within] using h)]
 · intro _; rfl
 · intro x xs ih ih2 h
   simp only [xg, Bool.and_eq_true] at h
   simp only [za]; rw [ih h.1, ih2 h.2]
theorem aEl {P : Program} {Θ : Tab} {s : St} {d : Nat} {ty : TypeId} {pos : String} {after : Array Edge} {g : Option (Nat × Bool)} {f : FuncId} {x : Operand} {r : List Operand} {ts : Array TypeId} {l : Nat} {ob : OB} {xs' args : List AV} {v : Value} (hac : ACM P f ob xs' args v) (hx : s.ev x = .own l) (ho : s.hp l = some ob) (ha : (r.map fun x => s.dat (s.ev x)) = args) (how : (yo s r).isEmpty = true) (hok : vM s (r.map s.ev) = true) (hc : qD r = true) (h1 : v.oneCell' = true) (hsh : ob.e.shut = true := by rfl) (hcx : cOK x = true := by rfl) (hlb : xg (fun _ => false) args = true := by rfl) (hag : s.datHL [l] (r.map s.ev) = args := by rfl) (hah : vN s [l] (r.map s.ev) = true := by rfl) :
 Pre P Θ ⟨some d, .call ⟨.value (.func f), (x :: r).toArray, ts⟩, ty, pos, after, g⟩ s ⟨.v v, some fun s => s.set l (some ⟨ob.e, ob.sz, xs'⟩)⟩ := by
 have hse : ∀ e : ET, e.shut = true → aHA [l] e = e := fun e h => by cases e <;> first | rfl | cases h
 have hml : ∀ xs : List AV, xg (fun _ => false) xs = true → za (xQ 0 [l]) xs = xs := by
  intro xs
  induction xs with
  | nil => intro _; rfl
  | cons y ys ih =>
   intro h
   simp only [xg, Bool.and_eq_true] at h
   simp only [za]; rw [aFP y h.1, ih h.2]
 have hwl : ∀ xs : List AV, xg (fun _ => false) xs = true → ∀ p, xg p xs = true := fun xs h p => by
  have key : ∀ xs : List AV, xg (fun _ => false) xs = true → xg p xs = true := by
   have one : ∀ x : AV, x.within (fun _ => false) = true → x.within p = true := by
    intro x
    refine AV.rec (motive_1 := fun x => x.within (fun _ => false) = true → x.within p = true) (motive_2 := fun xs => xg (fun _ => false) xs = true → xg p xs = true) ?_ ?_ ?_ ?_ ?_ ?_ ?_ ?_ ?_ ?_ ?_ ?_ ?_ ?_ ?_ x
    · intro _; rfl
    · intro _ _; rfl
    · intro _ _ _; rfl
    · intro _ _ _ _; rfl
    · intro _ _ _; rfl
    · intro _ h; cases h
    · intro _ _ _ _ h; cases h
    · intro xs ih h; exact ih h
    · intro _ h; cases h
    · intro xs ih h; exact ih h
    · intro _ _ _; rfl
    · intro f xs ys ih ih2 h
      simp only [AV.within, Bool.and_eq_true] at h ⊢
      exact ⟨ih h.1, ih2 h.2⟩
    · intro t x ih h; exact ih h
    · intro _; rfl
    · intro x xs ih ih2 h
      simp only [xg, Bool.and_eq_true] at h ⊢
      exact ⟨ih h.1, ih2 h.2⟩
   intro xs
   induction xs with
   | nil => intro _; rfl
   | cons y ys ih =>
    intro h
    simp only [xg, Bool.and_eq_true] at h ⊢
    exact ⟨one y h.1, ih h.2⟩
  exact key xs h
 have hcs : ∀ y ∈ (x :: r), ∀ c, y = .const c → c.oneCell' = true := fun y hy => by
  rcases List.mem_cons.1 hy with rfl | hy
  · exact kT hcx
  · exact vW hc y hy
 have how' : xW (r.map s.ev) = [] := by simpa [yo] using how
 refine ⟨f, [], [], d, ⟨.v v, []⟩, rfl, rfl, hcs, .inr ⟨.own 0 :: args, [ob], [⟨ob.e, ob.sz, xs'⟩], [l], ?_, hac, ⟨?_, trivial⟩, by simp, rfl, trivial, ?_, ?_, ?_, .inl ?_, ?_⟩⟩
 · simp only [List.nil_append, List.append_nil, List.map_cons, hx, St.datHL, St.datH, aFa, za, mapA, hag, hml _ hlb]
   simp [xQ]
 · rw [ho]; unfold uY; rw [hse _ hsh]
 · simp only [List.nil_append, List.append_nil, List.map_cons, hx, vN, uX, hah]; simp
 · simp only [xg, AV.within, hwl _ hlb]; simp [xD]
 · have hw : ∀ (e : ET) (p : Nat → Bool), e.shut = true → zx p e = true := fun e p h => by cases e <;> first | rfl | cases h
   simp only [List.cons_append, List.nil_append, List.all_cons, List.all_nil, hw _ _ hsh]; rfl
 · simp only [List.nil_append, List.append_nil, List.map_cons, hx, xW, yG, how', uE]; simp
 · simp only [ren, mapA, uF, yg]; unfold uY; simp only [hse _ hsh]
theorem aI5 {P : Program} {Θ : Tab} {s : St} {d : Nat} {ty : TypeId} {pos : String} {after : Array Edge} {g : Option (Nat × Bool)} (el : ET) (sz : Nat) (h : 0 < sz) (hsh : el.row = true := by rfl) (hok : okL (d + 1) = true := by rfl) : Pre P Θ ⟨some d, .assign (.const (.slice none 0 0)), ty, pos, after, g⟩ s ⟨.own (d + 1), some fun s => (s.kill (d + 1)).set (d + 1) (some ⟨el, sz, []⟩)⟩ :=
 ⟨(fun c e => by cases e; rfl), .inr (.inr (.inl ⟨d, el, sz, rfl, h, hsh, hok, rfl, rfl⟩))⟩
theorem aI6 {P : Program} {Θ : Tab} {s : St} {d : Nat} {ty : TypeId} {pos : String} {after : Array Edge} {g : Option (Nat × Bool)} (el : ET) (sz : Nat) (h : 0 < sz) (hsh : el.row = true := by rfl) (hok : okL (d + 1) = true := by rfl) : Pre P Θ ⟨some d, .move (.const (.slice none 0 0)), ty, pos, after, g⟩ s ⟨.own (d + 1), some fun s => (s.kill (d + 1)).set (d + 1) (some ⟨el, sz, []⟩)⟩ :=
 ⟨(fun c e => by cases e; rfl), .inr (.inr (.inl ⟨d, el, sz, rfl, h, hsh, hok, rfl, rfl⟩))⟩
theorem aIv {P : Program} {Θ : Tab} {s : St} {ty : TypeId} {pos : String} {after : Array Edge} {g : Option (Nat × Bool)} {t : TypeId} {x : Operand} {d : Nat} {y : AV} (hf : s.hp (d + 1) = none) (hx : s.ev x = y) (hk : (match y with | .v c => c.oneCell' | .agg _ => true | .lst _ _ => true | _ => false) = true) (hs : ((Θ.look t).known && Nat.beq (asz y) (Θ.look t).size) = true) (hok : okL (d + 1) = true := by rfl) :
 Pre P Θ ⟨some d, .box t x, ty, pos, after, g⟩ s ⟨.optr (d + 1) 0 [] 0, some fun s' => s'.set (d + 1) (some ⟨.s t, (Θ.look t).size, [y]⟩)⟩ := by
 have hd : s.dat (s.ev x) = y := by rw [hx]; cases y <;> first | rfl | simp at hk
 have ho : yG (s.ev x) = [] := by rw [hx]; cases y <;> first | rfl | simp at hk
 simp only [Bool.and_eq_true] at hs
 refine ⟨fun c e => ?_, d, rfl, hf, hok, hs.1, .inl ⟨by rw [hd]; exact Nat.eq_of_beq_eq_true hs.2, by rw [hx]; cases y <;> first | exact hk | rfl | simp at hk, by rw [ho]; rfl, ?_⟩⟩
 · subst e; simp only [St.ev] at hx; subst hx; exact hk
 · rw [hd, ho]; rfl
theorem aI1 {P : Program} {Θ : Tab} {s : St} {ty : TypeId} {pos : String} {after : Array Edge} {g : Option (Nat × Bool)} {t : TypeId} {d : Nat} (hf : s.hp (d + 1) = none) (hk : (Θ.look t).known = true) (hok : okL (d + 1) = true := by rfl) :
 Pre P Θ ⟨some d, .alloc t, ty, pos, after, g⟩ s ⟨.optr (d + 1) 0 [] 0, some fun s => s.set (d + 1) (some ⟨kz t (Θ.look t).zero, (Θ.look t).size, [(Θ.look t).zero]⟩)⟩ := ⟨d, rfl, hf, hok, hk, rfl⟩
theorem jA {P : Program} {Θ : Tab} {s : St} {d : Option Tmp} {ty : TypeId} {pos : String} {after : Array Edge} {g : Option (Nat × Bool)} {t : TypeId} {x y : Operand} {l i c : Nat} {p : List Nat} {ob : OB} {q z v : AV} (hq : ob.xs[i]? = some q) (hx : s.ev x = .optr l i p c) (ho : s.hp l = some ob) (hg : xK q p 0 = some (z, c)) (hs : ((Θ.look t).known && (Nat.beq (asz z) (Θ.look t).size && Nat.beq (asz v) (asz z))) = true) (hy : s.ev y = v) (hv : (match v with | .v c => c.oneCell' | .agg _ => true | .lst _ _ => true | .ptr _ => true | _ => false) = true) (hop : ob.e.open_ = true := by rfl) :
 Pre P Θ ⟨d, .store t x y, ty, pos, after, g⟩ s ⟨.any, some fun s' => s'.set l (some ⟨.s (ob.e.typ.getD 0), ob.sz, ob.xs.set i (zk q p v)⟩)⟩ := by
 simp only [Bool.and_eq_true] at hs
 have hd : s.dat (s.ev y) = v := by rw [hy]; cases v <;> first | rfl | cases hv
 have hown : yG (s.ev y) = [] := by rw [hy]; cases v <;> first | rfl | cases hv
 have hda : xE s (s.ev y) = true := by rw [hy]; cases v <;> first | exact hv | rfl | cases hv
 obtain ⟨t0, he⟩ : ∃ t0, ob.e = .s t0 ∨ ob.e = .z t0 := by
  cases h : ob.e with
  | s t0 => exact ⟨t0, .inl rfl⟩
  | z t0 => exact ⟨t0, .inr rfl⟩
  | _ => rw [h] at hop; cases hop
 have ht : ob.e.typ.getD 0 = t0 := by rcases he with he | he <;> rw [he] <;> rfl
 refine ⟨fun c e => ?_, hs.1, l, i, p, c, ob, hx, ho, .inl ⟨t0, q, z, he, hq, hg, Nat.eq_of_beq_eq_true hs.2.1, by rw [hd]; exact Nat.eq_of_beq_eq_true hs.2.2, hda, by rw [hown]; rfl, by rw [hown]; rfl, ?_⟩⟩
 · subst e; simp only [St.ev] at hy; subst hy; exact hv
 · rw [hd, hown, ht]; rfl
theorem aJK {α : Type} (f : α → AV) {es : List α} {k : Nat} (h : k < es.length) : (es.map f)[k]? = some (f es[k]) := by simp [h]
section
variable {P : Program} {t : TypeId} {x y : Operand} {k : IntKind} {a b : Int}
theorem aHv (h : a < b) : zQ P .lss t x y (.int k a) (.int k b) (.bool true) := fun w => by simp [eqGuard, binOp, Op.intCmp, h]
theorem aHu (h : ¬ a < b) : zQ P .lss t x y (.int k a) (.int k b) (.bool false) := fun w => by simp [eqGuard, binOp, Op.intCmp]; omega
theorem aHt (h : a ≤ b) : zQ P .leq t x y (.int k a) (.int k b) (.bool true) := fun w => by simp [eqGuard, binOp, Op.intCmp, h]
theorem aHs (h : ¬ a ≤ b) : zQ P .leq t x y (.int k a) (.int k b) (.bool false) := fun w => by simp [eqGuard, binOp, Op.intCmp]; omega
theorem aHr (h : a > b) : zQ P .gtr t x y (.int k a) (.int k b) (.bool true) := fun w => by simp [eqGuard, binOp, Op.intCmp]; omega
theorem aHq (h : ¬ a > b) : zQ P .gtr t x y (.int k a) (.int k b) (.bool false) := fun w => by simp [eqGuard, binOp, Op.intCmp]; omega
theorem aHp (h : a ≥ b) : zQ P .geq t x y (.int k a) (.int k b) (.bool true) := fun w => by simp [eqGuard, binOp, Op.intCmp]; omega
theorem aHo (h : ¬ a ≥ b) : zQ P .geq t x y (.int k a) (.int k b) (.bool false) := fun w => by simp [eqGuard, binOp, Op.intCmp]; omega
theorem aHn (h : a = b) : zQ P .eql t x y (.int k a) (.int k b) (.bool true) := fun w => by simp [eqGuard, binOp, Op.intCmp, h]
theorem aHm (h : ¬ a = b) : zQ P .eql t x y (.int k a) (.int k b) (.bool false) := fun w => by simp [eqGuard, binOp, Op.intCmp, h]
theorem aHx (h : ¬ a = b) : zQ P .neq t x y (.int k a) (.int k b) (.bool true) := fun w => by simp [eqGuard, binOp, Op.intCmp, h]
theorem aHw (h : a = b) : zQ P .neq t x y (.int k a) (.int k b) (.bool false) := fun w => by simp [eqGuard, binOp, Op.intCmp, h]
theorem aBK {c : Int} (h : c = a + b) (hl : -9223372036854775808 ≤ c) (hu : c ≤ 9223372036854775807) : zQ P .add t x y (.int .i64 a) (.int .i64 b) (.int .i64 c) := fun w => by
 have hw : IntKind.i64.wrap (a + b) = c := by rw [IntKind.wrap_i64, ← h]; omega
 simp [eqGuard, binOp, Op.intArith, hw]
theorem aCr {c : Int} (h : c = a - b) (hl : -9223372036854775808 ≤ c) (hu : c ≤ 9223372036854775807) : zQ P .sub t x y (.int .i64 a) (.int .i64 b) (.int .i64 c) := fun w => by
 have hw : IntKind.i64.wrap (a - b) = c := by rw [IntKind.wrap_i64, ← h]; omega
 simp [eqGuard, binOp, Op.intArith, hw]
theorem aHE {op : BinOp} {a b : ByteArray} {r : Value} (h : ∀ w, (Op.stringOp op a b).run P w = .ok r w) : zQ P op t x y (.string a) (.string b) r := fun w => by
 cases op <;> simp only [eqGuard, binOp] <;> first | exact h w | simpa using h w
end
section
variable {P : Program} {Θ : Tab} {s : St} {ty : TypeId} {pos : String} {after : Array Edge} {g : Option (Nat × Bool)} {t kt vt : TypeId} {z : AV} {l : Nat} {ent : List (ByteArray × AV)} {kk : ByteArray}
end
def force (x : AV) (k : AV → Option St) : Option St :=
 match x with
 | .any => none
 | .v c => k (.v c)
 | .agg xs => k (.agg xs)
 | .lst z xs => k (.lst z xs)
 | .ptr y => k (.ptr y)
 | .own l => k (.own l)
 | .optr l i p c => k (.optr l i p c)
 | .tup xs => k (.tup xs)
 | .mapv l => k (.mapv l)
 | .mix xs => k (.mix xs)
 | .rd x => k (.rd x)
 | .fn f xs ys => k (.fn f xs ys)
 | .ifc t x => k (.ifc t x)
theorem force_eq {x : AV} {k : AV → Option St} {s : St} (h : force x k = some s) : k x = some s := by
 cases x <;> first | exact h | cases h
def wW : List AV → (List AV → Option St) → Option St
 | [], k => k []
 | x :: r, k => force x fun y => wW r fun ys => k (y :: ys)
theorem wX {s : St} : ∀ {xs : List AV} {k : List AV → Option St}, wW xs k = some s → k xs = some s
 | [], k, h => h
 | x :: r, k, h => wX (xs := r) (k := fun ys => k (x :: ys)) (force_eq (k := fun y => wW r fun ys => k (y :: ys)) h)
def aAD (s : St) : List AV → List (Nat × Operand) → Bool
 | _, [] => true
 | z, (i, x) :: r => (match z[i]? with | some y => Nat.beq (asz (s.dat (s.ev x))) (asz y) | none => false) && (xE s (s.ev x) && aAD s (z.set i (s.dat (s.ev x))) r)
theorem aAE {s : St} : ∀ (ps : List (Nat × Operand)) (z : List AV), aAD s z ps = true → vG s z ps
 | [], z, _ => trivial
 | (i, x) :: r, z, h => by
  simp only [aAD, Bool.and_eq_true] at h
  refine ⟨?_, h.2.1, aAE r _ h.2.2⟩
  have h1 := h.1
  split at h1
  · rename_i y hy; exact ⟨y, hy, Nat.eq_of_beq_eq_true h1⟩
  · cases h1
def aCu (Θ : Tab) (draw : Bool) (dst : Option Tmp) (ty : TypeId) (c : Value) : Option (Nat × Nat × Nat) :=
 match c, dst, Θ.look ty with
 | .slice none 0 0, some d, .slice el sz _ _ => bif !draw && (Nat.blt 0 sz && okL (d + 1)) then some (d, el, sz) else none
 | _, _, _ => none
theorem yc {α : Type} {b : Bool} {x : Option α} {y : α} (h : (bif b then x else none) = some y) : b = true ∧ x = some y := by cases b with
 | true => exact ⟨rfl, h⟩
 | false => cases h
theorem aDe {Θ : Tab} {draw : Bool} {dst : Option Tmp} {ty : TypeId} {c : Value} {d el sz : Nat} (h : aCu Θ draw dst ty c = some (d, el, sz)) : dst = some d ∧ c = .slice none 0 0 ∧ draw = false ∧ 0 < sz ∧ okL (d + 1) = true := by
 unfold aCu at h
 split at h
 · obtain ⟨h1, h2⟩ := yc h
   cases h2
   simp only [Bool.and_eq_true] at h1
   exact ⟨rfl, rfl, by cases draw <;> simp_all, by simpa using h1.2.1, h1.2.2⟩
 · cases h
def aFt : AV → Bool
 | .v (.slice none 0 0) => true
 | _ => false
def TI.isIface : TI → Bool
 | .iface => true
 | _ => false
def zP (Θ : Tab) (draw : Bool) (o : Oper) (s : St) : Option St :=
 match o.op with
 | .move (.tmp t) => force (s.sl t) fun v => some (s.put o.dst v)
 | .assign (.tmp t) => force (s.sl t) fun v => some (s.put o.dst v)
 | .move (.const c) => match aCu Θ draw o.dst o.type c with
  | some (d, el, sz) => some (((s.kill (d + 1)).set (d + 1) (some ⟨.s el, sz, []⟩)).put (some d) (.own (d + 1)))
  | none => bif c.oneCell' then some (s.put o.dst (.v c)) else none
 | .assign (.const c) => match aCu Θ draw o.dst o.type c with
  | some (d, el, sz) => some (((s.kill (d + 1)).set (d + 1) (some ⟨.s el, sz, []⟩)).put (some d) (.own (d + 1)))
  | none => bif c.oneCell' then some (s.put o.dst (.v c)) else none
 | .pick c a b => match s.ev c with
  | .v (.bool t) => bif cOK a && cOK b then force (bif t then s.ev a else s.ev b) fun v => some (s.put o.dst v) else none
  | _ => none
 | .unOp .not _ x => match s.ev x with
  | .v (.bool b) => some (s.put o.dst (.v (.bool (!b))))
  | _ => none
 | .extract x i => match s.ev x with
  | .tup xs => match xs[i]? with
   | some y => force y fun v => some (s.put o.dst v)
   | none => none
  | _ => none
 | .fieldAddr t x f => match Θ.look t with
  | .struct fs _ => match fs[f]? with
   | some (o_, _) => match s.ev x with
    | .ptr (.agg ys) => match ys[f]? with
     | some y => bif Nat.beq (xA (ys.take f)) o_ then some (s.put o.dst (.ptr y)) else none
     | none => none
    | .optr l i p c => some (s.put o.dst (.optr l i (p ++ [f]) (c + o_)))
    | _ => none
   | none => none
  | _ => none
 | .load t x => match s.ev x with
  | .ptr y => bif (Θ.look t).known && (Bool.xor (zN y) (Θ.look t).isAgg).not && Nat.beq (asz y) (Θ.look t).size then force y fun v => some (s.put o.dst v) else none
  | .optr l i p c => match s.hp l with
   | some ob => bif ob.e.open_ then (match ob.xs[i]? with
    | some y => match xK y p 0 with
     | some (z, c') => bif Nat.beq c' c && (Θ.look t).known && (Bool.xor (zN z) (Θ.look t).isAgg).not && Nat.beq (asz z) (Θ.look t).size then force z fun v => some (s.put o.dst v) else none
     | none => none
    | none => none) else (match yV ob.e ob.xs i with
    | some (.o t' i' y) => match xK y p 0 with
     | some (z, c') => bif aFt z then none else (match ofO z with
      | some x' => bif Nat.beq i' i && Nat.beq c' c && (Θ.look t).known && (Bool.xor (zN x') (Θ.look t).isAgg).not && Nat.beq (asz x') (Θ.look t).size then force x' fun v => some (s.put o.dst v) else none
      | none => none)
     | none => none
    | _ => none)
   | none => none
  | _ => none
 | .alloc t => match o.dst with
  | some d => match s.hp (d + 1) with
   | none => bif !draw && ((Θ.look t).known && okL (d + 1)) then some ((s.set (d + 1) (some ⟨kz t (Θ.look t).zero, (Θ.look t).size, [(Θ.look t).zero]⟩)).put (some d) (.optr (d + 1) 0 [] 0)) else none
   | some _ => none
  | none => none
 | .box t x => match o.dst with
  | some d => match s.hp (d + 1) with
   | none => match s.ev x with
    | .agg ys => bif (!draw && okL (d + 1)) && ((Θ.look t).known && Nat.beq (asz (.agg ys)) (Θ.look t).size) then some ((s.set (d + 1) (some ⟨.s t, (Θ.look t).size, [.agg ys]⟩)).put (some d) (.optr (d + 1) 0 [] 0)) else none
    | _ => none
   | some _ => none
  | none => none
 | .build t ps => match Θ.look t with
  | .struct _ z => bif (yo s (ps.toList.map (·.2))).isEmpty && (qD (ps.toList.map (·.2)) && aAD s z ps.toList) then wW (yt s z ps.toList) fun ys => some (s.put o.dst (.agg ys)) else none
  | _ => none
 | .buildSlice t m ps => match o.dst with
  | some d => match s.hp (d + 1) with
   | none => match Θ.look t with
    | .slice el sz _ z => bif !draw && ((yo s (ps.toList.map (·.2))).isEmpty && (Nat.ble (m * sz) 65536 && (okL (d + 1) && (qD (ps.toList.map (·.2)) && aAD s (List.replicate m z) ps.toList)))) then wW (yt s (List.replicate m z) ps.toList) fun ys => some ((s.set (d + 1) (some ⟨.s el, sz, ys⟩)).put (some d) (.own (d + 1))) else none
    | _ => none
   | some _ => none
  | none => none
 | .nilCheck x => match s.ev x with
  | .ptr y => some (s.put o.dst (.ptr y))
  | .optr l i p c => some (s.put o.dst (.optr l i p c))
  | .fn f xs ys => some (s.put o.dst (.fn f xs ys))
  | .ifc t y => some (s.put o.dst (.ifc t y))
  | _ => none
 | .makeFunc (.func f) first captured => bif qD (first.toList ++ captured.toList) then wW (first.toList.map s.ev) fun xs => wW (captured.toList.map s.ev) fun ys => some (s.put o.dst (.fn f xs ys)) else none
 | .makeInterface t x => bif cOK x && (Θ.look t).known && !(Θ.look t).isIface then force (s.ev x) fun v => some (s.put o.dst (.ifc t v)) else none
 | _ => none
section
variable {P : Program} {Θ : Tab} {n : Nat} {ops : Array Oper} {draw : Bool} {s s' : St}
theorem xor_not {a b : Bool} (h : (Bool.xor a b).not = true) : a = b := by cases a <;> cases b <;> first | rfl | cases h
theorem aDz {o : Oper} (h : zP Θ draw o s = some s') : ∃ e, Pre P Θ o s e ∧ (draw = true → e.upd = none) ∧ s.app o.dst e = s' := by
 obtain ⟨dst, op, ty, pos, after, guard⟩ := o
 have fin : ∀ {v : AV}, Pre P Θ ⟨dst, op, ty, pos, after, guard⟩ s ⟨v, none⟩ → some (s.put dst v) = some s' → ∃ e, Pre P Θ ⟨dst, op, ty, pos, after, guard⟩ s e ∧ (draw = true → e.upd = none) ∧ s.app dst e = s' := fun hp he => ⟨_, hp, fun _ => rfl, by cases he; rfl⟩
 cases op with
 | move x => cases x with
  | tmp t => exact fin (aJQ rfl) (force_eq (k := fun v => some (s.put dst v)) h)
  | const c =>
   simp only [zP] at h
   split at h
   · rename_i d el sz hn
     obtain ⟨rfl, rfl, hd, h0, hok⟩ := aDe hn
     refine ⟨_, aI6 (.s el) sz h0 rfl hok, (fun e => by rw [e] at hd; cases hd), ?_⟩
     cases h; rfl
   · obtain ⟨h1, h2⟩ := yc h; exact fin (aJA h1) h2
  | _ => cases h
 | assign x => cases x with
  | tmp t => exact fin (aJO rfl) (force_eq (k := fun v => some (s.put dst v)) h)
  | const c =>
   simp only [zP] at h
   split at h
   · rename_i d el sz hn
     obtain ⟨rfl, rfl, hd, h0, hok⟩ := aDe hn
     refine ⟨_, aI5 (.s el) sz h0 rfl hok, (fun e => by rw [e] at hd; cases hd), ?_⟩
     cases h; rfl
   · obtain ⟨h1, h2⟩ := yc h; exact fin (aIu h1) h2
  | _ => cases h
 | pick c a b =>
  simp only [zP] at h
  split at h
  · rename_i t ht
    obtain ⟨h1, h2⟩ := yc h
    simp only [Bool.and_eq_true] at h1
    exact fin (aI9 ht rfl h1.1 h1.2) (force_eq h2)
  · cases h
 | unOp op t x =>
  cases op with
  | not =>
   simp only [zP] at h
   split at h
   · rename_i b hb; exact fin (aJB hb) h
   · cases h
  | _ => cases h
 | extract x i =>
  simp only [zP] at h
  split at h
  · rename_i xs hx
    split at h
    · rename_i y hy; exact fin (aIx hx hy) (force_eq h)
    · cases h
  · cases h
 | fieldAddr t x f =>
  simp only [zP] at h
  split at h
  · rename_i fs z ht
    split at h
    · rename_i o_ z_ hf
      split at h
      · rename_i ys hx
        split at h
        · rename_i y hy
          obtain ⟨h1, h2⟩ := yc h
          exact fin (aIy ht hf hx hy (Nat.eq_of_beq_eq_true h1)) h2
        · cases h
      · rename_i l i p c hx; exact fin (aI7 ht hf hx) h
      · cases h
    · cases h
  · cases h
 | load t x =>
  simp only [zP] at h
  split at h
  · rename_i y hx
    obtain ⟨h1, h2⟩ := yc h
    simp only [Bool.and_eq_true] at h1
    exact fin (aJP hx h1.1.1 (xor_not h1.1.2) (Nat.eq_of_beq_eq_true h1.2)) (force_eq h2)
  · rename_i l i p c hx
    split at h
    · rename_i ob ho
      cases hop : ob.e.open_ with
      | true =>
       rw [hop] at h
       simp only [cond_true] at h
       split at h
       · rename_i y hy
         split at h
         · rename_i z c' hg
           obtain ⟨h1, h2⟩ := yc h
           simp only [Bool.and_eq_true] at h1
           have hc := Nat.eq_of_beq_eq_true h1.1.1.1
           subst hc
           exact fin (aJC hx ho hy hg h1.1.1.2 (xor_not h1.1.2) (Nat.eq_of_beq_eq_true h1.2) hop) (force_eq h2)
         · cases h
       · cases h
      | false =>
       rw [hop] at h
       simp only [cond_false] at h
       split at h
       · rename_i t' i' y hy
         split at h
         · rename_i z c' hg
           cases hn : aFt z with
           | true => rw [hn] at h; cases h
           | false =>
            rw [hn] at h
            simp only [cond_false] at h
            split at h
            · rename_i x' hx'
              obtain ⟨h1, h2⟩ := yc h
              simp only [Bool.and_eq_true] at h1
              have hc := Nat.eq_of_beq_eq_true h1.1.1.1.2
              subst hc
              have hi := Nat.eq_of_beq_eq_true h1.1.1.1.1
              subst hi
              exact fin (aI8 hx ho hy hg hx' h1.1.1.2 (xor_not h1.1.2) (Nat.eq_of_beq_eq_true h1.2)) (force_eq h2)
            · cases h
         · cases h
       · cases h
    · cases h
  · cases h
 | alloc t =>
  cases dst with
  | none => cases h
  | some d =>
   simp only [zP] at h
   split at h
   · rename_i hf
     obtain ⟨h1, h2⟩ := yc h
     simp only [Bool.and_eq_true] at h1
     refine ⟨_, aI1 hf h1.2.1 h1.2.2, fun e => by rw [e] at h1; simp at h1, ?_⟩
     cases h2; rfl
   · cases h
 | box t x =>
  cases dst with
  | none => cases h
  | some d =>
   simp only [zP] at h
   split at h
   · rename_i hf
     split at h
     · rename_i ys hx
       obtain ⟨h1, h2⟩ := yc h
       simp only [Bool.and_eq_true] at h1
       refine ⟨_, aIv hf hx rfl (by simp only [Bool.and_eq_true]; exact h1.2) h1.1.2, fun e => by rw [e] at h1; simp at h1, ?_⟩
       cases h2; rfl
     · cases h
   · cases h
 | build t ps =>
  simp only [zP] at h
  split at h
  · rename_i fs z ht
    obtain ⟨h1, h2⟩ := yc h
    simp only [Bool.and_eq_true] at h1
    have hown : yo s (ps.toList.map (·.2)) = [] := by simpa using h1.1
    exact fin (v := .agg (yt s z ps.toList)) ⟨fs, z, ht, .inl ⟨aAE _ _ h1.2.2, vW h1.2.1, by rw [hown]; rfl, by rw [hown]; rfl⟩⟩ (wX (k := fun ys => some (s.put dst (.agg ys))) h2)
  · cases h
 | buildSlice t m ps =>
  cases dst with
  | none => cases h
  | some d =>
   simp only [zP] at h
   split at h
   · rename_i hf
     split at h
     · rename_i el sz b z ht
       obtain ⟨h1, h2⟩ := yc h
       simp only [Bool.and_eq_true] at h1
       have hown : yo s (ps.toList.map (·.2)) = [] := by simpa using h1.2.1
       have h3 := wX (k := fun ys => some ((s.set (d + 1) (some ⟨el, sz, ys⟩)).put (some d) (.own (d + 1)))) h2
       refine ⟨⟨.own (d + 1), some fun s' => s'.set (d + 1) (some ⟨.s el, sz, yt s (List.replicate m z) ps.toList⟩)⟩, ⟨d, el, sz, b, z, rfl, hf, h1.2.2.2.1, ht, Nat.le_of_ble_eq_true h1.2.2.1, .inl ⟨aAE _ _ h1.2.2.2.2.2, vW h1.2.2.2.2.1, by rw [hown]; rfl, by rw [hown]; rfl⟩⟩, fun e => by rw [e] at h1; simp at h1, ?_⟩
       cases h3; rfl
     · cases h
   · cases h
 | nilCheck x =>
  simp only [zP] at h
  split at h
  · rename_i y hx; exact fin ⟨by rw [hx], .inl ⟨y, hx⟩⟩ h
  · rename_i l i p c hx; exact fin ⟨by rw [hx], .inr (.inl ⟨l, i, p, c, hx⟩)⟩ h
  · rename_i f xs ys hx; exact fin ⟨by rw [hx], .inr (.inr (.inl ⟨f, xs, ys, hx⟩))⟩ h
  · rename_i t y hx; exact fin ⟨by rw [hx], .inr (.inr (.inr ⟨t, y, hx⟩))⟩ h
  · cases h
 | makeFunc fn first captured =>
  cases fn with
  | func f =>
   simp only [zP] at h
   obtain ⟨h1, h2⟩ := yc h
   have h3 := wX (k := fun xs => wW (captured.toList.map s.ev) fun ys => some (s.put dst (.fn f xs ys))) h2
   have h4 := wX (k := fun ys => some (s.put dst (.fn f (first.toList.map s.ev) ys))) h3
   exact fin (v := .fn f (first.toList.map s.ev) (captured.toList.map s.ev)) ⟨f, rfl, vW h1, rfl⟩ h4
  | _ => cases h
 | makeInterface t x =>
  simp only [zP] at h
  obtain ⟨h1, h2⟩ := yc h
  simp only [Bool.and_eq_true, Bool.not_eq_true'] at h1
  exact fin (v := .ifc t (s.ev x)) ⟨kT h1.1.1, h1.1.2, fun e => by rw [e] at h1; exact absurd h1.2 (by simp [TI.isIface]), rfl⟩ (force_eq (k := fun v => some (s.put dst (.ifc t v))) h2)
 | _ => cases h
def runK (P : Program) (Θ : Tab) (n : Nat) (ops : Array Oper) (draw : Bool) : Nat → List Oper → St → (St → Prop) → Prop
 | _, [], s, K => K s
 | k, o :: r, s, K =>
  match inN n o.dst with
  | false => False
  | true => match xZ ops s o with
   | some false => runK P Θ n ops draw (k + 1) r (s.put o.dst (.tup [])) K
   | some true => match zP Θ (draw && !(tied ops k)) o s with
    | some s' => runK P Θ n ops draw (k + 1) r s' K
    | none => xO P Θ n ops draw k (o :: r) s K
   | none => xO P Θ n ops draw k (o :: r) s K
theorem vH {K : St → Prop} : ∀ (l : List Oper) (k : Nat) (s : St), runK P Θ n ops draw k l s K → xO P Θ n ops draw k l s K
 | [], k, s, h => aIs h
 | o :: r, k, s, h => by
  unfold runK at h
  cases hin : inN n o.dst with
  | false => rw [hin] at h; exact h.elim
  | true =>
   rw [hin] at h
   simp only at h
   cases hg : xZ ops s o with
   | none => rw [hg] at h; exact h
   | some b => cases b with
    | false => rw [hg] at h; exact aIY hg hin (vH r (k + 1) _ h)
    | true =>
     rw [hg] at h
     simp only at h
     cases hs : zP Θ (draw && !(tied ops k)) o s with
     | none => rw [hs] at h; exact h
     | some s' =>
      rw [hs] at h
      obtain ⟨e, hp, hu, he⟩ := aDz (P := P) hs
      exact aDk hg hin hp (fun hd => by cases ht : tied ops k with | true => exact .inr (.inl rfl) | false => exact .inl (hu (by rw [hd, ht]; rfl))) (by rw [he]; exact vH r (k + 1) _ h)
def j4 (P : Program) (Θ : Tab) (n : Nat) : Code → (AEx → St → Prop) → St → Prop
 | .skip, Q, s => Q .normal s
 | .label _, Q, s => Q .normal s
 | .region _ ops false, Q, s => runK P Θ n ops false 0 ops.toList s (Q .normal)
 | .region _ ops true, Q, s => (Region.lexB .any ops = true ∧ runK P Θ n ops true 0 ops.toList s (Q .normal)) ∨ (Region.lexB .any ops = true ∧ jg ops ∧ xV P Θ n ops 0 ops.toList s (Q .normal))
 | .seq a b, Q, s => j4 P Θ n a (AEx.then (j4 P Θ n b Q) Q) s
 | .cond c x y, Q, s => match s.ev c with
  | .v (.bool true) => j4 P Θ n x Q s
  | .v (.bool false) => j4 P Θ n y Q s
  | _ => xN P Θ n (.cond c x y) Q s
 | .block id c, Q, s => j4 P Θ n c (AEx.inBlock id Q) s
 | .exit id, Q, s => Q (.exit id) s
 | .ret, Q, s => Q .ret s
 | c, Q, s => xN P Θ n c Q s
theorem jy {ops : Array Oper} {K K' : St → Prop} : ∀ (l : List Oper) (k : Nat) (s : St), (∀ s, K s → K' s) → xV P Θ n ops k l s K → xV P Θ n ops k l s K'
 | [], k, s, hk, h => Gh.mono hk h
 | o :: r, k, s, hk, h => by
  unfold xV at h ⊢
  refine ⟨h.1, h.2.1, h.2.2.imp (fun ⟨u, ks, nu, he, h⟩ => ⟨u, ks, nu, he, jy r _ _ hk h⟩) (fun ⟨ht, e, hp, h⟩ => ⟨ht, e, hp, h.mono fun s' => jy r _ s' hk⟩)⟩
theorem aBH {Q Q' : AEx → St → Prop} : ∀ (c : Code) (s : St), (∀ e s, Q e s → Q' e s) → xN P Θ n c Q s → xN P Θ n c Q' s := by
 have ops_mono : ∀ {ops : Array Oper} {draw : Bool} {K K' : St → Prop} (l : List Oper) (k : Nat) (s : St), (∀ s, K s → K' s) → xO P Θ n ops draw k l s K → xO P Θ n ops draw k l s K' := by
  intro ops draw K K' l
  induction l with
  | nil => intro k s hk h; exact hk s h
  | cons o r ih =>
   intro k s hk h
   unfold xO at h ⊢
   refine ⟨h.1, ?_⟩
   have h2 := h.2
   split
   · rename_i hg; simp only [hg] at h2; obtain ⟨e, a, b, c⟩ := h2; exact ⟨e, a, b, c.imp (ih _ _ hk) (fun h => ⟨h.1, h.2.mono fun s' => ih _ s' hk⟩)⟩
   · rename_i hg; simp only [hg] at h2; exact ih _ _ hk h2
   · rename_i hg; simp only [hg] at h2
 intro c
 induction c generalizing Q Q' with
 | skip => intro s hq h; exact hq _ _ h
 | label l => intro s hq h; exact hq _ _ h
 | region id ops draw =>
  intro s hq h
  rcases h with h | ⟨h1, h2, h3, h⟩ | ⟨h1, h⟩
  · exact .inl ⟨h.1, ops_mono _ _ _ (fun s h => hq _ _ h) h.2⟩
  · exact .inr (.inl ⟨h1, h2, h3, jy _ _ _ (fun s h => hq _ _ h) h⟩)
  · refine .inr (.inr ⟨h1, fun W M S0 a w hs b hb k cs => ?_⟩)
    obtain ⟨e, a', w', ⟨he, s', hk, hs'⟩, harr⟩ := h W M S0 a w hs b hb k cs
    exact ⟨e, a', w', ⟨he, s', hq _ _ hk, hs'⟩, harr⟩
 | seq a b iha ihb =>
  intro s hq h
  rcases h with h | ⟨ι, I, h, k⟩
  · exact .inl (iha s (fun e s he => by cases e <;> first | exact ihb s hq he | exact hq _ _ he) h)
  · exact .inr ⟨ι, I, iha s (fun e s he => by cases e <;> first | exact he | exact hq _ _ he) h, fun j => ihb _ hq (k j)⟩
 | cond c x y ihx ihy => intro s hq h; obtain ⟨b, hc, h⟩ := h; refine ⟨b, hc, ?_⟩; cases b <;> first | exact ihx s hq h | exact ihy s hq h
 | block id c ih =>
  intro s hq h
  refine ih s (fun e s he => ?_) h
  cases e with
  | exit j =>
   show (bif Nat.beq j id then Q' .normal s else Q' (.exit j) s)
   have he' : (bif Nat.beq j id then Q .normal s else Q (.exit j) s) := he
   cases hb : Nat.beq j id with
   | true => rw [hb] at he'; exact hq _ _ he'
   | false => rw [hb] at he'; exact hq _ _ he'
  | normal => exact hq _ _ he
  | ret => exact hq _ _ he
 | loop c ih =>
  intro s hq h
  obtain ⟨ι, I, μ, h0, hr⟩ := h
  exact ⟨ι, I, μ, h0, fun i => ih _ (fun e s he => by cases e <;> first | exact he | exact hq _ _ he) (hr i)⟩
 | exit id => intro s hq h; exact hq _ _ h
 | ret => intro s hq h; exact hq _ _ h
 | rangeFunc _ _ _ _ => intro s hq h; exact h.elim
 | scope _ => intro s hq h; exact h.elim
 | goto _ => intro s hq h; exact h.elim
 | refuse _ => intro s hq h; exact h.elim
theorem aBd : ∀ (c : Code) (Q : AEx → St → Prop) (s : St), j4 P Θ n c Q s → xN P Θ n c Q s := by
 intro c
 induction c with
 | skip => intro Q s h; exact h
 | label l => intro Q s h; exact h
 | region id ops draw =>
  intro Q s h
  cases draw with
  | false => exact .inl ⟨(fun e => by cases e), vH _ _ _ h⟩
  | true =>
   rcases h with h | ⟨h1, h2, h⟩
   · exact .inl ⟨fun _ => h.1, vH _ _ _ h.2⟩
   · exact .inr (.inl ⟨rfl, h1, h2, h⟩)
 | seq a b iha ihb =>
  intro Q s h
  exact .inl (aBH a s (fun e s he => by cases e <;> first | exact ihb Q s he | exact he) (iha _ s h))
 | cond c x y ihx ihy =>
  intro Q s h
  simp only [j4] at h
  split at h
  · rename_i hc; exact ⟨true, hc, ihx Q s h⟩
  · rename_i hc; exact ⟨false, hc, ihy Q s h⟩
  · exact h
 | block id c ih => intro Q s h; exact ih _ s h
 | exit id => intro Q s h; exact h
 | ret => intro Q s h; exact h
 | loop c ih => intro Q s h; exact h
 | rangeFunc _ _ _ _ => intro Q s h; exact h
 | scope _ => intro Q s h; exact h
 | goto _ => intro Q s h; exact h
 | refuse _ => intro Q s h; exact h
variable {k : Nat} {r : List Oper} {K : St → Prop} {d : Option Tmp} {op : Op} {ty : TypeId} {pos : String} {after : Array Edge} {g : Option (Nat × Bool)}
theorem aF2 {v : AV} (hp : Pre P Θ ⟨d, op, ty, pos, after, g⟩ s ⟨v, none⟩) (hg : xZ ops s ⟨d, op, ty, pos, after, g⟩ = some true) (hin : inN n d = true) (h : runK P Θ n ops draw (k + 1) r (s.put d v) K) : xO P Θ n ops draw k (⟨d, op, ty, pos, after, g⟩ :: r) s K :=
 aIt hp hg hin (vH _ _ _ h)
theorem jC {e : Eff} (hp : Pre P Θ ⟨d, op, ty, pos, after, g⟩ s e) (hg : xZ ops s ⟨d, op, ty, pos, after, g⟩ = some true) (hin : inN n d = true) (hu : draw = true → e.upd = none ∨ tied ops k = true ∨ vK Θ ops (fun j => Nat.blt j k) k s e) (h : runK P Θ n ops draw (k + 1) r (s.app d e) K) : xO P Θ n ops draw k (⟨d, op, ty, pos, after, g⟩ :: r) s K :=
 aDk hg hin hp hu (vH _ _ _ h)
theorem jh {c : Code} {Q : AEx → St → Prop} {ι : Type} (I : ι → Inv) (μ : ι → Nat) (i0 : ι) (h0 : s.le (I i0)) (h : ∀ i, j4 P Θ n c (AEx.then (fun s' => ∃ j, s'.le (I j) ∧ μ j < μ i) Q) (I i).st) : xN P Θ n (.loop c) Q s :=
 aHy (fun i => (I i).m) μ i0 ⟨h0, trivial⟩ fun i => aBH (Q := AEx.then (fun s' => ∃ j, s'.le (I j) ∧ μ j < μ i) Q) c _ (fun e s he => by
  cases e with
  | normal => obtain ⟨j, h1, h2⟩ := he; exact ⟨j, ⟨h1, trivial⟩, h2⟩
  | _ => exact he) (aBd _ _ _ (h i))
theorem aJR (hΘ : yI P Θ) (hm : P.follows .mixedOrders = true) {f : FuncId} {fn : Func} {c : Code} {n : Nat} {rs : List ResultVar} (hf : P.funcs[f]? = some fn) (hb : fn.body = some c) (hnt : fn.ntmps = n) (hrs : fn.results = rs.toArray) (hnm : (fn.name == "runtime.NumGoroutine") = false)
 {args : List AV} {out : Out} (hlen : Nat.ble args.length n = true) (h : j4 P Θ n c (jw Θ rs out) (St.init args)) : AC P f args out :=
 aHl hΘ hm hf hb hnt (by rw [hrs]) hnm (Nat.le_of_ble_eq_true hlen) rfl rfl (aBd _ _ _ h)
def yh (r : Nat) (e : ET) (sz : Nat) (xs' : List AV) (v : Value) : AEx → St → Prop
 | .normal, s | .ret, s => s.sl r = .v v ∧ s.hp 0 = some ⟨e, sz, xs'⟩
 | _, _ => False
theorem aI2 {α : Type} {x y : Operand} {t el sz b l l' : Nat} {e0 e' : ET} {z : AV} {xs : List α} {f : α → AV} (e : α) (hb : (xs.length + 1) * b ≤ 140737488355328) (hx : s.ev x = .own l) (hy : s.ev y = .own l') (ho : s.hp l = some ⟨e0, sz, xs.map f⟩) (ho' : s.hp l' = some ⟨e', sz, [f e]⟩) (hn : (Nat.beq l' l || Nat.beq l 0) = false) (ht : Θ.look t = .slice el sz b z) (hb1 : Nat.ble 1 b = true) (he : (e0 = .s el ∨ e0 = .z el) := by first | exact .inl rfl | exact .inr rfl) (he' : e'.open_ = true := by rfl) (hok : okL l = true := by rfl) :
 Pre P Θ ⟨d, .call ⟨.builtin .append, #[x, y], #[t, t]⟩, ty, pos, after, g⟩ s ⟨.own l, some fun s => (s.kill l).set l (some ⟨.s el, sz, (xs ++ [e]).map f⟩)⟩ := by
 simp only [Bool.or_eq_false_iff] at hn
 have n1 : l' ≠ l := fun h => by rw [h] at hn; simp at hn
 have hb1' := Nat.le_of_ble_eq_true hb1
 have hm : xs.length + 1 ≤ maxLen := by
  have : (xs.length + 1) * 1 ≤ (xs.length + 1) * b := Nat.mul_le_mul_left _ hb1'
  unfold maxLen; omega
 exact ⟨x, y, t, el, sz, b, z, l, _, [f e], rfl, rfl, ht, hx, ho, hok, rfl, by simpa using hb, by simpa using hm, .inl ⟨el, he, rfl, .inr ⟨l', _, hy, n1, ho', he', rfl, rfl⟩, by rw [List.map_append]; rfl⟩⟩
theorem kN {α : Type} {x y : Operand} {t el sz b l l' : Nat} {e0 e' : ET} {z : AV} {xs : List α} {f : α → AV} (e : α) (ys : List α) (hys : xs ++ [e] = ys) (hb : (xs.length + 1) * b ≤ 140737488355328) (hx : s.ev x = .own l) (hy : s.ev y = .own l') (ho : s.hp l = some ⟨e0, sz, xs.map f⟩) (ho' : s.hp l' = some ⟨e', sz, [f e]⟩) (hn : (Nat.beq l' l || Nat.beq l 0) = false) (ht : Θ.look t = .slice el sz b z) (hb1 : Nat.ble 1 b = true) (he : (e0 = .s el ∨ e0 = .z el) := by first | exact .inl rfl | exact .inr rfl) (he' : e'.open_ = true := by rfl) (hok : okL l = true := by rfl) :
 Pre P Θ ⟨d, .call ⟨.builtin .append, #[x, y], #[t, t]⟩, ty, pos, after, g⟩ s ⟨.own l, some fun s => (s.kill l).set l (some ⟨.s el, sz, ys.map f⟩)⟩ := by
 subst hys; exact aI2 e hb hx hy ho ho' hn ht hb1 he he' hok
theorem aAF {t : Nat} {x : AV} {Θ : Tab} (h : s.sl t = x) (hx : (match x with | .v _ | .agg _ | .lst _ _ | .any => True | _ => False)) : jw Θ [.tmp t] ⟨x, []⟩ .ret s :=
 ⟨trivial, [], by simp, trivial, ⟨trivial, trivial⟩, trivial, ⟨.inl (by cases x <;> first | exact ⟨h, rfl⟩ | exact hx.elim), trivial⟩⟩
theorem aIb {t l : Nat} {ob : OB} {Θ : Tab} (h : s.sl t = .own l) (ho : s.hp l = some ob) (hok : okL l = true := by rfl) (hsh : ob.e.shut = true := by rfl) : jw Θ [.tmp t] ⟨.own 0, [ob]⟩ .ret s :=
 ⟨trivial, [l], by simp, ⟨⟨ho, hok, hsh⟩, trivial⟩, ⟨trivial, trivial⟩, trivial, ⟨.inl ⟨h, rfl⟩, trivial⟩⟩
theorem y7 {t1 t2 l : Nat} {ob : OB} {v : Value} {Θ : Tab} (h1 : s.sl t1 = .own l) (h2 : s.sl t2 = .v v) (ho : s.hp l = some ob) (hok : okL l = true := by rfl) (hsh : ob.e.shut = true := by rfl) : jw Θ [.tmp t1, .tmp t2] ⟨.tup [.own 0, .v v], [ob]⟩ .ret s :=
 ⟨trivial, [l], by simp, ⟨⟨ho, hok, hsh⟩, trivial⟩, ⟨trivial, trivial, trivial⟩, ⟨_, rfl⟩, ⟨.inl ⟨h1, rfl⟩, .inl ⟨h2, rfl⟩, trivial⟩⟩
theorem aA5 {a t t2 l : Nat} {ob : OB} {x : AV} {v : Value} {Θ : Tab} (h1 : s.sl a = .optr l 0 [] 0) (ho : s.hp l = some ob) (hx : ob.xs[0]? = some x) (hk : ((Θ.look t).known && (Bool.xor (zN x) (Θ.look t).isAgg).not && Nat.beq (asz x) (Θ.look t).size) = true) (hd : (match x with | .v _ | .agg _ | .lst _ _ | .any => True | _ => False)) (h2 : s.sl t2 = .v v) (hop : ob.e.open_ = true := by rfl) :
 jw Θ [.cell a t, .tmp t2] ⟨.tup [x, .v v], []⟩ .ret s := by
 have hr : rvA s (.cell a t) = x := by
  simp only [rvA, h1, ho, hop, hx, cond_true, Option.getD_some]
 simp only [Bool.and_eq_true] at hk
 refine ⟨trivial, [], by simp, trivial, ⟨⟨hk.1.1, by rw [hr]; exact xor_not hk.1.2, by rw [hr]; exact Nat.eq_of_beq_eq_true hk.2, .inl ⟨l, ob, x, h1, ho, .inl ⟨hop, hx⟩⟩⟩, trivial, trivial⟩, ⟨_, rfl⟩, ⟨.inl ?_, .inl ⟨h2, rfl⟩, trivial⟩⟩
 rw [hr]
 cases x <;> first | exact ⟨rfl, rfl⟩ | exact hd.elim
end
section
variable {P : Program} {Θ : Tab} {n : Nat} {ops : Array Oper} {draw : Bool} {s : St} {k : Nat} {r : List Oper} {K : St → Prop} {d : Option Tmp} {ty : TypeId} {pos : String} {after : Array Edge} {g : Option (Nat × Bool)}
theorem qs {x : Operand} {t : TypeId} {m : Nat} {c : ByteArray} (hx : s.ev x = .v (.string c)) (hl : wE s (.v (.string c)) = some m) (h : runK P Θ n ops draw (k + 1) r (s.put d (.v (.int .i64 (m : Int)))) K) (hok : aB3 Θ t (.v (.string c)) := by exact rfl) (hg : xZ ops s ⟨d, .call ⟨.builtin .len, #[x], #[t]⟩, ty, pos, after, g⟩ = some true := by exact rfl) (hin : inN n d = true := by exact rfl) : xO P Θ n ops draw k (⟨d, .call ⟨.builtin .len, #[x], #[t]⟩, ty, pos, after, g⟩ :: r) s K := aF2 (aFV hx hl hok) hg hin h
theorem qc {f : FuncId} {ags : Array Operand} {ts : Array TypeId} {t : Nat} {args : List AV} {out : Out} (hac : AC P f args out) (h : runK P Θ n ops draw (k + 1) r (s.app (some t) ⟨ren (t + 1) out.val, aAK (t + 1) out.obs⟩) K) (ha : (ags.toList.map fun x => s.dat (s.ev x)) = args := by exact rfl) (hfl : (yo s ags.toList).isEmpty = true ∨ out.flat := by first | exact .inl rfl | exact .inr ⟨by simp [yA, yw], by first | exact aHU | exact aEb (by first | exact yN aAx _ | exact yN aAt _ | exact yN aAs _ | exact yN aAw _ | exact yN aAv _ | exact yN aAu _) | exact aHV (by first | exact yN aAx _ | exact yN aAt _ | exact yN aAs _ | exact yN aAw _ | exact yN aAv _ | exact yN aAu _) (by first | exact yN aAx _ | exact yN aAt _ | exact yN aAs _ | exact yN aAw _ | exact yN aAv _ | exact yN aAu _)⟩) (hfr : yZ s (t + 1) 0 out.obs := by first | exact trivial | exact ⟨⟨rfl, rfl, rfl⟩, trivial⟩ | exact ⟨⟨rfl, rfl, rfl⟩, ⟨rfl, rfl, rfl⟩, trivial⟩ | exact ⟨⟨rfl, rfl, rfl⟩, ⟨rfl, rfl, rfl⟩, ⟨rfl, rfl, rfl⟩, trivial⟩) (hok : vM s (ags.toList.map s.ev) = true := by exact rfl) (hc : qD ags.toList = true := by exact rfl) (hg : xZ ops s ⟨some t, .call ⟨.value (.func f), ags, ts⟩, ty, pos, after, g⟩ = some true := by exact rfl) (hin : inN n (some t) = true := by exact rfl) (hu : draw = true → (⟨ren (t + 1) out.val, aAK (t + 1) out.obs⟩ : Eff).upd = none ∨ tied ops k = true ∨ vK Θ ops (fun j => Nat.blt j k) k s ⟨ren (t + 1) out.val, aAK (t + 1) out.obs⟩ := by intro e; first | exact .inl rfl | contradiction | exact .inr (.inl (by kernel_rfl))) : xO P Θ n ops draw k (⟨some t, .call ⟨.value (.func f), ags, ts⟩, ty, pos, after, g⟩ :: r) s K := jC (aI3 hac ha hfl hfr hok hc) hg hin hu h
variable {op : Op}
theorem qz {v : AV} (h : runK P Θ n ops draw (k + 1) r (s.put d v) K) (hp : Pre P Θ ⟨d, op, ty, pos, after, g⟩ s ⟨v, none⟩ := by first | exact zo (by first | exact aHv (by omega) | exact aHu (by omega) | exact aHt (by omega) | exact aHs (by omega) | exact aHr (by omega) | exact aHq (by omega) | exact aHp (by omega) | exact aHo (by omega) | exact aHn (by omega) | exact aHm (by omega) | exact aHx (by omega) | exact aHw (by omega) | exact aCr rfl (by omega) (by omega) | exact aBK rfl (by omega) (by omega)) rfl rfl rfl | exact aIz (aJK _ (by assumption)) rfl rfl rfl | exact aI4 rfl ⟨_, _, _, _, rfl⟩ | exact aH2 rfl rfl ⟨_, _, _, _, rfl⟩ | exact aFV (y := .v (.string _)) rfl rfl rfl | exact aFV rfl rfl ⟨_, _, _, _, rfl⟩) (hg : xZ ops s ⟨d, op, ty, pos, after, g⟩ = some true := by exact rfl) (hin : inN n d = true := by exact rfl) : xO P Θ n ops draw k (⟨d, op, ty, pos, after, g⟩ :: r) s K := aF2 hp hg hin h
theorem qst {e : Eff} (h : runK P Θ n ops draw (k + 1) r (s.app d e) K) (hp : Pre P Θ ⟨d, op, ty, pos, after, g⟩ s e := by exact jA rfl rfl rfl rfl rfl (by conv => lhs; whnf) rfl) (hg : xZ ops s ⟨d, op, ty, pos, after, g⟩ = some true := by exact rfl) (hin : inN n d = true := by exact rfl) (hu : draw = true → e.upd = none ∨ tied ops k = true ∨ vK Θ ops (fun j => Nat.blt j k) k s e := by intro e; first | exact .inl rfl | contradiction | exact .inr (.inl (by kernel_rfl))) : xO P Θ n ops draw k (⟨d, op, ty, pos, after, g⟩ :: r) s K := jC hp hg hin hu h
theorem qp {v : AV} (hp : Pre P Θ ⟨d, op, ty, pos, after, g⟩ s ⟨v, none⟩) (h : runK P Θ n ops draw (k + 1) r (s.put d v) K) (hg : xZ ops s ⟨d, op, ty, pos, after, g⟩ = some true := by exact rfl) (hin : inN n d = true := by exact rfl) : xO P Θ n ops draw k (⟨d, op, ty, pos, after, g⟩ :: r) s K := aF2 hp hg hin h
theorem qr {e : Eff} (hp : Pre P Θ ⟨d, op, ty, pos, after, g⟩ s e) (h : runK P Θ n ops draw (k + 1) r (s.app d e) K) (hg : xZ ops s ⟨d, op, ty, pos, after, g⟩ = some true := by exact rfl) (hin : inN n d = true := by exact rfl) (hu : draw = true → e.upd = none ∨ tied ops k = true ∨ vK Θ ops (fun j => Nat.blt j k) k s e := by intro e; first | exact .inl rfl | contradiction | exact .inr (.inl (by kernel_rfl))) : xO P Θ n ops draw k (⟨d, op, ty, pos, after, g⟩ :: r) s K := jC hp hg hin hu h
theorem qle {i : Inv} (h : s.le i := by refine ⟨?_, ?_⟩ <;> (repeat (first | trivial | exact ⟨rfl, trivial⟩ | refine ⟨rfl, ?_⟩ | refine ⟨.inl ⟨rfl, rfl⟩, ?_⟩ | refine ⟨.inr ⟨_, _, rfl, rfl, rfl, rfl, rfl⟩, ?_⟩))) : s.le i := h
theorem qdr {a b c : Prop} (h : b) (ha : a := by kernel_rfl) : (a ∧ b) ∨ c := .inl ⟨ha, h⟩
theorem qrf {f : FuncId} {fn : Func} {c : Code} {rs : List ResultVar} {args : List AV} {out : Out} (hf : P.funcs[f]? = some fn) (hnt : fn.ntmps = n) (hrs : fn.results = rs.toArray) (h : j4 P Θ n c (jw Θ rs out) (St.init args)) (hΘ : yI P Θ := by exact yJ) (hb : fn.body = some c := by exact rfl) (hm : P.follows .mixedOrders = true := by kernel_rfl) (hnm : (fn.name == "runtime.NumGoroutine") = false := by kernel_rfl) (hlen : Nat.ble args.length n = true := by exact rfl) : AC P f args out := aJR hΘ hm hf hb hnt hrs hnm hlen h
end
theorem aHc {P : Program} : yI P [] := fun t => trivial
theorem xI {P : Program} {t : Nat} {x : TI} {Θ : Tab} (h : u6 P t x) (r : yI P Θ) : yI P ((t, x) :: Θ) := fun u => by
 show u6 P u (bif Nat.beq t u then x else Tab.look Θ u)
 by_cases e : t = u
 · subst e; simpa using h
 · rw [xP e]; exact r u
theorem aIl {P : Program} {t b : Nat} (hu : P.underlying t = some .string) (hi : (P.info? t).map (fun i => (i.zero, i.size, i.bytes)) = some (some (.string ByteArray.empty), 1, b)) : u6 P t .str := by
 obtain ⟨i, h1, h2, h3, _⟩ := info_parts hi
 exact ⟨hu, i, h1, h3, h2⟩
theorem aG3 {P : Program} {t b : Nat} {k : IntKind} (hu : P.underlying t = some (.int k)) (hi : (P.info? t).map (fun i => (i.zero, i.size, i.bytes)) = some (some (.int k 0), 1, b)) : u6 P t (.int k) := by
 obtain ⟨i, h1, h2, h3, _⟩ := info_parts hi
 exact ⟨hu, i, h1, h3, h2⟩
theorem aHd {P : Program} {t b : Nat} (hu : P.underlying t = some .bool) (hi : (P.info? t).map (fun i => (i.zero, i.size, i.bytes)) = some (some (.bool false), 1, b)) : u6 P t .bool := by
 obtain ⟨i, h1, h2, h3, _⟩ := info_parts hi
 exact ⟨hu, i, h1, h3, h2⟩
theorem zL {P : Program} {t e b sz by_ : Nat} {zv : Value} {z : AV} (hu : P.underlying t = some (.slice e)) (hj : (P.info? t).map (fun i => (i.zero, i.size, i.bytes)) = some (some (.slice none 0 0), 1, b)) (hi : (P.info? e).map (fun i => (i.zero, i.size, i.bytes)) = some (some zv, sz, by_))
 (h0 : 0 < sz) (hz : asz z = sz) (hr : ∀ w, RD w z Fa zv.cells.toList) : u6 P t (.slice e sz by_ z) := by
 obtain ⟨j, j1, j2, j3, _⟩ := info_parts hj
 obtain ⟨i, h1, h2, h3, h4⟩ := info_parts hi
 exact ⟨hu, ⟨j, j1, j3, j2⟩, i, zv, h1, h2, h3, h4, h0, hz, hr⟩
def aAZ (P : Program) : Nat → List Field → List (Nat × Nat) → Bool
 | _, [], [] => true
 | n, f :: fs, (o, z) :: r => Nat.beq f.offset o && (Nat.beq o n && (Nat.blt 0 z && ((match (P.info? f.type).map (·.size) with | some q => Nat.beq q z | none => false) && aAZ P (n + z) fs r)))
 | _, _, _ => false
theorem aDl {P : Program} : ∀ (fs : List Field) (r : List (Nat × Nat)) (n : Nat), aAZ P n fs r = true → wB P n fs r
 | [], [], n, _ => trivial
 | [], _ :: _, n, h => by simp [aAZ] at h
 | _ :: _, [], n, h => by simp [aAZ] at h
 | f :: fs, (o, z) :: r, n, h => by
  simp only [aAZ, Bool.and_eq_true] at h
  obtain ⟨h1, h2, h3, h4, h5⟩ := h
  refine ⟨Nat.eq_of_beq_eq_true h1, Nat.eq_of_beq_eq_true h2, by simpa using h3, ?_, aDl fs r (n + z) h5⟩
  cases hq : (P.info? f.type).map (·.size) with
  | none => rw [hq] at h4; cases h4
  | some q => rw [hq] at h4; rw [Nat.eq_of_beq_eq_true h4]
theorem yS {P : Program} {t b : Nat} {fs : List (Nat × Nat)} {z : List AV} {cs : Array Value} (hu : P.underlying t = some (.struct (P.fieldsOf t))) (hi : (P.info? t).map (fun i => (i.zero, i.size, i.bytes)) = some (some (.agg cs), sizes fs, b))
 (ho : aAZ P 0 (P.fieldsOf t).toList fs = true) (hp : 0 < sizes fs) (hm : z.map asz = fs.map (·.2)) (hr : ∀ w, RDL w z Fa cs.toList) : u6 P t (.struct fs z) := by
 obtain ⟨i, h1, h2, h3, _⟩ := info_parts hi
 exact ⟨_, i, cs, hu, aDl _ _ _ ho, h1, h3, hp, hm, h2, hr⟩
theorem jl {S : Nat → Prop} {w : World} {x : AV} {xs : List AV} {c1 c2 : List Value} (h : RA S w x c1) (r : RL S w xs c2) : RL S w (x :: xs) (c1 ++ c2) := by unfold RL; exact ⟨c1, c2, rfl, h, r⟩
theorem aGR {S : Nat → Prop} {w : World} : RL S w [] [] := by unfold RL; rfl
theorem aDp {S : Nat → Prop} {w : World} {x : Value} (h : x.oneCell' = true) : RA S w (.v x) [x] := by unfold RA; exact ⟨rfl, h⟩
theorem aGN {S : Nat → Prop} {w : World} {xs : List AV} {cs : List Value} (h : RL S w xs cs) : RA S w (.agg xs) cs := by unfold RA; exact h
theorem yE {w : World} {x : Value} (h : x.oneCell' = true) : RD w (.v x) Fa [x] := by unfold RD; exact ⟨noF, rfl, h⟩
theorem uN {w : World} {sz : Nat} (h : 0 < sz) : RD w (.lst sz []) Fa [.slice none 0 0] := by
 unfold RD
 refine ⟨_, 0, [], Fa, rfl, World.ownsRow_nil _ _ _ _, by simp, h, by unfold RDL; exact ⟨rfl, noF⟩, fun g => ⟨fun h => h.elim, fun h => ?_⟩, fun g h => ?_⟩
 · rcases h with h | h
   · simp [Value.ownBlock] at h
   · exact h
 · simp [Value.ownBlock] at h
theorem uU {w : World} {xs : List AV} {cs : List Value} (h : RDL w xs Fa cs) : RD w (.agg xs) Fa cs := by unfold RD; exact h
theorem zK {w : World} : RDL w [] Fa [] := by unfold RDL; exact ⟨rfl, noF⟩
theorem xB {w : World} {x : AV} {xs : List AV} {c1 c2 : List Value} (h : RD w x Fa c1) (r : RDL w xs Fa c2) : RDL w (x :: xs) Fa (c1 ++ c2) := by unfold RDL; exact ⟨c1, c2, Fa, Fa, rfl, Split.l0 noF, h, r⟩
theorem aBz {w : World} {x : AV} {u : Value} (h : RD w x Fa [u]) : ∀ m, RDL w (List.replicate m x) Fa (List.replicate m u)
 | 0 => zK
 | m + 1 => by simp only [List.replicate_succ]; exact xB (c1 := [u]) h (aBz h m)
theorem aG2 {P : Program} {t b e m sz be : Nat} {z : AV} {cs : Array Value} {ze : Option Value} (hu : P.underlying t = some (.array m e)) (hi : (P.info? t).map (fun i => (i.zero, i.size, i.bytes)) = some (some (.agg cs), m * sz, b)) (he : (P.info? e).map (fun i => (i.zero, i.size, i.bytes)) = some (ze, sz, be))
 (hm : 0 < m) (h0 : 0 < sz) (hz : asz z = sz) (hr : ∀ w, RDL w (List.replicate m z) Fa cs.toList) : u6 P t (.arr e m sz z) := by
 obtain ⟨i, h1, h2, h3, _⟩ := info_parts hi
 refine ⟨hu, ⟨i, cs, h1, h3, h2, hr⟩, hm, h0, hz, ?_⟩
 cases hj : P.info? e with
 | none => rw [hj] at he; simp at he
 | some j => rw [hj] at he; simp at he; exact ⟨j, rfl, he.2.1⟩
abbrev zS : AV := .v (.string ByteArray.empty)
abbrev zI : AV := .v (.int .i64 0)
abbrev zB : AV := .v (.bool false)
def Th : Tab := [(9, .str), (3, .int .i64), (4, .bool), (5, .int .u8),
 (44, .slice 9 1 16 zS),
 (157, .slice 5 1 1 (.v (.int .u8 0))),
 (89, .struct [(0, 1), (1, 1)] [zS, zI]), (26, .slice 89 2 24 (.agg [zS, zI])),
 (86, .struct [(0, 1), (1, 1)] [zS, zI]), (22, .slice 86 2 24 (.agg [zS, zI])),
 (102, .struct [(0, 1), (1, 1), (2, 1)] [zS, zI, zB]), (37, .slice 102 3 32 (.agg [zS, zI, zB])),
 (99, .struct [(0, 1), (1, 1), (2, 1)] [zS, zI, zB]), (34, .slice 99 3 32 (.agg [zS, zI, zB])),
 (140, .slice 89 2 24 (.agg [zS, zI])),
 (158, .slice 102 3 32 (.agg [zS, zI, zB])),
 (120, .slice 3 1 8 zI),
 (122, .struct [(0, 1), (1, 1)] [.lst 1 [], .lst 2 []]), (61, .slice 122 2 48 (.agg [.lst 1 [], .lst 2 []])),
 (168, .struct [(0, 1), (1, 1)] [.lst 1 [], .lst 2 []]), (54, .slice 168 2 48 (.agg [.lst 1 [], .lst 2 []])),
 (125, .struct [(0, 1), (1, 1), (2, 1), (3, 1)] [zS, zI, zI, zB]), (62, .slice 125 4 40 (.agg [zS, zI, zI, zB])),
 (170, .struct [(0, 1), (1, 1), (2, 1), (3, 1)] [zS, zI, zI, zB]), (55, .slice 170 4 40 (.agg [zS, zI, zI, zB])),
 (64, .struct [(0, 1), (1, 1)] [.lst 2 [], .lst 4 []]),
 (57, .struct [(0, 1), (1, 1)] [.lst 2 [], .lst 4 []]),
 (78, .struct [(0, 1), (1, 1), (2, 1), (3, 1), (4, 1)] [zI, zI, zS, zS, .lst 3 []]),
 (72, .struct [(0, 1), (1, 1), (2, 1), (3, 1), (4, 1)] [zI, zI, zS, zS, .lst 3 []]),
 (50, .struct [(0, 1), (1, 1), (2, 1), (3, 1), (4, 1)] [zI, zI, zI, .lst 1 [], .lst 2 []]),
 (46, .struct [(0, 1), (1, 1), (2, 1), (3, 1), (4, 1)] [zI, zI, zI, .lst 1 [], .lst 2 []]),
 (80, .struct [(0, 1), (1, 1), (2, 1), (3, 5), (8, 5)] [zI, zI, zI, .agg [zI, zI, zS, zS, .lst 3 []], .agg [zI, zI, zI, .lst 1 [], .lst 2 []]]),
 (74, .struct [(0, 1), (1, 1), (2, 1), (3, 5), (8, 5)] [zI, zI, zI, .agg [zI, zI, zS, zS, .lst 3 []], .agg [zI, zI, zI, .lst 1 [], .lst 2 []]]),
 (188, .arr 9 19 1 zS),
 (179, .arr 9 7 1 zS),
 ]
theorem yJ : yI Tryd.prog Th := by
 unfold Th
 have e2 : ∀ w, RDL w [zS, zI] Fa [.string ByteArray.empty, .int .i64 0] := fun w => xB (c1 := [_]) (yE rfl) (xB (c1 := [_]) (yE rfl) zK)
 have e3 : ∀ w, RDL w [zS, zI, zB] Fa [.string ByteArray.empty, .int .i64 0, .bool false] := fun w => xB (c1 := [_]) (yE rfl) (xB (c1 := [_]) (yE rfl) (xB (c1 := [_]) (yE rfl) zK))
 have e4 : ∀ w, RDL w [zS, zI, zI, zB] Fa [.string ByteArray.empty, .int .i64 0, .int .i64 0, .bool false] := fun w => xB (c1 := [_]) (yE rfl) (xB (c1 := [_]) (yE rfl) (xB (c1 := [_]) (yE rfl) (xB (c1 := [_]) (yE rfl) zK)))
 have eC : ∀ w, RDL w [.lst 1 [], .lst 2 []] Fa [.slice none 0 0, .slice none 0 0] := fun w => xB (c1 := [_]) (uN (by omega)) (xB (c1 := [_]) (uN (by omega)) zK)
 have eN : ∀ w, RDL w [zI, .lst 1 []] Fa [.int .i64 0, .slice none 0 0] := fun w => xB (c1 := [_]) (yE rfl) (xB (c1 := [_]) (uN (by omega)) zK)
 have eV : ∀ w, RDL w [zI, zI, zB] Fa [.int .i64 0, .int .i64 0, .bool false] := fun w => xB (c1 := [_]) (yE rfl) (xB (c1 := [_]) (yE rfl) (xB (c1 := [_]) (yE rfl) zK))
 have eW : ∀ w, RDL w [zS, zI, .lst 3 []] Fa [.string ByteArray.empty, .int .i64 0, .slice none 0 0] := fun w => xB (c1 := [_]) (yE rfl) (xB (c1 := [_]) (yE rfl) (xB (c1 := [_]) (uN (by omega)) zK))
 have eB : ∀ w, RDL w [.lst 2 [], .lst 4 []] Fa [.slice none 0 0, .slice none 0 0] := fun w => xB (c1 := [_]) (uN (by omega)) (xB (c1 := [_]) (uN (by omega)) zK)
 have eO : ∀ w, RDL w [zI, zI, zS, zS, .lst 3 []] Fa [.int .i64 0, .int .i64 0, .string ByteArray.empty, .string ByteArray.empty, .slice none 0 0] := fun w => xB (c1 := [_]) (yE rfl) (xB (c1 := [_]) (yE rfl) (xB (c1 := [_]) (yE rfl) (xB (c1 := [_]) (yE rfl) (xB (c1 := [_]) (uN (by omega)) zK))))
 have eR : ∀ w, RDL w [zI, zI, zI, .lst 1 [], .lst 2 []] Fa [.int .i64 0, .int .i64 0, .int .i64 0, .slice none 0 0, .slice none 0 0] := fun w => xB (c1 := [_]) (yE rfl) (xB (c1 := [_]) (yE rfl) (xB (c1 := [_]) (yE rfl) (xB (c1 := [_]) (uN (by omega)) (xB (c1 := [_]) (uN (by omega)) zK))))
 have eH : ∀ w, RDL w [zI, zS, zS, zS, .lst 3 []] Fa [.int .i64 0, .string ByteArray.empty, .string ByteArray.empty, .string ByteArray.empty, .slice none 0 0] := fun w => xB (c1 := [_]) (yE rfl) (xB (c1 := [_]) (yE rfl) (xB (c1 := [_]) (yE rfl) (xB (c1 := [_]) (yE rfl) (xB (c1 := [_]) (uN (by omega)) (zK)))))
 have eK : ∀ w, RDL w [.lst 5 [], zI, zI, zI, zI, zI, zI, zI, .lst 2 []] Fa [.slice none 0 0, .int .i64 0, .int .i64 0, .int .i64 0, .int .i64 0, .int .i64 0, .int .i64 0, .int .i64 0, .slice none 0 0] := fun w => xB (c1 := [_]) (uN (by omega)) (xB (c1 := [_]) (yE rfl) (xB (c1 := [_]) (yE rfl) (xB (c1 := [_]) (yE rfl) (xB (c1 := [_]) (yE rfl) (xB (c1 := [_]) (yE rfl) (xB (c1 := [_]) (yE rfl) (xB (c1 := [_]) (yE rfl) (xB (c1 := [_]) (uN (by omega)) (zK)))))))))
 have eM : ∀ w, RDL w [zI, zI, zI, .agg [zI, zI, zS, zS, .lst 3 []], .agg [zI, zI, zI, .lst 1 [], .lst 2 []]] Fa [.int .i64 0, .int .i64 0, .int .i64 0, .int .i64 0, .int .i64 0, .string ByteArray.empty, .string ByteArray.empty, .slice none 0 0, .int .i64 0, .int .i64 0, .int .i64 0, .slice none 0 0, .slice none 0 0] := fun w => xB (c1 := [_]) (yE rfl) (xB (c1 := [_]) (yE rfl) (xB (c1 := [_]) (yE rfl) (xB (c1 := [_, _, _, _, _]) (uU (eO w)) (xB (c1 := [_, _, _, _, _]) (uU (eR w)) zK))))
 have eG : ∀ w, RDL w [.lst 1 [], zI, zI] Fa [.slice none 0 0, .int .i64 0, .int .i64 0] := fun w => xB (c1 := [_]) (uN (by omega)) (xB (c1 := [_]) (yE rfl) (xB (c1 := [_]) (yE rfl) zK))
 refine xI (aIl (b := 16) (by kernel_rfl) (by kernel_rfl)) (xI (aG3 (b := 8) (by kernel_rfl) (by kernel_rfl)) (xI (aHd (b := 1) (by kernel_rfl) (by kernel_rfl)) (xI (aG3 (b := 1) (by kernel_rfl) (by kernel_rfl)) ?_)))
 refine xI (zL (b := 24) (zv := .string ByteArray.empty) (by kernel_rfl) (by kernel_rfl) (by kernel_rfl) (by omega) rfl (fun w => yE rfl)) ?_
 refine xI (zL (b := 24) (zv := .int .u8 0) (by kernel_rfl) (by kernel_rfl) (by kernel_rfl) (by omega) rfl (fun w => yE rfl)) ?_
 refine xI (yS (b := 24) (cs := #[.string ByteArray.empty, .int .i64 0]) (by kernel_rfl) (by kernel_rfl) (by kernel_rfl) (by decide) rfl e2) (xI (zL (b := 24) (zv := .agg #[.string ByteArray.empty, .int .i64 0]) (by kernel_rfl) (by kernel_rfl) (by kernel_rfl) (by omega) rfl (fun w => uU (e2 w))) ?_)
 refine xI (yS (b := 24) (cs := #[.string ByteArray.empty, .int .i64 0]) (by kernel_rfl) (by kernel_rfl) (by kernel_rfl) (by decide) rfl e2) (xI (zL (b := 24) (zv := .agg #[.string ByteArray.empty, .int .i64 0]) (by kernel_rfl) (by kernel_rfl) (by kernel_rfl) (by omega) rfl (fun w => uU (e2 w))) ?_)
 refine xI (yS (b := 32) (cs := #[.string ByteArray.empty, .int .i64 0, .bool false]) (by kernel_rfl) (by kernel_rfl) (by kernel_rfl) (by decide) rfl e3) (xI (zL (b := 24) (zv := .agg #[.string ByteArray.empty, .int .i64 0, .bool false]) (by kernel_rfl) (by kernel_rfl) (by kernel_rfl) (by omega) rfl (fun w => uU (e3 w))) ?_)
 refine xI (yS (b := 32) (cs := #[.string ByteArray.empty, .int .i64 0, .bool false]) (by kernel_rfl) (by kernel_rfl) (by kernel_rfl) (by decide) rfl e3) (xI (zL (b := 24) (zv := .agg #[.string ByteArray.empty, .int .i64 0, .bool false]) (by kernel_rfl) (by kernel_rfl) (by kernel_rfl) (by omega) rfl (fun w => uU (e3 w))) ?_)
 refine xI (zL (b := 24) (zv := .agg #[.string ByteArray.empty, .int .i64 0]) (by kernel_rfl) (by kernel_rfl) (by kernel_rfl) (by omega) rfl (fun w => uU (e2 w))) ?_
 refine xI (zL (b := 24) (zv := .agg #[.string ByteArray.empty, .int .i64 0, .bool false]) (by kernel_rfl) (by kernel_rfl) (by kernel_rfl) (by omega) rfl (fun w => uU (e3 w))) ?_
 refine xI (zL (b := 24) (zv := .int .i64 0) (by kernel_rfl) (by kernel_rfl) (by kernel_rfl) (by omega) rfl (fun w => yE rfl)) ?_
 refine xI (yS (b := 48) (cs := #[.slice none 0 0, .slice none 0 0]) (by kernel_rfl) (by kernel_rfl) (by kernel_rfl) (by decide) rfl eC) (xI (zL (b := 24) (zv := .agg #[.slice none 0 0, .slice none 0 0]) (by kernel_rfl) (by kernel_rfl) (by kernel_rfl) (by omega) rfl (fun w => uU (eC w))) ?_)
 refine xI (yS (b := 48) (cs := #[.slice none 0 0, .slice none 0 0]) (by kernel_rfl) (by kernel_rfl) (by kernel_rfl) (by decide) rfl eC) (xI (zL (b := 24) (zv := .agg #[.slice none 0 0, .slice none 0 0]) (by kernel_rfl) (by kernel_rfl) (by kernel_rfl) (by omega) rfl (fun w => uU (eC w))) ?_)
 refine xI (yS (b := 40) (cs := #[.string ByteArray.empty, .int .i64 0, .int .i64 0, .bool false]) (by kernel_rfl) (by kernel_rfl) (by kernel_rfl) (by decide) rfl e4) (xI (zL (b := 24) (zv := .agg #[.string ByteArray.empty, .int .i64 0, .int .i64 0, .bool false]) (by kernel_rfl) (by kernel_rfl) (by kernel_rfl) (by omega) rfl (fun w => uU (e4 w))) ?_)
 refine xI (yS (b := 40) (cs := #[.string ByteArray.empty, .int .i64 0, .int .i64 0, .bool false]) (by kernel_rfl) (by kernel_rfl) (by kernel_rfl) (by decide) rfl e4) (xI (zL (b := 24) (zv := .agg #[.string ByteArray.empty, .int .i64 0, .int .i64 0, .bool false]) (by kernel_rfl) (by kernel_rfl) (by kernel_rfl) (by omega) rfl (fun w => uU (e4 w))) ?_)
 refine xI (yS (b := 48) (cs := #[.slice none 0 0, .slice none 0 0]) (by kernel_rfl) (by kernel_rfl) (by kernel_rfl) (by decide) rfl eB) ?_
 refine xI (yS (b := 48) (cs := #[.slice none 0 0, .slice none 0 0]) (by kernel_rfl) (by kernel_rfl) (by kernel_rfl) (by decide) rfl eB) ?_
 refine xI (yS (b := 72) (cs := #[.int .i64 0, .int .i64 0, .string ByteArray.empty, .string ByteArray.empty, .slice none 0 0]) (by kernel_rfl) (by kernel_rfl) (by kernel_rfl) (by decide) rfl eO) ?_
 refine xI (yS (b := 72) (cs := #[.int .i64 0, .int .i64 0, .string ByteArray.empty, .string ByteArray.empty, .slice none 0 0]) (by kernel_rfl) (by kernel_rfl) (by kernel_rfl) (by decide) rfl eO) ?_
 refine xI (yS (b := 72) (cs := #[.int .i64 0, .int .i64 0, .int .i64 0, .slice none 0 0, .slice none 0 0]) (by kernel_rfl) (by kernel_rfl) (by kernel_rfl) (by decide) rfl eR) ?_
 refine xI (yS (b := 72) (cs := #[.int .i64 0, .int .i64 0, .int .i64 0, .slice none 0 0, .slice none 0 0]) (by kernel_rfl) (by kernel_rfl) (by kernel_rfl) (by decide) rfl eR) ?_
 refine xI (yS (b := 168) (cs := #[.int .i64 0, .int .i64 0, .int .i64 0, .int .i64 0, .int .i64 0, .string ByteArray.empty, .string ByteArray.empty, .slice none 0 0, .int .i64 0, .int .i64 0, .int .i64 0, .slice none 0 0, .slice none 0 0]) (by kernel_rfl) (by kernel_rfl) (by kernel_rfl) (by decide) rfl eM) ?_
 refine xI (yS (b := 168) (cs := #[.int .i64 0, .int .i64 0, .int .i64 0, .int .i64 0, .int .i64 0, .string ByteArray.empty, .string ByteArray.empty, .slice none 0 0, .int .i64 0, .int .i64 0, .int .i64 0, .slice none 0 0, .slice none 0 0]) (by kernel_rfl) (by kernel_rfl) (by kernel_rfl) (by decide) rfl eM) ?_
 refine xI (aG2 (b := 304) (be := 16) (ze := some (.string ByteArray.empty)) (cs := (List.replicate 19 (.string ByteArray.empty)).toArray) (by kernel_rfl) (by kernel_rfl) (by kernel_rfl) (by omega) (by omega) rfl (fun w => aBz (yE rfl) 19)) ?_
 refine xI (aG2 (b := 112) (be := 16) (ze := some (.string ByteArray.empty)) (cs := (List.replicate 7 (.string ByteArray.empty)).toArray) (by kernel_rfl) (by kernel_rfl) (by kernel_rfl) (by omega) (by omega) rfl (fun w => aBz (yE rfl) 7)) ?_
 exact aHc
end Go.Proofs.YtodckioppgjbdaaDoor.AM
