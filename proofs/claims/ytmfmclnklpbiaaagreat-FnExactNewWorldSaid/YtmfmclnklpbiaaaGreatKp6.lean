/- Texts of the machine over data, folded. -/
import Derived.Test.YtmfmclnklpbiaaaGreatKp5
namespace Go.Proofs.YtmfmclnklpbiaaaGreat.AM
open Go Go.RowKit
set_option linter.unusedVariables false
set_option linter.unusedSimpArgs false

section
variable {P : Program} {Θ : Tab} {n : Nat} {Q : AEx → St → Prop} {s : St}
theorem c_seq {a b : Code} (h : ACode P Θ n a (AEx.then (ACode P Θ n b Q) Q) s) : ACode P Θ n (.seq a b) Q s := .inl h
theorem c_cut {a b : Code} {ι : Type} (I : ι → InvM) (h : ACode P Θ n a (AEx.then (fun s' => ∃ j, s'.leM (I j)) Q) s) (k : ∀ j, ACode P Θ n b Q (I j).st) : ACode P Θ n (.seq a b) Q s := .inr ⟨ι, I, h, k⟩
theorem c_skip (h : Q .normal s) : ACode P Θ n .skip Q s := h
theorem c_reg {id : Nat} {l : List Oper} (h : AOps P Θ n l.toArray false 0 l s (Q .normal)) : ACode P Θ n (.region id l.toArray false) Q s := .inl ⟨(fun e => by cases e), h⟩
theorem c_dreg {id : Nat} {l : List Oper} (hB : Region.lexB .any l.toArray = true) (h : AOps P Θ n l.toArray true 0 l s (Q .normal)) : ACode P Θ n (.region id l.toArray true) Q s := .inl ⟨fun _ => hB, h⟩
theorem c_cond_t {c : Operand} {x y : Code} (hc : s.ev c = .v (.bool true)) (h : ACode P Θ n x Q s) : ACode P Θ n (.cond c x y) Q s := ⟨true, hc, h⟩
theorem c_cond_f {c : Operand} {x y : Code} (hc : s.ev c = .v (.bool false)) (h : ACode P Θ n y Q s) : ACode P Θ n (.cond c x y) Q s := ⟨false, hc, h⟩
theorem c_block {id : Nat} {c : Code} (h : ACode P Θ n c (AEx.inBlock id Q) s) : ACode P Θ n (.block id c) Q s := h
theorem c_loop {c : Code} {ι : Type} (I : ι → InvM) (μ : ι → Nat) (i0 : ι) (h0 : s.leM (I i0)) (h : ∀ i, ACode P Θ n c (AEx.then (fun s' => ∃ j, s'.leM (I j) ∧ μ j < μ i) Q) (I i).st) : ACode P Θ n (.loop c) Q s := ⟨ι, I, μ, ⟨i0, h0⟩, h⟩
theorem c_exit {id : Nat} (h : Q (.exit id) s) : ACode P Θ n (.exit id) Q s := h
theorem c_ret (h : Q .ret s) : ACode P Θ n .ret Q s := h
theorem q_then {K : St → Prop} (h : K s) : AEx.then K Q .normal s := h
theorem q_thenx {K : St → Prop} {id : Nat} (h : Q (.exit id) s) : AEx.then K Q (.exit id) s := h
theorem q_thenr {K : St → Prop} (h : Q .ret s) : AEx.then K Q .ret s := h
theorem q_blkn {id : Nat} (h : Q .normal s) : AEx.inBlock id Q .normal s := h
theorem q_blkr {id : Nat} (h : Q .ret s) : AEx.inBlock id Q .ret s := h
theorem q_blkx {id : Nat} (h : Q .normal s) : AEx.inBlock id Q (.exit id) s := by show (bif Nat.beq id id then _ else _); simpa using h
theorem q_blko {id j : Nat} (hj : Nat.beq j id = false) (h : Q (.exit j) s) : AEx.inBlock id Q (.exit j) s := by show (bif Nat.beq j id then _ else _); rw [hj]; exact h
theorem q_ret {rs : List ResultVar} {out : Out} (h : Ret Θ rs [] out s) : RetQ Θ rs out .ret s := h
theorem q_retn {rs : List ResultVar} {out : Out} (h : Ret Θ rs [] out s) : RetQ Θ rs out .normal s := h

variable {ops : Array Oper} {draw : Bool} {k : Nat} {o : Oper} {r : List Oper} {K : St → Prop}
theorem o_nil (h : K s) : AOps P Θ n ops draw k [] s K := h
theorem o_step {e : Eff} (hg : guardA ops s o = some true) (hin : inN n o.dst = true) (hp : Pre P Θ o s e) (hu : draw = true → e.upd = none ∨ tied ops k = true ∨ SoftE Θ ops (fun j => Nat.blt j k) k s e) (h : AOps P Θ n ops draw (k + 1) r (s.app o.dst e) K) : AOps P Θ n ops draw k (o :: r) s K := by
  unfold AOps; rw [hg]; exact ⟨hin, e, hp, hu, .inl h⟩
/-- a step, and ghost steps after it -/
theorem o_gh {e : Eff} (hg : guardA ops s o = some true) (hin : inN n o.dst = true) (hp : Pre P Θ o s e) (hu : draw = true → tied ops k = true) (h : Gh (fun s' => AOps P Θ n ops draw (k + 1) r s' K) (s.app o.dst e)) : AOps P Θ n ops draw k (o :: r) s K := by
  unfold AOps; rw [hg]; exact ⟨hin, e, hp, fun hd => .inr (.inl (hu hd)), .inr ⟨hu, h⟩⟩
/-- a step whose datum is put, no row changed -/
theorem o_put {d : Option Tmp} {op : Op} {ty : TypeId} {pos : String} {after : Array Edge} {g : Option (Nat × Bool)} {v : AV} (hp : Pre P Θ ⟨d, op, ty, pos, after, g⟩ s ⟨v, none⟩) (hg : guardA ops s ⟨d, op, ty, pos, after, g⟩ = some true) (hin : inN n d = true) (h : AOps P Θ n ops draw (k + 1) r (s.put d v) K) : AOps P Θ n ops draw k (⟨d, op, ty, pos, after, g⟩ :: r) s K :=
  o_step hg hin hp (fun _ => .inl rfl) h
theorem o_skip (hg : guardA ops s o = some false) (hin : inN n o.dst = true) (h : AOps P Θ n ops draw (k + 1) r (s.put o.dst (.tup [])) K) : AOps P Θ n ops draw k (o :: r) s K := by
  unfold AOps; rw [hg]; exact ⟨hin, h⟩

variable {d : Option Tmp} {ty : TypeId} {pos : String} {after : Array Edge} {g : Option (Nat × Bool)}
theorem p_mv {t : Nat} {y : AV} (h : s.sl t = y) : Pre P Θ ⟨d, .move (.tmp t), ty, pos, after, g⟩ s ⟨y, none⟩ := ⟨(fun c e => by cases e), .inl (by rw [← h]; rfl)⟩
theorem p_as {t : Nat} {y : AV} (h : s.sl t = y) : Pre P Θ ⟨d, .assign (.tmp t), ty, pos, after, g⟩ s ⟨y, none⟩ := ⟨(fun c e => by cases e), .inl (by rw [← h]; rfl)⟩
theorem p_asc {c : Value} (h : c.oneCell' = true) : Pre P Θ ⟨d, .assign (.const c), ty, pos, after, g⟩ s ⟨.v c, none⟩ := ⟨(fun c' e => by cases e; exact h), .inl rfl⟩
theorem p_mvc {c : Value} (h : c.oneCell' = true) : Pre P Θ ⟨d, .move (.const c), ty, pos, after, g⟩ s ⟨.v c, none⟩ := ⟨(fun c' e => by cases e; exact h), .inl rfl⟩
theorem p_bin {op : BinOp} {t t2 : TypeId} {x y : Operand} {a b r : Value} (h : BinOK P op t x y a b r) (hx : s.ev x = .v a) (hy : s.ev y = .v b) (h1 : r.oneCell' = true) : Pre P Θ ⟨d, .binOp op t x y t2, ty, pos, after, g⟩ s ⟨.v r, none⟩ :=
  ⟨a, b, r, by rw [hx]; rfl, by rw [hy]; rfl, h, h1, rfl⟩
theorem p_not {t : TypeId} {x : Operand} {b : Bool} (hx : s.ev x = .v (.bool b)) : Pre P Θ ⟨d, .unOp .not t x, ty, pos, after, g⟩ s ⟨.v (.bool (!b)), none⟩ :=
  ⟨.bool b, .bool (!b), by rw [hx]; rfl, fun w => rfl, rfl, rfl⟩
def cOK : Operand → Bool
  | .const c => c.oneCell'
  | _ => true
theorem cOK_spec {x : Operand} (h : cOK x = true) : ∀ c, x = .const c → c.oneCell' = true := fun c e => by subst e; exact h
def csOK : List Operand → Bool
  | [] => true
  | x :: r => cOK x && csOK r
theorem csOK_spec : ∀ {xs : List Operand}, csOK xs = true → ∀ x ∈ xs, ∀ c, x = .const c → c.oneCell' = true
  | [], _, x, hx => by simp at hx
  | y :: ys, h, x, hx => by
    simp only [csOK, Bool.and_eq_true] at h
    rcases List.mem_cons.1 hx with rfl | hx
    · exact cOK_spec h.1
    · exact csOK_spec h.2 x hx
theorem p_pick {c x y : Operand} {t : Bool} {z : AV} (hc : s.ev c = .v (.bool t)) (hz : (bif t then s.ev x else s.ev y) = z) (hx : cOK x = true) (hy : cOK y = true) : Pre P Θ ⟨d, .pick c x y, ty, pos, after, g⟩ s ⟨z, none⟩ :=
  ⟨cOK_spec hx, cOK_spec hy, t, hc, by rw [hz]⟩
theorem p_len {x : Operand} {t : TypeId} {m : Nat} {y : AV} (hx : s.ev x = y) (hl : lenA s y = some m) (hok : lenOK Θ t y) : Pre P Θ ⟨d, .call ⟨.builtin .len, #[x], #[t]⟩, ty, pos, after, g⟩ s ⟨.v (.int .i64 (m : Int)), none⟩ :=
  ⟨x, t, m, rfl, rfl, by rw [hx]; exact hl, by rw [hx]; exact hok, rfl⟩
theorem p_lenm {α : Type} {xs : List α} {f : α → AV} {sz : Nat} {x : Operand} {t : TypeId} (hx : s.ev x = .lst sz (xs.map f)) (hok : ∃ e sz b z, Θ.look t = .slice e sz b z) : Pre P Θ ⟨d, .call ⟨.builtin .len, #[x], #[t]⟩, ty, pos, after, g⟩ s ⟨.v (.int .i64 (xs.length : Int)), none⟩ :=
  ⟨x, t, xs.length, rfl, rfl, by rw [hx]; simp [lenA], by rw [hx]; exact hok, rfl⟩
theorem p_lenom {α : Type} {xs : List α} {f : α → AV} {l sz e : Nat} {x : Operand} {t : TypeId} (hx : s.ev x = .own l) (ho : s.hp l = some ⟨e, sz, xs.map f⟩) (hok : ∃ e sz b z, Θ.look t = .slice e sz b z) : Pre P Θ ⟨d, .call ⟨.builtin .len, #[x], #[t]⟩, ty, pos, after, g⟩ s ⟨.v (.int .i64 (xs.length : Int)), none⟩ :=
  ⟨x, t, xs.length, rfl, rfl, by rw [hx]; simp [lenA, ho], by rw [hx]; exact hok, rfl⟩
theorem p_idx {t el sz b : Nat} {z : AV} {x ix : Operand} {k : IntKind} {j : Nat} {xs : List AV} {y : AV} (hy : xs[j]? = some y) (ht : Θ.look t = .slice el sz b z) (hx : s.ev x = .lst sz xs) (hi : s.ev ix = .v (.int k ((j : Nat) : Int))) : Pre P Θ ⟨d, .indexAddr t x ix, ty, pos, after, g⟩ s ⟨.ptr y, none⟩ :=
  ⟨k, j, hi, .inl ⟨el, sz, b, z, ht, .inl ⟨xs, y, hx, hy, rfl⟩⟩⟩
theorem p_oidx {t el sz b : Nat} {z : AV} {x ix : Operand} {k : IntKind} {j l : Nat} {ob : OB} (hj : j < ob.xs.length) (ht : Θ.look t = .slice el sz b z) (hx : s.ev x = .own l) (hi : s.ev ix = .v (.int k ((j : Nat) : Int))) (ho : s.hp l = some ob) (hs : ob.sz = sz) : Pre P Θ ⟨d, .indexAddr t x ix, ty, pos, after, g⟩ s ⟨.optr l j [] 0, none⟩ :=
  ⟨k, j, hi, .inl ⟨el, sz, b, z, ht, .inr ⟨l, ob, hx, ho, hs, hj, rfl⟩⟩⟩
theorem p_fld {t : TypeId} {x : Operand} {f : Nat} {fs : List (Nat × Nat)} {z ys : List AV} {o_ z_ : Nat} {y : AV} (ht : Θ.look t = .struct fs z) (hf : fs[f]? = some (o_, z_)) (hx : s.ev x = .ptr (.agg ys)) (hy : ys[f]? = some y) (hs : aszs (ys.take f) = o_) : Pre P Θ ⟨d, .fieldAddr t x f, ty, pos, after, g⟩ s ⟨.ptr y, none⟩ :=
  ⟨fs, z, o_, z_, ht, hf, .inl ⟨ys, y, hx, hy, hs, rfl⟩⟩
theorem p_ofld {t : TypeId} {x : Operand} {f : Nat} {fs : List (Nat × Nat)} {z : List AV} {o_ z_ l i c : Nat} {p : List Nat} (ht : Θ.look t = .struct fs z) (hf : fs[f]? = some (o_, z_)) (hx : s.ev x = .optr l i p c) : Pre P Θ ⟨d, .fieldAddr t x f, ty, pos, after, g⟩ s ⟨.optr l i (p ++ [f]) (c + o_), none⟩ :=
  ⟨fs, z, o_, z_, ht, hf, .inr ⟨l, i, p, c, hx, rfl⟩⟩
theorem p_ld {t : TypeId} {x : Operand} {y : AV} (hx : s.ev x = .ptr y) (hk : (Θ.look t).known = true) (ha : isAggA y = (Θ.look t).isAgg) (hs : asz y = (Θ.look t).size) : Pre P Θ ⟨d, .load t x, ty, pos, after, g⟩ s ⟨y, none⟩ :=
  ⟨hk, .inl ⟨y, hx, ha, hs, rfl⟩⟩
theorem p_old {t : TypeId} {x : Operand} {l i c : Nat} {p : List Nat} {ob : OB} {y z : AV} (hx : s.ev x = .optr l i p c) (ho : s.hp l = some ob) (hy : ob.xs[i]? = some y) (hg : getP y p 0 = some (z, c)) (hk : (Θ.look t).known = true) (ha : isAggA z = (Θ.look t).isAgg) (hs : asz z = (Θ.look t).size) (hop : ob.e.open_ = true := by rfl) : Pre P Θ ⟨d, .load t x, ty, pos, after, g⟩ s ⟨z, none⟩ :=
  ⟨hk, .inr ⟨l, i, p, c, ob, hx, ho, .inl ⟨y, z, .inl hop, hy, hg, ha, hs, rfl⟩⟩⟩
/-- a load from an element whose lists are read alone yet -/
theorem p_oldp {t : TypeId} {x : Operand} {l i c t0 k : Nat} {p : List Nat} {ob : OB} {y z : AV} (hx : s.ev x = .optr l i p c) (ho : s.hp l = some ob) (hop : ob.e = .p t0 k) (hki : k ≤ i) (hy : ob.xs[i]? = some y) (hg : getP y p 0 = some (z, c)) (hk : (Θ.look t).known = true) (ha : isAggA z = (Θ.look t).isAgg) (hs : asz z = (Θ.look t).size) : Pre P Θ ⟨d, .load t x, ty, pos, after, g⟩ s ⟨z, none⟩ :=
  ⟨hk, .inr ⟨l, i, p, c, ob, hx, ho, .inl ⟨y, z, .inr ⟨t0, k, hop, hki⟩, hy, hg, ha, hs, rfl⟩⟩⟩
/-- an element's list comes to be its own -/
theorem p_ostoreq {t : TypeId} {x y : Operand} {l i c t0 j L : Nat} {p : List Nat} {ob obL : OB} {ys : List AV} {z : AV} (hx : s.ev x = .optr l i p c) (ho : s.hp l = some ob) (hop : ob.e = .p t0 i) (hq : ob.xs[i]? = some (.agg ys)) (hj : ys[j]? = some z) (hc : aszs (ys.take j) = c) (hz : asz z = 1) (ht : ((Θ.look t).known && Nat.beq (Θ.look t).size 1) = true) (hn : noLstL (ys.set j (.agg [])) = true) (hy : s.ev y = .own L) (hne : Nat.beq L l = false) (hoL : s.hp L = some obL) (hd : obL.e.deep = true ∨ ((∃ t1, obL.e = .s t1) ∧ ∀ x ∈ obL.xs, noLst x = true)) (hok : okL L = true := by rfl) (hcc : cOK y = true := by rfl) :
    Pre P Θ ⟨d, .store t x y, ty, pos, after, g⟩ s ⟨.any, some fun s' => (s'.drop L).set l (some ⟨.p t0 (i + 1), ob.sz, ob.xs.set i (.agg (ys.set j (.lst obL.sz obL.xs)))⟩)⟩ := by
  simp only [Bool.and_eq_true] at ht
  exact ⟨cOK_spec hcc, ht.1, l, i, p, c, ob, hx, ho, .inr (.inr (.inr (.inr ⟨t0, ys, z, j, L, obL, hop, hq, hj, hc, hz, Nat.eq_of_beq_eq_true ht.2, hn, hy, fun e => by rw [e] at hne; simp at hne, hok, hoL, hd, rfl⟩)))⟩
/-- a load from an open row -/
theorem p_oldo {t : TypeId} {x : Operand} {l i c : Nat} {p : List Nat} {ob : OB} {t' : Option Nat} {y z x' : AV} (hx : s.ev x = .optr l i p c) (ho : s.hp l = some ob) (hop : openE ob.e ob.xs i = some (.o t' i y)) (hg : getP y p 0 = some (z, c)) (hz : ofO z = some x') (hk : (Θ.look t).known = true) (ha : isAggA x' = (Θ.look t).isAgg) (hs : asz x' = (Θ.look t).size) : Pre P Θ ⟨d, .load t x, ty, pos, after, g⟩ s ⟨x', none⟩ :=
  ⟨hk, .inr ⟨l, i, p, c, ob, hx, ho, .inr ⟨t', y, z, hop, hg, .inl ⟨x', hz, ha, hs, rfl⟩⟩⟩⟩
/-- a list that an open row's element owns comes out, under a label of its own -/
theorem p_oldu {dt : Tmp} {t : TypeId} {x : Operand} {l i c : Nat} {p : List Nat} {ob : OB} {t' : Option Nat} {y : AV} {sz' el sz b : Nat} {xs' : List AV} {z0 : AV} (hx : s.ev x = .optr l i p c) (ho : s.hp l = some ob) (hop : openE ob.e ob.xs i = some (.o t' i y)) (hg : getP y p 0 = some (.lst sz' xs', c)) (ht : Θ.look t = .slice el sz b z0) (hf : s.hp (dt + 1) = none) (hok : okL (dt + 1) = true := by rfl) :
    Pre P Θ ⟨some dt, .load t x, ty, pos, after, g⟩ s ⟨.own (dt + 1), some fun s => (s.set l (some ⟨.o t' i (setM y p (.own (dt + 1))), ob.sz, ob.xs⟩)).set (dt + 1) (some ⟨.u, sz', xs'⟩)⟩ :=
  ⟨by rw [ht]; rfl, .inr ⟨l, i, p, c, ob, hx, ho, .inr ⟨t', y, _, hop, hg, .inr (.inr ⟨dt, sz', xs', el, sz, b, z0, rfl, rfl, ht, hf, hok, rfl⟩)⟩⟩⟩
theorem p_ext {x : Operand} {i : Nat} {xs : List AV} {y : AV} (hx : s.ev x = .tup xs) (hy : xs[i]? = some y) : Pre P Θ ⟨d, .extract x i, ty, pos, after, g⟩ s ⟨y, none⟩ := ⟨xs, y, hx, hy, rfl⟩

theorem p_call {f : FuncId} {ags : Array Operand} {ts : Array TypeId} {t : Nat} {args : List AV} {out : Out} (hac : AC P f args out) (ha : (ags.toList.map fun x => s.dat (s.ev x)) = args) (hfl : (ownsOf s ags.toList).isEmpty = true ∨ out.flat) (hfr : freeObs s (t + 1) 0 out.obs) (hok : argsA s (ags.toList.map s.ev) = true) (hc : csOK ags.toList = true) :
    Pre P Θ ⟨some t, .call ⟨.value (.func f), ags, ts⟩, ty, pos, after, g⟩ s ⟨ren (t + 1) out.val, setU (t + 1) out.obs⟩ :=
  ⟨f, [], [], t, out, rfl, rfl, csOK_spec hc, .inl ⟨args, by rw [← ha]; simp [Function.comp_def], hac, hfr, by simpa using hok, .inl ⟨hfl.imp (fun h => by simpa [ownsOf] using h) id, by simp [setU]⟩⟩⟩
/-- a call of a function's value -/
theorem p_callv {f : FuncId} {xs ys : List AV} {x : Operand} {ags : Array Operand} {ts : Array TypeId} {t : Nat} {args : List AV} {out : Out} (hac : AC P f args out) (hx : s.ev x = .fn f xs ys) (ha : ((xs ++ ags.toList.map s.ev ++ ys).map s.dat) = args) (hfl : (ownsAL (xs ++ ags.toList.map s.ev ++ ys)).isEmpty = true ∨ out.flat) (hfr : freeObs s (t + 1) 0 out.obs) (hok : argsA s (xs ++ ags.toList.map s.ev ++ ys) = true) (hc : csOK ags.toList = true) :
    Pre P Θ ⟨some t, .call ⟨.value x, ags, ts⟩, ty, pos, after, g⟩ s ⟨ren (t + 1) out.val, setU (t + 1) out.obs⟩ :=
  ⟨f, xs, ys, t, out, hx, rfl, csOK_spec hc, .inl ⟨args, ha, hac, hfr, hok, .inl ⟨hfl.imp (fun h => by simpa using h) id, rfl⟩⟩⟩
end

theorem p_callf {P : Program} {Θ : Tab} {s : St} {ty : TypeId} {pos : String} {after : Array Edge} {g : Option (Nat × Bool)} {f : FuncId} {ags : Array Operand} {ts : Array TypeId} {t : Nat} {args : List AV} {out : Out} (hac : AC P f args out) (ha : (ags.toList.map fun x => s.dat (s.ev x)) = args) (hfr : freeObs s (t + 1) 0 out.obs) (hok : argsA s (ags.toList.map s.ev) = true) (hc : csOK ags.toList = true) (hl : (ownsOf s ags.toList).all okL = true := by rfl) :
    Pre P Θ ⟨some t, .call ⟨.value (.func f), ags, ts⟩, ty, pos, after, g⟩ s ⟨ren (t + 1) out.val, frzT (ownsOf s ags.toList) (setObs (t + 1) 0 out.obs)⟩ :=
  ⟨f, [], [], t, out, rfl, rfl, csOK_spec hc, .inl ⟨args, by rw [← ha]; simp [Function.comp_def], hac, hfr, by simpa using hok, .inr ⟨by simpa [ownsOf] using hl, by simp [ownsOf]⟩⟩⟩
def nodB : List Nat → Bool
  | [] => true
  | l :: r => !r.contains l && nodB r
theorem nodB_ok : ∀ {l : List Nat}, nodB l = true → l.Nodup
  | [], _ => List.nodup_nil
  | a :: l, h => by
    simp only [nodB, Bool.and_eq_true, Bool.not_eq_true', List.contains_eq_mem, decide_eq_false_iff_not] at h
    exact List.nodup_cons.2 ⟨h.1, nodB_ok h.2⟩
/-- a call that rows are handed over to -/
theorem p_callg {P : Program} {Θ : Tab} {s : St} {ty : TypeId} {pos : String} {after : Array Edge} {g : Option (Nat × Bool)} {f : FuncId} {xs ys : List AV} {x : Operand} {ags : Array Operand} {ts : Array TypeId} {t : Nat} {args : List AV} {rin rout : List OB} {out : Out} (Ls : List Nat) (hac : ACG P f args rin rout out) (hx : s.ev x = .fn f xs ys) (ha : s.datHL Ls (xs ++ ags.toList.map s.ev ++ ys) = subAL Ls args) (hh : handed s Ls Ls rin) (hnd : nodB Ls = true) (hsz : rout.map OB.sz = rin.map OB.sz) (hfr : freeObs s (t + 1) 0 out.obs)
    (hok : argsH s Ls (xs ++ ags.toList.map s.ev ++ ys) = true) (hwi : withinL (fun l => (rowsF 0 rin l).isSome) args = true) (hwe : (rin ++ rout).all (fun ob => withinE (fun l => (rowsF 0 rin l).isSome) ob.e) = true) (hfl : (readsL Ls (ownsAL (xs ++ ags.toList.map s.ev ++ ys))).isEmpty = true ∨ (out.flat ∧ ∀ ob ∈ rout, flatO ob)) (hc : csOK ags.toList = true) :
    Pre P Θ ⟨some t, .call ⟨.value x, ags, ts⟩, ty, pos, after, g⟩ s ⟨ren (t + 1) out.val, some fun s => setObs (t + 1) 0 out.obs (setHanded Ls Ls rout s)⟩ :=
  ⟨f, xs, ys, t, out, hx, rfl, csOK_spec hc, .inr ⟨args, rin, rout, Ls, ha, hac, hh, nodB_ok hnd, hsz, hfr, hok, hwi, hwe, hfl.imp (fun h => by simpa using h) id, rfl⟩⟩
theorem mapA_nolab {ρ : Nat → Nat} : ∀ x : AV, x.within (fun _ => false) = true → mapA ρ x = x := by
  intro x
  refine AV.rec (motive_1 := fun x => x.within (fun _ => false) = true → mapA ρ x = x) (motive_2 := fun xs => withinL (fun _ => false) xs = true → mapAL ρ xs = xs) ?_ ?_ ?_ ?_ ?_ ?_ ?_ ?_ ?_ ?_ ?_ ?_ ?_ ?_ ?_ x
  · intro _; rfl
  · intro _ _; rfl
  · intro _ _ _; rfl
  · intro _ _ _ _; rfl
  · intro _ _ _; rfl
  · intro _ h; cases h
  · intro _ _ _ _ h; cases h
  · intro xs ih h; simp only [mapA]; rw [ih (by simpa [AV.within] using h)]
  · intro _ h; cases h
  · intro xs ih h; simp only [mapA]; rw [ih (by simpa [AV.within] using h)]
  · intro _ _ _; rfl
  · intro f xs ys ih ih2 h
    simp only [AV.within, Bool.and_eq_true] at h
    simp only [mapA]; rw [ih h.1, ih2 h.2]
  · intro t x ih h; simp only [mapA]; rw [ih (by simpa [AV.within] using h)]
  · intro _; rfl
  · intro x xs ih ih2 h
    simp only [withinL, Bool.and_eq_true] at h
    simp only [mapAL]; rw [ih h.1, ih2 h.2]
theorem p_callm {P : Program} {Θ : Tab} {s : St} {d : Nat} {ty : TypeId} {pos : String} {after : Array Edge} {g : Option (Nat × Bool)} {f : FuncId} {x : Operand} {r : List Operand} {ts : Array TypeId} {l : Nat} {ob : OB} {xs' args : List AV} {v : Value} (hac : ACM P f ob xs' args v) (hx : s.ev x = .own l) (ho : s.hp l = some ob) (ha : (r.map fun x => s.dat (s.ev x)) = args) (how : (ownsOf s r).isEmpty = true) (hok : argsA s (r.map s.ev) = true) (hc : csOK r = true) (h1 : v.oneCell' = true) (hsh : ob.e.shut = true := by rfl) (hcx : cOK x = true := by rfl) (hlb : withinL (fun _ => false) args = true := by rfl) (hag : s.datHL [l] (r.map s.ev) = args := by rfl) (hah : argsH s [l] (r.map s.ev) = true := by rfl) :
    Pre P Θ ⟨some d, .call ⟨.value (.func f), (x :: r).toArray, ts⟩, ty, pos, after, g⟩ s ⟨.v v, some fun s => s.set l (some ⟨ob.e, ob.sz, xs'⟩)⟩ := by
  have hse : ∀ e : ET, e.shut = true → subE [l] e = e := fun e h => by cases e <;> first | rfl | cases h
  have hml : ∀ xs : List AV, withinL (fun _ => false) xs = true → mapAL (subl 0 [l]) xs = xs := by
    intro xs
    induction xs with
    | nil => intro _; rfl
    | cons y ys ih =>
      intro h
      simp only [withinL, Bool.and_eq_true] at h
      simp only [mapAL]; rw [mapA_nolab y h.1, ih h.2]
  have hwl : ∀ xs : List AV, withinL (fun _ => false) xs = true → ∀ p, withinL p xs = true := fun xs h p => by
    have key : ∀ xs : List AV, withinL (fun _ => false) xs = true → withinL p xs = true := by
      have one : ∀ x : AV, x.within (fun _ => false) = true → x.within p = true := by
        intro x
        refine AV.rec (motive_1 := fun x => x.within (fun _ => false) = true → x.within p = true) (motive_2 := fun xs => withinL (fun _ => false) xs = true → withinL p xs = true) ?_ ?_ ?_ ?_ ?_ ?_ ?_ ?_ ?_ ?_ ?_ ?_ ?_ ?_ ?_ x
        · intro _; rfl
        · intro _ _; rfl
        · intro _ _ _; rfl
        · intro _ _ _ _; rfl
        · intro _ _ _; rfl
        · intro _ h; cases h
        · intro _ _ _ _ h; cases h
        · intro xs ih h; exact ih h
        · intro _ h; cases h
        · intro xs ih h; exact ih h
        · intro _ _ _; rfl
        · intro f xs ys ih ih2 h
          simp only [AV.within, Bool.and_eq_true] at h ⊢
          exact ⟨ih h.1, ih2 h.2⟩
        · intro t x ih h; exact ih h
        · intro _; rfl
        · intro x xs ih ih2 h
          simp only [withinL, Bool.and_eq_true] at h ⊢
          exact ⟨ih h.1, ih2 h.2⟩
      intro xs
      induction xs with
      | nil => intro _; rfl
      | cons y ys ih =>
        intro h
        simp only [withinL, Bool.and_eq_true] at h ⊢
        exact ⟨one y h.1, ih h.2⟩
    exact key xs h
  have hcs : ∀ y ∈ (x :: r), ∀ c, y = .const c → c.oneCell' = true := fun y hy => by
    rcases List.mem_cons.1 hy with rfl | hy
    · exact cOK_spec hcx
    · exact csOK_spec hc y hy
  have how' : ownsAL (r.map s.ev) = [] := by simpa [ownsOf] using how
  refine ⟨f, [], [], d, ⟨.v v, []⟩, rfl, rfl, hcs, .inr ⟨.own 0 :: args, [ob], [⟨ob.e, ob.sz, xs'⟩], [l], ?_, hac, ⟨?_, trivial⟩, by simp, rfl, trivial, ?_, ?_, ?_, .inl ?_, ?_⟩⟩
  · simp only [List.nil_append, List.append_nil, List.map_cons, hx, St.datHL, St.datH, subAL, mapAL, mapA, hag, hml _ hlb]
    simp [subl]
  · rw [ho]; unfold subO; rw [hse _ hsh]
  · simp only [List.nil_append, List.append_nil, List.map_cons, hx, argsH, argH, hah]; simp
  · simp only [withinL, AV.within, hwl _ hlb]; simp [rowsF]
  · have hw : ∀ (e : ET) (p : Nat → Bool), e.shut = true → withinE p e = true := fun e p h => by cases e <;> first | rfl | cases h
    simp only [List.cons_append, List.nil_append, List.all_cons, List.all_nil, hw _ _ hsh]; rfl
  · simp only [List.nil_append, List.append_nil, List.map_cons, hx, ownsAL, ownsA, how', readsL]; simp
  · simp only [ren, mapA, setObs, setHanded]; unfold subO; simp only [hse _ hsh]
theorem p_nila {P : Program} {Θ : Tab} {s : St} {d : Nat} {ty : TypeId} {pos : String} {after : Array Edge} {g : Option (Nat × Bool)} (el : ET) (sz : Nat) (h : 0 < sz) (hsh : el.row = true := by rfl) (hok : okL (d + 1) = true := by rfl) : Pre P Θ ⟨some d, .assign (.const (.slice none 0 0)), ty, pos, after, g⟩ s ⟨.own (d + 1), some fun s => (s.kill (d + 1)).set (d + 1) (some ⟨el, sz, []⟩)⟩ :=
  ⟨(fun c e => by cases e; rfl), .inr (.inr (.inl ⟨d, el, sz, rfl, h, hsh, hok, rfl, rfl⟩))⟩
theorem p_nilm {P : Program} {Θ : Tab} {s : St} {d : Nat} {ty : TypeId} {pos : String} {after : Array Edge} {g : Option (Nat × Bool)} (el : ET) (sz : Nat) (h : 0 < sz) (hsh : el.row = true := by rfl) (hok : okL (d + 1) = true := by rfl) : Pre P Θ ⟨some d, .move (.const (.slice none 0 0)), ty, pos, after, g⟩ s ⟨.own (d + 1), some fun s => (s.kill (d + 1)).set (d + 1) (some ⟨el, sz, []⟩)⟩ :=
  ⟨(fun c e => by cases e; rfl), .inr (.inr (.inl ⟨d, el, sz, rfl, h, hsh, hok, rfl, rfl⟩))⟩
theorem p_make {P : Program} {Θ : Tab} {s : St} {d : Nat} {ty : TypeId} {pos : String} {after : Array Edge} {g : Option (Nat × Bool)} {t : TypeId} {l c : Operand} {el sz b n : Nat} {z : AV} {k k' : IntKind} (hn : b * n ≤ 140737488355328) (hn' : n ≤ 9223372036854775807) (hl : s.ev l = .v (.int k (n : Int))) (hc : s.ev c = .v (.int k' (n : Int))) (hf : s.hp (d + 1) = none) (ht : Θ.look t = .slice el sz b z) (hok : okL (d + 1) = true := by rfl) :
    Pre P Θ ⟨some d, .makeSlice t l c, ty, pos, after, g⟩ s ⟨.own (d + 1), some fun s => s.set (d + 1) (some ⟨kz el z, sz, List.replicate n z⟩)⟩ := ⟨d, el, sz, b, z, n, k, k', rfl, hf, hok, ht, hl, hc, hn, hn', rfl⟩
theorem p_box {P : Program} {Θ : Tab} {s : St} {ty : TypeId} {pos : String} {after : Array Edge} {g : Option (Nat × Bool)} {t : TypeId} {x : Operand} {d : Nat} {y : AV} (hf : s.hp (d + 1) = none) (hx : s.ev x = y) (hk : (match y with | .v c => c.oneCell' | .agg _ => true | .lst _ _ => true | _ => false) = true) (hs : ((Θ.look t).known && Nat.beq (asz y) (Θ.look t).size) = true) (hok : okL (d + 1) = true := by rfl) :
    Pre P Θ ⟨some d, .box t x, ty, pos, after, g⟩ s ⟨.optr (d + 1) 0 [] 0, some fun s' => s'.set (d + 1) (some ⟨.s t, (Θ.look t).size, [y]⟩)⟩ := by
  have hd : s.dat (s.ev x) = y := by rw [hx]; cases y <;> first | rfl | simp at hk
  have ho : ownsA (s.ev x) = [] := by rw [hx]; cases y <;> first | rfl | simp at hk
  simp only [Bool.and_eq_true] at hs
  refine ⟨fun c e => ?_, d, rfl, hf, hok, hs.1, .inl ⟨by rw [hd]; exact Nat.eq_of_beq_eq_true hs.2, by rw [hx]; cases y <;> first | exact hk | rfl | simp at hk, by rw [ho]; rfl, ?_⟩⟩
  · subst e; simp only [St.ev] at hx; subst hx; exact hk
  · rw [hd, ho]; rfl
/-- a cell laid, with labels among its parts -/
theorem p_boxo {P : Program} {Θ : Tab} {s : St} {ty : TypeId} {pos : String} {after : Array Edge} {g : Option (Nat × Bool)} {t : TypeId} {x : Operand} {d : Nat} {y : AV} (hf : s.hp (d + 1) = none) (hx : toO (s.ev x) = some y) (hs : ((Θ.look t).known && Nat.beq (asz y) (Θ.look t).size) = true) (hc : cOK x = true := by rfl) (hok : okL (d + 1) = true := by rfl) :
    Pre P Θ ⟨some d, .box t x, ty, pos, after, g⟩ s ⟨.optr (d + 1) 0 [] 0, some fun s' => s'.set (d + 1) (some ⟨.o (some t) 0 y, (Θ.look t).size, [y]⟩)⟩ := by
  simp only [Bool.and_eq_true] at hs
  exact ⟨cOK_spec hc, d, rfl, hf, hok, hs.1, .inr ⟨y, hx, Nat.eq_of_beq_eq_true hs.2, rfl⟩⟩
theorem p_allo {P : Program} {Θ : Tab} {s : St} {ty : TypeId} {pos : String} {after : Array Edge} {g : Option (Nat × Bool)} {t : TypeId} {d : Nat} (hf : s.hp (d + 1) = none) (hk : (Θ.look t).known = true) (hok : okL (d + 1) = true := by rfl) :
    Pre P Θ ⟨some d, .alloc t, ty, pos, after, g⟩ s ⟨.optr (d + 1) 0 [] 0, some fun s => s.set (d + 1) (some ⟨kz t (Θ.look t).zero, (Θ.look t).size, [(Θ.look t).zero]⟩)⟩ := ⟨d, rfl, hf, hok, hk, rfl⟩
/-- a store into a row whose lists are read alone -/
theorem p_ostore {P : Program} {Θ : Tab} {s : St} {d : Option Tmp} {ty : TypeId} {pos : String} {after : Array Edge} {g : Option (Nat × Bool)} {t : TypeId} {x y : Operand} {l i c : Nat} {p : List Nat} {ob : OB} {q z v : AV} (hq : ob.xs[i]? = some q) (hx : s.ev x = .optr l i p c) (ho : s.hp l = some ob) (hg : getP q p 0 = some (z, c)) (hs : ((Θ.look t).known && (Nat.beq (asz z) (Θ.look t).size && Nat.beq (asz v) (asz z))) = true) (hy : s.ev y = v) (hv : (match v with | .v c => c.oneCell' | .agg _ => true | .lst _ _ => true | .ptr _ => true | _ => false) = true) (hop : ob.e.open_ = true := by rfl) :
    Pre P Θ ⟨d, .store t x y, ty, pos, after, g⟩ s ⟨.any, some fun s' => s'.set l (some ⟨.s (ob.e.typ.getD 0), ob.sz, ob.xs.set i (setP q p v)⟩)⟩ := by
  simp only [Bool.and_eq_true] at hs
  have hd : s.dat (s.ev y) = v := by rw [hy]; cases v <;> first | rfl | cases hv
  have hown : ownsA (s.ev y) = [] := by rw [hy]; cases v <;> first | rfl | cases hv
  have hda : isDataA s (s.ev y) = true := by rw [hy]; cases v <;> first | exact hv | rfl | cases hv
  obtain ⟨t0, he⟩ : ∃ t0, ob.e = .s t0 ∨ ob.e = .z t0 := by
    cases h : ob.e with
    | s t0 => exact ⟨t0, .inl rfl⟩
    | z t0 => exact ⟨t0, .inr rfl⟩
    | _ => rw [h] at hop; cases hop
  have ht : ob.e.typ.getD 0 = t0 := by rcases he with he | he <;> rw [he] <;> rfl
  refine ⟨fun c e => ?_, hs.1, l, i, p, c, ob, hx, ho, .inl ⟨t0, q, z, he, hq, hg, Nat.eq_of_beq_eq_true hs.2.1, by rw [hd]; exact Nat.eq_of_beq_eq_true hs.2.2, hda, by rw [hown]; rfl, by rw [hown]; rfl, ?_⟩⟩
  · subst e; simp only [St.ev] at hy; subst hy; exact hv
  · rw [hd, hown, ht]; rfl
/-- a store into an open row -/
theorem p_ostoreo {P : Program} {Θ : Tab} {s : St} {d : Option Tmp} {ty : TypeId} {pos : String} {after : Array Edge} {g : Option (Nat × Bool)} {t : TypeId} {x y : Operand} {l i c : Nat} {p : List Nat} {ob : OB} {t' : Option Nat} {q z y' : AV} (hx : s.ev x = .optr l i p c) (ho : s.hp l = some ob) (hop : openE ob.e ob.xs i = some (.o t' i q)) (hg : getP q p 0 = some (z, c)) (hy : toO (s.ev y) = some y') (hs : ((Θ.look t).known && (Nat.beq (asz z) (Θ.look t).size && Nat.beq (asz y') (asz z))) = true) (hc : cOK y = true := by rfl) :
    Pre P Θ ⟨d, .store t x y, ty, pos, after, g⟩ s ⟨.any, some fun s' => s'.set l (some ⟨.o t' i (setM q p y'), ob.sz, ob.xs⟩)⟩ := by
  simp only [Bool.and_eq_true] at hs
  exact ⟨cOK_spec hc, hs.1, l, i, p, c, ob, hx, ho, .inr (.inl ⟨t', q, z, y', hop, hg, Nat.eq_of_beq_eq_true hs.2.1, hy, Nat.eq_of_beq_eq_true hs.2.2, rfl⟩)⟩
/-- a list's part -/
theorem p_lslice {P : Program} {Θ : Tab} {s : St} {d : Option Tmp} {ty : TypeId} {pos : String} {after : Array Edge} {g : Option (Nat × Bool)} {t : TypeId} {x : Operand} {lo hi : Option Operand} {el sz b l h : Nat} {z : AV} {xs : List AV} (hl : l ≤ h) (hh : h ≤ xs.length) (ht : Θ.look t = .slice el sz b z) (hx : s.ev x = .lst sz xs) (h1 : lowAt s lo l) (h2 : highAt s hi xs.length h) : Pre P Θ ⟨d, .slice t x lo hi none, ty, pos, after, g⟩ s ⟨.lst sz ((xs.take h).drop l), none⟩ :=
  .inr ⟨el, sz, b, z, xs, l, h, ht, rfl, hx, h1, h2, hl, hh, rfl⟩
theorem getA {α : Type} (f : α → AV) {es : List α} {k : Nat} (h : k < es.length) : (es.map f)[k]? = some (f es[k]) := by simp [h]

/-! ### sums and comparisons -/
section
variable {P : Program} {t : TypeId} {x y : Operand} {k : IntKind} {a b : Int}
theorem b_lt_t (h : a < b) : BinOK P .lss t x y (.int k a) (.int k b) (.bool true) := fun w => by simp [eqGuard, binOp, Op.intCmp, h]
theorem b_lt_f (h : ¬ a < b) : BinOK P .lss t x y (.int k a) (.int k b) (.bool false) := fun w => by simp [eqGuard, binOp, Op.intCmp]; omega
theorem b_le_t (h : a ≤ b) : BinOK P .leq t x y (.int k a) (.int k b) (.bool true) := fun w => by simp [eqGuard, binOp, Op.intCmp, h]
theorem b_le_f (h : ¬ a ≤ b) : BinOK P .leq t x y (.int k a) (.int k b) (.bool false) := fun w => by simp [eqGuard, binOp, Op.intCmp]; omega
theorem b_gt_t (h : a > b) : BinOK P .gtr t x y (.int k a) (.int k b) (.bool true) := fun w => by simp [eqGuard, binOp, Op.intCmp]; omega
theorem b_gt_f (h : ¬ a > b) : BinOK P .gtr t x y (.int k a) (.int k b) (.bool false) := fun w => by simp [eqGuard, binOp, Op.intCmp]; omega
theorem b_ge_t (h : a ≥ b) : BinOK P .geq t x y (.int k a) (.int k b) (.bool true) := fun w => by simp [eqGuard, binOp, Op.intCmp]; omega
theorem b_ge_f (h : ¬ a ≥ b) : BinOK P .geq t x y (.int k a) (.int k b) (.bool false) := fun w => by simp [eqGuard, binOp, Op.intCmp]; omega
theorem b_eq_t (h : a = b) : BinOK P .eql t x y (.int k a) (.int k b) (.bool true) := fun w => by simp [eqGuard, binOp, Op.intCmp, h]
theorem b_eq_f (h : ¬ a = b) : BinOK P .eql t x y (.int k a) (.int k b) (.bool false) := fun w => by simp [eqGuard, binOp, Op.intCmp, h]
theorem b_ne_t (h : ¬ a = b) : BinOK P .neq t x y (.int k a) (.int k b) (.bool true) := fun w => by simp [eqGuard, binOp, Op.intCmp, h]
theorem b_ne_f (h : a = b) : BinOK P .neq t x y (.int k a) (.int k b) (.bool false) := fun w => by simp [eqGuard, binOp, Op.intCmp, h]
theorem b_add {c : Int} (h : c = a + b) (hl : -9223372036854775808 ≤ c) (hu : c ≤ 9223372036854775807) : BinOK P .add t x y (.int .i64 a) (.int .i64 b) (.int .i64 c) := fun w => by
  have hw : IntKind.i64.wrap (a + b) = c := by rw [IntKind.wrap_i64, ← h]; omega
  simp [eqGuard, binOp, Op.intArith, hw]
theorem b_sub {c : Int} (h : c = a - b) (hl : -9223372036854775808 ≤ c) (hu : c ≤ 9223372036854775807) : BinOK P .sub t x y (.int .i64 a) (.int .i64 b) (.int .i64 c) := fun w => by
  have hw : IntKind.i64.wrap (a - b) = c := by rw [IntKind.wrap_i64, ← h]; omega
  simp [eqGuard, binOp, Op.intArith, hw]
theorem b_str {op : BinOp} {a b : ByteArray} {r : Value} (h : ∀ w, (Op.stringOp op a b).run P w = .ok r w) : BinOK P op t x y (.string a) (.string b) r := fun w => by
  cases op <;> simp only [eqGuard, binOp] <;> first | exact h w | simpa using h w
end

/-! maps -/
section
variable {P : Program} {Θ : Tab} {s : St} {ty : TypeId} {pos : String} {after : Array Edge} {g : Option (Nat × Bool)} {t kt vt : TypeId} {z : AV} {l : Nat} {ent : List (ByteArray × AV)} {kk : ByteArray}
end
/-! ### the machine run: what leaves no question is reckoned, and the goal stands at the next operation that asks one -/

def force (x : AV) (k : AV → Option St) : Option St :=
  match x with
  | .any => none
  | .v c => k (.v c)
  | .agg xs => k (.agg xs)
  | .lst z xs => k (.lst z xs)
  | .ptr y => k (.ptr y)
  | .own l => k (.own l)
  | .optr l i p c => k (.optr l i p c)
  | .tup xs => k (.tup xs)
  | .mapv l => k (.mapv l)
  | .mix xs => k (.mix xs)
  | .rd x => k (.rd x)
  | .fn f xs ys => k (.fn f xs ys)
  | .ifc t x => k (.ifc t x)
theorem force_eq {x : AV} {k : AV → Option St} {s : St} (h : force x k = some s) : k x = some s := by
  cases x <;> first | exact h | cases h
def forceL : List AV → (List AV → Option St) → Option St
  | [], k => k []
  | x :: r, k => force x fun y => forceL r fun ys => k (y :: ys)
theorem forceL_eq {s : St} : ∀ {xs : List AV} {k : List AV → Option St}, forceL xs k = some s → k xs = some s
  | [], k, h => h
  | x :: r, k, h => forceL_eq (xs := r) (k := fun ys => k (x :: ys)) (force_eq (k := fun y => forceL r fun ys => k (y :: ys)) h)
def partsB (s : St) : List AV → List (Nat × Operand) → Bool
  | _, [] => true
  | z, (i, x) :: r => (match z[i]? with | some y => Nat.beq (asz (s.dat (s.ev x))) (asz y) | none => false) && (isDataA s (s.ev x) && partsB s (z.set i (s.dat (s.ev x))) r)
theorem partsB_ok {s : St} : ∀ (ps : List (Nat × Operand)) (z : List AV), partsB s z ps = true → partsOK s z ps
  | [], z, _ => trivial
  | (i, x) :: r, z, h => by
    simp only [partsB, Bool.and_eq_true] at h
    refine ⟨?_, h.2.1, partsB_ok r _ h.2.2⟩
    have h1 := h.1
    split at h1
    · rename_i y hy; exact ⟨y, hy, Nat.eq_of_beq_eq_true h1⟩
    · cases h1
def nilAt (Θ : Tab) (draw : Bool) (dst : Option Tmp) (ty : TypeId) (c : Value) : Option (Nat × Nat × Nat) :=
  match c, dst, Θ.look ty with
  | .slice none 0 0, some d, .slice el sz _ _ => bif !draw && (Nat.blt 0 sz && okL (d + 1)) then some (d, el, sz) else none
  | _, _, _ => none
theorem cond_some {α : Type} {b : Bool} {x : Option α} {y : α} (h : (bif b then x else none) = some y) : b = true ∧ x = some y := by cases b with
  | true => exact ⟨rfl, h⟩
  | false => cases h
theorem nilAt_ok {Θ : Tab} {draw : Bool} {dst : Option Tmp} {ty : TypeId} {c : Value} {d el sz : Nat} (h : nilAt Θ draw dst ty c = some (d, el, sz)) : dst = some d ∧ c = .slice none 0 0 ∧ draw = false ∧ 0 < sz ∧ okL (d + 1) = true := by
  unfold nilAt at h
  split at h
  · obtain ⟨h1, h2⟩ := cond_some h
    cases h2
    simp only [Bool.and_eq_true] at h1
    exact ⟨rfl, rfl, by cases draw <;> simp_all, by simpa using h1.2.1, h1.2.2⟩
  · cases h
def isNilA : AV → Bool
  | .v (.slice none 0 0) => true
  | _ => false
def TI.isIface : TI → Bool
  | .iface => true
  | _ => false
def stepOp (Θ : Tab) (draw : Bool) (o : Oper) (s : St) : Option St :=
  match o.op with
  | .move (.tmp t) => force (s.sl t) fun v => some (s.put o.dst v)
  | .assign (.tmp t) => force (s.sl t) fun v => some (s.put o.dst v)
  | .move (.const c) => match nilAt Θ draw o.dst o.type c with
    | some (d, el, sz) => some (((s.kill (d + 1)).set (d + 1) (some ⟨.s el, sz, []⟩)).put (some d) (.own (d + 1)))
    | none => bif c.oneCell' then some (s.put o.dst (.v c)) else none
  | .assign (.const c) => match nilAt Θ draw o.dst o.type c with
    | some (d, el, sz) => some (((s.kill (d + 1)).set (d + 1) (some ⟨.s el, sz, []⟩)).put (some d) (.own (d + 1)))
    | none => bif c.oneCell' then some (s.put o.dst (.v c)) else none
  | .pick c a b => match s.ev c with
    | .v (.bool t) => bif cOK a && cOK b then force (bif t then s.ev a else s.ev b) fun v => some (s.put o.dst v) else none
    | _ => none
  | .unOp .not _ x => match s.ev x with
    | .v (.bool b) => some (s.put o.dst (.v (.bool (!b))))
    | _ => none
  | .extract x i => match s.ev x with
    | .tup xs => match xs[i]? with
      | some y => force y fun v => some (s.put o.dst v)
      | none => none
    | _ => none
  | .fieldAddr t x f => match Θ.look t with
    | .struct fs _ => match fs[f]? with
      | some (o_, _) => match s.ev x with
        | .ptr (.agg ys) => match ys[f]? with
          | some y => bif Nat.beq (aszs (ys.take f)) o_ then some (s.put o.dst (.ptr y)) else none
          | none => none
        | .optr l i p c => some (s.put o.dst (.optr l i (p ++ [f]) (c + o_)))
        | _ => none
      | none => none
    | _ => none
  | .load t x => match s.ev x with
    | .ptr y => bif (Θ.look t).known && (Bool.xor (isAggA y) (Θ.look t).isAgg).not && Nat.beq (asz y) (Θ.look t).size then force y fun v => some (s.put o.dst v) else none
    | .optr l i p c => match s.hp l with
      | some ob => bif ob.e.open_ then (match ob.xs[i]? with
        | some y => match getP y p 0 with
          | some (z, c') => bif Nat.beq c' c && (Θ.look t).known && (Bool.xor (isAggA z) (Θ.look t).isAgg).not && Nat.beq (asz z) (Θ.look t).size then force z fun v => some (s.put o.dst v) else none
          | none => none
        | none => none) else (match openE ob.e ob.xs i with
        | some (.o t' i' y) => match getP y p 0 with
          | some (z, c') => bif isNilA z then none else (match ofO z with
            | some x' => bif Nat.beq i' i && Nat.beq c' c && (Θ.look t).known && (Bool.xor (isAggA x') (Θ.look t).isAgg).not && Nat.beq (asz x') (Θ.look t).size then force x' fun v => some (s.put o.dst v) else none
            | none => none)
          | none => none
        | _ => none)
      | none => none
    | _ => none
  | .alloc t => match o.dst with
    | some d => match s.hp (d + 1) with
      | none => bif !draw && ((Θ.look t).known && okL (d + 1)) then some ((s.set (d + 1) (some ⟨kz t (Θ.look t).zero, (Θ.look t).size, [(Θ.look t).zero]⟩)).put (some d) (.optr (d + 1) 0 [] 0)) else none
      | some _ => none
    | none => none
  | .box t x => match o.dst with
    | some d => match s.hp (d + 1) with
      | none => match s.ev x with
        | .agg ys => bif (!draw && okL (d + 1)) && ((Θ.look t).known && Nat.beq (asz (.agg ys)) (Θ.look t).size) then some ((s.set (d + 1) (some ⟨.s t, (Θ.look t).size, [.agg ys]⟩)).put (some d) (.optr (d + 1) 0 [] 0)) else none
        | _ => none
      | some _ => none
    | none => none
  | .build t ps => match Θ.look t with
    | .struct _ z => bif (ownsOf s (ps.toList.map (·.2))).isEmpty && (csOK (ps.toList.map (·.2)) && partsB s z ps.toList) then forceL (setParts s z ps.toList) fun ys => some (s.put o.dst (.agg ys)) else none
    | _ => none
  | .buildSlice t m ps => match o.dst with
    | some d => match s.hp (d + 1) with
      | none => match Θ.look t with
        | .slice el sz _ z => bif !draw && ((ownsOf s (ps.toList.map (·.2))).isEmpty && (Nat.ble (m * sz) 65536 && (okL (d + 1) && (csOK (ps.toList.map (·.2)) && partsB s (List.replicate m z) ps.toList)))) then forceL (setParts s (List.replicate m z) ps.toList) fun ys => some ((s.set (d + 1) (some ⟨.s el, sz, ys⟩)).put (some d) (.own (d + 1))) else none
        | _ => none
      | some _ => none
    | none => none
  | .nilCheck x => match s.ev x with
    | .ptr y => some (s.put o.dst (.ptr y))
    | .optr l i p c => some (s.put o.dst (.optr l i p c))
    | .fn f xs ys => some (s.put o.dst (.fn f xs ys))
    | .ifc t y => some (s.put o.dst (.ifc t y))
    | _ => none
  | .makeFunc (.func f) first captured => bif csOK (first.toList ++ captured.toList) then forceL (first.toList.map s.ev) fun xs => forceL (captured.toList.map s.ev) fun ys => some (s.put o.dst (.fn f xs ys)) else none
  | .makeInterface t x => bif cOK x && (Θ.look t).known && !(Θ.look t).isIface then force (s.ev x) fun v => some (s.put o.dst (.ifc t v)) else none
  | _ => none

section
variable {P : Program} {Θ : Tab} {n : Nat} {ops : Array Oper} {draw : Bool} {s s' : St}
theorem xor_not {a b : Bool} (h : (Bool.xor a b).not = true) : a = b := by cases a <;> cases b <;> first | rfl | cases h
theorem stepOp_sound {o : Oper} (h : stepOp Θ draw o s = some s') : ∃ e, Pre P Θ o s e ∧ (draw = true → e.upd = none) ∧ s.app o.dst e = s' := by
  obtain ⟨dst, op, ty, pos, after, guard⟩ := o
  have fin : ∀ {v : AV}, Pre P Θ ⟨dst, op, ty, pos, after, guard⟩ s ⟨v, none⟩ → some (s.put dst v) = some s' → ∃ e, Pre P Θ ⟨dst, op, ty, pos, after, guard⟩ s e ∧ (draw = true → e.upd = none) ∧ s.app dst e = s' := fun hp he => ⟨_, hp, fun _ => rfl, by cases he; rfl⟩
  cases op with
  | move x => cases x with
    | tmp t => exact fin (p_mv rfl) (force_eq (k := fun v => some (s.put dst v)) h)
    | const c =>
      simp only [stepOp] at h
      split at h
      · rename_i d el sz hn
        obtain ⟨rfl, rfl, hd, h0, hok⟩ := nilAt_ok hn
        refine ⟨_, p_nilm (.s el) sz h0 rfl hok, (fun e => by rw [e] at hd; cases hd), ?_⟩
        cases h; rfl
      · obtain ⟨h1, h2⟩ := cond_some h; exact fin (p_mvc h1) h2
    | _ => cases h
  | assign x => cases x with
    | tmp t => exact fin (p_as rfl) (force_eq (k := fun v => some (s.put dst v)) h)
    | const c =>
      simp only [stepOp] at h
      split at h
      · rename_i d el sz hn
        obtain ⟨rfl, rfl, hd, h0, hok⟩ := nilAt_ok hn
        refine ⟨_, p_nila (.s el) sz h0 rfl hok, (fun e => by rw [e] at hd; cases hd), ?_⟩
        cases h; rfl
      · obtain ⟨h1, h2⟩ := cond_some h; exact fin (p_asc h1) h2
    | _ => cases h
  | pick c a b =>
    simp only [stepOp] at h
    split at h
    · rename_i t ht
      obtain ⟨h1, h2⟩ := cond_some h
      simp only [Bool.and_eq_true] at h1
      exact fin (p_pick ht rfl h1.1 h1.2) (force_eq h2)
    · cases h
  | unOp op t x =>
    cases op with
    | not =>
      simp only [stepOp] at h
      split at h
      · rename_i b hb; exact fin (p_not hb) h
      · cases h
    | _ => cases h
  | extract x i =>
    simp only [stepOp] at h
    split at h
    · rename_i xs hx
      split at h
      · rename_i y hy; exact fin (p_ext hx hy) (force_eq h)
      · cases h
    · cases h
  | fieldAddr t x f =>
    simp only [stepOp] at h
    split at h
    · rename_i fs z ht
      split at h
      · rename_i o_ z_ hf
        split at h
        · rename_i ys hx
          split at h
          · rename_i y hy
            obtain ⟨h1, h2⟩ := cond_some h
            exact fin (p_fld ht hf hx hy (Nat.eq_of_beq_eq_true h1)) h2
          · cases h
        · rename_i l i p c hx; exact fin (p_ofld ht hf hx) h
        · cases h
      · cases h
    · cases h
  | load t x =>
    simp only [stepOp] at h
    split at h
    · rename_i y hx
      obtain ⟨h1, h2⟩ := cond_some h
      simp only [Bool.and_eq_true] at h1
      exact fin (p_ld hx h1.1.1 (xor_not h1.1.2) (Nat.eq_of_beq_eq_true h1.2)) (force_eq h2)
    · rename_i l i p c hx
      split at h
      · rename_i ob ho
        cases hop : ob.e.open_ with
        | true =>
          rw [hop] at h
          simp only [cond_true] at h
          split at h
          · rename_i y hy
            split at h
            · rename_i z c' hg
              obtain ⟨h1, h2⟩ := cond_some h
              simp only [Bool.and_eq_true] at h1
              have hc := Nat.eq_of_beq_eq_true h1.1.1.1
              subst hc
              exact fin (p_old hx ho hy hg h1.1.1.2 (xor_not h1.1.2) (Nat.eq_of_beq_eq_true h1.2) hop) (force_eq h2)
            · cases h
          · cases h
        | false =>
          rw [hop] at h
          simp only [cond_false] at h
          split at h
          · rename_i t' i' y hy
            split at h
            · rename_i z c' hg
              cases hn : isNilA z with
              | true => rw [hn] at h; cases h
              | false =>
                rw [hn] at h
                simp only [cond_false] at h
                split at h
                · rename_i x' hx'
                  obtain ⟨h1, h2⟩ := cond_some h
                  simp only [Bool.and_eq_true] at h1
                  have hc := Nat.eq_of_beq_eq_true h1.1.1.1.2
                  subst hc
                  have hi := Nat.eq_of_beq_eq_true h1.1.1.1.1
                  subst hi
                  exact fin (p_oldo hx ho hy hg hx' h1.1.1.2 (xor_not h1.1.2) (Nat.eq_of_beq_eq_true h1.2)) (force_eq h2)
                · cases h
            · cases h
          · cases h
      · cases h
    · cases h
  | alloc t =>
    cases dst with
    | none => cases h
    | some d =>
      simp only [stepOp] at h
      split at h
      · rename_i hf
        obtain ⟨h1, h2⟩ := cond_some h
        simp only [Bool.and_eq_true] at h1
        refine ⟨_, p_allo hf h1.2.1 h1.2.2, fun e => by rw [e] at h1; simp at h1, ?_⟩
        cases h2; rfl
      · cases h
  | box t x =>
    cases dst with
    | none => cases h
    | some d =>
      simp only [stepOp] at h
      split at h
      · rename_i hf
        split at h
        · rename_i ys hx
          obtain ⟨h1, h2⟩ := cond_some h
          simp only [Bool.and_eq_true] at h1
          refine ⟨_, p_box hf hx rfl (by simp only [Bool.and_eq_true]; exact h1.2) h1.1.2, fun e => by rw [e] at h1; simp at h1, ?_⟩
          cases h2; rfl
        · cases h
      · cases h
  | build t ps =>
    simp only [stepOp] at h
    split at h
    · rename_i fs z ht
      obtain ⟨h1, h2⟩ := cond_some h
      simp only [Bool.and_eq_true] at h1
      have hown : ownsOf s (ps.toList.map (·.2)) = [] := by simpa using h1.1
      exact fin (v := .agg (setParts s z ps.toList)) ⟨fs, z, ht, .inl ⟨partsB_ok _ _ h1.2.2, csOK_spec h1.2.1, by rw [hown]; rfl, by rw [hown]; rfl⟩⟩ (forceL_eq (k := fun ys => some (s.put dst (.agg ys))) h2)
    · cases h
  | buildSlice t m ps =>
    cases dst with
    | none => cases h
    | some d =>
      simp only [stepOp] at h
      split at h
      · rename_i hf
        split at h
        · rename_i el sz b z ht
          obtain ⟨h1, h2⟩ := cond_some h
          simp only [Bool.and_eq_true] at h1
          have hown : ownsOf s (ps.toList.map (·.2)) = [] := by simpa using h1.2.1
          have h3 := forceL_eq (k := fun ys => some ((s.set (d + 1) (some ⟨el, sz, ys⟩)).put (some d) (.own (d + 1)))) h2
          refine ⟨⟨.own (d + 1), some fun s' => s'.set (d + 1) (some ⟨.s el, sz, setParts s (List.replicate m z) ps.toList⟩)⟩, ⟨d, el, sz, b, z, rfl, hf, h1.2.2.2.1, ht, Nat.le_of_ble_eq_true h1.2.2.1, .inl ⟨partsB_ok _ _ h1.2.2.2.2.2, csOK_spec h1.2.2.2.2.1, by rw [hown]; rfl, by rw [hown]; rfl⟩⟩, fun e => by rw [e] at h1; simp at h1, ?_⟩
          cases h3; rfl
        · cases h
      · cases h
  | nilCheck x =>
    simp only [stepOp] at h
    split at h
    · rename_i y hx; exact fin ⟨by rw [hx], .inl ⟨y, hx⟩⟩ h
    · rename_i l i p c hx; exact fin ⟨by rw [hx], .inr (.inl ⟨l, i, p, c, hx⟩)⟩ h
    · rename_i f xs ys hx; exact fin ⟨by rw [hx], .inr (.inr (.inl ⟨f, xs, ys, hx⟩))⟩ h
    · rename_i t y hx; exact fin ⟨by rw [hx], .inr (.inr (.inr ⟨t, y, hx⟩))⟩ h
    · cases h
  | makeFunc fn first captured =>
    cases fn with
    | func f =>
      simp only [stepOp] at h
      obtain ⟨h1, h2⟩ := cond_some h
      have h3 := forceL_eq (k := fun xs => forceL (captured.toList.map s.ev) fun ys => some (s.put dst (.fn f xs ys))) h2
      have h4 := forceL_eq (k := fun ys => some (s.put dst (.fn f (first.toList.map s.ev) ys))) h3
      exact fin (v := .fn f (first.toList.map s.ev) (captured.toList.map s.ev)) ⟨f, rfl, csOK_spec h1, rfl⟩ h4
    | _ => cases h
  | makeInterface t x =>
    simp only [stepOp] at h
    obtain ⟨h1, h2⟩ := cond_some h
    simp only [Bool.and_eq_true, Bool.not_eq_true'] at h1
    exact fin (v := .ifc t (s.ev x)) ⟨cOK_spec h1.1.1, h1.1.2, fun e => by rw [e] at h1; exact absurd h1.2 (by simp [TI.isIface]), rfl⟩ (force_eq (k := fun v => some (s.put dst (.ifc t v))) h2)
  | _ => cases h

def runK (P : Program) (Θ : Tab) (n : Nat) (ops : Array Oper) (draw : Bool) : Nat → List Oper → St → (St → Prop) → Prop
  | _, [], s, K => K s
  | k, o :: r, s, K =>
    match inN n o.dst with
    | false => False
    | true => match guardA ops s o with
      | some false => runK P Θ n ops draw (k + 1) r (s.put o.dst (.tup [])) K
      | some true => match stepOp Θ (draw && !(tied ops k)) o s with
        | some s' => runK P Θ n ops draw (k + 1) r s' K
        | none => AOps P Θ n ops draw k (o :: r) s K
      | none => AOps P Θ n ops draw k (o :: r) s K
theorem runK_sound {K : St → Prop} : ∀ (l : List Oper) (k : Nat) (s : St), runK P Θ n ops draw k l s K → AOps P Θ n ops draw k l s K
  | [], k, s, h => o_nil h
  | o :: r, k, s, h => by
    unfold runK at h
    cases hin : inN n o.dst with
    | false => rw [hin] at h; exact h.elim
    | true =>
      rw [hin] at h
      simp only at h
      cases hg : guardA ops s o with
      | none => rw [hg] at h; exact h
      | some b => cases b with
        | false => rw [hg] at h; exact o_skip hg hin (runK_sound r (k + 1) _ h)
        | true =>
          rw [hg] at h
          simp only at h
          cases hs : stepOp Θ (draw && !(tied ops k)) o s with
          | none => rw [hs] at h; exact h
          | some s' =>
            rw [hs] at h
            obtain ⟨e, hp, hu, he⟩ := stepOp_sound (P := P) hs
            exact o_step hg hin hp (fun hd => by cases ht : tied ops k with | true => exact .inr (.inl rfl) | false => exact .inl (hu (by rw [hd, ht]; rfl))) (by rw [he]; exact runK_sound r (k + 1) _ h)

/-- the code run: a loop and a region's question stand still -/
def runC (P : Program) (Θ : Tab) (n : Nat) : Code → (AEx → St → Prop) → St → Prop
  | .skip, Q, s => Q .normal s
  | .label _, Q, s => Q .normal s
  | .region _ ops false, Q, s => runK P Θ n ops false 0 ops.toList s (Q .normal)
  | .region _ ops true, Q, s => (Region.lexB .any ops = true ∧ runK P Θ n ops true 0 ops.toList s (Q .normal)) ∨ (Region.lexB .any ops = true ∧ prodOK ops ∧ AOps2 P Θ n ops 0 ops.toList s (Q .normal))
  | .seq a b, Q, s => runC P Θ n a (AEx.then (runC P Θ n b Q) Q) s
  | .cond c x y, Q, s => match s.ev c with
    | .v (.bool true) => runC P Θ n x Q s
    | .v (.bool false) => runC P Θ n y Q s
    | _ => ACode P Θ n (.cond c x y) Q s
  | .block id c, Q, s => runC P Θ n c (AEx.inBlock id Q) s
  | .exit id, Q, s => Q (.exit id) s
  | .ret, Q, s => Q .ret s
  | c, Q, s => ACode P Θ n c Q s
theorem aops2_mono {ops : Array Oper} {K K' : St → Prop} : ∀ (l : List Oper) (k : Nat) (s : St), (∀ s, K s → K' s) → AOps2 P Θ n ops k l s K → AOps2 P Θ n ops k l s K'
  | [], k, s, hk, h => Gh.mono hk h
  | o :: r, k, s, hk, h => by
    unfold AOps2 at h ⊢
    refine ⟨h.1, h.2.1, h.2.2.imp (fun ⟨u, ks, nu, he, h⟩ => ⟨u, ks, nu, he, aops2_mono r _ _ hk h⟩) (fun ⟨ht, e, hp, h⟩ => ⟨ht, e, hp, h.mono fun s' => aops2_mono r _ s' hk⟩)⟩
theorem acode_mono {Q Q' : AEx → St → Prop} : ∀ (c : Code) (s : St), (∀ e s, Q e s → Q' e s) → ACode P Θ n c Q s → ACode P Θ n c Q' s := by
  have ops_mono : ∀ {ops : Array Oper} {draw : Bool} {K K' : St → Prop} (l : List Oper) (k : Nat) (s : St), (∀ s, K s → K' s) → AOps P Θ n ops draw k l s K → AOps P Θ n ops draw k l s K' := by
    intro ops draw K K' l
    induction l with
    | nil => intro k s hk h; exact hk s h
    | cons o r ih =>
      intro k s hk h
      unfold AOps at h ⊢
      refine ⟨h.1, ?_⟩
      have h2 := h.2
      split
      · rename_i hg; simp only [hg] at h2; obtain ⟨e, a, b, c⟩ := h2; exact ⟨e, a, b, c.imp (ih _ _ hk) (fun h => ⟨h.1, h.2.mono fun s' => ih _ s' hk⟩)⟩
      · rename_i hg; simp only [hg] at h2; exact ih _ _ hk h2
      · rename_i hg; simp only [hg] at h2
  intro c
  induction c generalizing Q Q' with
  | skip => intro s hq h; exact hq _ _ h
  | label l => intro s hq h; exact hq _ _ h
  | region id ops draw =>
    intro s hq h
    rcases h with h | ⟨h1, h2, h3, h⟩ | ⟨h1, h⟩
    · exact .inl ⟨h.1, ops_mono _ _ _ (fun s h => hq _ _ h) h.2⟩
    · exact .inr (.inl ⟨h1, h2, h3, aops2_mono _ _ _ (fun s h => hq _ _ h) h⟩)
    · refine .inr (.inr ⟨h1, fun W M S0 a w hs b hb k cs => ?_⟩)
      obtain ⟨e, a', w', ⟨he, s', hk, hs'⟩, harr⟩ := h W M S0 a w hs b hb k cs
      exact ⟨e, a', w', ⟨he, s', hq _ _ hk, hs'⟩, harr⟩
  | seq a b iha ihb =>
    intro s hq h
    rcases h with h | ⟨ι, I, h, k⟩
    · exact .inl (iha s (fun e s he => by cases e <;> first | exact ihb s hq he | exact hq _ _ he) h)
    · exact .inr ⟨ι, I, iha s (fun e s he => by cases e <;> first | exact he | exact hq _ _ he) h, fun j => ihb _ hq (k j)⟩
  | cond c x y ihx ihy => intro s hq h; obtain ⟨b, hc, h⟩ := h; refine ⟨b, hc, ?_⟩; cases b <;> first | exact ihx s hq h | exact ihy s hq h
  | block id c ih =>
    intro s hq h
    refine ih s (fun e s he => ?_) h
    cases e with
    | exit j =>
      show (bif Nat.beq j id then Q' .normal s else Q' (.exit j) s)
      have he' : (bif Nat.beq j id then Q .normal s else Q (.exit j) s) := he
      cases hb : Nat.beq j id with
      | true => rw [hb] at he'; exact hq _ _ he'
      | false => rw [hb] at he'; exact hq _ _ he'
    | normal => exact hq _ _ he
    | ret => exact hq _ _ he
  | loop c ih =>
    intro s hq h
    obtain ⟨ι, I, μ, h0, hr⟩ := h
    exact ⟨ι, I, μ, h0, fun i => ih _ (fun e s he => by cases e <;> first | exact he | exact hq _ _ he) (hr i)⟩
  | exit id => intro s hq h; exact hq _ _ h
  | ret => intro s hq h; exact hq _ _ h
  | rangeFunc _ _ _ _ => intro s hq h; exact h.elim
  | scope _ => intro s hq h; exact h.elim
  | goto _ => intro s hq h; exact h.elim
  | refuse _ => intro s hq h; exact h.elim
theorem runC_sound : ∀ (c : Code) (Q : AEx → St → Prop) (s : St), runC P Θ n c Q s → ACode P Θ n c Q s := by
  intro c
  induction c with
  | skip => intro Q s h; exact h
  | label l => intro Q s h; exact h
  | region id ops draw =>
    intro Q s h
    cases draw with
    | false => exact .inl ⟨(fun e => by cases e), runK_sound _ _ _ h⟩
    | true =>
      rcases h with h | ⟨h1, h2, h⟩
      · exact .inl ⟨fun _ => h.1, runK_sound _ _ _ h.2⟩
      · exact .inr (.inl ⟨rfl, h1, h2, h⟩)
  | seq a b iha ihb =>
    intro Q s h
    exact .inl (acode_mono a s (fun e s he => by cases e <;> first | exact ihb Q s he | exact he) (iha _ s h))
  | cond c x y ihx ihy =>
    intro Q s h
    simp only [runC] at h
    split at h
    · rename_i hc; exact ⟨true, hc, ihx Q s h⟩
    · rename_i hc; exact ⟨false, hc, ihy Q s h⟩
    · exact h
  | block id c ih => intro Q s h; exact ih _ s h
  | exit id => intro Q s h; exact h
  | ret => intro Q s h; exact h
  | loop c ih => intro Q s h; exact h
  | rangeFunc _ _ _ _ => intro Q s h; exact h
  | scope _ => intro Q s h; exact h
  | goto _ => intro Q s h; exact h
  | refuse _ => intro Q s h; exact h

variable {k : Nat} {r : List Oper} {K : St → Prop} {d : Option Tmp} {op : Op} {ty : TypeId} {pos : String} {after : Array Edge} {g : Option (Nat × Bool)}
/-- an operation that asks: its answer, and on -/
theorem r_put {v : AV} (hp : Pre P Θ ⟨d, op, ty, pos, after, g⟩ s ⟨v, none⟩) (hg : guardA ops s ⟨d, op, ty, pos, after, g⟩ = some true) (hin : inN n d = true) (h : runK P Θ n ops draw (k + 1) r (s.put d v) K) : AOps P Θ n ops draw k (⟨d, op, ty, pos, after, g⟩ :: r) s K :=
  o_put hp hg hin (runK_sound _ _ _ h)
theorem r_step {e : Eff} (hp : Pre P Θ ⟨d, op, ty, pos, after, g⟩ s e) (hg : guardA ops s ⟨d, op, ty, pos, after, g⟩ = some true) (hin : inN n d = true) (hu : draw = true → e.upd = none ∨ tied ops k = true ∨ SoftE Θ ops (fun j => Nat.blt j k) k s e) (h : runK P Θ n ops draw (k + 1) r (s.app d e) K) : AOps P Θ n ops draw k (⟨d, op, ty, pos, after, g⟩ :: r) s K :=
  o_step hg hin hp hu (runK_sound _ _ _ h)
theorem r_loop {c : Code} {Q : AEx → St → Prop} {ι : Type} (I : ι → Inv) (μ : ι → Nat) (i0 : ι) (h0 : s.le (I i0)) (h : ∀ i, runC P Θ n c (AEx.then (fun s' => ∃ j, s'.le (I j) ∧ μ j < μ i) Q) (I i).st) : ACode P Θ n (.loop c) Q s :=
  c_loop (fun i => (I i).m) μ i0 ⟨h0, trivial⟩ fun i => acode_mono (Q := AEx.then (fun s' => ∃ j, s'.le (I j) ∧ μ j < μ i) Q) c _ (fun e s he => by
    cases e with
    | normal => obtain ⟨j, h1, h2⟩ := he; exact ⟨j, ⟨h1, trivial⟩, h2⟩
    | _ => exact he) (runC_sound _ _ _ (h i))
theorem r_of (hΘ : TabOK P Θ) (hm : P.follows .mixedOrders = true) {f : FuncId} {fn : Func} {c : Code} {n : Nat} {rs : List ResultVar} (hf : P.funcs[f]? = some fn) (hb : fn.body = some c) (hnt : fn.ntmps = n) (hrs : fn.results = rs.toArray) (hnm : (fn.name == "runtime.NumGoroutine") = false)
    {args : List AV} {out : Out} (hlen : Nat.ble args.length n = true) (h : runC P Θ n c (RetQ Θ rs out) (St.init args)) : AC P f args out :=
  acg_of hΘ hm hf hb hnt (by rw [hrs]) hnm (Nat.le_of_ble_eq_true hlen) rfl rfl (runC_sound _ _ _ h)
def RetM (r : Nat) (e : ET) (sz : Nat) (xs' : List AV) (v : Value) : AEx → St → Prop
  | .normal, s | .ret, s => s.sl r = .v v ∧ s.hp 0 = some ⟨e, sz, xs'⟩
  | _, _ => False
abbrev St.initM (ob : OB) (args : List AV) : St := St.initG [ob] (.own 0 :: args)
theorem r_ofM (hΘ : TabOK P Θ) (hm : P.follows .mixedOrders = true) {f : FuncId} {fn : Func} {c : Code} {n r : Nat} (hf : P.funcs[f]? = some fn) (hb : fn.body = some c) (hnt : fn.ntmps = n) (hrs : fn.results = #[.tmp r]) (hnm : (fn.name == "runtime.NumGoroutine") = false)
    {args : List AV} {ob : OB} {xs' : List AV} {v : Value} (hlen : Nat.ble (args.length + 1) n = true) (hfl : flatL xs') (h : runC P Θ n c (RetM r ob.e ob.sz xs' v) (St.initM ob args)) (hsh : ob.e.shut = true := by rfl) : ACM P f ob xs' args v := by
  have hw : ∀ (e : ET) (p : Nat → Bool), e.shut = true → withinE p e = true := fun e p h => by cases e <;> first | rfl | cases h
  refine acg_of (rs := [.tmp r]) hΘ hm hf hb hnt (by rw [hrs]) hnm (Nat.le_of_ble_eq_true hlen) rfl ?_ (acode_mono _ _ (fun e s he => ?_) (runC_sound _ _ _ h))
  · simp only [List.all_cons, List.all_nil, hw _ _ hsh]; rfl
  · have key : (s.sl r = .v v ∧ s.hp 0 = some ⟨ob.e, ob.sz, xs'⟩) → Ret Θ [.tmp r] [⟨ob.e, ob.sz, xs'⟩] ⟨.v v, []⟩ s := fun ⟨h1, h2⟩ => ⟨⟨h2, trivial⟩, [], by simp, trivial, ⟨trivial, trivial⟩, trivial, ⟨.inl ⟨h1, rfl⟩, trivial⟩⟩
    cases e with
    | normal => exact key he
    | ret => exact key he
    | exit id => exact he.elim
theorem p_app1 {α : Type} {x y : Operand} {t el sz b l l' : Nat} {e0 e' : ET} {z : AV} {xs : List α} {f : α → AV} (e : α) (hb : (xs.length + 1) * b ≤ 140737488355328) (hx : s.ev x = .own l) (hy : s.ev y = .own l') (ho : s.hp l = some ⟨e0, sz, xs.map f⟩) (ho' : s.hp l' = some ⟨e', sz, [f e]⟩) (hn : (Nat.beq l' l || Nat.beq l 0) = false) (ht : Θ.look t = .slice el sz b z) (hb1 : Nat.ble 1 b = true) (he : (e0 = .s el ∨ e0 = .z el) := by first | exact .inl rfl | exact .inr rfl) (he' : e'.open_ = true := by rfl) (hok : okL l = true := by rfl) :
    Pre P Θ ⟨d, .call ⟨.builtin .append, #[x, y], #[t, t]⟩, ty, pos, after, g⟩ s ⟨.own l, some fun s => (s.kill l).set l (some ⟨.s el, sz, (xs ++ [e]).map f⟩)⟩ := by
  simp only [Bool.or_eq_false_iff] at hn
  have n1 : l' ≠ l := fun h => by rw [h] at hn; simp at hn
  have hb1' := Nat.le_of_ble_eq_true hb1
  have hm : xs.length + 1 ≤ maxLen := by
    have : (xs.length + 1) * 1 ≤ (xs.length + 1) * b := Nat.mul_le_mul_left _ hb1'
    unfold maxLen; omega
  exact ⟨x, y, t, el, sz, b, z, l, _, [f e], rfl, rfl, ht, hx, ho, hok, rfl, by simpa using hb, by simpa using hm, .inl ⟨el, he, rfl, .inr ⟨l', _, hy, n1, ho', he', rfl, rfl⟩, by rw [List.map_append]; rfl⟩⟩
theorem p_app1r {α : Type} {x y : Operand} {t el sz b l l' : Nat} {e0 e' : ET} {z : AV} {xs : List α} {f : α → AV} (e : α) (ys : List α) (hys : xs ++ [e] = ys) (hb : (xs.length + 1) * b ≤ 140737488355328) (hx : s.ev x = .own l) (hy : s.ev y = .own l') (ho : s.hp l = some ⟨e0, sz, xs.map f⟩) (ho' : s.hp l' = some ⟨e', sz, [f e]⟩) (hn : (Nat.beq l' l || Nat.beq l 0) = false) (ht : Θ.look t = .slice el sz b z) (hb1 : Nat.ble 1 b = true) (he : (e0 = .s el ∨ e0 = .z el) := by first | exact .inl rfl | exact .inr rfl) (he' : e'.open_ = true := by rfl) (hok : okL l = true := by rfl) :
    Pre P Θ ⟨d, .call ⟨.builtin .append, #[x, y], #[t, t]⟩, ty, pos, after, g⟩ s ⟨.own l, some fun s => (s.kill l).set l (some ⟨.s el, sz, ys.map f⟩)⟩ := by
  subst hys; exact p_app1 e hb hx hy ho ho' hn ht hb1 he he' hok
theorem p_appl {α : Type} {x y : Operand} {t el sz b l : Nat} {e0 : ET} {z : AV} {xs ys : List α} {f : α → AV} (hb : (xs.length + ys.length) * b ≤ 140737488355328) (hx : s.ev x = .own l) (hy : s.ev y = .lst sz (ys.map f)) (ho : s.hp l = some ⟨e0, sz, xs.map f⟩) (hn : Nat.beq l 0 = false) (ht : Θ.look t = .slice el sz b z) (hb1 : Nat.ble 1 b = true) (he : (e0 = .s el ∨ e0 = .z el) := by first | exact .inl rfl | exact .inr rfl) (hok : okL l = true := by rfl) :
    Pre P Θ ⟨d, .call ⟨.builtin .append, #[x, y], #[t, t]⟩, ty, pos, after, g⟩ s ⟨.own l, some fun s => (s.kill l).set l (some ⟨.s el, sz, (xs ++ ys).map f⟩)⟩ := by
  have hb1' := Nat.le_of_ble_eq_true hb1
  have hm : xs.length + ys.length ≤ maxLen := by
    have : (xs.length + ys.length) * 1 ≤ (xs.length + ys.length) * b := Nat.mul_le_mul_left _ hb1'
    unfold maxLen; omega
  exact ⟨x, y, t, el, sz, b, z, l, _, ys.map f, rfl, rfl, ht, hx, ho, hok, rfl, by simpa using hb, by simpa using hm, .inl ⟨el, he, rfl, .inl hy, by rw [List.map_append]⟩⟩
/-- append of elements that own their lists -/
theorem p_appd {α : Type} {x y : Operand} {t el sz b l l' : Nat} {e0 e' : ET} {z : AV} {xs ys : List α} {f : α → AV} (h0 : 0 < ys.length) (hb : (xs.length + ys.length) * b ≤ 140737488355328) (hx : s.ev x = .own l) (hy : s.ev y = .own l') (ho : s.hp l = some ⟨e0, sz, xs.map f⟩) (ho' : s.hp l' = some ⟨e', sz, ys.map f⟩) (hn : Nat.beq l' l = false) (ht : Θ.look t = .slice el sz b z) (hb1 : Nat.ble 1 b = true) (he : (e0 = .z el ∨ e0 = .d el ∨ (e0 = .s el ∧ ∀ x ∈ xs.map f, noLst x = true))) (he' : e'.deep = true := by rfl) (hok : okL l = true := by rfl) (hok' : okL l' = true := by rfl) :
    Pre P Θ ⟨d, .call ⟨.builtin .append, #[x, y], #[t, t]⟩, ty, pos, after, g⟩ s ⟨.own l, some fun s => ((s.kill l).drop l').set l (some ⟨.d el, sz, (xs ++ ys).map f⟩)⟩ := by
  have hb1' := Nat.le_of_ble_eq_true hb1
  have hm : xs.length + ys.length ≤ maxLen := by
    have : (xs.length + ys.length) * 1 ≤ (xs.length + ys.length) * b := Nat.mul_le_mul_left _ hb1'
    unfold maxLen; omega
  exact ⟨x, y, t, el, sz, b, z, l, _, ys.map f, rfl, rfl, ht, hx, ho, hok, rfl, by simpa using hb, by simpa using hm, .inr ⟨l', _, he, hy, fun e => by rw [e] at hn; simp at hn, hok', ho', he', rfl, rfl, by simpa using h0, by rw [List.map_append]⟩⟩
theorem r_gh {e : Eff} (hp : Pre P Θ ⟨d, op, ty, pos, after, g⟩ s e) (hg : guardA ops s ⟨d, op, ty, pos, after, g⟩ = some true) (hin : inN n d = true) (hu : draw = true → tied ops k = true) (h : Gh (fun s' => runK P Θ n ops draw (k + 1) r s' K) (s.app d e)) : AOps P Θ n ops draw k (⟨d, op, ty, pos, after, g⟩ :: r) s K :=
  o_gh hg hin hp hu (h.mono fun _ => runK_sound _ _ _)
theorem r_ret1 {t : Nat} {x : AV} {Θ : Tab} (h : s.sl t = x) (hx : (match x with | .v _ | .agg _ | .lst _ _ | .any => True | _ => False)) : RetQ Θ [.tmp t] ⟨x, []⟩ .ret s :=
  ⟨trivial, [], by simp, trivial, ⟨trivial, trivial⟩, trivial, ⟨.inl (by cases x <;> first | exact ⟨h, rfl⟩ | exact hx.elim), trivial⟩⟩
theorem r_retM {r sz : Nat} {e : ET} {xs' : List AV} {v : Value} (h1 : s.sl r = .v v) (h2 : s.hp 0 = some ⟨e, sz, xs'⟩) : RetM r e sz xs' v .ret s := ⟨h1, h2⟩
theorem r_own1 {t l : Nat} {ob : OB} {Θ : Tab} (h : s.sl t = .own l) (ho : s.hp l = some ob) (hok : okL l = true := by rfl) (hsh : ob.e.shut = true := by rfl) : RetQ Θ [.tmp t] ⟨.own 0, [ob]⟩ .ret s :=
  ⟨trivial, [l], by simp, ⟨⟨ho, hok, hsh⟩, trivial⟩, ⟨trivial, trivial⟩, trivial, ⟨.inl ⟨h, rfl⟩, trivial⟩⟩
theorem r_tupCV {a t t2 l : Nat} {ob : OB} {x : AV} {v : Value} {Θ : Tab} (h1 : s.sl a = .optr l 0 [] 0) (ho : s.hp l = some ob) (hx : ob.xs[0]? = some x) (hk : ((Θ.look t).known && (Bool.xor (isAggA x) (Θ.look t).isAgg).not && Nat.beq (asz x) (Θ.look t).size) = true) (hd : (match x with | .v _ | .agg _ | .lst _ _ | .any => True | _ => False)) (h2 : s.sl t2 = .v v) (hop : ob.e.open_ = true := by rfl) :
    RetQ Θ [.cell a t, .tmp t2] ⟨.tup [x, .v v], []⟩ .ret s := by
  have hr : rvA s (.cell a t) = x := by
    simp only [rvA, h1, ho, hop, hx, cond_true, Option.getD_some]
  simp only [Bool.and_eq_true] at hk
  refine ⟨trivial, [], by simp, trivial, ⟨⟨hk.1.1, by rw [hr]; exact xor_not hk.1.2, by rw [hr]; exact Nat.eq_of_beq_eq_true hk.2, .inl ⟨l, ob, x, h1, ho, .inl ⟨hop, hx⟩⟩⟩, trivial, trivial⟩, ⟨_, rfl⟩, ⟨.inl ?_, .inl ⟨h2, rfl⟩, trivial⟩⟩
  rw [hr]
  cases x <;> first | exact ⟨rfl, rfl⟩ | exact hd.elim
end
end Go.Proofs.YtmfmclnklpbiaaaGreat.AM
namespace Go.Proofs.YtmfmclnklpbiaaaGreat.AM
open Go Go.RowKit
set_option linter.unusedVariables false
section
variable {P : Program} {Θ : Tab} {n : Nat} {ops : Array Oper} {draw : Bool} {s : St} {k : Nat} {r : List Oper} {K : St → Prop} {d : Option Tmp} {ty : TypeId} {pos : String} {after : Array Edge} {g : Option (Nat × Bool)}
theorem qb {op : BinOp} {t t2 : TypeId} {x y : Operand} {a b w : Value} (hx : s.ev x = .v a) (hy : s.ev y = .v b) (h : runK P Θ n ops draw (k + 1) r (s.put d (.v w)) K) (hb : BinOK P op t x y a b w := by first | exact b_lt_t (by omega) | exact b_lt_f (by omega) | exact b_le_t (by omega) | exact b_le_f (by omega) | exact b_gt_t (by omega) | exact b_gt_f (by omega) | exact b_ge_t (by omega) | exact b_ge_f (by omega) | exact b_eq_t (by omega) | exact b_eq_f (by omega) | exact b_ne_t (by omega) | exact b_ne_f (by omega) | exact b_sub rfl (by omega) (by omega) | exact b_add rfl (by omega) (by omega)) (h1 : w.oneCell' = true := by exact rfl) (hg : guardA ops s ⟨d, .binOp op t x y t2, ty, pos, after, g⟩ = some true := by exact rfl) (hin : inN n d = true := by exact rfl) : AOps P Θ n ops draw k (⟨d, .binOp op t x y t2, ty, pos, after, g⟩ :: r) s K := r_put (p_bin hb hx hy h1) hg hin h
theorem qi {α : Type} {f : α → AV} {es : List α} {j : Nat} {t el sz b : Nat} {z : AV} {x ix : Operand} {kk : IntKind} (hj : j < es.length) (hx : s.ev x = .lst sz (es.map f)) (hi : s.ev ix = .v (.int kk ((j : Nat) : Int))) (h : runK P Θ n ops draw (k + 1) r (s.put d (.ptr (f es[j]))) K) (ht : Θ.look t = .slice el sz b z := by exact rfl) (hg : guardA ops s ⟨d, .indexAddr t x ix, ty, pos, after, g⟩ = some true := by exact rfl) (hin : inN n d = true := by exact rfl) : AOps P Θ n ops draw k (⟨d, .indexAddr t x ix, ty, pos, after, g⟩ :: r) s K := r_put (p_idx (getA f hj) ht hx hi) hg hin h
theorem ql {α : Type} {xs : List α} {f : α → AV} {sz : Nat} {x : Operand} {t : TypeId} (hx : s.ev x = .lst sz (xs.map f)) (h : runK P Θ n ops draw (k + 1) r (s.put d (.v (.int .i64 (xs.length : Int)))) K) (hok : ∃ e sz b z, Θ.look t = .slice e sz b z := by exact ⟨_, _, _, _, rfl⟩) (hg : guardA ops s ⟨d, .call ⟨.builtin .len, #[x], #[t]⟩, ty, pos, after, g⟩ = some true := by exact rfl) (hin : inN n d = true := by exact rfl) : AOps P Θ n ops draw k (⟨d, .call ⟨.builtin .len, #[x], #[t]⟩, ty, pos, after, g⟩ :: r) s K := r_put (p_lenm hx hok) hg hin h
theorem qo {α : Type} {xs : List α} {f : α → AV} {l sz e : Nat} {x : Operand} {t : TypeId} (hx : s.ev x = .own l) (ho : s.hp l = some ⟨e, sz, xs.map f⟩) (h : runK P Θ n ops draw (k + 1) r (s.put d (.v (.int .i64 (xs.length : Int)))) K) (hok : ∃ e sz b z, Θ.look t = .slice e sz b z := by exact ⟨_, _, _, _, rfl⟩) (hg : guardA ops s ⟨d, .call ⟨.builtin .len, #[x], #[t]⟩, ty, pos, after, g⟩ = some true := by exact rfl) (hin : inN n d = true := by exact rfl) : AOps P Θ n ops draw k (⟨d, .call ⟨.builtin .len, #[x], #[t]⟩, ty, pos, after, g⟩ :: r) s K := r_put (p_lenom hx ho hok) hg hin h
theorem qs {x : Operand} {t : TypeId} {m : Nat} {c : ByteArray} (hx : s.ev x = .v (.string c)) (hl : lenA s (.v (.string c)) = some m) (h : runK P Θ n ops draw (k + 1) r (s.put d (.v (.int .i64 (m : Int)))) K) (hok : lenOK Θ t (.v (.string c)) := by exact rfl) (hg : guardA ops s ⟨d, .call ⟨.builtin .len, #[x], #[t]⟩, ty, pos, after, g⟩ = some true := by exact rfl) (hin : inN n d = true := by exact rfl) : AOps P Θ n ops draw k (⟨d, .call ⟨.builtin .len, #[x], #[t]⟩, ty, pos, after, g⟩ :: r) s K := r_put (p_len hx hl hok) hg hin h
theorem qn {x : Operand} {t : TypeId} {m : Nat} {y : AV} (hx : s.ev x = y) (hl : lenA s y = some m) (h : runK P Θ n ops draw (k + 1) r (s.put d (.v (.int .i64 (m : Int)))) K) (hok : lenOK Θ t y := by exact ⟨_, _, _, _, rfl⟩) (hg : guardA ops s ⟨d, .call ⟨.builtin .len, #[x], #[t]⟩, ty, pos, after, g⟩ = some true := by exact rfl) (hin : inN n d = true := by exact rfl) : AOps P Θ n ops draw k (⟨d, .call ⟨.builtin .len, #[x], #[t]⟩, ty, pos, after, g⟩ :: r) s K := r_put (p_len hx hl hok) hg hin h
theorem qc {f : FuncId} {ags : Array Operand} {ts : Array TypeId} {t : Nat} {args : List AV} {out : Out} (hac : AC P f args out) (ha : (ags.toList.map fun x => s.dat (s.ev x)) = args) (h : runK P Θ n ops draw (k + 1) r (s.app (some t) ⟨ren (t + 1) out.val, setU (t + 1) out.obs⟩) K) (hfl : (ownsOf s ags.toList).isEmpty = true ∨ out.flat := by first | exact .inl rfl | exact .inr ⟨by simp [flatA, flatL], by first | exact flat_o0 | exact flat_o1 (by first | exact flat_map flat_str _ | exact flat_map flat_ent _ | exact flat_map flat_edt _ | exact flat_map flat_ref _ | exact flat_map flat_int _ | exact flat_map flat_evt _) | exact flat_o2 (by first | exact flat_map flat_str _ | exact flat_map flat_ent _ | exact flat_map flat_edt _ | exact flat_map flat_ref _ | exact flat_map flat_int _ | exact flat_map flat_evt _) (by first | exact flat_map flat_str _ | exact flat_map flat_ent _ | exact flat_map flat_edt _ | exact flat_map flat_ref _ | exact flat_map flat_int _ | exact flat_map flat_evt _)⟩) (hfr : freeObs s (t + 1) 0 out.obs := by first | exact trivial | exact ⟨⟨rfl, rfl, rfl⟩, trivial⟩ | exact ⟨⟨rfl, rfl, rfl⟩, ⟨rfl, rfl, rfl⟩, trivial⟩ | exact ⟨⟨rfl, rfl, rfl⟩, ⟨rfl, rfl, rfl⟩, ⟨rfl, rfl, rfl⟩, trivial⟩) (hok : argsA s (ags.toList.map s.ev) = true := by exact rfl) (hc : csOK ags.toList = true := by exact rfl) (hg : guardA ops s ⟨some t, .call ⟨.value (.func f), ags, ts⟩, ty, pos, after, g⟩ = some true := by exact rfl) (hin : inN n (some t) = true := by exact rfl) (hu : draw = true → (⟨ren (t + 1) out.val, setU (t + 1) out.obs⟩ : Eff).upd = none ∨ tied ops k = true ∨ SoftE Θ ops (fun j => Nat.blt j k) k s ⟨ren (t + 1) out.val, setU (t + 1) out.obs⟩ := by intro e; first | exact .inl rfl | contradiction | exact .inr (.inl (by kernel_rfl))) : AOps P Θ n ops draw k (⟨some t, .call ⟨.value (.func f), ags, ts⟩, ty, pos, after, g⟩ :: r) s K := r_step (p_call hac ha hfl hfr hok hc) hg hin hu h
theorem qf {f : FuncId} {ags : Array Operand} {ts : Array TypeId} {t : Nat} {args : List AV} {out : Out} (hac : AC P f args out) (ha : (ags.toList.map fun x => s.dat (s.ev x)) = args) (h : runK P Θ n ops draw (k + 1) r (s.app (some t) ⟨ren (t + 1) out.val, frzT (ownsOf s ags.toList) (setObs (t + 1) 0 out.obs)⟩) K) (hfr : freeObs s (t + 1) 0 out.obs := by first | exact trivial | exact ⟨⟨rfl, rfl, rfl⟩, trivial⟩ | exact ⟨⟨rfl, rfl, rfl⟩, ⟨rfl, rfl, rfl⟩, trivial⟩ | exact ⟨⟨rfl, rfl, rfl⟩, ⟨rfl, rfl, rfl⟩, ⟨rfl, rfl, rfl⟩, trivial⟩) (hl : (ownsOf s ags.toList).all okL = true := by exact rfl) (hok : argsA s (ags.toList.map s.ev) = true := by exact rfl) (hc : csOK ags.toList = true := by exact rfl) (hg : guardA ops s ⟨some t, .call ⟨.value (.func f), ags, ts⟩, ty, pos, after, g⟩ = some true := by exact rfl) (hin : inN n (some t) = true := by exact rfl) (hu : draw = true → (⟨ren (t + 1) out.val, frzT (ownsOf s ags.toList) (setObs (t + 1) 0 out.obs)⟩ : Eff).upd = none ∨ tied ops k = true ∨ SoftE Θ ops (fun j => Nat.blt j k) k s ⟨ren (t + 1) out.val, frzT (ownsOf s ags.toList) (setObs (t + 1) 0 out.obs)⟩ := by intro e; first | exact .inl rfl | contradiction | exact .inr (.inl (by kernel_rfl))) : AOps P Θ n ops draw k (⟨some t, .call ⟨.value (.func f), ags, ts⟩, ty, pos, after, g⟩ :: r) s K := r_step (p_callf hac ha hfr hok hc hl) hg hin hu h
theorem qC {f : FuncId} {ags : Array Operand} {ts : Array TypeId} {t : Nat} {args : List AV} {out : Out} (hac : AC P f args out) (ha : (ags.toList.map fun x => s.dat (s.ev x)) = args) (h : AOps P Θ n ops draw (k + 1) r (s.app (some t) ⟨ren (t + 1) out.val, setU (t + 1) out.obs⟩) K) (hfl : (ownsOf s ags.toList).isEmpty = true ∨ out.flat := by first | exact .inl rfl | exact .inr ⟨by simp [flatA, flatL], by first | exact flat_o0 | exact flat_o1 (by first | exact flat_map flat_str _ | exact flat_map flat_ent _ | exact flat_map flat_edt _ | exact flat_map flat_ref _ | exact flat_map flat_int _ | exact flat_map flat_evt _) | exact flat_o2 (by first | exact flat_map flat_str _ | exact flat_map flat_ent _ | exact flat_map flat_edt _ | exact flat_map flat_ref _ | exact flat_map flat_int _ | exact flat_map flat_evt _) (by first | exact flat_map flat_str _ | exact flat_map flat_ent _ | exact flat_map flat_edt _ | exact flat_map flat_ref _ | exact flat_map flat_int _ | exact flat_map flat_evt _)⟩) (hfr : freeObs s (t + 1) 0 out.obs := by first | exact trivial | exact ⟨⟨rfl, rfl, rfl⟩, trivial⟩ | exact ⟨⟨rfl, rfl, rfl⟩, ⟨rfl, rfl, rfl⟩, trivial⟩ | exact ⟨⟨rfl, rfl, rfl⟩, ⟨rfl, rfl, rfl⟩, ⟨rfl, rfl, rfl⟩, trivial⟩) (hok : argsA s (ags.toList.map s.ev) = true := by exact rfl) (hc : csOK ags.toList = true := by exact rfl) (hg : guardA ops s ⟨some t, .call ⟨.value (.func f), ags, ts⟩, ty, pos, after, g⟩ = some true := by exact rfl) (hin : inN n (some t) = true := by exact rfl) (hu : draw = true → (⟨ren (t + 1) out.val, setU (t + 1) out.obs⟩ : Eff).upd = none ∨ tied ops k = true ∨ SoftE Θ ops (fun j => Nat.blt j k) k s ⟨ren (t + 1) out.val, setU (t + 1) out.obs⟩ := by intro e; first | exact .inl rfl | contradiction | exact .inr (.inl (by kernel_rfl))) : AOps P Θ n ops draw k (⟨some t, .call ⟨.value (.func f), ags, ts⟩, ty, pos, after, g⟩ :: r) s K := o_step hg hin (p_call hac ha hfl hfr hok hc) hu h
end
end Go.Proofs.YtmfmclnklpbiaaaGreat.AM
