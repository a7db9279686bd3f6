/- The machine over data: its rules, one by one, as the walks use them. -/
import Derived.Test.YtciacgmdeaihlaaAm12
namespace Go.Proofs.Ytciacgmdeaihlaa.AM
open Go Go.RowKit
set_option linter.unusedVariables false

section
variable {P : Program} {Θ : Tab} {n : Nat} {Q : AEx → St → Prop} {s : St}
theorem c_seq {a b : Code} (h : ACode P Θ n a (AEx.then (ACode P Θ n b Q) Q) s) : ACode P Θ n (.seq a b) Q s := .inl h
theorem c_cut {a b : Code} {ι : Type} (I : ι → Inv) (h : ACode P Θ n a (AEx.then (fun s' => ∃ j, s'.le (I j)) Q) s) (k : ∀ j, ACode P Θ n b Q (I j).st) : ACode P Θ n (.seq a b) Q s := .inr ⟨ι, I, h, k⟩
theorem c_skip (h : Q .normal s) : ACode P Θ n .skip Q s := h
theorem c_reg {id : Nat} {l : List Oper} (h : AOps P Θ n l.toArray false 0 l s (Q .normal)) : ACode P Θ n (.region id l.toArray false) Q s := ⟨(fun e => by cases e), h⟩
theorem c_dreg {id : Nat} {l : List Oper} (hB : Region.lexB .any l.toArray = true) (h : AOps P Θ n l.toArray true 0 l s (Q .normal)) : ACode P Θ n (.region id l.toArray true) Q s := ⟨fun _ => hB, h⟩
theorem c_cond_t {c : Operand} {x y : Code} (hc : s.ev c = .v (.bool true)) (h : ACode P Θ n x Q s) : ACode P Θ n (.cond c x y) Q s := ⟨true, hc, h⟩
theorem c_cond_f {c : Operand} {x y : Code} (hc : s.ev c = .v (.bool false)) (h : ACode P Θ n y Q s) : ACode P Θ n (.cond c x y) Q s := ⟨false, hc, h⟩
theorem c_block {id : Nat} {c : Code} (h : ACode P Θ n c (AEx.inBlock id Q) s) : ACode P Θ n (.block id c) Q s := h
theorem c_loop {c : Code} {ι : Type} (I : ι → Inv) (μ : ι → Nat) (i0 : ι) (h0 : s.le (I i0)) (h : ∀ i, ACode P Θ n c (AEx.then (fun s' => ∃ j, s'.le (I j) ∧ μ j < μ i) Q) (I i).st) : ACode P Θ n (.loop c) Q s := ⟨ι, I, μ, ⟨i0, h0⟩, h⟩
theorem c_exit {id : Nat} (h : Q (.exit id) s) : ACode P Θ n (.exit id) Q s := h
theorem c_ret (h : Q .ret s) : ACode P Θ n .ret Q s := h
theorem q_then {K : St → Prop} (h : K s) : AEx.then K Q .normal s := h
theorem q_thenx {K : St → Prop} {id : Nat} (h : Q (.exit id) s) : AEx.then K Q (.exit id) s := h
theorem q_thenr {K : St → Prop} (h : Q .ret s) : AEx.then K Q .ret s := h
theorem q_blkn {id : Nat} (h : Q .normal s) : AEx.inBlock id Q .normal s := h
theorem q_blkr {id : Nat} (h : Q .ret s) : AEx.inBlock id Q .ret s := h
theorem q_blkx {id : Nat} (h : Q .normal s) : AEx.inBlock id Q (.exit id) s := by show (bif Nat.beq id id then _ else _); simpa using h
theorem q_blko {id j : Nat} (hj : Nat.beq j id = false) (h : Q (.exit j) s) : AEx.inBlock id Q (.exit j) s := by show (bif Nat.beq j id then _ else _); rw [hj]; exact h
theorem q_ret {rs : List ResultVar} {out : Out} (h : Ret Θ rs out s) : RetQ Θ rs out .ret s := h
theorem q_retn {rs : List ResultVar} {out : Out} (h : Ret Θ rs out s) : RetQ Θ rs out .normal s := h

variable {ops : Array Oper} {draw : Bool} {k : Nat} {o : Oper} {r : List Oper} {K : St → Prop}
theorem o_nil (h : K s) : AOps P Θ n ops draw k [] s K := h
theorem o_step {e : Eff} (hg : guardA ops s o = some true) (hin : inN n o.dst = true) (hp : Pre P Θ o s e) (hu : draw = true → e.upd = none ∨ tied ops k = true) (h : AOps P Θ n ops draw (k + 1) r (s.app o.dst e) K) : AOps P Θ n ops draw k (o :: r) s K := by
  unfold AOps; rw [hg]; exact ⟨hin, e, hp, hu, h⟩
/-- a step whose datum is put, no row changed -/
theorem o_put {d : Option Tmp} {op : Op} {ty : TypeId} {pos : String} {after : Array Edge} {g : Option (Nat × Bool)} {v : AV} (hp : Pre P Θ ⟨d, op, ty, pos, after, g⟩ s ⟨v, none⟩) (hg : guardA ops s ⟨d, op, ty, pos, after, g⟩ = some true) (hin : inN n d = true) (h : AOps P Θ n ops draw (k + 1) r (s.put d v) K) : AOps P Θ n ops draw k (⟨d, op, ty, pos, after, g⟩ :: r) s K :=
  o_step hg hin hp (fun _ => .inl rfl) h
theorem o_skip (hg : guardA ops s o = some false) (hin : inN n o.dst = true) (h : AOps P Θ n ops draw (k + 1) r (s.put o.dst (.tup [])) K) : AOps P Θ n ops draw k (o :: r) s K := by
  unfold AOps; rw [hg]; exact ⟨hin, h⟩

variable {d : Option Tmp} {ty : TypeId} {pos : String} {after : Array Edge} {g : Option (Nat × Bool)}
theorem p_mv {t : Nat} {y : AV} (h : s.sl t = y) : Pre P Θ ⟨d, .move (.tmp t), ty, pos, after, g⟩ s ⟨y, none⟩ := ⟨(fun c e => by cases e), .inl (by rw [← h]; rfl)⟩
theorem p_as {t : Nat} {y : AV} (h : s.sl t = y) : Pre P Θ ⟨d, .assign (.tmp t), ty, pos, after, g⟩ s ⟨y, none⟩ := ⟨(fun c e => by cases e), .inl (by rw [← h]; rfl)⟩
theorem p_asc {c : Value} (h : c.oneCell' = true) : Pre P Θ ⟨d, .assign (.const c), ty, pos, after, g⟩ s ⟨.v c, none⟩ := ⟨(fun c' e => by cases e; exact h), .inl rfl⟩
theorem p_mvc {c : Value} (h : c.oneCell' = true) : Pre P Θ ⟨d, .move (.const c), ty, pos, after, g⟩ s ⟨.v c, none⟩ := ⟨(fun c' e => by cases e; exact h), .inl rfl⟩
theorem p_bin {op : BinOp} {t t2 : TypeId} {x y : Operand} {a b r : Value} (h : BinOK P op t x y a b r) (hx : s.ev x = .v a) (hy : s.ev y = .v b) (h1 : r.oneCell' = true) : Pre P Θ ⟨d, .binOp op t x y t2, ty, pos, after, g⟩ s ⟨.v r, none⟩ :=
  ⟨a, b, r, by rw [hx]; rfl, by rw [hy]; rfl, h, h1, rfl⟩
theorem p_not {t : TypeId} {x : Operand} {b : Bool} (hx : s.ev x = .v (.bool b)) : Pre P Θ ⟨d, .unOp .not t x, ty, pos, after, g⟩ s ⟨.v (.bool (!b)), none⟩ :=
  ⟨.bool b, .bool (!b), by rw [hx]; rfl, fun w => rfl, rfl, rfl⟩
def cOK : Operand → Bool
  | .const c => c.oneCell'
  | _ => true
theorem cOK_spec {x : Operand} (h : cOK x = true) : ∀ c, x = .const c → c.oneCell' = true := fun c e => by subst e; exact h
def csOK : List Operand → Bool
  | [] => true
  | x :: r => cOK x && csOK r
theorem csOK_spec : ∀ {xs : List Operand}, csOK xs = true → ∀ x ∈ xs, ∀ c, x = .const c → c.oneCell' = true
  | [], _, x, hx => by simp at hx
  | y :: ys, h, x, hx => by
    simp only [csOK, Bool.and_eq_true] at h
    rcases List.mem_cons.1 hx with rfl | hx
    · exact cOK_spec h.1
    · exact csOK_spec h.2 x hx
theorem p_pick {c x y : Operand} {t : Bool} {z : AV} (hc : s.ev c = .v (.bool t)) (hz : (bif t then s.ev x else s.ev y) = z) (hx : cOK x = true) (hy : cOK y = true) : Pre P Θ ⟨d, .pick c x y, ty, pos, after, g⟩ s ⟨z, none⟩ :=
  ⟨cOK_spec hx, cOK_spec hy, t, hc, by rw [hz]⟩
theorem p_len {x : Operand} {t : TypeId} {m : Nat} {y : AV} (hx : s.ev x = y) (hl : lenA s y = some m) (hok : lenOK Θ t y) : Pre P Θ ⟨d, .call ⟨.builtin .len, #[x], #[t]⟩, ty, pos, after, g⟩ s ⟨.v (.int .i64 (m : Int)), none⟩ :=
  ⟨x, t, m, rfl, rfl, by rw [hx]; exact hl, by rw [hx]; exact hok, rfl⟩
theorem p_lenm {α : Type} {xs : List α} {f : α → AV} {sz : Nat} {x : Operand} {t : TypeId} (hx : s.ev x = .lst sz (xs.map f)) (hok : ∃ e sz b z, Θ.look t = .slice e sz b z) : Pre P Θ ⟨d, .call ⟨.builtin .len, #[x], #[t]⟩, ty, pos, after, g⟩ s ⟨.v (.int .i64 (xs.length : Int)), none⟩ :=
  ⟨x, t, xs.length, rfl, rfl, by rw [hx]; simp [lenA], by rw [hx]; exact hok, rfl⟩
theorem p_lenom {α : Type} {xs : List α} {f : α → AV} {l sz e : Nat} {x : Operand} {t : TypeId} (hx : s.ev x = .own l) (ho : s.hp l = some ⟨e, sz, xs.map f⟩) (hok : ∃ e sz b z, Θ.look t = .slice e sz b z) : Pre P Θ ⟨d, .call ⟨.builtin .len, #[x], #[t]⟩, ty, pos, after, g⟩ s ⟨.v (.int .i64 (xs.length : Int)), none⟩ :=
  ⟨x, t, xs.length, rfl, rfl, by rw [hx]; simp [lenA, ho], by rw [hx]; exact hok, rfl⟩
theorem p_index {t : TypeId} {x i : Operand} {a : ByteArray} {k : IntKind} {j : Nat} (hT : TIok P t .str) (hx : s.ev x = .v (.string a)) (hi : s.ev i = .v (.int k (j : Int))) (hj : j < a.size) : Pre P Θ ⟨d, .index t x i, ty, pos, after, g⟩ s ⟨.v (.int .u8 ((a[j]).toNat : Int)), none⟩ := by
  refine ⟨_, _, _, by rw [hx]; rfl, by rw [hi]; rfl, fun w => ?_, rfl, rfl⟩
  have h0 : (0 : Int) ≤ (j : Int) := by omega
  simp [Instr.index, asIntOf, run_underlying hT.1, hj]
theorem p_idx {t el sz b : Nat} {z : AV} {x ix : Operand} {k : IntKind} {j : Nat} {xs : List AV} {y : AV} (hy : xs[j]? = some y) (ht : Θ.look t = .slice el sz b z) (hx : s.ev x = .lst sz xs) (hi : s.ev ix = .v (.int k ((j : Nat) : Int))) : Pre P Θ ⟨d, .indexAddr t x ix, ty, pos, after, g⟩ s ⟨.ptr y, none⟩ :=
  ⟨el, sz, b, z, k, j, ht, hi, .inl ⟨xs, y, hx, hy, rfl⟩⟩
theorem p_oidx {t el sz b : Nat} {z : AV} {x ix : Operand} {k : IntKind} {j l : Nat} {ob : OB} (hj : j < ob.xs.length) (ht : Θ.look t = .slice el sz b z) (hx : s.ev x = .own l) (hi : s.ev ix = .v (.int k ((j : Nat) : Int))) (ho : s.hp l = some ob) (hs : ob.sz = sz) : Pre P Θ ⟨d, .indexAddr t x ix, ty, pos, after, g⟩ s ⟨.optr l j [] 0, none⟩ :=
  ⟨el, sz, b, z, k, j, ht, hi, .inr ⟨l, ob, hx, ho, hs, hj, rfl⟩⟩
theorem p_fld {t : TypeId} {x : Operand} {f : Nat} {fs : List (Nat × Nat)} {z ys : List AV} {o_ z_ : Nat} {y : AV} (ht : Θ.look t = .struct fs z) (hf : fs[f]? = some (o_, z_)) (hx : s.ev x = .ptr (.agg ys)) (hy : ys[f]? = some y) (hs : aszs (ys.take f) = o_) : Pre P Θ ⟨d, .fieldAddr t x f, ty, pos, after, g⟩ s ⟨.ptr y, none⟩ :=
  ⟨fs, z, o_, z_, ht, hf, .inl ⟨ys, y, hx, hy, hs, rfl⟩⟩
theorem p_ofld {t : TypeId} {x : Operand} {f : Nat} {fs : List (Nat × Nat)} {z : List AV} {o_ z_ l i c : Nat} {p : List Nat} (ht : Θ.look t = .struct fs z) (hf : fs[f]? = some (o_, z_)) (hx : s.ev x = .optr l i p c) : Pre P Θ ⟨d, .fieldAddr t x f, ty, pos, after, g⟩ s ⟨.optr l i (p ++ [f]) (c + o_), none⟩ :=
  ⟨fs, z, o_, z_, ht, hf, .inr ⟨l, i, p, c, hx, rfl⟩⟩
theorem p_ld {t : TypeId} {x : Operand} {y : AV} (hx : s.ev x = .ptr y) (hk : (Θ.look t).known = true) (ha : isAggA y = (Θ.look t).isAgg) (hs : asz y = (Θ.look t).size) : Pre P Θ ⟨d, .load t x, ty, pos, after, g⟩ s ⟨y, none⟩ :=
  ⟨hk, .inl ⟨y, hx, ha, hs, rfl⟩⟩
theorem p_old {t : TypeId} {x : Operand} {l i c : Nat} {p : List Nat} {ob : OB} {y z : AV} (hx : s.ev x = .optr l i p c) (ho : s.hp l = some ob) (hy : ob.xs[i]? = some y) (hg : getP y p 0 = some (z, c)) (hk : (Θ.look t).known = true) (ha : isAggA z = (Θ.look t).isAgg) (hs : asz z = (Θ.look t).size) : Pre P Θ ⟨d, .load t x, ty, pos, after, g⟩ s ⟨z, none⟩ :=
  ⟨hk, .inr ⟨l, i, p, c, ob, y, z, hx, ho, hy, hg, ha, hs, rfl⟩⟩
theorem p_ext {x : Operand} {i : Nat} {xs : List AV} {y : AV} (hx : s.ev x = .tup xs) (hy : xs[i]? = some y) : Pre P Θ ⟨d, .extract x i, ty, pos, after, g⟩ s ⟨y, none⟩ := ⟨xs, y, hx, hy, rfl⟩
/-- a call whose result owns nothing; one whose result owns rows -/
theorem o_call0 {P : Program} {Θ : Tab} {n : Nat} {s : St} {ops : Array Oper} {draw : Bool} {k : Nat} {r : List Oper} {K : St → Prop} {ty : TypeId} {pos : String} {after : Array Edge} {g : Option (Nat × Bool)} {f : FuncId} {ags : Array Operand} {ts : Array TypeId} {t : Nat} {args : List AV} {v : AV} (hac : AC P f args ⟨v, []⟩) (ha : (ags.toList.map fun x => s.dat (s.ev x)) = args)
    (hg : guardA ops s ⟨some t, .call ⟨.value (.func f), ags, ts⟩, ty, pos, after, g⟩ = some true) (hin : inN n (some t) = true) (hfl : (ownsOf s ags.toList).isEmpty = true ∨ flatA v) (hok : argsOK s ags.toList = true) (hc : csOK ags.toList = true) (h : AOps P Θ n ops draw (k + 1) r (s.put (some t) (ren (t + 1) v)) K) :
    AOps P Θ n ops draw k (⟨some t, .call ⟨.value (.func f), ags, ts⟩, ty, pos, after, g⟩ :: r) s K :=
  o_put (v := ren (t + 1) v) (.inl ⟨t, ⟨v, []⟩, rfl, by rw [ha]; exact hac, hfl.imp id (fun h => ⟨h, by simp⟩), trivial, hok, csOK_spec hc, rfl⟩) hg hin h
/-- a call -/
theorem p_call {f : FuncId} {ags : Array Operand} {ts : Array TypeId} {t : Nat} {args : List AV} {out : Out} (hac : AC P f args out) (ha : (ags.toList.map fun x => s.dat (s.ev x)) = args) (hfl : (ownsOf s ags.toList).isEmpty = true ∨ out.flat) (hfr : freeObs s (t + 1) 0 out.obs) (hok : argsOK s ags.toList = true) (hc : csOK ags.toList = true) :
    Pre P Θ ⟨some t, .call ⟨.value (.func f), ags, ts⟩, ty, pos, after, g⟩ s ⟨ren (t + 1) out.val, setU (t + 1) out.obs⟩ :=
  .inl ⟨t, out, rfl, by rw [ha]; exact hac, hfl, hfr, hok, csOK_spec hc, rfl⟩
end

/-- a call that writes into a row -/
theorem p_callm {P : Program} {Θ : Tab} {s : St} {d : Option Tmp} {ty : TypeId} {pos : String} {after : Array Edge} {g : Option (Nat × Bool)} {f : FuncId} {x : Operand} {r : List Operand} {ts : Array TypeId} {l : Nat} {ob : OB} {xs' args : List AV} {v : Value} (hac : ACM P f ob xs' args v) (hx : s.ev x = .own l) (ho : s.hp l = some ob) (ha : (r.map fun x => s.dat (s.ev x)) = args) (how : (ownsOf s r).isEmpty = true) (hok : argsOK s r = true) (hc : csOK r = true) (h1 : v.oneCell' = true) :
    Pre P Θ ⟨d, .call ⟨.value (.func f), (x :: r).toArray, ts⟩, ty, pos, after, g⟩ s ⟨.v v, some fun s => s.set l (some ⟨ob.e, ob.sz, xs'⟩)⟩ :=
  .inr ⟨x, r, l, ob, xs', v, rfl, hx, ho, by rw [ha]; exact hac, how, hok, csOK_spec hc, h1, rfl⟩
/-- a move that gives a row up -/
theorem p_mvf {P : Program} {Θ : Tab} {s : St} {d : Option Tmp} {ty : TypeId} {pos : String} {after : Array Edge} {g : Option (Nat × Bool)} {t l : Nat} {ob : OB} (h : s.sl t = .own l) (ho : s.hp l = some ob) : Pre P Θ ⟨d, .move (.tmp t), ty, pos, after, g⟩ s ⟨.lst ob.sz ob.xs, some fun s => s.frz l⟩ :=
  ⟨(fun c e => by cases e), .inr (.inl ⟨l, ob, h, ho, rfl⟩)⟩

theorem p_asf {P : Program} {Θ : Tab} {s : St} {d : Option Tmp} {ty : TypeId} {pos : String} {after : Array Edge} {g : Option (Nat × Bool)} {t l : Nat} {ob : OB} (h : s.sl t = .own l) (ho : s.hp l = some ob) : Pre P Θ ⟨d, .assign (.tmp t), ty, pos, after, g⟩ s ⟨.lst ob.sz ob.xs, some fun s => s.frz l⟩ :=
  ⟨(fun c e => by cases e), .inr (.inl ⟨l, ob, h, ho, rfl⟩)⟩
theorem p_nila {P : Program} {Θ : Tab} {s : St} {d : Nat} {ty : TypeId} {pos : String} {after : Array Edge} {g : Option (Nat × Bool)} (el sz : Nat) (h : 0 < sz) : Pre P Θ ⟨some d, .assign (.const (.slice none 0 0)), ty, pos, after, g⟩ s ⟨.own (d + 1), some fun s => (s.kill (d + 1)).set (d + 1) (some ⟨el, sz, []⟩)⟩ :=
  ⟨(fun c e => by cases e; rfl), .inr (.inr ⟨d, el, sz, rfl, h, rfl, rfl⟩)⟩
theorem p_nilm {P : Program} {Θ : Tab} {s : St} {d : Nat} {ty : TypeId} {pos : String} {after : Array Edge} {g : Option (Nat × Bool)} (el sz : Nat) (h : 0 < sz) : Pre P Θ ⟨some d, .move (.const (.slice none 0 0)), ty, pos, after, g⟩ s ⟨.own (d + 1), some fun s => (s.kill (d + 1)).set (d + 1) (some ⟨el, sz, []⟩)⟩ :=
  ⟨(fun c e => by cases e; rfl), .inr (.inr ⟨d, el, sz, rfl, h, rfl, rfl⟩)⟩
theorem p_make {P : Program} {Θ : Tab} {s : St} {d : Nat} {ty : TypeId} {pos : String} {after : Array Edge} {g : Option (Nat × Bool)} {t : TypeId} {l c : Operand} {el sz b n : Nat} {z : AV} {k k' : IntKind} (hn : b * n ≤ 140737488355328) (hn' : n ≤ 9223372036854775807) (hl : s.ev l = .v (.int k (n : Int))) (hc : s.ev c = .v (.int k' (n : Int))) (hf : s.hp (d + 1) = none) (ht : Θ.look t = .slice el sz b z) :
    Pre P Θ ⟨some d, .makeSlice t l c, ty, pos, after, g⟩ s ⟨.own (d + 1), some fun s => s.set (d + 1) (some ⟨el, sz, List.replicate n z⟩)⟩ := ⟨d, el, sz, b, z, n, k, k', rfl, hf, ht, hl, hc, hn, hn', rfl⟩

theorem p_box {P : Program} {Θ : Tab} {s : St} {ty : TypeId} {pos : String} {after : Array Edge} {g : Option (Nat × Bool)} {t : TypeId} {x : Operand} {d : Nat} {y : AV} (hf : s.hp (d + 1) = none) (hx : s.ev x = y) (hk : (match y with | .v c => c.oneCell' | .agg _ => true | .lst _ _ => true | _ => false) = true) (hs : ((Θ.look t).known && Nat.beq (asz y) (Θ.look t).size) = true) :
    Pre P Θ ⟨some d, .box t x, ty, pos, after, g⟩ s ⟨.optr (d + 1) 0 [] 0, some fun s' => s'.set (d + 1) (some ⟨t, (Θ.look t).size, [y]⟩)⟩ := by
  have hd : s.dat (s.ev x) = y := by rw [hx]; cases y <;> first | rfl | simp at hk
  have ho : ownsOf s [x] = [] := by unfold ownsOf; rw [hx]; cases y <;> first | rfl | simp at hk
  simp only [Bool.and_eq_true] at hs
  refine ⟨d, rfl, hf, hs.1, by rw [hd]; exact Nat.eq_of_beq_eq_true hs.2, by rw [hd]; cases y <;> first | exact hk | rfl, ?_⟩
  rw [hd, ho]; rfl
theorem p_allo {P : Program} {Θ : Tab} {s : St} {ty : TypeId} {pos : String} {after : Array Edge} {g : Option (Nat × Bool)} {t : TypeId} {d : Nat} (hf : s.hp (d + 1) = none) (hk : (Θ.look t).known = true) :
    Pre P Θ ⟨some d, .alloc t, ty, pos, after, g⟩ s ⟨.optr (d + 1) 0 [] 0, some fun s => s.set (d + 1) (some ⟨t, (Θ.look t).size, [(Θ.look t).zero]⟩)⟩ := ⟨d, rfl, hf, hk, rfl⟩

theorem getA {α : Type} (f : α → AV) {es : List α} {k : Nat} (h : k < es.length) : (es.map f)[k]? = some (f es[k]) := by simp [h]

/-! ### sums and comparisons -/
section
variable {P : Program} {t : TypeId} {x y : Operand} {k : IntKind} {a b : Int}
theorem b_lt_t (h : a < b) : BinOK P .lss t x y (.int k a) (.int k b) (.bool true) := fun w => by simp [eqGuard, binOp, Op.intCmp, h]
theorem b_lt_f (h : ¬ a < b) : BinOK P .lss t x y (.int k a) (.int k b) (.bool false) := fun w => by simp [eqGuard, binOp, Op.intCmp]; omega
theorem b_le_t (h : a ≤ b) : BinOK P .leq t x y (.int k a) (.int k b) (.bool true) := fun w => by simp [eqGuard, binOp, Op.intCmp, h]
theorem b_le_f (h : ¬ a ≤ b) : BinOK P .leq t x y (.int k a) (.int k b) (.bool false) := fun w => by simp [eqGuard, binOp, Op.intCmp]; omega
theorem b_gt_t (h : a > b) : BinOK P .gtr t x y (.int k a) (.int k b) (.bool true) := fun w => by simp [eqGuard, binOp, Op.intCmp]; omega
theorem b_gt_f (h : ¬ a > b) : BinOK P .gtr t x y (.int k a) (.int k b) (.bool false) := fun w => by simp [eqGuard, binOp, Op.intCmp]; omega
theorem b_ge_t (h : a ≥ b) : BinOK P .geq t x y (.int k a) (.int k b) (.bool true) := fun w => by simp [eqGuard, binOp, Op.intCmp]; omega
theorem b_ge_f (h : ¬ a ≥ b) : BinOK P .geq t x y (.int k a) (.int k b) (.bool false) := fun w => by simp [eqGuard, binOp, Op.intCmp]; omega
theorem b_eq_t (h : a = b) : BinOK P .eql t x y (.int k a) (.int k b) (.bool true) := fun w => by simp [eqGuard, binOp, Op.intCmp, h]
theorem b_eq_f (h : ¬ a = b) : BinOK P .eql t x y (.int k a) (.int k b) (.bool false) := fun w => by simp [eqGuard, binOp, Op.intCmp, h]
theorem b_ne_t (h : ¬ a = b) : BinOK P .neq t x y (.int k a) (.int k b) (.bool true) := fun w => by simp [eqGuard, binOp, Op.intCmp, h]
theorem b_ne_f (h : a = b) : BinOK P .neq t x y (.int k a) (.int k b) (.bool false) := fun w => by simp [eqGuard, binOp, Op.intCmp, h]
theorem b_add {c : Int} (h : c = a + b) (hl : -9223372036854775808 ≤ c) (hu : c ≤ 9223372036854775807) : BinOK P .add t x y (.int .i64 a) (.int .i64 b) (.int .i64 c) := fun w => by
  have hw : IntKind.i64.wrap (a + b) = c := by rw [IntKind.wrap_i64, ← h]; omega
  simp [eqGuard, binOp, Op.intArith, hw]
theorem b_sub {c : Int} (h : c = a - b) (hl : -9223372036854775808 ≤ c) (hu : c ≤ 9223372036854775807) : BinOK P .sub t x y (.int .i64 a) (.int .i64 b) (.int .i64 c) := fun w => by
  have hw : IntKind.i64.wrap (a - b) = c := by rw [IntKind.wrap_i64, ← h]; omega
  simp [eqGuard, binOp, Op.intArith, hw]
theorem b_str {op : BinOp} {a b : ByteArray} {r : Value} (h : ∀ w, (Op.stringOp op a b).run P w = .ok r w) : BinOK P op t x y (.string a) (.string b) r := fun w => by
  cases op <;> simp only [eqGuard, binOp] <;> first | exact h w | simpa using h w
end
end Go.Proofs.Ytciacgmdeaihlaa.AM
