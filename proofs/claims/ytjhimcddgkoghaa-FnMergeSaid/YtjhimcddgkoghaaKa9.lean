/- Texts of the machine over data, folded. -/
import Derived.Test.YtjhimcddgkoghaaKa8
import Derived.Test.YtjhimcddgkoghaaKa5
import Derived.Test.YtjhimcddgkoghaaKa6
import Derived.Test.YtjhimcddgkoghaaKa7
namespace Go.Proofs.Ytjhimcddgkoghaa
open Go.RowKit Go.ChangeShapes Go.WideShapes Go.Deep

section
variable {H : Type} {enc : TypeId × Value → H} {P : Program} {w : World} {base : Nat} {held : Bool}
theorem open_bytes_ {t e : TypeId} {A : Option Addr} {n c : Nat} {d : DataW H} {p : List MemPlace} (ht : P.underlying t = some (.slice e)) (he : P.underlying e = some (.int .u8)) (hC : P.cellsOf e = 1)
    (h : DataW.Trod enc P w base (fun _ => true) held t (.slice A n c) d p) :
    ∃ bs : List UInt8, Rd w 1 A n (bs.map fun b => .int .u8 b.toNat) ∧ n ≤ maxLen := by
  obtain ⟨fuel, hf⟩ := h
  rcases open_ints ht he hC hf with ⟨hcs, _⟩ | ⟨a, len, cap, zs, hcs, _, hl, hm, hzl, _, hcell, hwf⟩
  · simp [Value.cells] at hcs
    obtain ⟨rfl, rfl, rfl⟩ := hcs
    exact ⟨[], ⟨by simp, fun h => absurd h (by omega)⟩, Nat.zero_le _⟩
  · simp [Value.cells] at hcs
    obtain ⟨rfl, rfl, rfl⟩ := hcs
    simp at hzl
    refine ⟨(zs.take n).map fun z => UInt8.ofNat z.toNat, ⟨by simp; omega, fun hn => ?_⟩, Nat.le_trans hl hm⟩
    have h0 := hcell 0 (by omega)
    rw [add_zero_] at h0
    have hsp := spot_of_cell h0
    obtain ⟨b, off, sp⟩ := a
    simp at hsp
    subst hsp
    have hadd : ∀ j, (⟨b, off, none⟩ : Addr).add j = ⟨b, off + j, none⟩ := fun j => by unfold Addr.add; split <;> simp_all
    refine ⟨b, off, rfl, World.block_lt_of_cell? w _ h0, fun j u hu => ?_⟩
    rw [List.map_map, List.getElem?_map] at hu
    have hj : j < (zs.take n).length := by
      rcases Nat.lt_or_ge j (zs.take n).length with h | h
      · exact h
      · rw [List.getElem?_eq_none h] at hu; cases hu
    rw [List.getElem?_eq_getElem hj] at hu
    have hjz : j < zs.length := by rw [List.length_take] at hj; omega
    have hz : (zs.take n)[j] = zs[j] := by simp
    rw [hz] at hu
    have hc := hcell j hjz
    rw [hadd] at hc
    rw [hc, ← Option.some.inj hu]
    have hw := hwf zs[j] (List.getElem_mem hjz)
    have hr : 0 ≤ zs[j] ∧ zs[j] ≤ 255 := by simpa [Lit.wf, IntKind.min, IntKind.max, IntKind.signed, IntKind.bits] using hw
    have e1 : zs.getD j 0 = zs[j] := by simp [hjz]
    rw [e1]
    have e2 : ((UInt8.ofNat zs[j].toNat).toNat : Int) = zs[j] := by
      have : (UInt8.ofNat zs[j].toNat).toNat = zs[j].toNat := by
        rw [UInt8.toNat_ofNat']; exact Nat.mod_eq_of_lt (by omega)
      rw [this]; omega
    simp only [Function.comp, e2]
end
end Go.Proofs.Ytjhimcddgkoghaa
namespace Go.Proofs.Ytjhimcddgkoghaa.AM
open Go Go.RowKit
set_option linter.unusedVariables false
set_option linter.unusedSimpArgs false
set_option maxRecDepth 100000
def bytA (b : UInt8) : AV := .v (.int .u8 b.toNat)
theorem all_byt (l : List UInt8) : ∀ x ∈ l.map bytA, asz x = 1 := fun x hx => by obtain ⟨_, _, rfl⟩ := List.mem_map.1 hx; rfl
theorem rl_byts {S : Nat → Prop} {w : World} : ∀ (l : List UInt8), RL S w (l.map bytA) (l.map fun b => .int .u8 b.toNat)
  | [] => by simp only [List.map_nil]; exact rl_nil
  | x :: l => by simp only [List.map_cons]; exact rl_cons (c1 := [_]) (ra_v rfl) (rl_byts l)
theorem rv_byts {w : World} {hp : Nat → Option OB} {B : Nat → Nat} {V : Nat → Value} {A : Option Addr} {n c : Nat} {bs : List UInt8} (hc : n ≤ c ∧ c ≤ maxLen) (h : Rd w 1 A n (bs.map fun b => .int .u8 b.toNat)) : RV (InW w) w hp B V (.lst 1 (bs.map bytA)) (.slice A n c) := by
  have hl : bs.length = n := by have := h.1; simpa using this
  unfold RV RA
  refine ⟨A, c, by rw [List.length_map, hl], by rw [List.length_map, hl]; exact hc.1, hc.2, all_byt bs, by omega, ?_⟩
  rcases Nat.eq_zero_or_pos n with h0 | h0
  · left
    rw [List.eq_nil_of_length_eq_zero (hl.trans h0)]; rfl
  · obtain ⟨b, off, rfl, hlt, hcl⟩ := rd_at h h0
    exact .inr ⟨b, off, _, rfl, hlt, rl_byts bs, hcl⟩
structure Src where
  at_ : Nat
  seed : Int
def srcA (c : List UInt8) (s : Src) : AV := .agg [.lst 1 (c.map bytA), .v (.int .i64 s.at_), .v (.int .i64 s.seed)]
abbrev srcO (c : List UInt8) (s : Src) : OB := ⟨265, 3, [srcA c s]⟩
def Src.ok (s : Src) (K : Nat) : Prop := s.at_ ≤ K ∧ 0 ≤ s.seed ∧ s.seed < 2147483648
def stepS (x : Int) : Int := x % 2147483648
theorem stepS_lt (x : Int) : 0 ≤ stepS x ∧ stepS x < 2147483648 := ⟨Int.emod_nonneg _ (by decide), Int.emod_lt_of_pos _ (by decide)⟩
/-- a byte of the source -/
def byteS (c : List UInt8) (s : Src) : Int × Src :=
  if h : s.at_ < c.length then (((c[s.at_]).toNat : Int), ⟨s.at_ + 1, stepS (s.seed * 31 + ((c[s.at_]).toNat : Int) + 7)⟩)
  else if 3000 < s.at_ + 1 then (0, ⟨s.at_ + 1, s.seed⟩)
  else (stepS (s.seed * 1103515245 + 12345) / 65536 % 256, ⟨s.at_ + 1, stepS (s.seed * 1103515245 + 12345)⟩)
theorem byteS_ok {c : List UInt8} {s : Src} {K : Nat} (h : s.ok K) : (byteS c s).2.ok (K + 1) ∧ 0 ≤ (byteS c s).1 ∧ (byteS c s).1 < 256 := by
  obtain ⟨h1, h2, h3⟩ := h
  unfold byteS
  split
  · rename_i hl
    refine ⟨⟨by simp; omega, (stepS_lt _).1, (stepS_lt _).2⟩, by simp, ?_⟩
    have := (c[s.at_]).toNat_lt
    show ((c[s.at_]).toNat : Int) < 256
    omega
  · split
    · exact ⟨⟨by simp; omega, h2, h3⟩, by simp, by simp⟩
    · exact ⟨⟨by simp; omega, (stepS_lt _).1, (stepS_lt _).2⟩, Int.emod_nonneg _ (by decide), Int.emod_lt_of_pos _ (by decide)⟩
section
variable {P : Program} {t : TypeId} {x y : Operand} {a b c : Int}
theorem b_rem2 (h0 : 0 ≤ a) (hb : 0 < b) (hc : a % b = c) : BinOK P .rem t x y (.int .i64 a) (.int .i64 b) (.int .i64 c) := fun w => by
  have hb0 : b ≠ 0 := by omega
  have hr : (Op.intDiv .rem .i64 a b).run P w = .ok (.int .i64 (a.tmod b)) w := by simp [Op.intDiv, hb0]
  subst hc
  rw [← Int.tmod_eq_emod_of_nonneg h0]
  simp [eqGuard, binOp, hr]
theorem b_quo2 (h0 : 0 ≤ a) (h1 : a ≤ 9223372036854775807) (hb : 1 < b) (hc : a / b = c) : BinOK P .quo t x y (.int .i64 a) (.int .i64 b) (.int .i64 c) := fun w => by
  have hb0 : b ≠ 0 := by omega
  have hle : a / b ≤ a := Int.ediv_le_self b h0
  have hnn : 0 ≤ a / b := Int.ediv_nonneg h0 (by omega)
  have hw : IntKind.i64.wrap (a.tdiv b) = c := by rw [Int.tdiv_eq_ediv_of_nonneg h0, IntKind.wrap_i64, hc]; omega
  have hr : (Op.intDiv .quo .i64 a b).run P w = .ok (.int .i64 c) w := by simp [Op.intDiv, hb0, hw]
  simp [eqGuard, binOp, hr]
theorem b_mul2 (h : a * b = c) (hl : -9223372036854775808 ≤ c) (hu : c ≤ 9223372036854775807) : BinOK P .mul t x y (.int .i64 a) (.int .i64 b) (.int .i64 c) := fun w => by
  have hw : IntKind.i64.wrap (a * b) = c := by rw [IntKind.wrap_i64, h]; omega
  simp [eqGuard, binOp, Op.intArith, hw]
end
theorem p_conv8 {Θ : Tab} {s : St} {d : Option Tmp} {ty : TypeId} {pos : String} {after : Array Edge} {g : Option (Nat × Bool)} {x : Operand} {n : Nat} (hx : s.ev x = .v (.int .u8 (n : Int))) (hn : n < 256) : Pre Try.prog Θ ⟨d, .convert 5 3 x, ty, pos, after, g⟩ s ⟨.v (.int .i64 (n : Int)), none⟩ := by
  refine ⟨.int .u8 n, .int .i64 n, by rw [hx]; rfl, fun w => ?_, rfl, rfl⟩
  have hw : IntKind.i64.wrap (n : Int) = n := by rw [IntKind.wrap_i64]; omega
  have h1 : (underlying 5).run Try.prog w = .ok (.int .u8) w := run_underlying Try.underlying5 w
  have h2 : (underlying 3).run Try.prog w = .ok (.int .i64) w := run_underlying Try.underlying3 w
  simp [convert, h1, h2, Conv.intToInt, hw]
theorem r_ret1s {s : St} {Θ : Tab} {r : Nat} {v : Value} {o1 : OB} (h1 : s.sl r = .v v) (h2 : s.hp 0 = some o1) : RetG Θ [.tmp r] [o1] ⟨.v v, []⟩ .ret s := ⟨⟨h2, trivial⟩, [], by simp, trivial, ⟨trivial, trivial⟩, trivial, ⟨.inl ⟨h1, rfl⟩, trivial⟩⟩
attribute [local irreducible] ACode AOps AOps2 RetG RetM Pre ACG
set_option maxHeartbeats 8000000 in
theorem ac_byte {c : List UInt8} {s : Src} {K : Nat} (hc : c.length ≤ maxLen) (hs : s.ok K) (hK : K ≤ 1000000000) : ACG Try.prog 261 [.optr 0 0 [] 0] [srcO c s] [srcO c (byteS c s).2] ⟨.v (.int .i64 (byteS c s).1), []⟩ := by
  unfold maxLen at hc
  obtain ⟨h1, h2, h3⟩ := hs
  have hlen : (s.at_ + 1 : Nat) ≤ 1000000001 := by omega
  unfold byteS
  refine acg_of (rs := [.tmp 2]) Th_ok (by kernel_rfl) Try.func261 rfl Try.ntmps261 (by rw [Try.results261]) (by kernel_rfl) (by simp) rfl rfl (runC_sound _ _ _ ?_)
  conv => whnf
  by_cases h : s.at_ < c.length
  · rw [dif_pos h]
    have hb : (c[s.at_]).toNat < 256 := (c[s.at_]).toNat_lt
    repeat (first | (refine r_put (p_bin (b_add (c := ((s.at_ + 1 : Nat) : Int)) (by omega) (by omega) (by omega)) rfl rfl rfl) rfl rfl ?_; conv => whnf) | (refine r_put (p_bin (b_sub (c := (s.at_ : Int)) (by omega) (by omega) (by omega)) rfl rfl rfl) rfl rfl ?_; conv => whnf) | (refine r_put (p_bin (b_mul2 rfl (by omega) (by omega)) rfl rfl rfl) rfl rfl ?_; conv => whnf) | (refine r_put (p_bin (b_rem2 (by omega) (by omega) rfl) rfl rfl rfl) rfl rfl ?_; conv => whnf) | (refine r_put (p_conv8 rfl hb) rfl rfl ?_; conv => whnf) | ((first | refine qb rfl rfl ?_ | refine qi (by assumption) rfl rfl ?_ | refine ql rfl ?_ | refine qo rfl rfl ?_ | refine qs rfl rfl ?_ | refine qn rfl rfl ?_); conv => whnf) | (refine .inl (And.intro (by kernel_rfl) ?_); conv => whnf) | (refine r_step (p_ostore rfl rfl rfl rfl rfl (by conv => lhs; whnf) rfl) rfl rfl (fun e => by first | exact .inl rfl | contradiction | exact .inr (.inl (by kernel_rfl))) ?_; conv => whnf))
    exact r_ret1s rfl rfl
  rw [dif_neg h]
  by_cases h3 : 3000 < s.at_ + 1
  · rw [if_pos h3]
    repeat (first | (refine r_put (p_bin (b_add (c := ((s.at_ + 1 : Nat) : Int)) (by omega) (by omega) (by omega)) rfl rfl rfl) rfl rfl ?_; conv => whnf) | ((first | refine qb rfl rfl ?_ | refine qi (by assumption) rfl rfl ?_ | refine ql rfl ?_ | refine qo rfl rfl ?_ | refine qs rfl rfl ?_ | refine qn rfl rfl ?_); conv => whnf) | (refine .inl (And.intro (by kernel_rfl) ?_); conv => whnf) | (refine r_step (p_ostore rfl rfl rfl rfl rfl (by conv => lhs; whnf) rfl) rfl rfl (fun e => by first | exact .inl rfl | contradiction | exact .inr (.inl (by kernel_rfl))) ?_; conv => whnf))
    exact r_ret1s rfl rfl
  · rw [if_neg h3]
    have hst := stepS_lt (s.seed * 1103515245 + 12345)
    repeat (first | (refine r_put (p_bin (b_add (c := ((s.at_ + 1 : Nat) : Int)) (by omega) (by omega) (by omega)) rfl rfl rfl) rfl rfl ?_; conv => whnf) | (refine r_put (p_bin (b_mul2 rfl (by omega) (by omega)) rfl rfl rfl) rfl rfl ?_; conv => whnf) | (refine r_put (p_bin (b_rem2 (c := stepS (s.seed * 1103515245 + 12345)) (by omega) (by omega) rfl) rfl rfl rfl) rfl rfl ?_; conv => whnf) | (refine r_put (p_bin (b_quo2 hst.1 (by omega) (by omega) rfl) rfl rfl rfl) rfl rfl ?_; conv => whnf) | (refine r_put (p_bin (b_rem2 (Int.ediv_nonneg hst.1 (by decide)) (by omega) rfl) rfl rfl rfl) rfl rfl ?_; conv => whnf) | ((first | refine qb rfl rfl ?_ | refine qi (by assumption) rfl rfl ?_ | refine ql rfl ?_ | refine qo rfl rfl ?_ | refine qs rfl rfl ?_ | refine qn rfl rfl ?_); conv => whnf) | (refine .inl (And.intro (by kernel_rfl) ?_); conv => whnf) | (refine r_step (p_ostore rfl rfl rfl rfl rfl (by conv => lhs; whnf) rfl) rfl rfl (fun e => by first | exact .inl rfl | contradiction | exact .inr (.inl (by kernel_rfl))) ?_; conv => whnf))
    exact r_ret1s rfl rfl
end Go.Proofs.Ytjhimcddgkoghaa.AM
namespace Go.Proofs.Ytjhimcddgkoghaa

/-- the keys and values of a list of edits -/
def kv (es : List Edt) : List Ent := es.map fun e => (e.key, e.val)
theorem kv_length (es : List Edt) : (kv es).length = es.length := by simp [kv]
theorem kAt_kv (es : List Edt) (k : Nat) (h : k < es.length) : kAt (kv es) k = es[k].key := by simp [kAt, kv, h]
theorem ordE_no (es : List Edt) (k : Nat) (h : k < es.length) (hn : nm es[k].key = false) : ordAt (kv es) k = false := by
  rw [ordAt, kAt_kv es k h, hn]; rfl
theorem ordE_zero (es : List Edt) (h : 0 < es.length) (hn : nm es[0].key = true) : ordAt (kv es) 0 = true := by
  rw [ordAt, kAt_kv es 0 h, hn]; rfl
theorem ordE_pos (es : List Edt) (k : Nat) (h0 : 0 < k) (h : k < es.length) (hn : nm es[k].key = true) : ordAt (kv es) k = klt (es[k - 1]'(by omega)).key es[k].key := by
  rw [ordAt, kAt_kv es k h, kAt_kv es (k - 1) (by omega), hn, decide_eq_false (by omega)]; simp
def edtB (e : Edt) : Bool := valB e.val && (!e.gone || decide (e.val = 0))
def edtAt (es : List Edt) (i : Nat) : Bool := edtB (es.getD i ⟨ByteArray.empty, 0, false⟩)
theorem edtAt_eq (es : List Edt) (k : Nat) (h : k < es.length) : edtAt es k = (valB es[k].val && (!es[k].gone || decide (es[k].val = 0))) := by simp [edtAt, edtB, h]
def edtsM (es : List Edt) : Bool := (List.range es.length).all (edtAt es)
def editsOK (es : List Edt) : Bool := decide (es.length ≤ 6) && (ordM (kv es) && edtsM es)
theorem edtsM_of {es : List Edt} (h : ∀ i, i < es.length → edtAt es i = true) : edtsM es = true := by
  rw [edtsM, List.all_eq_true]; intro i hi; exact h i (List.mem_range.1 hi)
theorem edtsM_not {es : List Edt} {i : Nat} (hi : i < es.length) (h : edtAt es i = false) : edtsM es = false := by
  rw [edtsM, List.all_eq_false]; exact ⟨i, List.mem_range.2 hi, by rw [h]; simp⟩
theorem editsOK_of {es : List Edt} (h0 : es.length ≤ 6) (h : ∀ i, i < es.length → ordAt (kv es) i = true ∧ edtAt es i = true) : editsOK es = true := by
  rw [editsOK, ordM_of (fun i hi => (h i (by rw [kv_length] at hi; exact hi)).1), edtsM_of fun i hi => (h i hi).2, decide_eq_true h0]; rfl
theorem editsOK_noOrd {es : List Edt} {i : Nat} (hi : i < es.length) (h : ordAt (kv es) i = false) : editsOK es = false := by
  rw [editsOK, ordM_not (by rw [kv_length]; exact hi) h]; simp
theorem editsOK_noEdt {es : List Edt} {i : Nat} (hi : i < es.length) (h : edtAt es i = false) : editsOK es = false := by
  rw [editsOK, edtsM_not hi h]; simp
theorem editsOK_long {es : List Edt} (h : 6 < es.length) : editsOK es = false := by
  rw [editsOK, decide_eq_false (by omega)]; rfl
theorem gone_three (g : Bool) (v : Int) : (g = true ∧ v ≠ 0) ∨ g = false ∨ (g = true ∧ v = 0) := by
  cases g <;> by_cases h : v = 0 <;> simp [h]

end Go.Proofs.Ytjhimcddgkoghaa
namespace Go.Proofs.Ytjhimcddgkoghaa

def applyOne (m : List Ent) (e : Edt) : List Ent := if e.gone then delL m e.key else putL m e.key e.val
def applyL (es : List Ent) (xs : List Edt) : List Ent := xs.foldl applyOne es
theorem applyL_succ (es : List Ent) (xs : List Edt) (k : Nat) (h : k < xs.length) : applyL es (xs.take (k + 1)) = applyOne (applyL es (xs.take k)) xs[k] := by
  rw [applyL, List.take_succ_eq_append_getElem h, List.foldl_append]; rfl
theorem applyL_gone (es : List Ent) (xs : List Edt) (k : Nat) (h : k < xs.length) (hg : xs[k].gone = true) : applyL es (xs.take (k + 1)) = delL (applyL es (xs.take k)) xs[k].key := by
  rw [applyL_succ es xs k h, applyOne, hg]; rfl
theorem applyL_put (es : List Ent) (xs : List Edt) (k : Nat) (h : k < xs.length) (hg : xs[k].gone = false) : applyL es (xs.take (k + 1)) = putL (applyL es (xs.take k)) xs[k].key xs[k].val := by
  rw [applyL_succ es xs k h, applyOne, hg]; rfl
theorem putL_length (es : List Ent) (k : ByteArray) (v : Int) : (putL es k v).length ≤ es.length + 1 := by
  have h1 : es.length = (es.takeWhile fun e => klt e.1 k).length + (es.dropWhile fun e => klt e.1 k).length := by
    rw [← List.length_append, List.takeWhile_append_dropWhile]
  rw [putL, List.length_append, List.length_cons]
  exact Nat.le_trans (Nat.add_le_add_left (Nat.succ_le_succ (List.length_filter_le _ _)) _) (by omega)
theorem delL_length (es : List Ent) (k : ByteArray) : (delL es k).length ≤ es.length := List.length_filter_le _ _
theorem applyL_length (es : List Ent) (xs : List Edt) : (applyL es xs).length ≤ es.length + xs.length := by
  induction xs generalizing es with
  | nil => exact Nat.le_refl _
  | cons x r ih =>
    have h := ih (applyOne es x)
    have h1 : (applyOne es x).length ≤ es.length + 1 := by
      unfold applyOne
      split
      · have := delL_length es x.key; omega
      · exact putL_length _ _ _
    show (applyL (applyOne es x) r).length ≤ es.length + (r.length + 1)
    omega
theorem putL_cons_lt (e : Ent) (r : List Ent) (k : ByteArray) (v : Int) (h : klt e.1 k = true) : putL (e :: r) k v = e :: putL r k v := by simp [putL, h]
theorem putL_cons_ge (e : Ent) (r : List Ent) (k : ByteArray) (v : Int) (h : klt e.1 k = false) : putL (e :: r) k v = (k, v) :: (e :: r).filter (fun e => decide (e.1 ≠ k)) := by
  rw [putL, List.takeWhile_cons_of_neg (by simp [h]), List.dropWhile_cons_of_neg (by simp [h])]; rfl
theorem mem_putL {es : List Ent} {k : ByteArray} {v : Int} {x : Ent} (h : x ∈ putL es k v) : x = (k, v) ∨ x ∈ es := by
  rw [putL, List.mem_append, List.mem_cons] at h
  rcases h with h | h | h
  · exact .inr ((List.takeWhile_sublist _).mem h)
  · exact .inl h
  · exact .inr ((List.dropWhile_sublist _).mem (List.mem_filter.1 h).1)
theorem srt_putL {es : List Ent} (h : Srt es) (k : ByteArray) (v : Int) : Srt (putL es k v) := by
  induction es with
  | nil => simp [putL, Srt]
  | cons e r ih =>
    rw [Srt, List.pairwise_cons] at h
    cases hk : klt e.1 k with
    | true =>
      rw [putL_cons_lt e r k v hk, Srt, List.pairwise_cons]
      refine ⟨fun x hx => ?_, ih h.2⟩
      rcases mem_putL hx with rfl | hx
      · exact hk
      · exact h.1 x hx
    | false =>
      rw [putL_cons_ge e r k v hk, Srt, List.pairwise_cons]
      refine ⟨fun x hx => ?_, (List.pairwise_cons.2 h).filter _⟩
      rw [List.mem_filter, List.mem_cons] at hx
      obtain ⟨hx, hne⟩ := hx
      rcases hx with rfl | hx
      · exact klt_tri hk (by simpa using hne)
      · exact klt_of_le hk (h.1 x hx)
theorem srt_delL {es : List Ent} (h : Srt es) (k : ByteArray) : Srt (delL es k) := List.Pairwise.filter _ h
theorem srt_applyL {es : List Ent} (h : Srt es) (xs : List Edt) : Srt (applyL es xs) := by
  induction xs generalizing es with
  | nil => exact h
  | cons x r ih =>
    refine ih (es := applyOne es x) ?_
    unfold applyOne
    split
    · exact srt_delL h _
    · exact srt_putL h _ _
theorem mapOK_le {es : List Ent} (h : mapOK es = true) : es.length ≤ 12 := by
  rcases Nat.lt_or_ge 12 es.length with h2 | h2
  · rw [mapOK_long h2] at h; cases h
  · exact h2
theorem editsOK_le {es : List Edt} (h : editsOK es = true) : es.length ≤ 6 := by
  rcases Nat.lt_or_ge 6 es.length with h2 | h2
  · rw [editsOK_long h2] at h; cases h
  · exact h2

end Go.Proofs.Ytjhimcddgkoghaa
namespace Go.Proofs.Ytjhimcddgkoghaa.AM
open Go Go.RowKit
set_option linter.unusedVariables false
def keys8 : List ByteArray := [⟨#[97]⟩, ⟨#[98]⟩, ⟨#[99]⟩, ⟨#[100]⟩, ⟨#[101]⟩, ⟨#[107, 49]⟩, ⟨#[107, 50]⟩, ⟨#[122, 122]⟩]
theorem keys8_nm : (keys8.all fun k => nm k && decide (k.size ≤ 12)) = true := by kernel_rfl
theorem keys8_ok {k : ByteArray} (h : k ∈ keys8) : nm k = true ∧ k.size ≤ 12 := by
  have := List.all_eq_true.1 keys8_nm k h
  simpa using this
/-- a map as the draws make one -/
def Good (es : List Ent) : Prop := Srt es ∧ ∀ e ∈ es, e.1 ∈ keys8 ∧ 0 ≤ e.2 ∧ e.2 < 9
theorem Good.nil : Good [] := ⟨List.Pairwise.nil, by simp⟩
theorem Good.put {es : List Ent} (h : Good es) {k : ByteArray} (hk : k ∈ keys8) {v : Int} (h0 : 0 ≤ v) (h1 : v < 9) : Good (putL es k v) :=
  ⟨srt_putL h.1 k v, fun e he => by
    rcases mem_putL he with rfl | he
    · exact ⟨hk, h0, h1⟩
    · exact h.2 e he⟩
theorem Good.del {es : List Ent} (h : Good es) (k : ByteArray) : Good (delL es k) := ⟨srt_delL h.1 k, fun e he => h.2 e (List.mem_filter.1 he).1⟩
theorem ordM_of_srt {es : List Ent} (h : Srt es) (hn : ∀ e ∈ es, nm e.1 = true) : ordM es = true := ordM_of fun i hi => by
  rw [ordAt, kAt_eq es i hi, hn _ (List.getElem_mem hi), Bool.true_and]
  rcases Nat.eq_zero_or_pos i with h0 | h0
  · rw [decide_eq_true h0]; rfl
  · have h2 := (List.pairwise_iff_getElem.1 h) (i - 1) i (by omega) hi (by omega)
    rw [kAt_eq es (i - 1) (by omega), h2, Bool.or_true]
theorem Good.ok {es : List Ent} (h : Good es) (hl : es.length ≤ 12) : mapOK es = true :=
  mapOK_of hl fun i hi => by
    have he := h.2 _ (List.getElem_mem hi)
    refine ⟨ordM_at (ordM_of_srt h.1 fun e he => (keys8_ok (h.2 e he).1).1) hi, ?_⟩
    have e1 : valAt es i = valB es[i].2 := by simp [valAt, hi]
    rw [e1, valB, decide_eq_true (by omega), decide_eq_true (by omega)]; rfl
theorem Good.small {es : List Ent} (h : Good es) : ∀ e ∈ es, e.1.size ≤ maxLen := fun e he => by
  have := (keys8_ok (h.2 e he).1).2
  unfold maxLen; omega
/-- edits as the draws make them -/
def GoodE (xs : List Edt) : Prop := xs.Pairwise (fun a b => klt a.key b.key = true) ∧ ∀ e ∈ xs, e.key ∈ keys8 ∧ 0 ≤ e.val ∧ e.val < 9 ∧ (e.gone = true → e.val = 0)
theorem GoodE.nil : GoodE [] := ⟨List.Pairwise.nil, by simp⟩
theorem GoodE.small {xs : List Edt} (h : GoodE xs) : ∀ e ∈ xs, e.key.size ≤ maxLen := fun e he => by
  have := (keys8_ok (h.2 e he).1).2
  unfold maxLen; omega
theorem Good.apply : ∀ (xs : List Edt) {es : List Ent}, Good es → (∀ e ∈ xs, e.key ∈ keys8 ∧ 0 ≤ e.val ∧ e.val < 9) → Good (applyL es xs)
  | [], _, h, _ => h
  | e :: xs, es, h, hx => by
    show Good (applyL (applyOne es e) xs)
    refine Good.apply xs ?_ (fun x hx' => hx x (by simp [hx']))
    obtain ⟨h1, h2, h3⟩ := hx e (by simp)
    unfold applyOne
    split
    · exact h.del _
    · exact h.put h1 h2 h3
theorem Good.applyE {xs : List Edt} {es : List Ent} (h : Good es) (hx : GoodE xs) : Good (applyL es xs) := h.apply xs fun e he => ⟨(hx.2 e he).1, (hx.2 e he).2.1, (hx.2 e he).2.2.1⟩
end Go.Proofs.Ytjhimcddgkoghaa.AM
namespace Go.Proofs.Ytjhimcddgkoghaa
open Go.RowKit

set_option maxHeartbeats 4000000 in
set_option maxRecDepth 100000 in
theorem l01Edits_any (A : Option Addr) (n c : Nat) (es : List Edt) (w : World) (hr : Rd w 3 A n (edtsC es)) (hm : n ≤ maxLen) (hks : ∀ e ∈ es, e.key.size ≤ maxLen) :
    Calls Try.prog 131 #[.slice A n c] w fun e w' => e = .returned (.bool (editsOK es)) ∧ Below w.heap.size w w' := by
  unfold maxLen at hm
  have hlen := hr.elen
  have Hlen := Lib.hid hlen; clear hlen
  by_cases hbig : 6 < n
  · have hfin : Hid (editsOK es = false) := editsOK_long (by rw [Hlen.out]; exact hbig)
    go_enter Try.func131, Try.ntmps131
    go_wp2
    go_ret
    exact ⟨ret_bool hfin.out.symm, Below.refl _ _⟩
  have hn6 : n ≤ 6 := by omega
  clear hbig
  go_enter Try.func131, Try.ntmps131
  go_wp2
  go_loopw [3] (fun i wr => ∃ k : Nat, k ≤ n ∧ i = .int .i64 k ∧ (∀ j, j < k → ordAt (kv es) j = true ∧ edtAt es j = true) ∧ Below w.heap.size w wr) (fun i _ => n - (intOf i).toNat)
  case atStart => exact ⟨0, Nat.zero_le _, rfl, fun j hj => absurd hj (by omega), Below.refl _ _⟩
  case round =>
    obtain ⟨k, hk, rfl, hall, hb⟩ := hrel
    have Hall := Lib.hid hall; clear hall
    by_cases hlt : k < n
    · have hke : k < es.length := by rw [Hlen.out]; exact hlt
      obtain ⟨b, off, rfl, hbl, hbl2, hc1, hc2, hc3⟩ := hr.edt hb hke
      have hsz := hks _ (List.getElem_mem hke)
      have hnoO := ordE_no es k hke
      have hE := edtAt_eq es k hke
      have hz0 : k = 0 → nm es[k].key = true → ordAt (kv es) k = true := by rintro rfl h; exact ordE_zero es hke h
      have hp0 : (h : 0 < k) → nm es[k].key = true → ordAt (kv es) k = klt (es[k - 1]'(by omega)).key es[k].key := fun h h2 => ordE_pos es k h hke h2
      generalize es[k] = ek at *
      obtain ⟨k1, v1, g1⟩ := ek
      simp only at hc1 hc2 hc3 hsz hnoO hE hz0 hp0
      have hcall := fun W => l00Word_any k1 W hsz
      have hcall2 := fun W => l01In_any v1 (-1000000) 1000000 W
      change ∀ W, Calls _ _ _ W fun e w' => e = .returned (.bool (nm k1)) ∧ W = w' at hcall
      change ∀ W, Calls _ _ _ W fun e w' => e = .returned (.bool (valB v1)) ∧ W = w' at hcall2
      cases hw : nm k1 with
      | false =>
        have hfin : Hid (editsOK es = false) := editsOK_noOrd hke (hnoO hw)
        rw [hw] at hcall
        have Hcall := Lib.hid hcall
        clear hw hcall hcall2 hE hnoO hz0 hp0
        go_wp2
        have hcL0 : (wr.alloc (Obj.cells #[Value.string k1, Value.int IntKind.i64 v1, Value.bool g1] 117)).cell? ⟨wr.heap.size, 0, none⟩ = some (.string k1) := cell_of_row _ _ _ _ _ (0, 0) (heap_alloc_new wr _)
        have hcL1 : (wr.alloc (Obj.cells #[Value.string k1, Value.int IntKind.i64 v1, Value.bool g1] 117)).cell? ⟨wr.heap.size, 1, none⟩ = some (.int .i64 v1) := cell_of_row _ _ _ _ _ (0, 0) (heap_alloc_new wr _)
        have hcL2 : (wr.alloc (Obj.cells #[Value.string k1, Value.int IntKind.i64 v1, Value.bool g1] 117)).cell? ⟨wr.heap.size, 2, none⟩ = some (.bool g1) := cell_of_row _ _ _ _ _ (0, 0) (heap_alloc_new wr _)
        have hpl : wr.heap.size < (wr.alloc (Obj.cells #[Value.string k1, Value.int IntKind.i64 v1, Value.bool g1] 117)).heap.size := by simp
        have hb2 : Below w.heap.size w (wr.alloc (Obj.cells #[Value.string k1, Value.int IntKind.i64 v1, Value.bool g1] 117)) := hb.alloc hb.size _
        generalize wr.alloc (Obj.cells #[Value.string k1, Value.int IntKind.i64 v1, Value.bool g1] 117) = w2 at *
        generalize wr.heap.size = p at *
        have hA0 := fun y : Aft w2 => y.cell hpl hcL0
        have hA1 := fun y : Aft w2 => y.cell hpl hcL1
        have hA2 := fun y : Aft w2 => y.cell hpl hcL2
        refine wp_region_after (by kernel_rfl) (by kernel_rfl) ?_
        repeat (go_big_quiet_step ((first | (go_at_call 154; exact Aft.same (Hcall.out _)))))
        refine wpQuiet_nil ?_
        rintro _ ⟨y, rfl⟩
        have hb3 := keepS hb2 y.below
        generalize y.at_ = w3 at *
        go_wp2
        go_ret
        exact ⟨ret_bool hfin.out.symm, hb3⟩
      | true =>
      cases hv : valB v1 with
      | false =>
        have hfin : Hid (editsOK es = false) := editsOK_noEdt hke (by rw [hE, hv]; rfl)
        rw [hw] at hcall
        rw [hv] at hcall2
        have Hcall := Lib.hid hcall
        have Hcall2 := Lib.hid hcall2
        clear hw hv hcall hcall2 hE hnoO hz0 hp0
        go_wp2
        have hcL0 : (wr.alloc (Obj.cells #[Value.string k1, Value.int IntKind.i64 v1, Value.bool g1] 117)).cell? ⟨wr.heap.size, 0, none⟩ = some (.string k1) := cell_of_row _ _ _ _ _ (0, 0) (heap_alloc_new wr _)
        have hcL1 : (wr.alloc (Obj.cells #[Value.string k1, Value.int IntKind.i64 v1, Value.bool g1] 117)).cell? ⟨wr.heap.size, 1, none⟩ = some (.int .i64 v1) := cell_of_row _ _ _ _ _ (0, 0) (heap_alloc_new wr _)
        have hcL2 : (wr.alloc (Obj.cells #[Value.string k1, Value.int IntKind.i64 v1, Value.bool g1] 117)).cell? ⟨wr.heap.size, 2, none⟩ = some (.bool g1) := cell_of_row _ _ _ _ _ (0, 0) (heap_alloc_new wr _)
        have hpl : wr.heap.size < (wr.alloc (Obj.cells #[Value.string k1, Value.int IntKind.i64 v1, Value.bool g1] 117)).heap.size := by simp
        have hb2 : Below w.heap.size w (wr.alloc (Obj.cells #[Value.string k1, Value.int IntKind.i64 v1, Value.bool g1] 117)) := hb.alloc hb.size _
        generalize wr.alloc (Obj.cells #[Value.string k1, Value.int IntKind.i64 v1, Value.bool g1] 117) = w2 at *
        generalize wr.heap.size = p at *
        have hA0 := fun y : Aft w2 => y.cell hpl hcL0
        have hA1 := fun y : Aft w2 => y.cell hpl hcL1
        have hA2 := fun y : Aft w2 => y.cell hpl hcL2
        refine wp_region_after (by kernel_rfl) (by kernel_rfl) ?_
        repeat (go_big_quiet_step ((first | (go_at_call 154; exact Aft.same (Hcall.out _)) | (go_at_call 155; exact Aft.same (Hcall2.out _)))))
        refine wpQuiet_nil ?_
        rintro _ ⟨y, rfl⟩
        have hb3 := keepS hb2 y.below
        generalize y.at_ = w3 at *
        go_wp2
        go_ret
        exact ⟨ret_bool hfin.out.symm, hb3⟩
      | true =>
      rw [hw] at hcall
      rw [hv] at hcall2
      rcases gone_three g1 v1 with ⟨rfl, hne⟩ | hgood
      · have hfin : Hid (editsOK es = false) := editsOK_noEdt hke (by rw [hE, hv, decide_eq_false hne]; rfl)
        have hne2 : (v1 != 0) = true := by simpa using hne
        have Hcall := Lib.hid hcall
        have Hcall2 := Lib.hid hcall2
        clear hw hv hcall hcall2 hE hnoO hz0 hp0
        go_wp2
        have hcL0 : (wr.alloc (Obj.cells #[Value.string k1, Value.int IntKind.i64 v1, Value.bool true] 117)).cell? ⟨wr.heap.size, 0, none⟩ = some (.string k1) := cell_of_row _ _ _ _ _ (0, 0) (heap_alloc_new wr _)
        have hcL1 : (wr.alloc (Obj.cells #[Value.string k1, Value.int IntKind.i64 v1, Value.bool true] 117)).cell? ⟨wr.heap.size, 1, none⟩ = some (.int .i64 v1) := cell_of_row _ _ _ _ _ (0, 0) (heap_alloc_new wr _)
        have hcL2 : (wr.alloc (Obj.cells #[Value.string k1, Value.int IntKind.i64 v1, Value.bool true] 117)).cell? ⟨wr.heap.size, 2, none⟩ = some (.bool true) := cell_of_row _ _ _ _ _ (0, 0) (heap_alloc_new wr _)
        have hpl : wr.heap.size < (wr.alloc (Obj.cells #[Value.string k1, Value.int IntKind.i64 v1, Value.bool true] 117)).heap.size := by simp
        have hb2 : Below w.heap.size w (wr.alloc (Obj.cells #[Value.string k1, Value.int IntKind.i64 v1, Value.bool true] 117)) := hb.alloc hb.size _
        generalize wr.alloc (Obj.cells #[Value.string k1, Value.int IntKind.i64 v1, Value.bool true] 117) = w2 at *
        generalize wr.heap.size = p at *
        have hA0 := fun y : Aft w2 => y.cell hpl hcL0
        have hA1 := fun y : Aft w2 => y.cell hpl hcL1
        have hA2 := fun y : Aft w2 => y.cell hpl hcL2
        refine wp_region_after (by kernel_rfl) (by kernel_rfl) ?_
        repeat (go_big_quiet_step ((first | (go_at_call 154; exact Aft.same (Hcall.out _)) | (go_at_call 155; exact Aft.same (Hcall2.out _)))))
        refine wpQuiet_nil ?_
        rintro _ ⟨y, rfl⟩
        have hb3 := keepS hb2 y.below
        generalize y.at_ = w3 at *
        go_wp2
        go_ret
        exact ⟨ret_bool hfin.out.symm, hb3⟩
      have hE1 : Hid (edtAt es k = true) := by
        rcases hgood with rfl | ⟨rfl, rfl⟩
        · show edtAt es k = true; rw [hE, hv]; rfl
        · show edtAt es k = true; rw [hE, hv]; rfl
      clear hE hv hnoO
      by_cases hk0 : k = 0
      · have ho := hz0 hk0 hw
        subst hk0
        have hstep : Hid (∀ j, j < 0 + 1 → ordAt (kv es) j = true ∧ edtAt es j = true) := fun j hj => by
          have : j = 0 := by omega
          subst this; exact ⟨ho, hE1.out⟩
        simp only [Nat.zero_mul, Nat.add_zero] at hc1 hc2 hc3
        clear hz0 hp0 ho hw
        rcases hgood with rfl | ⟨rfl, rfl⟩
        · have Hcall := Lib.hid hcall
          have Hcall2 := Lib.hid hcall2
          clear hcall hcall2
          go_wp2
          have hcL0 : (wr.alloc (Obj.cells #[Value.string k1, Value.int IntKind.i64 v1, Value.bool false] 117)).cell? ⟨wr.heap.size, 0, none⟩ = some (.string k1) := cell_of_row _ _ _ _ _ (0, 0) (heap_alloc_new wr _)
          have hcL1 : (wr.alloc (Obj.cells #[Value.string k1, Value.int IntKind.i64 v1, Value.bool false] 117)).cell? ⟨wr.heap.size, 1, none⟩ = some (.int .i64 v1) := cell_of_row _ _ _ _ _ (0, 0) (heap_alloc_new wr _)
          have hcL2 : (wr.alloc (Obj.cells #[Value.string k1, Value.int IntKind.i64 v1, Value.bool false] 117)).cell? ⟨wr.heap.size, 2, none⟩ = some (.bool false) := cell_of_row _ _ _ _ _ (0, 0) (heap_alloc_new wr _)
          have hpl : wr.heap.size < (wr.alloc (Obj.cells #[Value.string k1, Value.int IntKind.i64 v1, Value.bool false] 117)).heap.size := by simp
          have hb2 : Below w.heap.size w (wr.alloc (Obj.cells #[Value.string k1, Value.int IntKind.i64 v1, Value.bool false] 117)) := hb.alloc hb.size _
          generalize wr.alloc (Obj.cells #[Value.string k1, Value.int IntKind.i64 v1, Value.bool false] 117) = w2 at *
          generalize wr.heap.size = p at *
          have hA0 := fun y : Aft w2 => y.cell hpl hcL0
          have hA1 := fun y : Aft w2 => y.cell hpl hcL1
          have hA2 := fun y : Aft w2 => y.cell hpl hcL2
          refine wp_region_after (by kernel_rfl) (by kernel_rfl) ?_
          repeat (go_big_quiet_step ((first | (go_at_call 154; exact Aft.same (Hcall.out _)) | (go_at_call 155; exact Aft.same (Hcall2.out _)))))
          refine wpQuiet_nil ?_
          rintro _ ⟨y, rfl⟩
          have hb3 := keepS hb2 y.below
          generalize y.at_ = w3 at *
          go_wp2
          go_roundw
          case rel => exact ⟨0 + 1, by omega, by go_num, hstep.out, hb3⟩
          case measure => simp [intOf]; omega
        · have Hcall := Lib.hid hcall
          have Hcall2 := Lib.hid hcall2
          clear hcall hcall2
          go_wp2
          have hcL0 : (wr.alloc (Obj.cells #[Value.string k1, Value.int IntKind.i64 0, Value.bool true] 117)).cell? ⟨wr.heap.size, 0, none⟩ = some (.string k1) := cell_of_row _ _ _ _ _ (0, 0) (heap_alloc_new wr _)
          have hcL1 : (wr.alloc (Obj.cells #[Value.string k1, Value.int IntKind.i64 0, Value.bool true] 117)).cell? ⟨wr.heap.size, 1, none⟩ = some (.int .i64 0) := cell_of_row _ _ _ _ _ (0, 0) (heap_alloc_new wr _)
          have hcL2 : (wr.alloc (Obj.cells #[Value.string k1, Value.int IntKind.i64 0, Value.bool true] 117)).cell? ⟨wr.heap.size, 2, none⟩ = some (.bool true) := cell_of_row _ _ _ _ _ (0, 0) (heap_alloc_new wr _)
          have hpl : wr.heap.size < (wr.alloc (Obj.cells #[Value.string k1, Value.int IntKind.i64 0, Value.bool true] 117)).heap.size := by simp
          have hb2 : Below w.heap.size w (wr.alloc (Obj.cells #[Value.string k1, Value.int IntKind.i64 0, Value.bool true] 117)) := hb.alloc hb.size _
          generalize wr.alloc (Obj.cells #[Value.string k1, Value.int IntKind.i64 0, Value.bool true] 117) = w2 at *
          generalize wr.heap.size = p at *
          have hA0 := fun y : Aft w2 => y.cell hpl hcL0
          have hA1 := fun y : Aft w2 => y.cell hpl hcL1
          have hA2 := fun y : Aft w2 => y.cell hpl hcL2
          refine wp_region_after (by kernel_rfl) (by kernel_rfl) ?_
          repeat (go_big_quiet_step ((first | (go_at_call 154; exact Aft.same (Hcall.out _)) | (go_at_call 155; exact Aft.same (Hcall2.out _)))))
          refine wpQuiet_nil ?_
          rintro _ ⟨y, rfl⟩
          have hb3 := keepS hb2 y.below
          generalize y.at_ = w3 at *
          go_wp2
          go_roundw
          case rel => exact ⟨0 + 1, by omega, by go_num, hstep.out, hb3⟩
          case measure => simp [intOf]; omega
      · have hkp : 0 < k := by omega
        have hor := hp0 hkp hw
        have ht : (Op.bytesLess k1.toList (es[k - 1]'(by omega)).key.toList || k1.toList == (es[k - 1]'(by omega)).key.toList) = !ordAt (kv es) k := by rw [kle_eq, hor]
        have hi0 : 0 ≤ (k : Int) - 1 := by omega
        have hi1 : ((k : Int) - 1).toNat = k - 1 := by omega
        have hi2 : (0 : Int) < (k : Int) := by omega
        clear hk0 hor hw hz0 hp0
        cases ho : ordAt (kv es) k with
        | false =>
          have hfin : Hid (editsOK es = false) := editsOK_noOrd hke ho
          rw [ho] at ht
          clear ho
          rcases hgood with rfl | ⟨rfl, rfl⟩
          · have Hcall := Lib.hid hcall
            have Hcall2 := Lib.hid hcall2
            clear hcall hcall2
            go_wp2
            have hcL0 : (wr.alloc (Obj.cells #[Value.string k1, Value.int IntKind.i64 v1, Value.bool false] 117)).cell? ⟨wr.heap.size, 0, none⟩ = some (.string k1) := cell_of_row _ _ _ _ _ (0, 0) (heap_alloc_new wr _)
            have hcL1 : (wr.alloc (Obj.cells #[Value.string k1, Value.int IntKind.i64 v1, Value.bool false] 117)).cell? ⟨wr.heap.size, 1, none⟩ = some (.int .i64 v1) := cell_of_row _ _ _ _ _ (0, 0) (heap_alloc_new wr _)
            have hcL2 : (wr.alloc (Obj.cells #[Value.string k1, Value.int IntKind.i64 v1, Value.bool false] 117)).cell? ⟨wr.heap.size, 2, none⟩ = some (.bool false) := cell_of_row _ _ _ _ _ (0, 0) (heap_alloc_new wr _)
            have hpl : wr.heap.size < (wr.alloc (Obj.cells #[Value.string k1, Value.int IntKind.i64 v1, Value.bool false] 117)).heap.size := by simp
            have hb2 : Below w.heap.size w (wr.alloc (Obj.cells #[Value.string k1, Value.int IntKind.i64 v1, Value.bool false] 117)) := hb.alloc hb.size _
            obtain ⟨b', off', he, _, _, hc4, _, _⟩ := hr.edt hb2 (show k - 1 < es.length by omega)
            obtain ⟨rfl, rfl⟩ : b = b' ∧ off = off' := by simpa using he
            have hbl4 := Nat.lt_of_lt_of_le hbl hb2.size
            generalize wr.alloc (Obj.cells #[Value.string k1, Value.int IntKind.i64 v1, Value.bool false] 117) = w2 at *
            generalize wr.heap.size = p at *
            have hA0 := fun y : Aft w2 => y.cell hpl hcL0
            have hA1 := fun y : Aft w2 => y.cell hpl hcL1
            have hA2 := fun y : Aft w2 => y.cell hpl hcL2
            have hA4 := fun y : Aft w2 => y.cell hbl4 hc4
            refine wp_region_after (by kernel_rfl) (by kernel_rfl) ?_
            repeat (go_big_quiet_step ((first | (go_at_call 154; exact Aft.same (Hcall.out _)) | (go_at_call 155; exact Aft.same (Hcall2.out _)))))
            refine wpQuiet_nil ?_
            rintro _ ⟨y, rfl⟩
            have hb3 := keepS hb2 y.below
            generalize y.at_ = w3 at *
            go_wp2
            go_ret
            exact ⟨ret_bool hfin.out.symm, hb3⟩
          · have Hcall := Lib.hid hcall
            have Hcall2 := Lib.hid hcall2
            clear hcall hcall2
            go_wp2
            have hcL0 : (wr.alloc (Obj.cells #[Value.string k1, Value.int IntKind.i64 0, Value.bool true] 117)).cell? ⟨wr.heap.size, 0, none⟩ = some (.string k1) := cell_of_row _ _ _ _ _ (0, 0) (heap_alloc_new wr _)
            have hcL1 : (wr.alloc (Obj.cells #[Value.string k1, Value.int IntKind.i64 0, Value.bool true] 117)).cell? ⟨wr.heap.size, 1, none⟩ = some (.int .i64 0) := cell_of_row _ _ _ _ _ (0, 0) (heap_alloc_new wr _)
            have hcL2 : (wr.alloc (Obj.cells #[Value.string k1, Value.int IntKind.i64 0, Value.bool true] 117)).cell? ⟨wr.heap.size, 2, none⟩ = some (.bool true) := cell_of_row _ _ _ _ _ (0, 0) (heap_alloc_new wr _)
            have hpl : wr.heap.size < (wr.alloc (Obj.cells #[Value.string k1, Value.int IntKind.i64 0, Value.bool true] 117)).heap.size := by simp
            have hb2 : Below w.heap.size w (wr.alloc (Obj.cells #[Value.string k1, Value.int IntKind.i64 0, Value.bool true] 117)) := hb.alloc hb.size _
            obtain ⟨b', off', he, _, _, hc4, _, _⟩ := hr.edt hb2 (show k - 1 < es.length by omega)
            obtain ⟨rfl, rfl⟩ : b = b' ∧ off = off' := by simpa using he
            have hbl4 := Nat.lt_of_lt_of_le hbl hb2.size
            generalize wr.alloc (Obj.cells #[Value.string k1, Value.int IntKind.i64 0, Value.bool true] 117) = w2 at *
            generalize wr.heap.size = p at *
            have hA0 := fun y : Aft w2 => y.cell hpl hcL0
            have hA1 := fun y : Aft w2 => y.cell hpl hcL1
            have hA2 := fun y : Aft w2 => y.cell hpl hcL2
            have hA4 := fun y : Aft w2 => y.cell hbl4 hc4
            refine wp_region_after (by kernel_rfl) (by kernel_rfl) ?_
            repeat (go_big_quiet_step ((first | (go_at_call 154; exact Aft.same (Hcall.out _)) | (go_at_call 155; exact Aft.same (Hcall2.out _)))))
            refine wpQuiet_nil ?_
            rintro _ ⟨y, rfl⟩
            have hb3 := keepS hb2 y.below
            generalize y.at_ = w3 at *
            go_wp2
            go_ret
            exact ⟨ret_bool hfin.out.symm, hb3⟩
        | true =>
          have hstep : Hid (∀ j, j < k + 1 → ordAt (kv es) j = true ∧ edtAt es j = true) := fun j hj => by
            rcases Nat.lt_or_ge j k with h | h
            · exact Hall.out j h
            · have : j = k := by omega
              subst this; exact ⟨ho, hE1.out⟩
          rw [ho] at ht
          clear ho
          rcases hgood with rfl | ⟨rfl, rfl⟩
          · have Hcall := Lib.hid hcall
            have Hcall2 := Lib.hid hcall2
            clear hcall hcall2
            go_wp2
            have hcL0 : (wr.alloc (Obj.cells #[Value.string k1, Value.int IntKind.i64 v1, Value.bool false] 117)).cell? ⟨wr.heap.size, 0, none⟩ = some (.string k1) := cell_of_row _ _ _ _ _ (0, 0) (heap_alloc_new wr _)
            have hcL1 : (wr.alloc (Obj.cells #[Value.string k1, Value.int IntKind.i64 v1, Value.bool false] 117)).cell? ⟨wr.heap.size, 1, none⟩ = some (.int .i64 v1) := cell_of_row _ _ _ _ _ (0, 0) (heap_alloc_new wr _)
            have hcL2 : (wr.alloc (Obj.cells #[Value.string k1, Value.int IntKind.i64 v1, Value.bool false] 117)).cell? ⟨wr.heap.size, 2, none⟩ = some (.bool false) := cell_of_row _ _ _ _ _ (0, 0) (heap_alloc_new wr _)
            have hpl : wr.heap.size < (wr.alloc (Obj.cells #[Value.string k1, Value.int IntKind.i64 v1, Value.bool false] 117)).heap.size := by simp
            have hb2 : Below w.heap.size w (wr.alloc (Obj.cells #[Value.string k1, Value.int IntKind.i64 v1, Value.bool false] 117)) := hb.alloc hb.size _
            obtain ⟨b', off', he, _, _, hc4, _, _⟩ := hr.edt hb2 (show k - 1 < es.length by omega)
            obtain ⟨rfl, rfl⟩ : b = b' ∧ off = off' := by simpa using he
            have hbl4 := Nat.lt_of_lt_of_le hbl hb2.size
            generalize wr.alloc (Obj.cells #[Value.string k1, Value.int IntKind.i64 v1, Value.bool false] 117) = w2 at *
            generalize wr.heap.size = p at *
            have hA0 := fun y : Aft w2 => y.cell hpl hcL0
            have hA1 := fun y : Aft w2 => y.cell hpl hcL1
            have hA2 := fun y : Aft w2 => y.cell hpl hcL2
            have hA4 := fun y : Aft w2 => y.cell hbl4 hc4
            refine wp_region_after (by kernel_rfl) (by kernel_rfl) ?_
            repeat (go_big_quiet_step ((first | (go_at_call 154; exact Aft.same (Hcall.out _)) | (go_at_call 155; exact Aft.same (Hcall2.out _)))))
            refine wpQuiet_nil ?_
            rintro _ ⟨y, rfl⟩
            have hb3 := keepS hb2 y.below
            generalize y.at_ = w3 at *
            go_wp2
            go_roundw
            case rel => exact ⟨k + 1, by omega, by go_num, hstep.out, hb3⟩
            case measure => simp [intOf]; omega
          · have Hcall := Lib.hid hcall
            have Hcall2 := Lib.hid hcall2
            clear hcall hcall2
            go_wp2
            have hcL0 : (wr.alloc (Obj.cells #[Value.string k1, Value.int IntKind.i64 0, Value.bool true] 117)).cell? ⟨wr.heap.size, 0, none⟩ = some (.string k1) := cell_of_row _ _ _ _ _ (0, 0) (heap_alloc_new wr _)
            have hcL1 : (wr.alloc (Obj.cells #[Value.string k1, Value.int IntKind.i64 0, Value.bool true] 117)).cell? ⟨wr.heap.size, 1, none⟩ = some (.int .i64 0) := cell_of_row _ _ _ _ _ (0, 0) (heap_alloc_new wr _)
            have hcL2 : (wr.alloc (Obj.cells #[Value.string k1, Value.int IntKind.i64 0, Value.bool true] 117)).cell? ⟨wr.heap.size, 2, none⟩ = some (.bool true) := cell_of_row _ _ _ _ _ (0, 0) (heap_alloc_new wr _)
            have hpl : wr.heap.size < (wr.alloc (Obj.cells #[Value.string k1, Value.int IntKind.i64 0, Value.bool true] 117)).heap.size := by simp
            have hb2 : Below w.heap.size w (wr.alloc (Obj.cells #[Value.string k1, Value.int IntKind.i64 0, Value.bool true] 117)) := hb.alloc hb.size _
            obtain ⟨b', off', he, _, _, hc4, _, _⟩ := hr.edt hb2 (show k - 1 < es.length by omega)
            obtain ⟨rfl, rfl⟩ : b = b' ∧ off = off' := by simpa using he
            have hbl4 := Nat.lt_of_lt_of_le hbl hb2.size
            generalize wr.alloc (Obj.cells #[Value.string k1, Value.int IntKind.i64 0, Value.bool true] 117) = w2 at *
            generalize wr.heap.size = p at *
            have hA0 := fun y : Aft w2 => y.cell hpl hcL0
            have hA1 := fun y : Aft w2 => y.cell hpl hcL1
            have hA2 := fun y : Aft w2 => y.cell hpl hcL2
            have hA4 := fun y : Aft w2 => y.cell hbl4 hc4
            refine wp_region_after (by kernel_rfl) (by kernel_rfl) ?_
            repeat (go_big_quiet_step ((first | (go_at_call 154; exact Aft.same (Hcall.out _)) | (go_at_call 155; exact Aft.same (Hcall2.out _)))))
            refine wpQuiet_nil ?_
            rintro _ ⟨y, rfl⟩
            have hb3 := keepS hb2 y.below
            generalize y.at_ = w3 at *
            go_wp2
            go_roundw
            case rel => exact ⟨k + 1, by omega, by go_num, hstep.out, hb3⟩
            case measure => simp [intOf]; omega
    · have hfin : Hid (editsOK es = true) := editsOK_of (by rw [Hlen.out]; exact hn6) (fun i hi => Hall.out i (by rw [Hlen.out] at hi; omega))
      go_wp2
      go_ret
      exact ⟨ret_bool hfin.out.symm, hb⟩

end Go.Proofs.Ytjhimcddgkoghaa
namespace Go.Proofs.Ytjhimcddgkoghaa
open Go.RowKit

theorem method_keyE (a : ByteArray) (x : Int) (g : Bool) (w : World) : (method 418 117 (.agg #[.string a, .int .i64 x, .bool g]) "loop.example/g00737/impl.key").run Try.prog w = .ok (288, .agg #[.string a, .int .i64 x, .bool g]) w := by kernel_rfl
theorem keyOfE_any (key : ByteArray) (v : Int) (g : Bool) (w : World) :
    Calls Try.prog 288 #[.agg #[.string key, .int .i64 v, .bool g]] w fun e w' => e = .returned (.string key) ∧ Below w.heap.size w w' := by
  go_enter Try.func288, Try.ntmps288
  go_wp2
  go_ret
  exact ⟨rfl, (Below.refl _ _).alloc (Nat.le_refl _) _⟩
theorem nameOK_edt (es : List Edt) (k : Nat) (hke : k < es.length) (hs : es[k].key.size ≤ maxLen) (W : World) :
    Calls Try.prog 109 #[.string es[k].key] W fun e w' => e = .returned (.bool (nm es[k].key)) ∧ W = w' := nameOK_any _ W hs
set_option maxHeartbeats 2000000 in
set_option maxRecDepth 100000 in
theorem inOrderE_any (A : Option Addr) (n c : Nat) (es : List Edt) (w : World) (hr : Rd w 3 A n (edtsC es)) (hm : n ≤ maxLen) (hks : ∀ e ∈ es, e.key.size ≤ maxLen) :
    Calls Try.prog 172 #[.slice A n c] w fun e w' => e = .returned (.bool (ordM (kv es))) ∧ Below w.heap.size w w' := by
  unfold maxLen at hm
  have hlen := hr.elen
  have Hlen := Lib.hid hlen; clear hlen
  have hmeth := method_keyE
  go_enter Try.func172, Try.ntmps172
  go_wp2
  go_loopw [3, 7] (fun _ i wr => ∃ k : Nat, k ≤ n ∧ i = .int .i64 k ∧ (∀ j, j < k → ordAt (kv es) j = true) ∧ Below w.heap.size w wr) (fun _ i _ => n - (intOf i).toNat)
  case atStart => exact ⟨0, Nat.zero_le _, rfl, fun j hj => absurd hj (by omega), Below.refl _ _⟩
  case round =>
    obtain ⟨k, hk, rfl, hall, hb⟩ := hrel
    have Hall := Lib.hid hall; clear hall
    by_cases hlt : k < n
    · have hke : k < es.length := by rw [Hlen.out]; exact hlt
      obtain ⟨b, off, rfl, hbl, hbl2, hc1, hc2, hc5⟩ := hr.edt hb hke
      have hcall := nameOK_edt es k hke (hks _ (List.getElem_mem hke))
      cases hw : nm es[k].key with
      | false =>
        have hfin : Hid (ordM (kv es) = false) := ordM_not (by rw [kv_length]; exact hke) (ordE_no es k hke hw)
        rw [hw] at hcall
        have Hcall := Lib.hid hcall
        clear hw hcall
        go_wp2
        have hcL0 : (wr.alloc (Obj.cells #[Value.string es[k].key, Value.int IntKind.i64 es[k].val, Value.bool es[k].gone] 117)).cell? ⟨wr.heap.size, 0, none⟩ = some (.string es[k].key) := cell_of_row _ _ _ _ _ (0, 0) (heap_alloc_new wr _)
        have hcL1 : (wr.alloc (Obj.cells #[Value.string es[k].key, Value.int IntKind.i64 es[k].val, Value.bool es[k].gone] 117)).cell? ⟨wr.heap.size, 1, none⟩ = some (.int .i64 es[k].val) := cell_of_row _ _ _ _ _ (0, 0) (heap_alloc_new wr _)
        have hcL2 : (wr.alloc (Obj.cells #[Value.string es[k].key, Value.int IntKind.i64 es[k].val, Value.bool es[k].gone] 117)).cell? ⟨wr.heap.size, 2, none⟩ = some (.bool es[k].gone) := cell_of_row _ _ _ _ _ (0, 0) (heap_alloc_new wr _)
        have hpl : wr.heap.size < (wr.alloc (Obj.cells #[Value.string es[k].key, Value.int IntKind.i64 es[k].val, Value.bool es[k].gone] 117)).heap.size := by simp
        have hb2 : Below w.heap.size w (wr.alloc (Obj.cells #[Value.string es[k].key, Value.int IntKind.i64 es[k].val, Value.bool es[k].gone] 117)) := hb.alloc hb.size _
        generalize wr.alloc (Obj.cells #[Value.string es[k].key, Value.int IntKind.i64 es[k].val, Value.bool es[k].gone] 117) = w2 at *
        generalize wr.heap.size = p at *
        have hA0 := fun y : Aft w2 => y.cell hpl hcL0
        have hA1 := fun y : Aft w2 => y.cell hpl hcL1
        have hA2 := fun y : Aft w2 => y.cell hpl hcL2
        refine wp_region_after (by kernel_rfl) (by kernel_rfl) ?_
        repeat (go_big_quiet_step ((first | (go_at_call 288; exact Aft.call (keyOfE_any _ _ _ _)) | (go_at_call 109; exact Aft.same (Hcall.out _)))))
        refine wpQuiet_nil ?_
        rintro _ ⟨y, rfl⟩
        have hb3 := keepS hb2 y.below
        generalize y.at_ = w3 at *
        go_wp2
        go_ret
        exact ⟨ret_bool hfin.out.symm, hb3⟩
      | true =>
      rw [hw] at hcall
      have Hcall := Lib.hid hcall
      clear hcall
      by_cases hk0 : k = 0
      · subst hk0
        have hstep : Hid (∀ j, j < 0 + 1 → ordAt (kv es) j = true) := fun j hj => by
          have : j = 0 := by omega
          subst this; exact ordE_zero es hke hw
        clear hw
        simp only [Nat.zero_mul, Nat.add_zero] at hc1 hc2 hc5
        go_wp2
        have hcL0 : (wr.alloc (Obj.cells #[Value.string es[0].key, Value.int IntKind.i64 es[0].val, Value.bool es[0].gone] 117)).cell? ⟨wr.heap.size, 0, none⟩ = some (.string es[0].key) := cell_of_row _ _ _ _ _ (0, 0) (heap_alloc_new wr _)
        have hcL1 : (wr.alloc (Obj.cells #[Value.string es[0].key, Value.int IntKind.i64 es[0].val, Value.bool es[0].gone] 117)).cell? ⟨wr.heap.size, 1, none⟩ = some (.int .i64 es[0].val) := cell_of_row _ _ _ _ _ (0, 0) (heap_alloc_new wr _)
        have hcL2 : (wr.alloc (Obj.cells #[Value.string es[0].key, Value.int IntKind.i64 es[0].val, Value.bool es[0].gone] 117)).cell? ⟨wr.heap.size, 2, none⟩ = some (.bool es[0].gone) := cell_of_row _ _ _ _ _ (0, 0) (heap_alloc_new wr _)
        have hpl : wr.heap.size < (wr.alloc (Obj.cells #[Value.string es[0].key, Value.int IntKind.i64 es[0].val, Value.bool es[0].gone] 117)).heap.size := by simp
        have hb2 : Below w.heap.size w (wr.alloc (Obj.cells #[Value.string es[0].key, Value.int IntKind.i64 es[0].val, Value.bool es[0].gone] 117)) := hb.alloc hb.size _
        generalize wr.alloc (Obj.cells #[Value.string es[0].key, Value.int IntKind.i64 es[0].val, Value.bool es[0].gone] 117) = w2 at *
        generalize wr.heap.size = p at *
        have hA0 := fun y : Aft w2 => y.cell hpl hcL0
        have hA1 := fun y : Aft w2 => y.cell hpl hcL1
        have hA2 := fun y : Aft w2 => y.cell hpl hcL2
        refine wp_region_after (by kernel_rfl) (by kernel_rfl) ?_
        repeat (go_big_quiet_step ((first | (go_at_call 288; exact Aft.call (keyOfE_any _ _ _ _)) | (go_at_call 109; exact Aft.same (Hcall.out _)))))
        refine wpQuiet_nil ?_
        rintro _ ⟨y, rfl⟩
        have hb3 := keepS hb2 y.below
        generalize y.at_ = w3 at *
        go_wp2
        go_roundw
        case rel => exact ⟨0 + 1, by omega, by go_num, hstep.out, hb3⟩
        case measure => simp [intOf]; omega
      · have hkp : 0 < k := by omega
        have hor := ordE_pos es k hkp hke hw
        have ht : (!(Op.bytesLess (es[k - 1]'(by omega)).key.toList es[k].key.toList)) = !ordAt (kv es) k := by rw [hor]; rfl
        have hi0 : 0 ≤ (k : Int) - 1 := by omega
        have hi1 : ((k : Int) - 1).toNat = k - 1 := by omega
        have hi2 : (0 : Int) < (k : Int) := by omega
        clear hk0 hor hw
        cases ho : ordAt (kv es) k with
        | false =>
          have hfin : Hid (ordM (kv es) = false) := ordM_not (by rw [kv_length]; exact hke) ho
          rw [ho] at ht
          clear ho
          go_wp2
          have hcL0 : (wr.alloc (Obj.cells #[Value.string es[k].key, Value.int IntKind.i64 es[k].val, Value.bool es[k].gone] 117)).cell? ⟨wr.heap.size, 0, none⟩ = some (.string es[k].key) := cell_of_row _ _ _ _ _ (0, 0) (heap_alloc_new wr _)
          have hcL1 : (wr.alloc (Obj.cells #[Value.string es[k].key, Value.int IntKind.i64 es[k].val, Value.bool es[k].gone] 117)).cell? ⟨wr.heap.size, 1, none⟩ = some (.int .i64 es[k].val) := cell_of_row _ _ _ _ _ (0, 0) (heap_alloc_new wr _)
          have hcL2 : (wr.alloc (Obj.cells #[Value.string es[k].key, Value.int IntKind.i64 es[k].val, Value.bool es[k].gone] 117)).cell? ⟨wr.heap.size, 2, none⟩ = some (.bool es[k].gone) := cell_of_row _ _ _ _ _ (0, 0) (heap_alloc_new wr _)
          have hpl : wr.heap.size < (wr.alloc (Obj.cells #[Value.string es[k].key, Value.int IntKind.i64 es[k].val, Value.bool es[k].gone] 117)).heap.size := by simp
          have hb2 : Below w.heap.size w (wr.alloc (Obj.cells #[Value.string es[k].key, Value.int IntKind.i64 es[k].val, Value.bool es[k].gone] 117)) := hb.alloc hb.size _
          obtain ⟨b', off', he, _, _, hc3, hc4, hc6⟩ := hr.edt hb2 (show k - 1 < es.length by omega)
          obtain ⟨rfl, rfl⟩ : b = b' ∧ off = off' := by simpa using he
          have hbl4 := Nat.lt_of_lt_of_le hbl hb2.size
          generalize wr.alloc (Obj.cells #[Value.string es[k].key, Value.int IntKind.i64 es[k].val, Value.bool es[k].gone] 117) = w2 at *
          generalize wr.heap.size = p at *
          have hA0 := fun y : Aft w2 => y.cell hpl hcL0
          have hA1 := fun y : Aft w2 => y.cell hpl hcL1
          have hA2 := fun y : Aft w2 => y.cell hpl hcL2
          have hA3 := fun y : Aft w2 => y.cell hbl4 hc3
          have hA4 := fun y : Aft w2 => y.cell hbl4 hc4
          have hA5 := fun y : Aft w2 => y.cell hbl4 hc6
          refine wp_region_after (by kernel_rfl) (by kernel_rfl) ?_
          repeat (go_big_quiet_step ((first | (go_at_call 288; exact Aft.call (keyOfE_any _ _ _ _)) | (go_at_call 109; exact Aft.same (Hcall.out _)))))
          refine wpQuiet_nil ?_
          rintro _ ⟨y, rfl⟩
          have hb3 := keepS hb2 y.below
          generalize y.at_ = w3 at *
          go_wp2
          go_ret
          exact ⟨ret_bool hfin.out.symm, hb3⟩
        | true =>
          have hstep : Hid (∀ j, j < k + 1 → ordAt (kv es) j = true) := fun j hj => by
            rcases Nat.lt_or_ge j k with h | h
            · exact Hall.out j h
            · have : j = k := by omega
              subst this; exact ho
          rw [ho] at ht
          clear ho
          go_wp2
          have hcL0 : (wr.alloc (Obj.cells #[Value.string es[k].key, Value.int IntKind.i64 es[k].val, Value.bool es[k].gone] 117)).cell? ⟨wr.heap.size, 0, none⟩ = some (.string es[k].key) := cell_of_row _ _ _ _ _ (0, 0) (heap_alloc_new wr _)
          have hcL1 : (wr.alloc (Obj.cells #[Value.string es[k].key, Value.int IntKind.i64 es[k].val, Value.bool es[k].gone] 117)).cell? ⟨wr.heap.size, 1, none⟩ = some (.int .i64 es[k].val) := cell_of_row _ _ _ _ _ (0, 0) (heap_alloc_new wr _)
          have hcL2 : (wr.alloc (Obj.cells #[Value.string es[k].key, Value.int IntKind.i64 es[k].val, Value.bool es[k].gone] 117)).cell? ⟨wr.heap.size, 2, none⟩ = some (.bool es[k].gone) := cell_of_row _ _ _ _ _ (0, 0) (heap_alloc_new wr _)
          have hpl : wr.heap.size < (wr.alloc (Obj.cells #[Value.string es[k].key, Value.int IntKind.i64 es[k].val, Value.bool es[k].gone] 117)).heap.size := by simp
          have hb2 : Below w.heap.size w (wr.alloc (Obj.cells #[Value.string es[k].key, Value.int IntKind.i64 es[k].val, Value.bool es[k].gone] 117)) := hb.alloc hb.size _
          obtain ⟨b', off', he, _, _, hc3, hc4, hc6⟩ := hr.edt hb2 (show k - 1 < es.length by omega)
          obtain ⟨rfl, rfl⟩ : b = b' ∧ off = off' := by simpa using he
          have hbl4 := Nat.lt_of_lt_of_le hbl hb2.size
          generalize wr.alloc (Obj.cells #[Value.string es[k].key, Value.int IntKind.i64 es[k].val, Value.bool es[k].gone] 117) = w2 at *
          generalize wr.heap.size = p at *
          have hA0 := fun y : Aft w2 => y.cell hpl hcL0
          have hA1 := fun y : Aft w2 => y.cell hpl hcL1
          have hA2 := fun y : Aft w2 => y.cell hpl hcL2
          have hA3 := fun y : Aft w2 => y.cell hbl4 hc3
          have hA4 := fun y : Aft w2 => y.cell hbl4 hc4
          have hA5 := fun y : Aft w2 => y.cell hbl4 hc6
          refine wp_region_after (by kernel_rfl) (by kernel_rfl) ?_
          repeat (go_big_quiet_step ((first | (go_at_call 288; exact Aft.call (keyOfE_any _ _ _ _)) | (go_at_call 109; exact Aft.same (Hcall.out _)))))
          refine wpQuiet_nil ?_
          rintro _ ⟨y, rfl⟩
          have hb3 := keepS hb2 y.below
          generalize y.at_ = w3 at *
          go_wp2
          go_roundw
          case rel => exact ⟨k + 1, by omega, by go_num, hstep.out, hb3⟩
          case measure => simp [intOf]; omega
    · have hfin : Hid (ordM (kv es) = true) := ordM_of (fun i hi => Hall.out i (by rw [kv_length, Hlen.out] at hi; omega))
      go_wp2
      go_ret
      exact ⟨ret_bool hfin.out.symm, hb⟩

set_option maxHeartbeats 2000000 in
set_option maxRecDepth 100000 in
theorem implEditsOK_any (A : Option Addr) (n c : Nat) (es : List Edt) (w : World) (hr : Rd w 3 A n (edtsC es)) (hm : n ≤ maxLen) (hks : ∀ e ∈ es, e.key.size ≤ maxLen) :
    Calls Try.prog 68 #[.slice A n c] w fun e w' => e = .returned (.bool (editsOK es)) ∧ Below w.heap.size w w' := by
  have hm' := hm
  unfold maxLen at hm
  have hlen := hr.elen
  have Hlen := Lib.hid hlen; clear hlen
  by_cases hbig : 6 < n
  · have hfin : Hid (editsOK es = false) := editsOK_long (by rw [Hlen.out]; exact hbig)
    go_enter Try.func68, Try.ntmps68
    go_wp2
    go_ret
    exact ⟨ret_bool hfin.out.symm, Below.refl _ _⟩
  have hn6 : n ≤ 6 := by omega
  clear hbig
  cases ho : ordM (kv es) with
  | false =>
    have hfin : Hid (editsOK es = false) := by show editsOK es = false; rw [editsOK, ho]; simp
    have hcall := inOrderE_any A n c es w hr hm' hks
    rw [ho] at hcall
    have Hcall := Lib.hid hcall
    clear ho hcall
    go_enter Try.func68, Try.ntmps68
    go_wp2_with (go_at_call 172; refine Hcall.out.mono ?_; rintro e w1 ⟨rfl, hb1⟩)
    go_ret
    exact ⟨ret_bool hfin.out.symm, hb1⟩
  | true =>
    have hcall := inOrderE_any A n c es w hr hm' hks
    rw [ho] at hcall
    have Hcall := Lib.hid hcall
    have Ho := Lib.hid ho
    clear ho hcall
    go_enter Try.func68, Try.ntmps68
    go_wp2_with (go_at_call 172; refine Hcall.out.mono ?_; rintro e w1 ⟨rfl, hb1⟩)
    go_loopw [15] (fun i wr => ∃ k : Nat, k ≤ n ∧ i = .int .i64 k ∧ (∀ j, j < k → edtAt es j = true) ∧ Below w.heap.size w wr) (fun i _ => n - (intOf i).toNat)
    case atStart => exact ⟨0, Nat.zero_le _, rfl, fun j hj => absurd hj (by omega), hb1⟩
    case round =>
      obtain ⟨k, hk, rfl, hall, hb⟩ := hrel
      have Hall := Lib.hid hall; clear hall
      by_cases hlt : k < n
      · have hke : k < es.length := by rw [Hlen.out]; exact hlt
        obtain ⟨b, off, rfl, hbl, hbl2, hc1, hc2, hc3⟩ := hr.edt hb hke
        have hE := edtAt_eq es k hke
        generalize es[k] = ek at *
        obtain ⟨k1, v1, g1⟩ := ek
        simp only at hc1 hc2 hc3 hE
        have hcall := fun W => valueOK_any v1 W
        change ∀ W, Calls _ _ _ W fun e w' => e = .returned (.bool (valB v1)) ∧ W = w' at hcall
        cases hv : valB v1 with
        | false =>
          have hfin : Hid (editsOK es = false) := editsOK_noEdt hke (by rw [hE, hv]; rfl)
          rw [hv] at hcall
          have Hcall := Lib.hid hcall
          clear hv hcall hE
          go_wp2_with (go_at_call 173; refine (Hcall.out _).mono ?_; rintro e w1 ⟨rfl, rfl⟩)
          go_ret
          exact ⟨ret_bool hfin.out.symm, hb.alloc hb.size _⟩
        | true =>
          rw [hv] at hcall
          rcases gone_three g1 v1 with ⟨rfl, hne⟩ | hgood
          · have hfin : Hid (editsOK es = false) := editsOK_noEdt hke (by rw [hE, hv, decide_eq_false hne]; rfl)
            have hne2 : (v1 != 0) = true := by simpa using hne
            have Hcall := Lib.hid hcall
            clear hv hcall hE
            go_wp2_with (go_at_call 173; refine (Hcall.out _).mono ?_; rintro e w1 ⟨rfl, rfl⟩)
            go_ret
            exact ⟨ret_bool hfin.out.symm, hb.alloc hb.size _⟩
          have hE1 : Hid (edtAt es k = true) := by
            rcases hgood with rfl | ⟨rfl, rfl⟩
            · show edtAt es k = true; rw [hE, hv]; rfl
            · show edtAt es k = true; rw [hE, hv]; rfl
          have hstep : Hid (∀ j, j < k + 1 → edtAt es j = true) := fun j hj => by
            rcases Nat.lt_or_ge j k with h | h
            · exact Hall.out j h
            · have : j = k := by omega
              subst this; exact hE1.out
          clear hE hv
          rcases hgood with rfl | ⟨rfl, rfl⟩
          · have Hcall := Lib.hid hcall
            clear hcall
            go_wp2_with (go_at_call 173; refine (Hcall.out _).mono ?_; rintro e w1 ⟨rfl, rfl⟩)
            go_roundw
            case rel => exact ⟨k + 1, by omega, by go_num, hstep.out, hb.alloc hb.size _⟩
            case measure => simp [intOf]; omega
          · have Hcall := Lib.hid hcall
            clear hcall
            go_wp2_with (go_at_call 173; refine (Hcall.out _).mono ?_; rintro e w1 ⟨rfl, rfl⟩)
            go_roundw
            case rel => exact ⟨k + 1, by omega, by go_num, hstep.out, hb.alloc hb.size _⟩
            case measure => simp [intOf]; omega
      · have hfin : Hid (editsOK es = true) := editsOK_of (by rw [Hlen.out]; exact hn6) (fun i hi => ⟨ordM_at Ho.out (by rw [kv_length]; exact hi), Hall.out i (by rw [Hlen.out] at hi; omega)⟩)
        go_wp2
        go_ret
        exact ⟨ret_bool hfin.out.symm, hb⟩

end Go.Proofs.Ytjhimcddgkoghaa
