/- Texts of the machine over data, folded. -/
import Derived.Test.YtmfmclnklpbiaaaGreatRows
import Derived.WalkKit
import Derived.WalkLawsBesides
import Derived.WalkSpells
import Derived.Lib.Hide
import Derived.Deep.QuietTactic
import Derived.BigQuiet
import Derived.Deep.Draws
import Derived.Deep.Slices
import Derived.Deep.Fields
import Derived.Deep.AppendLies
import Derived.ChangeSame
import Derived.StillTailTactics
import Derived.Laws.BytesArg
import Derived.Deep.RegionHeld3
import Derived.Laws.CopyOwn
namespace Go.Proofs.YtmfmclnklpbiaaaGreat
open Go.RowKit

theorem ret_bool {a b : Bool} (h : a = b) : Ending.returned (.bool a) = .returned (.bool b) := by rw [h]
theorem ret_int {k : IntKind} {a b : Int} (h : a = b) : Ending.returned (.int k a) = .returned (.int k b) := by rw [h]

theorem toList_inj {a b : ByteArray} (h : a.toList = b.toList) : a = b := by
  have e : a.data.toList = b.data.toList := by simpa [ByteArray.toList_eq] using h
  cases a; cases b; simp at e; simp [e]
theorem toList_beq (a b : ByteArray) : (a.toList == b.toList) = decide (a = b) := by
  rw [Bool.eq_iff_iff]; simp
  exact ⟨toList_inj, fun h => by rw [h]⟩

theorem _root_.Go.RowKit.Below.drewN {B : Nat} {a w : World} (h : Below B a w) (n : Nat) : Below B a (w.drewN n) := ⟨h.os, h.tape, h.output, h.size, h.block⟩
theorem keepS {w wx w1 : World} (hb : Below w.heap.size w wx) (h1 : Below wx.heap.size wx w1) : Below w.heap.size w w1 := hb.trans (h1.mono hb.size)
theorem keepH {w wx w1 : World} {p : Prop} (hb : Below w.heap.size w wx ∧ p) (h1 : Below wx.heap.size wx w1) : Below w.heap.size w w1 := keepS hb.1 h1
theorem cellS {w wx : World} {b o : Nat} {u : Value} (hb : Below w.heap.size w wx) (hl : b < w.heap.size) (h : w.cell? ⟨b, o, none⟩ = some u) : wx.cell? ⟨b, o, none⟩ = some u := (hb.cell (p := ⟨b, o, none⟩) hl).trans h
theorem cellW {w wx : World} {b o : Nat} {u : Value} (hb : Below w.heap.size w wx) (hl : b < w.heap.size) (h : wx.cell? ⟨b, o, none⟩ = some u) : w.cell? ⟨b, o, none⟩ = some u := (hb.cell (p := ⟨b, o, none⟩) hl).symm.trans h

/-! ### a region that draws its order, whose operations only read and whose callees make new memory alone: one walk in the text's order -/
/-- a world in which all that was there in w is as it was -/
structure Aft (w : World) where
  at_ : World
  below : Below w.heap.size w at_
instance Aft.some_ (w : World) : Nonempty (Aft w) := ⟨⟨w, Below.refl _ _⟩⟩
theorem wp_region_after {P : Program} {id : Nat} {Q : Exit → Act → World → Prop} {a : Act} {w : World} {l : List Oper} (hm : P.follows .mixedOrders = true) (hB : Region.lexB .any l.toArray = true)
    (h : wpQuiet P l.toArray (fun w' => ∃ y : Aft w, w' = y.at_) (fun a' => ∀ w', (∃ y : Aft w, w' = y.at_) → Q .normal a' w') l a) : (Code.region id l.toArray true).wp P Q a w :=
  wp_region_quiet (C := fun w' => ∃ y : Aft w, w' = y.at_) hm hB ⟨⟨_, (Below.refl w.heap.size w).drew⟩, rfl⟩ (by simpa using h)
theorem Aft.cell {w : World} {b o : Nat} {u : Value} (hl : b < w.heap.size) (h : w.cell? ⟨b, o, none⟩ = some u) (y : Aft w) : y.at_.cell? ⟨b, o, none⟩ = some u := cellS y.below hl h
theorem Aft.call {P : Program} {f : FuncId} {args : Array Value} {w : World} {y : Aft w} {v : Value} (h : Calls P f args y.at_ fun e w' => e = .returned v ∧ Below y.at_.heap.size y.at_ w') :
    Calls P f args y.at_ fun e w'' => e = .returned v ∧ ∃ y' : Aft w, w'' = y'.at_ :=
  h.mono fun _ _ ⟨he, hb⟩ => ⟨he, ⟨_, keepS y.below hb⟩, rfl⟩
theorem Aft.same {P : Program} {f : FuncId} {args : Array Value} {w : World} {y : Aft w} {v : Value} (h : Calls P f args y.at_ fun e w' => e = .returned v ∧ y.at_ = w') :
    Calls P f args y.at_ fun e w'' => e = .returned v ∧ ∃ y' : Aft w, w'' = y'.at_ :=
  h.mono fun _ _ ⟨he, hb⟩ => ⟨he, y, hb.symm⟩

/-- the slice '.slice A n c' reads as the cells xs (sz a place) -/
def Rd (w : World) (sz : Nat) (A : Option Addr) (n : Nat) (xs : List Value) : Prop :=
  xs.length = n * sz ∧ (0 < n → ∃ b off, A = some ⟨b, off, none⟩ ∧ b < w.heap.size ∧ ∀ j u, xs[j]? = some u → w.cell? ⟨b, off + j, none⟩ = some u)

section
variable {w w' : World} {sz n : Nat} {A : Option Addr} {xs : List Value}
theorem Rd.nil : Rd w sz A 0 [] := ⟨by simp, fun h => absurd h (by omega)⟩
theorem Rd.below {B : Nat} (h : Rd w sz A n xs) (hb : Below B w w') (hB : w.heap.size ≤ B) : Rd w' sz A n xs :=
  ⟨h.1, fun hn => by
    obtain ⟨b, off, e, hlt, hc⟩ := h.2 hn
    exact ⟨b, off, e, Nat.lt_of_lt_of_le hlt hb.size, fun j u hu => (hb.cell (p := ⟨b, off + j, none⟩) (by show b < B; omega)).trans (hc j u hu)⟩⟩
theorem Rd.alloc (h : Rd w sz A n xs) (o : Obj) : Rd (w.alloc o) sz A n xs := h.below ((Below.refl _ _).alloc (Nat.le_refl _) o) (Nat.le_refl _)
theorem Rd.drew (h : Rd w sz A n xs) : Rd w.drew sz A n xs := h
theorem Rd.drewN (h : Rd w sz A n xs) (k : Nat) : Rd (w.drewN k) sz A n xs := h
end

theorem run_make_rowN {P : Program} (t e : TypeId) (i : TypeInfo) (z : Value) (ht : P.underlying t = some (.slice e)) (hi : P.info? e = some i) (hz : i.zero = some z)
    (kl kc : IntKind) (n c : Nat) (hnc : n ≤ c) (hbytes : i.bytes * c ≤ 281474976710656) (h63 : c ≤ 9223372036854775807) (w : World) :
    (Instr.makeSlice t (.int kl (n : Int)) (.int kc (c : Int))).run P w = .ok (.slice (some ⟨w.heap.size, 0, none⟩) n c) (w.alloc (.cells (madeCells z.cells (c * i.size)) e)) := by
  have hb : (i.bytes : Int) * (c : Int) ≤ 281474976710656 := by
    have h : ((i.bytes * c : Nat) : Int) ≤ 281474976710656 := by omega
    rwa [Int.natCast_mul] at h
  have hr := run_make (P := P) w t e i z ht hi hz kl kc n c (by omega) (by omega) hb (by omega)
  simp only [Int.toNat_natCast] at hr
  exact hr

/-- one byte made a string -/
theorem run_one_byte {P : Program} (src dst e : TypeId) (hs : P.underlying src = some (.slice e)) (he : P.underlying e = some (.int .u8)) (hd : P.underlying dst = some .string) (w : World) (x : Int) :
    (convert src dst (.slice (some ⟨w.heap.size, 0, none⟩) 1 1)).run P (w.alloc (.cells #[.int .u8 x] e)) = .ok (.string (strOfNums [x])) (w.alloc (.cells #[.int .u8 x] e)) :=
  run_convert_bytes_arg (P := P) (w.alloc (.cells #[.int .u8 x] e)) src e hs he w.heap.size 0 1 1 [x] rfl (fun i hi => by
    have : i = 0 := by omega
    subst this
    rw [cell_of_row _ w.heap.size (0 + 0) #[.int .u8 x] e (0, 0) (heap_alloc_new w _)]; rfl) dst hd

/-! ### a block that is known whole -/
def Blk (w : World) (g : Nat) (t : TypeId) (cs : Array Value) : Prop := w.heap[g]? = some (.cells cs t (0, 0))
section
variable {w w' : World} {g : Nat} {t : TypeId} {cs : Array Value}
theorem Blk.lt (h : Blk w g t cs) : g < w.heap.size := by
  rcases Nat.lt_or_ge g w.heap.size with hlt | hge
  · exact hlt
  · unfold Blk at h; rw [Array.getElem?_eq_none hge] at h; cases h
theorem Blk.cell (h : Blk w g t cs) (i : Nat) : w.cell? ⟨g, i, none⟩ = cs[i]? := cell_of_row w g i cs t (0, 0) h
theorem Blk.frozen (h : Blk w g t cs) (i : Nat) : w.frozen? ⟨g, i, none⟩ = false := frozen_of_row w g i cs t h
theorem Blk.new (w : World) (t : TypeId) (cs : Array Value) : Blk (w.alloc (.cells cs t)) w.heap.size t cs := heap_alloc_new w _
theorem Blk.drew (h : Blk w g t cs) : Blk w.drew g t cs := h
theorem Blk.drewN (h : Blk w g t cs) (n : Nat) : Blk (w.drewN n) g t cs := h
theorem Blk.alloc (h : Blk w g t cs) (o : Obj) : Blk (w.alloc o) g t cs := (Below.heap_alloc w o g h.lt).trans h
theorem Blk.set_ (h : Blk w g t cs) (i : Nat) (u : Value) : Blk (w.setCell ⟨g, i, none⟩ u) g t (cs.setIfInBounds i u) := by
  unfold Blk at h ⊢
  simp [World.setCell, Array.getElem?_modify, h]
theorem Blk.far (h : Blk w g t cs) {p : Addr} (hp : g ≠ p.block) (u : Value) : Blk (w.setCell p u) g t cs := (Below.heap_setCell w p u g hp).trans h
theorem Blk.below {B : Nat} (h : Blk w g t cs) (hb : Below B w w') (hg : g < B) : Blk w' g t cs := (hb.block g hg).trans h
theorem Blk.kept (h : Blk w g t cs) (hb : Below w.heap.size w w') : Blk w' g t cs := (hb.block g h.lt).trans h
theorem Blk.own (h : Blk w g t cs) {base sz n cap : Nat} {xs : List Value} (hb : base ≤ g) (hc : n ≤ cap) (hm : cap ≤ maxLen) (hs : cs.size = cap * sz) (ht : cs.toList.take (n * sz) = xs) : w.ownsRow base t sz (.slice (some ⟨g, 0, none⟩) n cap) n xs :=
  ⟨by rw [← ht, List.length_take, Array.length_toList, hs, Nat.min_eq_left (Nat.mul_le_mul_right _ hc)], .inr ⟨g, cap, cs, rfl, hb, h, hc, hm, hs, ht⟩⟩
end
theorem take_set2 (cs : Array Value) (k : Nat) (u v : Value) (h : k * 2 + 1 < cs.size) : ((cs.setIfInBounds (k * 2) u).setIfInBounds (k * 2 + 1) v).toList.take ((k + 1) * 2) = cs.toList.take (k * 2) ++ [u, v] := by
  rw [show (k + 1) * 2 = k * 2 + 1 + 1 from by omega]
  rw [List.take_succ_eq_append_getElem (by simpa using h), List.take_succ_eq_append_getElem (by simp; omega)]
  simp [List.take_set_of_le]
theorem take_set3 (cs : Array Value) (k : Nat) (u v z : Value) (h : k * 3 + 2 < cs.size) : (((cs.setIfInBounds (k * 3) u).setIfInBounds (k * 3 + 1) v).setIfInBounds (k * 3 + 2) z).toList.take ((k + 1) * 3) = cs.toList.take (k * 3) ++ [u, v, z] := by
  rw [show (k + 1) * 3 = k * 3 + 1 + 1 + 1 from by omega]
  rw [List.take_succ_eq_append_getElem (by simpa using h), List.take_succ_eq_append_getElem (by simp; omega), List.take_succ_eq_append_getElem (by simp; omega)]
  simp [List.take_set_of_le]

/-! ### entries -/
abbrev Ent := ByteArray × Int
def entC (e : Ent) : List Value := [.string e.1, .int .i64 e.2]
def entsC (es : List Ent) : List Value := es.flatMap entC
theorem entsC_cons (e : Ent) (es : List Ent) : entsC (e :: es) = .string e.1 :: .int .i64 e.2 :: entsC es := rfl
theorem entsC_append (a b : List Ent) : entsC (a ++ b) = entsC a ++ entsC b := by simp [entsC]
theorem entsC_length (es : List Ent) : (entsC es).length = es.length * 2 := by
  induction es with
  | nil => rfl
  | cons e r ih => rw [entsC_cons, List.length_cons, List.length_cons, ih, List.length_cons]; omega
theorem entsC_drop (es : List Ent) (k : Nat) : (entsC es).drop (k * 2) = entsC (es.drop k) := by
  induction es generalizing k with
  | nil => simp [entsC]
  | cons e r ih =>
    match k with
    | 0 => simp
    | k + 1 => rw [show (k + 1) * 2 = k * 2 + 1 + 1 from by omega, entsC_cons, List.drop_succ_cons, List.drop_succ_cons, ih, List.drop_succ_cons]
theorem entsC_key (es : List Ent) (k : Nat) (h : k < es.length) : (entsC es)[k * 2]? = some (.string es[k].1) := by
  have := entsC_drop es k
  rw [List.drop_eq_getElem_cons h, entsC_cons] at this
  have h2 : ((entsC es).drop (k * 2))[0]? = some (.string es[k].1) := by rw [this]; rfl
  rwa [List.getElem?_drop, Nat.add_zero] at h2
theorem entsC_val (es : List Ent) (k : Nat) (h : k < es.length) : (entsC es)[k * 2 + 1]? = some (.int .i64 es[k].2) := by
  have := entsC_drop es k
  rw [List.drop_eq_getElem_cons h, entsC_cons] at this
  have h2 : ((entsC es).drop (k * 2))[1]? = some (.int .i64 es[k].2) := by rw [this]; rfl
  rwa [List.getElem?_drop] at h2
theorem Rd.ent {w wr : World} {A : Option Addr} {n : Nat} {es : List Ent} (h : Rd w 2 A n (entsC es)) (hb : Below w.heap.size w wr) {k : Nat} (hk : k < es.length) :
    ∃ b off, A = some ⟨b, off, none⟩ ∧ b < w.heap.size ∧ b < wr.heap.size ∧ wr.cell? ⟨b, off + k * 2, none⟩ = some (.string es[k].1) ∧ wr.cell? ⟨b, off + k * 2 + 1, none⟩ = some (.int .i64 es[k].2) := by
  have hl := entsC_length es
  obtain ⟨b, off, e, hlt, hc⟩ := h.2 (by have := h.1; omega)
  refine ⟨b, off, e, hlt, Nat.lt_of_lt_of_le hlt hb.size, ?_, ?_⟩
  · exact (hb.cell (p := ⟨b, off + k * 2, none⟩) hlt).trans (hc _ _ (entsC_key es k hk))
  · exact (hb.cell (p := ⟨b, off + k * 2 + 1, none⟩) hlt).trans (hc _ _ (entsC_val es k hk))
theorem Rd.len {w : World} {A : Option Addr} {n : Nat} {es : List Ent} (h : Rd w 2 A n (entsC es)) : es.length = n := by
  have h1 := entsC_length es; have h2 := h.1; omega

/-! ### edits -/
structure Edt where
  key : ByteArray
  val : Int
  gone : Bool
def edtC (e : Edt) : List Value := [.string e.key, .int .i64 e.val, .bool e.gone]
def edtsC (es : List Edt) : List Value := es.flatMap edtC
theorem edtsC_cons (e : Edt) (es : List Edt) : edtsC (e :: es) = .string e.key :: .int .i64 e.val :: .bool e.gone :: edtsC es := rfl
theorem edtsC_append (a b : List Edt) : edtsC (a ++ b) = edtsC a ++ edtsC b := by simp [edtsC]
theorem edtsC_length (es : List Edt) : (edtsC es).length = es.length * 3 := by
  induction es with
  | nil => rfl
  | cons e r ih => rw [edtsC_cons, List.length_cons, List.length_cons, List.length_cons, ih, List.length_cons]; omega
theorem edtsC_drop (es : List Edt) (k : Nat) : (edtsC es).drop (k * 3) = edtsC (es.drop k) := by
  induction es generalizing k with
  | nil => simp [edtsC]
  | cons e r ih =>
    match k with
    | 0 => simp
    | k + 1 => rw [show (k + 1) * 3 = k * 3 + 1 + 1 + 1 from by omega, edtsC_cons, List.drop_succ_cons, List.drop_succ_cons, List.drop_succ_cons, ih, List.drop_succ_cons]
theorem edtsC_at (es : List Edt) (k : Nat) (h : k < es.length) : (edtsC es)[k * 3]? = some (.string es[k].key) ∧ (edtsC es)[k * 3 + 1]? = some (.int .i64 es[k].val) ∧ (edtsC es)[k * 3 + 2]? = some (.bool es[k].gone) := by
  have := edtsC_drop es k
  rw [List.drop_eq_getElem_cons h, edtsC_cons] at this
  refine ⟨?_, ?_, ?_⟩
  · have h2 : ((edtsC es).drop (k * 3))[0]? = some (.string es[k].key) := by rw [this]; rfl
    rwa [List.getElem?_drop, Nat.add_zero] at h2
  · have h2 : ((edtsC es).drop (k * 3))[1]? = some (.int .i64 es[k].val) := by rw [this]; rfl
    rwa [List.getElem?_drop] at h2
  · have h2 : ((edtsC es).drop (k * 3))[2]? = some (.bool es[k].gone) := by rw [this]; rfl
    rwa [List.getElem?_drop] at h2
theorem Rd.edt {w wr : World} {A : Option Addr} {n : Nat} {es : List Edt} (h : Rd w 3 A n (edtsC es)) (hb : Below w.heap.size w wr) {k : Nat} (hk : k < es.length) :
    ∃ b off, A = some ⟨b, off, none⟩ ∧ b < w.heap.size ∧ b < wr.heap.size ∧ wr.cell? ⟨b, off + k * 3, none⟩ = some (.string es[k].key) ∧ wr.cell? ⟨b, off + k * 3 + 1, none⟩ = some (.int .i64 es[k].val) ∧ wr.cell? ⟨b, off + k * 3 + 2, none⟩ = some (.bool es[k].gone) := by
  have hl := edtsC_length es
  obtain ⟨b, off, e, hlt, hc⟩ := h.2 (by have := h.1; omega)
  obtain ⟨e1, e2, e3⟩ := edtsC_at es k hk
  refine ⟨b, off, e, hlt, Nat.lt_of_lt_of_le hlt hb.size, ?_, ?_, ?_⟩
  · exact (hb.cell (p := ⟨b, off + k * 3, none⟩) hlt).trans (hc _ _ e1)
  · exact (hb.cell (p := ⟨b, off + k * 3 + 1, none⟩) hlt).trans (hc _ _ e2)
  · exact (hb.cell (p := ⟨b, off + k * 3 + 2, none⟩) hlt).trans (hc _ _ e3)
theorem Rd.elen {w : World} {A : Option Addr} {n : Nat} {es : List Edt} (h : Rd w 3 A n (edtsC es)) : es.length = n := by
  have h1 := edtsC_length es; have h2 := h.1; omega
end Go.Proofs.YtmfmclnklpbiaaaGreat
namespace Go.Proofs.YtmfmclnklpbiaaaGreat
open Go.RowKit

/-! ### append of what a literal slice has just laid -/
theorem below_grown {B : Nat} {a w w' : World} {v : Value} {base : Nat} {e : TypeId} {sz n : Nat} {xs : List Value} (h : Below B a w) (hg : w.grownBy w' v.ownBlock) (ho : w.ownsRow base e sz v n xs) (hB : B ≤ w.heap.size) (hBb : B ≤ base) : Below B a w' :=
  h.grown hg hB fun k hk => Nat.le_trans hBb (ho.lt k hk).1


/-! ### copy between rows whose elements have several cells -/
/-- a piece of a slice that reads as cells, as copy wants it: from place i on, m elements -/
theorem Rd.piece {w : World} {sz n : Nat} {A : Option Addr} {xs : List Value} (h : Rd w sz A n xs) {i m : Nat} (hm : i + m ≤ n) (hpos : 0 < ((xs.drop (i * sz)).take (m * sz)).length) :
    ∃ b off, A = some ⟨b, off, none⟩ ∧ ∀ j v, ((xs.drop (i * sz)).take (m * sz))[j]? = some v → w.cell? ((⟨b, off + i * sz, none⟩ : Addr).add j) = some v := by
  have hn : 0 < n := by
    rcases Nat.eq_zero_or_pos n with h0 | h0
    · subst h0
      have : m = 0 := by omega
      subst this
      simp at hpos
    · exact h0
  obtain ⟨b, off, rfl, _, hc⟩ := h.2 hn
  refine ⟨b, off, rfl, fun j v hj => ?_⟩
  have hadd : (⟨b, off + i * sz, none⟩ : Addr).add j = ⟨b, off + (i * sz + j), none⟩ := by unfold Addr.add; split <;> simp_all [Nat.add_assoc]
  rw [hadd]
  refine hc _ _ ?_
  rw [List.getElem?_take] at hj
  split at hj
  · rw [List.getElem?_drop] at hj; exact hj
  · cases hj
/-- the same, in the walk's own spelling of 's[i:j]' below the capacity -/
theorem Rd.cut {w : World} {sz n : Nat} {A : Option Addr} {xs : List Value} (h : Rd w sz A n xs) {i m : Nat} (hm : i + m ≤ n) (hpos : 0 < ((xs.drop (i * sz)).take (m * sz)).length) :
    ∃ ad, Option.map (fun x => x.add (i * sz)) A = some ad ∧ ∀ j v, ((xs.drop (i * sz)).take (m * sz))[j]? = some v → w.cell? (ad.add j) = some v := by
  obtain ⟨b, off, rfl, hc⟩ := h.piece hm hpos
  have hadd : (⟨b, off, none⟩ : Addr).add (i * sz) = ⟨b, off + i * sz, none⟩ := by unfold Addr.add; split <;> simp_all
  exact ⟨_, rfl, fun j v hj => by
    show w.cell? (((⟨b, off, none⟩ : Addr).add (i * sz)).add j) = some v
    rw [hadd]; exact hc j v hj⟩

end Go.Proofs.YtmfmclnklpbiaaaGreat
namespace Go.Proofs.YtmfmclnklpbiaaaGreat
open Go.RowKit

theorem run_append_of_nil {P : Program} (w : World) (base : Nat) (t ty e : TypeId) (i : TypeInfo) (size : Nat) (ht : P.underlying t = some (.slice e)) (hi : P.info? e = some i)
    (v : Value) (n : Nat) (xs : List Value) (hown : w.ownsRow base e size v n xs) (c : Nat) : (Builtin.append_ #[t, t] ty #[v, .slice none 0 c]).run P w = .ok v w := by
  rcases hown.2 with ⟨rfl, rfl⟩ | ⟨g, cap, cur, rfl, _, _, hnc, _⟩
  · simp [Builtin.append_, run_underlying ht, sizeOf, typeInfo, hi, Builtin.lenOf, Builtin.firstCells]
  · simp [Builtin.append_, run_underlying ht, sizeOf, typeInfo, hi, Builtin.lenOf, Builtin.firstCells, hnc, storeCells]

theorem run_append_rd {P : Program} (w : World) (base : Nat) (t ty e : TypeId) (i : TypeInfo) (z : Value) (size bytes : Nat) (ht : P.underlying t = some (.slice e)) (hi : P.info? e = some i) (hz : i.zero = some z)
    (hsize : i.size = size) (hby : i.bytes = bytes) (hzs : z.cells.size = size) (hsz : 0 < size)
    (v : Value) (n : Nat) (xs : List Value) (hown : w.ownsRow base e size v n xs)
    (A : Option Addr) (m c : Nat) (news : List Value) (hr : Rd w size A m news) (h1 : ∀ u ∈ news, u.oneCell' = true)
    (hsmall : (n + m) * bytes ≤ 140737488355328) (hb1 : 1 ≤ bytes) (hbase : base ≤ w.heap.size) :
    ∃ v' w', (Builtin.append_ #[t, t] ty #[v, .slice A m c]).run P w = .ok v' w' ∧ w'.ownsRow base e size v' (n + m) (xs ++ news) ∧ w.grownBy w' v.ownBlock := by
  have h63 : n + m ≤ maxLen := by
    have : (n + m) * 1 ≤ (n + m) * bytes := Nat.mul_le_mul_left _ hb1
    unfold maxLen; omega
  rcases Nat.eq_zero_or_pos m with h0 | h0
  · subst h0
    have hn : news = [] := List.eq_nil_of_length_eq_zero (by simpa using hr.1)
    subst hn
    cases A with
    | none => exact ⟨v, w, run_append_of_nil w base t ty e i size ht hi v n xs hown c, by simpa using hown, World.grownBy.mk rfl rfl rfl (Nat.le_refl _) (fun _ _ _ => rfl)⟩
    | some ad =>
      obtain ⟨v', w', hrun, h2, h3, _⟩ := run_append_own (P := P) w base t ty e i z size bytes ht hi hz hsize hby hzs hsz v n xs hown ad 0 c [] (by simp) (by simp) (by simp) h63 hsmall hbase
      exact ⟨v', w', hrun, h2, h3⟩
  · obtain ⟨b, off, rfl, _, hc⟩ := hr.2 h0
    obtain ⟨v', w', hrun, h2, h3, _⟩ := run_append_own (P := P) w base t ty e i z size bytes ht hi hz hsize hby hzs hsz v n xs hown ⟨b, off, none⟩ m c news hr.1 (fun j u hu => by
      have hadd : (⟨b, off, none⟩ : Addr).add j = ⟨b, off + j, none⟩ := by unfold Addr.add; split <;> simp_all
      rw [hadd]; exact hc j u hu) h1 h63 hsmall hbase
    exact ⟨v', w', hrun, h2, h3⟩

theorem wpList_append_rd {P : Program} (w : World) {ops : Array Oper} {rest : List Oper} {o : Oper} {a : Act} {Q : Exit → Act → World → Prop} (hgd : o.guard = none) (s x : Operand) (t : TypeId)
    (ho : o.op = .call { callee := .builtin .append, args := #[s, x], argTypes := #[t, t] })
    (base : Nat) (e : TypeId) (i : TypeInfo) (z : Value) (size bytes : Nat) (ht : P.underlying t = some (.slice e)) (hi : P.info? e = some i) (hz : i.zero = some z)
    (hsize : i.size = size) (hby : i.bytes = bytes) (hzs : z.cells.size = size) (hsz : 0 < size)
    (v : Value) (n : Nat) (xs : List Value) (hs : a.eval s = v) (hown : w.ownsRow base e size v n xs)
    (A : Option Addr) (m c : Nat) (news : List Value) (hx : a.eval x = .slice A m c) (hr : Rd w size A m news) (h1 : ∀ u ∈ news, u.oneCell' = true)
    (hsmall : (n + m) * bytes ≤ 140737488355328) (hb1 : 1 ≤ bytes) (hbase : base ≤ w.heap.size)
    (h : ∀ v' w', w'.ownsRow base e size v' (n + m) (xs ++ news) → w.grownBy w' v.ownBlock → wpList P ops Q rest (a.put o.dst v') w') : wpList P ops Q (o :: rest) a w := by
  obtain ⟨v', w', hrun, h2, h3⟩ := run_append_rd (P := P) w base t o.type e i z size bytes ht hi hz hsize hby hzs hsz v n xs hown A m c news hr h1 hsmall hb1 hbase
  refine wpList_plain hgd fun K hK => ?_
  unfold Oper.wp execOp
  simp only [ho, resolve, invoke, builtin, Sem.run_bind, Sem.run_pure, Result.andThen_ok, List.map_toArray, List.map_cons, List.map_nil, hs, hx, hrun]
  exact hK _ _ (h v' w' h2 h3)

end Go.Proofs.YtmfmclnklpbiaaaGreat
