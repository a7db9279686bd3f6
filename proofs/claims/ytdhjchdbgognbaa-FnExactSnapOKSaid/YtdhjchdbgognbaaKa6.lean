/- Texts of the machine over data, folded. -/
import Derived.Test.YtdhjchdbgognbaaRows
import Derived.WalkKit
import Derived.WalkLawsBesides
import Derived.WalkSpells
import Derived.Lib.Hide
import Derived.Deep.QuietTactic
import Derived.BigQuiet
import Derived.Deep.Draws
import Derived.Deep.Slices
import Derived.Deep.Fields
import Derived.Deep.AppendLies
import Derived.ChangeSame
import Derived.StillTailTactics
import Derived.Laws.BytesArg
import Derived.Deep.RegionHeld3
import Derived.Laws.CopyOwn
namespace Go.Proofs.Ytdhjchdbgognbaa
open Go.RowKit
theorem xM {a b : Bool} (h : a = b) : Ending.returned (.bool a) = .returned (.bool b) := by rw [h]
theorem jL {k : IntKind} {a b : Int} (h : a = b) : Ending.returned (.int k a) = .returned (.int k b) := by rw [h]
theorem toList_inj {a b : ByteArray} (h : a.toList = b.toList) : a = b := by
 have e : a.data.toList = b.data.toList := by simpa [ByteArray.toList_eq] using h
 cases a; cases b; simp at e; simp [e]
theorem vY (a b : ByteArray) : (a.toList == b.toList) = decide (a = b) := by
 rw [Bool.eq_iff_iff]; simp
 exact ⟨toList_inj, fun h => by rw [h]⟩
theorem _root_.Go.RowKit.Below.drewN {B : Nat} {a w : World} (h : Below B a w) (n : Nat) : Below B a (w.drewN n) := ⟨h.os, h.tape, h.output, h.size, h.block⟩
theorem yA {w wx w1 : World} (hb : Below w.heap.size w wx) (h1 : Below wx.heap.size wx w1) : Below w.heap.size w w1 := hb.trans (h1.mono hb.size)
theorem aIv {w wx w1 : World} {p : Prop} (hb : Below w.heap.size w wx ∧ p) (h1 : Below wx.heap.size wx w1) : Below w.heap.size w w1 := yA hb.1 h1
theorem cellS {w wx : World} {b o : Nat} {u : Value} (hb : Below w.heap.size w wx) (hl : b < w.heap.size) (h : w.cell? ⟨b, o, none⟩ = some u) : wx.cell? ⟨b, o, none⟩ = some u := (hb.cell (p := ⟨b, o, none⟩) hl).trans h
theorem cellW {w wx : World} {b o : Nat} {u : Value} (hb : Below w.heap.size w wx) (hl : b < w.heap.size) (h : wx.cell? ⟨b, o, none⟩ = some u) : w.cell? ⟨b, o, none⟩ = some u := (hb.cell (p := ⟨b, o, none⟩) hl).symm.trans h
structure Aft (w : World) where
 at_ : World
 below : Below w.heap.size w at_
instance Aft.some_ (w : World) : Nonempty (Aft w) := ⟨⟨w, Below.refl _ _⟩⟩
theorem xB {P : Program} {id : Nat} {Q : Exit → Act → World → Prop} {a : Act} {w : World} {l : List Oper} (hm : P.follows .mixedOrders = true) (hB : Region.lexB .any l.toArray = true)
 (h : wpQuiet P l.toArray (fun w' => ∃ y : Aft w, w' = y.at_) (fun a' => ∀ w', (∃ y : Aft w, w' = y.at_) → Q .normal a' w') l a) : (Code.region id l.toArray true).wp P Q a w :=
 wp_region_quiet (C := fun w' => ∃ y : Aft w, w' = y.at_) hm hB ⟨⟨_, (Below.refl w.heap.size w).drew⟩, rfl⟩ (by simpa using h)
theorem Aft.cell {w : World} {b o : Nat} {u : Value} (hl : b < w.heap.size) (h : w.cell? ⟨b, o, none⟩ = some u) (y : Aft w) : y.at_.cell? ⟨b, o, none⟩ = some u := cellS y.below hl h
theorem Aft.call {P : Program} {f : FuncId} {args : Array Value} {w : World} {y : Aft w} {v : Value} (h : Calls P f args y.at_ fun e w' => e = .returned v ∧ Below y.at_.heap.size y.at_ w') :
 Calls P f args y.at_ fun e w'' => e = .returned v ∧ ∃ y' : Aft w, w'' = y'.at_ :=
 h.mono fun _ _ ⟨he, hb⟩ => ⟨he, ⟨_, yA y.below hb⟩, rfl⟩
theorem Aft.same {P : Program} {f : FuncId} {args : Array Value} {w : World} {y : Aft w} {v : Value} (h : Calls P f args y.at_ fun e w' => e = .returned v ∧ y.at_ = w') :
 Calls P f args y.at_ fun e w'' => e = .returned v ∧ ∃ y' : Aft w, w'' = y'.at_ :=
 h.mono fun _ _ ⟨he, hb⟩ => ⟨he, y, hb.symm⟩
def Rd (w : World) (sz : Nat) (A : Option Addr) (n : Nat) (xs : List Value) : Prop :=
 xs.length = n * sz ∧ (0 < n → ∃ b off, A = some ⟨b, off, none⟩ ∧ b < w.heap.size ∧ ∀ j u, xs[j]? = some u → w.cell? ⟨b, off + j, none⟩ = some u)
section
variable {w w' : World} {sz n : Nat} {A : Option Addr} {xs : List Value}
theorem Rd.nil : Rd w sz A 0 [] := ⟨by simp, fun h => absurd h (by omega)⟩
theorem Rd.below {B : Nat} (h : Rd w sz A n xs) (hb : Below B w w') (hB : w.heap.size ≤ B) : Rd w' sz A n xs :=
 ⟨h.1, fun hn => by
  obtain ⟨b, off, e, hlt, hc⟩ := h.2 hn
  exact ⟨b, off, e, Nat.lt_of_lt_of_le hlt hb.size, fun j u hu => (hb.cell (p := ⟨b, off + j, none⟩) (by show b < B; omega)).trans (hc j u hu)⟩⟩
theorem Rd.alloc (h : Rd w sz A n xs) (o : Obj) : Rd (w.alloc o) sz A n xs := h.below ((Below.refl _ _).alloc (Nat.le_refl _) o) (Nat.le_refl _)
theorem Rd.drew (h : Rd w sz A n xs) : Rd w.drew sz A n xs := h
theorem Rd.drewN (h : Rd w sz A n xs) (k : Nat) : Rd (w.drewN k) sz A n xs := h
end
theorem aAT {P : Program} (t e : TypeId) (i : TypeInfo) (z : Value) (ht : P.underlying t = some (.slice e)) (hi : P.info? e = some i) (hz : i.zero = some z)
 (kl kc : IntKind) (n c : Nat) (hnc : n ≤ c) (hbytes : i.bytes * c ≤ 281474976710656) (h63 : c ≤ 9223372036854775807) (w : World) :
 (Instr.makeSlice t (.int kl (n : Int)) (.int kc (c : Int))).run P w = .ok (.slice (some ⟨w.heap.size, 0, none⟩) n c) (w.alloc (.cells (madeCells z.cells (c * i.size)) e)) := by
 have hb : (i.bytes : Int) * (c : Int) ≤ 281474976710656 := by
  have h : ((i.bytes * c : Nat) : Int) ≤ 281474976710656 := by omega
  rwa [Int.natCast_mul] at h
 have hr := run_make (P := P) w t e i z ht hi hz kl kc n c (by omega) (by omega) hb (by omega)
 simp only [Int.toNat_natCast] at hr
 exact hr
theorem aFB {P : Program} (src dst e : TypeId) (hs : P.underlying src = some (.slice e)) (he : P.underlying e = some (.int .u8)) (hd : P.underlying dst = some .string) (w : World) (x : Int) :
 (convert src dst (.slice (some ⟨w.heap.size, 0, none⟩) 1 1)).run P (w.alloc (.cells #[.int .u8 x] e)) = .ok (.string (strOfNums [x])) (w.alloc (.cells #[.int .u8 x] e)) :=
 run_convert_bytes_arg (P := P) (w.alloc (.cells #[.int .u8 x] e)) src e hs he w.heap.size 0 1 1 [x] rfl (fun i hi => by
  have : i = 0 := by omega
  subst this
  rw [cell_of_row _ w.heap.size (0 + 0) #[.int .u8 x] e (0, 0) (heap_alloc_new w _)]; rfl) dst hd
def Blk (w : World) (g : Nat) (t : TypeId) (cs : Array Value) : Prop := w.heap[g]? = some (.cells cs t (0, 0))
section
variable {w w' : World} {g : Nat} {t : TypeId} {cs : Array Value}
theorem Blk.lt (h : Blk w g t cs) : g < w.heap.size := by
 rcases Nat.lt_or_ge g w.heap.size with hlt | hge
 · exact hlt
 · unfold Blk at h; rw [Array.getElem?_eq_none hge] at h; cases h
theorem Blk.cell (h : Blk w g t cs) (i : Nat) : w.cell? ⟨g, i, none⟩ = cs[i]? := cell_of_row w g i cs t (0, 0) h
theorem Blk.frozen (h : Blk w g t cs) (i : Nat) : w.frozen? ⟨g, i, none⟩ = false := frozen_of_row w g i cs t h
theorem Blk.new (w : World) (t : TypeId) (cs : Array Value) : Blk (w.alloc (.cells cs t)) w.heap.size t cs := heap_alloc_new w _
theorem Blk.drew (h : Blk w g t cs) : Blk w.drew g t cs := h
theorem Blk.drewN (h : Blk w g t cs) (n : Nat) : Blk (w.drewN n) g t cs := h
theorem Blk.alloc (h : Blk w g t cs) (o : Obj) : Blk (w.alloc o) g t cs := (Below.heap_alloc w o g h.lt).trans h
theorem Blk.set_ (h : Blk w g t cs) (i : Nat) (u : Value) : Blk (w.setCell ⟨g, i, none⟩ u) g t (cs.setIfInBounds i u) := by
 unfold Blk at h ⊢
 simp [World.setCell, Array.getElem?_modify, h]
theorem Blk.far (h : Blk w g t cs) {p : Addr} (hp : g ≠ p.block) (u : Value) : Blk (w.setCell p u) g t cs := (Below.heap_setCell w p u g hp).trans h
theorem Blk.below {B : Nat} (h : Blk w g t cs) (hb : Below B w w') (hg : g < B) : Blk w' g t cs := (hb.block g hg).trans h
theorem Blk.kept (h : Blk w g t cs) (hb : Below w.heap.size w w') : Blk w' g t cs := (hb.block g h.lt).trans h
theorem Blk.own (h : Blk w g t cs) {base sz n cap : Nat} {xs : List Value} (hb : base ≤ g) (hc : n ≤ cap) (hm : cap ≤ maxLen) (hs : cs.size = cap * sz) (ht : cs.toList.take (n * sz) = xs) : w.ownsRow base t sz (.slice (some ⟨g, 0, none⟩) n cap) n xs :=
 ⟨by rw [← ht, List.length_take, Array.length_toList, hs, Nat.min_eq_left (Nat.mul_le_mul_right _ hc)], .inr ⟨g, cap, cs, rfl, hb, h, hc, hm, hs, ht⟩⟩
theorem aBC {base : Nat} {sz n : Nat} {v : Value} {xs : List Value} (h : w.ownsRow base t sz v n xs) : (v = .slice none 0 0 ∧ n = 0 ∧ xs = []) ∨ ∃ g cap cs, v = .slice (some ⟨g, 0, none⟩) n cap ∧ base ≤ g ∧ Blk w g t cs ∧ n ≤ cap ∧ cap ≤ maxLen ∧ cs.size = cap * sz ∧ cs.toList.take (n * sz) = xs := by
 obtain ⟨h1, h2⟩ := h
 rcases h2 with ⟨rfl, rfl⟩ | ⟨g, cap, cur, rfl, r⟩
 · exact .inl ⟨rfl, rfl, List.eq_nil_of_length_eq_zero (by simpa using h1)⟩
 · exact .inr ⟨g, cap, cur, rfl, r⟩
end
theorem ownsRow_below {w w' : World} {B base : Nat} {e : TypeId} {sz n : Nat} {v : Value} {xs : List Value} (h : w.ownsRow base e sz v n xs) (hb : Below B w w') (hB : w.heap.size ≤ B) : w'.ownsRow base e sz v n xs := by
 refine ⟨h.1, ?_⟩
 rcases h.2 with hn | ⟨g, cap, cur, hv, hbg, hg, r⟩
 · exact .inl hn
 · exact .inr ⟨g, cap, cur, hv, hbg, (hb.block g (Nat.lt_of_lt_of_le (Array.getElem?_eq_some_iff.1 hg).1 hB)).trans hg, r⟩
theorem aEn {w : World} {base base' : Nat} {e : TypeId} {sz n : Nat} {v : Value} {xs : List Value} (h : w.ownsRow base e sz v n xs) (hb : base' ≤ base) : w.ownsRow base' e sz v n xs := by
 refine ⟨h.1, ?_⟩
 rcases h.2 with hn | ⟨g, cap, cur, hv, hbg, r⟩
 · exact .inl hn
 · exact .inr ⟨g, cap, cur, hv, Nat.le_trans hb hbg, r⟩
theorem aDb (cs : Array Value) (k : Nat) (u v : Value) (h : k * 2 + 1 < cs.size) : ((cs.setIfInBounds (k * 2) u).setIfInBounds (k * 2 + 1) v).toList.take ((k + 1) * 2) = cs.toList.take (k * 2) ++ [u, v] := by
 rw [show (k + 1) * 2 = k * 2 + 1 + 1 from by omega]
 rw [List.take_succ_eq_append_getElem (by simpa using h), List.take_succ_eq_append_getElem (by simp; omega)]
 simp [List.take_set_of_le]
theorem aIK (cs : Array Value) (k : Nat) (u v z : Value) (h : k * 3 + 2 < cs.size) : (((cs.setIfInBounds (k * 3) u).setIfInBounds (k * 3 + 1) v).setIfInBounds (k * 3 + 2) z).toList.take ((k + 1) * 3) = cs.toList.take (k * 3) ++ [u, v, z] := by
 rw [show (k + 1) * 3 = k * 3 + 1 + 1 + 1 from by omega]
 rw [List.take_succ_eq_append_getElem (by simpa using h), List.take_succ_eq_append_getElem (by simp; omega), List.take_succ_eq_append_getElem (by simp; omega)]
 simp [List.take_set_of_le]
abbrev Ent := ByteArray × Int
def aJv (e : Ent) : List Value := [.string e.1, .int .i64 e.2]
def xJ (es : List Ent) : List Value := es.flatMap aJv
theorem uL (e : Ent) (es : List Ent) : xJ (e :: es) = .string e.1 :: .int .i64 e.2 :: xJ es := rfl
theorem aA1 (a b : List Ent) : xJ (a ++ b) = xJ a ++ xJ b := by simp [xJ]
theorem vF (es : List Ent) : (xJ es).length = es.length * 2 := by
 induction es with
 | nil => rfl
 | cons e r ih => rw [uL, List.length_cons, List.length_cons, ih, List.length_cons]; omega
theorem aGd (es : List Ent) (k : Nat) : (xJ es).take (k * 2) = xJ (es.take k) := by
 induction es generalizing k with
 | nil => simp [xJ]
 | cons e r ih =>
  match k with
  | 0 => simp [xJ]
  | k + 1 => rw [show (k + 1) * 2 = k * 2 + 1 + 1 from by omega, uL, List.take_succ_cons, List.take_succ_cons, ih, List.take_succ_cons, uL]
theorem ql (es : List Ent) (k : Nat) : (xJ es).drop (k * 2) = xJ (es.drop k) := by
 induction es generalizing k with
 | nil => simp [xJ]
 | cons e r ih =>
  match k with
  | 0 => simp
  | k + 1 => rw [show (k + 1) * 2 = k * 2 + 1 + 1 from by omega, uL, List.drop_succ_cons, List.drop_succ_cons, ih, List.drop_succ_cons]
theorem aDG (es : List Ent) (k : Nat) (h : k < es.length) : (xJ es)[k * 2]? = some (.string es[k].1) := by
 have := ql es k
 rw [List.drop_eq_getElem_cons h, uL] at this
 have h2 : ((xJ es).drop (k * 2))[0]? = some (.string es[k].1) := by rw [this]; rfl
 rwa [List.getElem?_drop, Nat.add_zero] at h2
theorem aDI (es : List Ent) (k : Nat) (h : k < es.length) : (xJ es)[k * 2 + 1]? = some (.int .i64 es[k].2) := by
 have := ql es k
 rw [List.drop_eq_getElem_cons h, uL] at this
 have h2 : ((xJ es).drop (k * 2))[1]? = some (.int .i64 es[k].2) := by rw [this]; rfl
 rwa [List.getElem?_drop] at h2
theorem Rd.ent {w wr : World} {A : Option Addr} {n : Nat} {es : List Ent} (h : Rd w 2 A n (xJ es)) (hb : Below w.heap.size w wr) {k : Nat} (hk : k < es.length) :
 ∃ b off, A = some ⟨b, off, none⟩ ∧ b < w.heap.size ∧ b < wr.heap.size ∧ wr.cell? ⟨b, off + k * 2, none⟩ = some (.string es[k].1) ∧ wr.cell? ⟨b, off + k * 2 + 1, none⟩ = some (.int .i64 es[k].2) := by
 have hl := vF es
 obtain ⟨b, off, e, hlt, hc⟩ := h.2 (by have := h.1; omega)
 refine ⟨b, off, e, hlt, Nat.lt_of_lt_of_le hlt hb.size, ?_, ?_⟩
 · exact (hb.cell (p := ⟨b, off + k * 2, none⟩) hlt).trans (hc _ _ (aDG es k hk))
 · exact (hb.cell (p := ⟨b, off + k * 2 + 1, none⟩) hlt).trans (hc _ _ (aDI es k hk))
theorem Rd.len {w : World} {A : Option Addr} {n : Nat} {es : List Ent} (h : Rd w 2 A n (xJ es)) : es.length = n := by
 have h1 := vF es; have h2 := h.1; omega
structure Edt where
 key : ByteArray
 val : Int
 gone : Bool
def aKv (e : Edt) : List Value := [.string e.key, .int .i64 e.val, .bool e.gone]
def xV (es : List Edt) : List Value := es.flatMap aKv
theorem wQ (e : Edt) (es : List Edt) : xV (e :: es) = .string e.key :: .int .i64 e.val :: .bool e.gone :: xV es := rfl
theorem aA0 (a b : List Edt) : xV (a ++ b) = xV a ++ xV b := by simp [xV]
theorem jP (es : List Edt) : (xV es).length = es.length * 3 := by
 induction es with
 | nil => rfl
 | cons e r ih => rw [wQ, List.length_cons, List.length_cons, List.length_cons, ih, List.length_cons]; omega
theorem aGc (es : List Edt) (k : Nat) : (xV es).drop (k * 3) = xV (es.drop k) := by
 induction es generalizing k with
 | nil => simp [xV]
 | cons e r ih =>
  match k with
  | 0 => simp
  | k + 1 => rw [show (k + 1) * 3 = k * 3 + 1 + 1 + 1 from by omega, wQ, List.drop_succ_cons, List.drop_succ_cons, List.drop_succ_cons, ih, List.drop_succ_cons]
theorem aI5 (es : List Edt) (k : Nat) (h : k < es.length) : (xV es)[k * 3]? = some (.string es[k].key) ∧ (xV es)[k * 3 + 1]? = some (.int .i64 es[k].val) ∧ (xV es)[k * 3 + 2]? = some (.bool es[k].gone) := by
 have := aGc es k
 rw [List.drop_eq_getElem_cons h, wQ] at this
 refine ⟨?_, ?_, ?_⟩
 · have h2 : ((xV es).drop (k * 3))[0]? = some (.string es[k].key) := by rw [this]; rfl
   rwa [List.getElem?_drop, Nat.add_zero] at h2
 · have h2 : ((xV es).drop (k * 3))[1]? = some (.int .i64 es[k].val) := by rw [this]; rfl
   rwa [List.getElem?_drop] at h2
 · have h2 : ((xV es).drop (k * 3))[2]? = some (.bool es[k].gone) := by rw [this]; rfl
   rwa [List.getElem?_drop] at h2
theorem Rd.edt {w wr : World} {A : Option Addr} {n : Nat} {es : List Edt} (h : Rd w 3 A n (xV es)) (hb : Below w.heap.size w wr) {k : Nat} (hk : k < es.length) :
 ∃ b off, A = some ⟨b, off, none⟩ ∧ b < w.heap.size ∧ b < wr.heap.size ∧ wr.cell? ⟨b, off + k * 3, none⟩ = some (.string es[k].key) ∧ wr.cell? ⟨b, off + k * 3 + 1, none⟩ = some (.int .i64 es[k].val) ∧ wr.cell? ⟨b, off + k * 3 + 2, none⟩ = some (.bool es[k].gone) := by
 have hl := jP es
 obtain ⟨b, off, e, hlt, hc⟩ := h.2 (by have := h.1; omega)
 obtain ⟨e1, e2, e3⟩ := aI5 es k hk
 refine ⟨b, off, e, hlt, Nat.lt_of_lt_of_le hlt hb.size, ?_, ?_, ?_⟩
 · exact (hb.cell (p := ⟨b, off + k * 3, none⟩) hlt).trans (hc _ _ e1)
 · exact (hb.cell (p := ⟨b, off + k * 3 + 1, none⟩) hlt).trans (hc _ _ e2)
 · exact (hb.cell (p := ⟨b, off + k * 3 + 2, none⟩) hlt).trans (hc _ _ e3)
theorem Rd.elen {w : World} {A : Option Addr} {n : Nat} {es : List Edt} (h : Rd w 3 A n (xV es)) : es.length = n := by
 have h1 := jP es; have h2 := h.1; omega
namespace Nm
def letter (c : Int) : Bool := (decide (97 ≤ c) && decide (c ≤ 122)) || (decide (65 ≤ c) && decide (c ≤ 90)) || decide (c = 95)
def digit (c : Int) : Bool := decide (48 ≤ c) && decide (c ≤ 57)
def lettersFrom (l : List UInt8) : Bool := l.all fun c => letter c.toNat || digit c.toNat
def nameOK (l : List UInt8) : Bool :=
 match l with
 | [] => false
 | c :: r => decide (r.length < 12) && letter c.toNat && lettersFrom r
theorem aIb (c : Int) (h : letter c = true) : digit c = false := by
 simp [letter, digit] at *; omega
end Nm
theorem jW (c : Int) (w : World) :
 Calls Try.prog 116 #[.int .u8 c] w fun e w' => e = .returned (.bool (Nm.letter c)) ∧ w = w' := by
 go_enter Try.func116, Try.ntmps116
 go_wp2
 all_goals (go_ret; exact ⟨xM (by rw [Bool.eq_iff_iff]; simp [Nm.letter]; try omega), rfl⟩)
theorem qA (c : Int) (w : World) :
 Calls Try.prog 115 #[.int .u8 c] w fun e w' => e = .returned (.bool (Nm.digit c)) ∧ w = w' := by
 go_enter Try.func115, Try.ntmps115
 go_wp2
 all_goals (go_ret; exact ⟨xM (by rw [Bool.eq_iff_iff]; simp [Nm.digit]; try omega), rfl⟩)
theorem kX (c : Int) (w : World) :
 Calls Try.prog 104 #[.int .u8 c] w fun e w' => e = .returned (.bool (Nm.letter c)) ∧ w = w' := by
 go_enter Try.func104, Try.ntmps104
 go_wp2
 all_goals (go_ret; exact ⟨xM (by rw [Bool.eq_iff_iff]; simp [Nm.letter]; try omega), rfl⟩)
theorem aE6 (c : Int) (w : World) :
 Calls Try.prog 105 #[.int .u8 c] w fun e w' => e = .returned (.bool (Nm.digit c)) ∧ w = w' := by
 go_enter Try.func105, Try.ntmps105
 go_wp2
 all_goals (go_ret; exact ⟨xM (by rw [Bool.eq_iff_iff]; simp [Nm.digit]; try omega), rfl⟩)
namespace Nm
def okc (c : UInt8) : Bool := letter c.toNat || digit c.toNat
theorem lettersFrom_take (l : List UInt8) (k : Nat) (h : k < l.length) : lettersFrom (l.take (k + 1)) = (lettersFrom (l.take k) && okc l[k]) := by
 unfold lettersFrom okc; rw [List.take_succ_eq_append_getElem h, List.all_append]; simp
theorem lettersFrom_bad (l : List UInt8) (k : Nat) (h : k < l.length) (hb : okc l[k] = false) : lettersFrom l = false := by
 rw [lettersFrom, List.all_eq_false]
 exact ⟨l[k], List.getElem_mem h, by simp only [okc] at hb; simp [hb]⟩
theorem nameOK_eq (l : List UInt8) (h0 : 0 < l.length) (h1 : l.length ≤ 12) : nameOK l = (letter l[0].toNat && lettersFrom l) := by
 match l, h0 with
 | c :: r, _ =>
  have : r.length < 12 := by simp at h1; omega
  simp [nameOK, this, lettersFrom]
  cases letter c.toNat <;> simp
theorem aKg : nameOK [] = false := rfl
theorem nameOK_long (l : List UInt8) (h : 12 < l.length) : nameOK l = false := by
 match l with
 | c :: r =>
  have : ¬ r.length < 12 := by simp at h; omega
  simp [nameOK, this]
theorem aB7 (c : Int) (h : digit c = true) : letter c = false := by
 simp [letter, digit] at *; omega
theorem nameOK_digit (l : List UInt8) (h0 : 0 < l.length) (hd : digit l[0].toNat = true) : nameOK l = false := by
 match l, h0 with
 | c :: r, _ =>
  have hd' : letter c.toNat = false := aB7 _ hd
  simp [nameOK, hd']
theorem nameOK_letters (l : List UInt8) (h0 : 0 < l.length) (h1 : l.length ≤ 12) (hd : digit l[0].toNat = false) : nameOK l = lettersFrom l := by
 rw [nameOK_eq l h0 h1]
 cases h : letter l[0].toNat with
 | true => rfl
 | false => exact (lettersFrom_bad l 0 h0 (by simp [okc, h, hd])).symm
end Nm
set_option maxHeartbeats 400000 in
theorem aCM (s : ByteArray) (w : World) (hs : s.size ≤ maxLen) :
 Calls Try.prog 106 #[.string s] w fun e w' => e = .returned (.bool (Nm.nameOK s.data.toList)) ∧ w = w' := by
 unfold maxLen at hs
 have hl : s.data.toList.length = s.size := by simp
 by_cases h0 : s.size = 0
 · have : s = ByteArray.empty := by simpa using h0
   subst this
   go_enter Try.func106, Try.ntmps106
   go_wp2
   go_ret
   exact ⟨rfl, rfl⟩
 by_cases h1 : 12 < s.size
 · go_enter Try.func106, Try.ntmps106
   go_wp2
   go_ret
   exact ⟨xM (Nm.nameOK_long _ (by omega)).symm, rfl⟩
 have e0 : ((s.size : Int) == 0) = false := beq_eq_false_iff_ne.2 (by omega)
 have e1 : decide ((12 : Int) < s.size) = false := decide_eq_false (by omega)
 have p0 : 0 < s.size := by omega
 cases hd : Nm.digit s[0].toNat with
 | true =>
  have hfin : Nm.nameOK s.data.toList = false := Nm.nameOK_digit _ (by rw [hl]; exact p0) hd
  have Hf := Lib.hid hfin; clear hfin
  go_enter Try.func106, Try.ntmps106
  go_wp2_with (first | (go_at_call 115; refine (qA _ _).mono ?_; rintro e w' ⟨rfl, rfl⟩) | (go_at_call 116; refine (jW _ _).mono ?_; rintro e w' ⟨rfl, rfl⟩))
  go_ret
  exact ⟨xM Hf.out.symm, rfl⟩
 | false =>
  have hfin : Nm.nameOK s.data.toList = Nm.lettersFrom s.data.toList := Nm.nameOK_letters _ (by rw [hl]; exact p0) (by omega) hd
  have Hf := Lib.hid hfin; clear hfin
  have h1' : s.size ≤ 12 := by omega
  clear h1
  go_enter Try.func106, Try.ntmps106
  go_wp2_with (first | (go_at_call 115; refine (qA _ _).mono ?_; rintro e w' ⟨rfl, rfl⟩) | (go_at_call 116; refine (jW _ _).mono ?_; rintro e w' ⟨rfl, rfl⟩))
  go_loop [3] (fun i => ∃ k : Nat, k ≤ s.size ∧ i = .int .i64 k ∧ Nm.lettersFrom (s.data.toList.take k) = true) (fun i => s.size - (intOf i).toNat)
  case atStart => exact ⟨0, Nat.zero_le _, rfl, rfl⟩
  case round =>
   obtain ⟨k, hk, rfl, hr⟩ := hrel
   have Hr := Lib.hid hr; clear hr
   by_cases hlt : k < s.size
   · have hst : Hid (Nm.lettersFrom (s.data.toList.take (k + 1)) = (Nm.lettersFrom (s.data.toList.take k) && Nm.okc s[k])) := Nm.lettersFrom_take _ k (by omega)
     have hbad : Hid (Nm.okc s[k] = false → Nm.lettersFrom s.data.toList = false) := fun h => Nm.lettersFrom_bad _ k (by omega) h
     have hok : Nm.okc s[k] = (Nm.letter s[k].toNat || Nm.digit s[k].toNat) := rfl
     have Hok := Lib.hid hok; clear hok
     go_wp2_with (first | (go_at_call 115; refine (qA _ _).mono ?_; rintro e w' ⟨rfl, rfl⟩) | (go_at_call 116; refine (jW _ _).mono ?_; rintro e w' ⟨rfl, rfl⟩))
     · go_round
       case rel => exact ⟨k + 1, by omega, by go_num, by rw [hst.out, Hr.out, Hok.out]; simp [*]⟩
       case measure => simp [intOf]; omega
     · go_ret
       exact ⟨xM (by rw [Hf.out, hbad.out]; rw [Hok.out]; simp_all), rfl⟩
     · go_round
       case rel => exact ⟨k + 1, by omega, by go_num, by rw [hst.out, Hr.out, Hok.out]; simp_all⟩
       case measure => simp [intOf]; omega
   · go_wp2
     go_ret
     exact ⟨xM (by rw [Hf.out]; have := Hr.out; rw [List.take_of_length_le (by omega)] at this; exact this.symm), rfl⟩
set_option maxHeartbeats 400000 in
theorem aBU (s : ByteArray) (w : World) (hs : s.size ≤ maxLen) :
 Calls Try.prog 75 #[.string s] w fun e w' => e = .returned (.bool (Nm.nameOK s.data.toList)) ∧ w = w' := by
 unfold maxLen at hs
 have hl : s.data.toList.length = s.size := by simp
 by_cases h0 : s.size = 0
 · have : s = ByteArray.empty := by simpa using h0
   subst this
   go_enter Try.func75, Try.ntmps75
   go_wp2
   go_ret
   exact ⟨rfl, rfl⟩
 have e2 : decide ((s.size : Int) < 1) = false := decide_eq_false (by omega)
 by_cases h1 : 12 < s.size
 · go_enter Try.func75, Try.ntmps75
   go_wp2
   go_ret
   exact ⟨xM (Nm.nameOK_long _ (by omega)).symm, rfl⟩
 have e1 : decide ((12 : Int) < s.size) = false := decide_eq_false (by omega)
 have p0 : 0 < s.size := by omega
 cases hd : Nm.letter s[0].toNat with
 | false =>
  have hfin : Nm.nameOK s.data.toList = false := by
   rw [Nm.nameOK_eq _ (by rw [hl]; exact p0) (by omega)]
   have : Nm.letter s.data.toList[0].toNat = false := hd
   rw [this]; rfl
  have Hf := Lib.hid hfin; clear hfin
  go_enter Try.func75, Try.ntmps75
  go_wp2_with (go_at_call 104; refine (kX _ _).mono ?_; rintro e w' ⟨rfl, rfl⟩)
  go_ret
  exact ⟨xM Hf.out.symm, rfl⟩
 | true =>
  have hfin : Nm.nameOK s.data.toList = Nm.lettersFrom s.data.toList := by
   rw [Nm.nameOK_eq _ (by rw [hl]; exact p0) (by omega)]
   have : Nm.letter s.data.toList[0].toNat = true := hd
   rw [this]; rfl
  have Hf := Lib.hid hfin; clear hfin
  have hst1 : Hid (Nm.lettersFrom (s.data.toList.take 1) = true) := by
   have e : Nm.lettersFrom (s.data.toList.take (0 + 1)) = (Nm.lettersFrom (s.data.toList.take 0) && Nm.okc s[0]) := Nm.lettersFrom_take _ 0 (by rw [hl]; exact p0)
   show Nm.lettersFrom (s.data.toList.take (0 + 1)) = true
   rw [e, Nm.okc, hd]; rfl
  have h1' : s.size ≤ 12 := by omega
  clear h1
  go_enter Try.func75, Try.ntmps75
  go_wp2_with (go_at_call 104; refine (kX _ _).mono ?_; rintro e w' ⟨rfl, rfl⟩)
  go_loop [3] (fun i => ∃ k : Nat, 1 ≤ k ∧ k ≤ s.size ∧ i = .int .i64 k ∧ Nm.lettersFrom (s.data.toList.take k) = true) (fun i => s.size - (intOf i).toNat)
  case atStart => exact ⟨1, Nat.le_refl _, p0, rfl, hst1.out⟩
  case round =>
   obtain ⟨k, hk0, hk, rfl, hr⟩ := hrel
   have Hr := Lib.hid hr; clear hr
   by_cases hlt : k < s.size
   · have hst : Hid (Nm.lettersFrom (s.data.toList.take (k + 1)) = (Nm.lettersFrom (s.data.toList.take k) && Nm.okc s[k])) := Nm.lettersFrom_take _ k (by omega)
     have hbad : Hid (Nm.okc s[k] = false → Nm.lettersFrom s.data.toList = false) := fun h => Nm.lettersFrom_bad _ k (by omega) h
     have hok : Nm.okc s[k] = (Nm.letter s[k].toNat || Nm.digit s[k].toNat) := rfl
     have Hok := Lib.hid hok; clear hok
     go_wp2_with (first | (go_at_call 104; refine (kX _ _).mono ?_; rintro e w' ⟨rfl, rfl⟩) | (go_at_call 105; refine (aE6 _ _).mono ?_; rintro e w' ⟨rfl, rfl⟩))
     · go_round
       case rel => exact ⟨k + 1, by omega, by omega, by go_num, by rw [hst.out, Hr.out, Hok.out]; simp [*]⟩
       case measure => simp [intOf]; omega
     · go_ret
       exact ⟨xM (by rw [Hf.out, hbad.out]; rw [Hok.out]; simp_all), rfl⟩
     · go_round
       case rel => exact ⟨k + 1, by omega, by omega, by go_num, by rw [hst.out, Hr.out, Hok.out]; simp_all⟩
       case measure => simp [intOf]; omega
   · go_wp2
     go_ret
     exact ⟨xM (by rw [Hf.out]; have := Hr.out; rw [List.take_of_length_le (by omega)] at this; exact this.symm), rfl⟩
end Go.Proofs.Ytdhjchdbgognbaa
namespace Go.Proofs.Ytdhjchdbgognbaa
theorem aAY : ∀ (x y : List UInt8), Op.bytesLess x y = decide (x < y)
 | [], [] => by simp [Op.bytesLess]
 | [], _ :: _ => by simp [Op.bytesLess]
 | _ :: _, [] => by simp [Op.bytesLess]
 | a :: xs, b :: ys => by
  rw [Op.bytesLess, aAY xs ys, Bool.eq_iff_iff]
  simp [List.cons_lt_cons_iff]
def klt (a b : ByteArray) : Bool := Op.bytesLess a.toList b.toList
theorem jI (a b : ByteArray) : klt a b = true ↔ a.toList < b.toList := by simp [klt, aAY]
theorem aAC (a : ByteArray) : klt a a = false := by
 cases h : klt a a with
 | false => rfl
 | true => exact absurd ((jI _ _).1 h) (List.lt_irrefl _)
theorem ji {a b c : ByteArray} (h : klt a b = true) (k : klt b c = true) : klt a c = true :=
 (jI _ _).2 (List.lt_trans ((jI _ _).1 h) ((jI _ _).1 k))
theorem jh {a b : ByteArray} (h : klt a b = true) : klt b a = false := by
 cases k : klt b a with
 | false => rfl
 | true => have := ji h k; rw [aAC] at this; cases this
theorem aCg {a b : ByteArray} (h : klt a b = false) (k : a ≠ b) : klt b a = true := by
 rw [jI]
 have h' : ¬ a.toList < b.toList := fun x => by rw [(jI _ _).2 x] at h; cases h
 rcases List.le_iff_lt_or_eq.1 (List.not_lt.1 h') with h2 | h2
 · exact h2
 · exact absurd (toList_inj h2.symm) k
theorem aE5 {a b : ByteArray} (h : klt a b = true) : a ≠ b := by rintro rfl; rw [aAC] at h; cases h
theorem aKN (a b : ByteArray) : (Op.bytesLess a.toList b.toList || a.toList == b.toList) = !klt b a := by
 have e : Op.bytesLess a.toList b.toList = klt a b := rfl
 rw [e, vY]
 by_cases h : a = b
 · subst h; simp [aAC]
 · cases k : klt a b with
   | true => simp [jh k]
   | false => simp [aCg k h, h]
def nm (k : ByteArray) : Bool := Nm.nameOK k.data.toList
def aIr (x : Int) : Bool := decide (-1000000 ≤ x) && decide (x ≤ 1000000)
def kAt (es : List Ent) (i : Nat) : ByteArray := (es.getD i (ByteArray.empty, 0)).1
def zN (es : List Ent) (i : Nat) : Bool := nm (kAt es i) && (decide (i = 0) || klt (kAt es (i - 1)) (kAt es i))
def uF (es : List Ent) (i : Nat) : Bool := aIr (es.getD i (ByteArray.empty, 0)).2
def kY (es : List Ent) : Bool := (List.range es.length).all (zN es)
def aFN (es : List Ent) : Bool := (List.range es.length).all (uF es)
def xW (es : List Ent) : Bool := decide (es.length ≤ 12) && (kY es && aFN es)
theorem qM (es : List Ent) (i : Nat) (h : i < es.length) : kAt es i = es[i].1 := by simp [kAt, h]
theorem aGA {es : List Ent} (h : ∀ i, i < es.length → zN es i = true) : kY es = true := by
 rw [kY, List.all_eq_true]; intro i hi; exact h i (List.mem_range.1 hi)
theorem aJf {es : List Ent} (h : ∀ i, i < es.length → uF es i = true) : aFN es = true := by
 rw [aFN, List.all_eq_true]; intro i hi; exact h i (List.mem_range.1 hi)
theorem aBf {es : List Ent} {i : Nat} (hi : i < es.length) (h : zN es i = false) : kY es = false := by
 rw [kY, List.all_eq_false]; exact ⟨i, List.mem_range.2 hi, by rw [h]; simp⟩
theorem aIs {es : List Ent} {i : Nat} (hi : i < es.length) (h : uF es i = false) : aFN es = false := by
 rw [aFN, List.all_eq_false]; exact ⟨i, List.mem_range.2 hi, by rw [h]; simp⟩
theorem aFz {es : List Ent} (h : kY es = true) {i : Nat} (hi : i < es.length) : zN es i = true := List.all_eq_true.1 h i (List.mem_range.2 hi)
theorem aEd {es : List Ent} (h0 : es.length ≤ 12) (h : ∀ i, i < es.length → zN es i = true ∧ uF es i = true) : xW es = true := by
 rw [xW, aGA fun i hi => (h i hi).1, aJf fun i hi => (h i hi).2, decide_eq_true h0]; rfl
theorem aBW {es : List Ent} {i : Nat} (hi : i < es.length) (h : zN es i = false) : xW es = false := by
 rw [xW, aBf hi h]; simp
theorem aBX {es : List Ent} {i : Nat} (hi : i < es.length) (h : uF es i = false) : xW es = false := by
 rw [xW, aIs hi h]; simp
theorem aCL {es : List Ent} (h : 12 < es.length) : xW es = false := by
 rw [xW, decide_eq_false (by omega)]; rfl
theorem aD0 {es : List Ent} {k : Nat} (h : 0 < k) (hk : k < es.length) (hn : nm (kAt es k) = true) : zN es k = klt (es[k - 1]'(by omega)).1 es[k].1 := by
 rw [zN, hn, decide_eq_false (by omega), qM es k hk, qM es (k - 1) (by omega)]; simp
theorem aCR {es : List Ent} (hn : nm (kAt es 0) = true) : zN es 0 = true := by rw [zN, hn]; rfl
def Srt (es : List Ent) : Prop := es.Pairwise fun a b => klt a.1 b.1 = true
theorem aFg {es : List Ent} (h : kY es = true) : Srt es := by
 have hadj : ∀ i, (hi : i + 1 < es.length) → klt es[i].1 es[i + 1].1 = true := fun i hi => by
  have := aFz h hi
  rw [zN, Bool.and_eq_true] at this
  have h2 := this.2
  rw [decide_eq_false (by omega), Bool.false_or, Nat.add_sub_cancel, qM es i (by omega), qM es (i + 1) hi] at h2
  exact h2
 rw [Srt, List.pairwise_iff_getElem]
 intro i j hi hj hij
 induction j with
 | zero => omega
 | succ j ih =>
  rcases Nat.lt_or_ge i j with hlt | hge
  · exact ji (ih (by omega) hlt) (hadj j hj)
  · have : i = j := by omega
    subst this; exact hadj i hj
theorem aAj {es : List Ent} (h : xW es = true) : Srt es := by
 rw [xW, Bool.and_eq_true, Bool.and_eq_true] at h
 exact aFg h.2.1
def fnd (es : List Ent) (k : ByteArray) : Option Nat := es.findIdx? fun e => decide (e.1 = k)
def atI (es : List Ent) (k : ByteArray) : Int := match fnd es k with | some i => i | none => -1
theorem aEW {es : List Ent} {k : ByteArray} {i : Nat} (hi : i < es.length) (h : es[i].1 = k) (hb : ∀ j, (hj : j < i) → es[j].1 ≠ k) : fnd es k = some i := by
 rw [fnd, List.findIdx?_eq_some_iff_getElem]
 exact ⟨hi, by simpa using h, fun j hj => by simpa using hb j hj⟩
theorem aEV {es : List Ent} {k : ByteArray} (h : ∀ j, (hj : j < es.length) → es[j].1 ≠ k) : fnd es k = none := by
 rw [fnd, List.findIdx?_eq_none_iff]
 intro e he
 obtain ⟨j, hj, rfl⟩ := List.getElem_of_mem he
 simpa using h j hj
def uI (es : List Ent) (k : ByteArray) (p : Nat) : Prop := p ≤ es.length ∧ (∀ j, (hj : j < es.length) → j < p → klt es[j].1 k = true) ∧ ((hp : p < es.length) → klt es[p].1 k = false)
theorem uI.fnd_yes {es : List Ent} {k : ByteArray} {p : Nat} (h : uI es k p) (hp : p < es.length) (he : es[p].1 = k) : fnd es k = some p :=
 aEW hp he fun j hj => aE5 (h.2.1 j (by omega) hj)
theorem uI.fnd_no {es : List Ent} {k : ByteArray} {p : Nat} (h : uI es k p) (hs : Srt es) (he : ∀ hp : p < es.length, es[p].1 ≠ k) : fnd es k = none :=
 aEV fun j hj => by
  rcases Nat.lt_trichotomy j p with hlt | heq | hgt
  · exact aE5 (h.2.1 j hj hlt)
  · subst heq; exact he hj
  · have h1 : klt es[p].1 es[j].1 = true := (List.pairwise_iff_getElem.1 hs) p j (by omega) hj hgt
    have h2 : klt k es[p].1 = true := aCg (h.2.2 (by omega)) (he (by omega))
    exact (aE5 (ji h2 h1)).symm
theorem uI.take {es : List Ent} {k : ByteArray} {p : Nat} (h : uI es k p) : es.takeWhile (fun e => klt e.1 k) = es.take p ∧ es.dropWhile (fun e => klt e.1 k) = es.drop p := by
 induction es generalizing p with
 | nil => obtain ⟨h1, _⟩ := h; simp
 | cons e r ih =>
  obtain ⟨h1, h2, h3⟩ := h
  match p, h1, h2, h3 with
  | 0, _, _, h3 => have := h3 (by simp); simp at this; simp [this]
  | p + 1, h1, h2, h3 =>
   have he := h2 0 (by simp) (by omega)
   simp at he
   have := ih (p := p) ⟨by simpa using h1, fun j hj hjp => by have := h2 (j + 1) (by simp; omega) (by omega); simpa using this, fun hp => by have := h3 (by simp; omega); simpa using this⟩
   simp [he, this]
def uH (es : List Ent) (k : ByteArray) : Int := if 4096 < es.length ∨ 65536 < k.size then 2 else if xW es = true ∧ nm k = true then 0 else 1
def getM (es : List Ent) (k : ByteArray) : Int × Int := if uH es k = 0 then (match fnd es k with | some i => ((es.getD i (ByteArray.empty, 0)).2, 0) | none => (0, 5)) else (0, uH es k)
theorem aE2 {es : List Ent} {k : ByteArray} (h : uH es k = 0) : es.length ≤ 4096 ∧ k.size ≤ 65536 ∧ xW es = true ∧ nm k = true := by
 unfold uH at h
 split at h
 · cases h
 · split at h
   · rename_i h1 h2
     exact ⟨by omega, by omega, h2.1, h2.2⟩
   · cases h
theorem uI.after {es : List Ent} {k : ByteArray} {p : Nat} (h : uI es k p) (hs : Srt es) (j : Nat) (hj : j < es.length) (hpj : p < j) : klt k es[j].1 = true := by
 have h1 : klt es[p].1 es[j].1 = true := (List.pairwise_iff_getElem.1 hs) p j (by omega) hj hpj
 by_cases he : es[p].1 = k
 · rw [← he]; exact h1
 · exact ji (aCg (h.2.2 (by omega)) he) h1
def inR (a b : ByteArray) (e : Ent) : Bool := !klt e.1 a && (decide (b.size = 0) || klt e.1 b)
def kL (es : List Ent) (a b : ByteArray) : List Ent := es.filter (inR a b)
def jo (es : List Ent) (a b : ByteArray) : List Ent × Int := if 4096 < es.length ∨ 65536 < a.size ∨ 65536 < b.size then ([], 2) else if xW es = true then (kL es a b, 0) else ([], 1)
theorem aCA {es : List Ent} {q : Ent → Bool} {p r : Nat} (hpr : p ≤ r) (h1 : ∀ j, (hj : j < es.length) → j < p → q es[j] = false) (h2 : ∀ j, (hj : j < es.length) → p ≤ j → j < r → q es[j] = true) (h3 : ∀ j, (hj : j < es.length) → r ≤ j → q es[j] = false) :
 es.filter q = (es.drop p).take (r - p) := by
 have e1 : es = es.take p ++ ((es.drop p).take (r - p) ++ (es.drop p).drop (r - p)) := by rw [List.take_append_drop, List.take_append_drop]
 rw (occs := .pos [1]) [e1]
 rw [List.filter_append, List.filter_append]
 have f1 : (es.take p).filter q = [] := by
  rw [List.filter_eq_nil_iff]; intro e he
  obtain ⟨j, hj, rfl⟩ := List.getElem_of_mem he
  rw [List.length_take] at hj
  rw [List.getElem_take, h1 j (by omega) (by omega)]; simp
 have f3 : ((es.drop p).drop (r - p)).filter q = [] := by
  rw [List.filter_eq_nil_iff]; intro e he
  obtain ⟨j, hj, rfl⟩ := List.getElem_of_mem he
  rw [List.length_drop, List.length_drop] at hj
  rw [List.getElem_drop, List.getElem_drop, h3 _ (by omega) (by omega)]; simp
 have f2 : ((es.drop p).take (r - p)).filter q = (es.drop p).take (r - p) := by
  rw [List.filter_eq_self]; intro e he
  obtain ⟨j, hj, rfl⟩ := List.getElem_of_mem he
  rw [List.length_take, List.length_drop] at hj
  rw [List.getElem_take, List.getElem_drop, h2 _ (by omega) (by omega) (by omega)]
 rw [f1, f2, f3]; simp
theorem aID {es : List Ent} {a b : ByteArray} {p : Nat} (hs : Srt es) (hp : uI es a p) (hb : b.size = 0) : kL es a b = (es.drop p).take (es.length - p) := by
 refine aCA hp.1 (fun j hj h => ?_) (fun j hj h h' => ?_) (fun j hj h => by omega)
 · rw [inR, hp.2.1 j hj h]; rfl
 · have : klt es[j].1 a = false := by
    rcases Nat.lt_or_ge p j with h2 | h2
    · exact jh (hp.after hs j hj h2)
    · have : j = p := by omega
      subst this; exact hp.2.2 hj
   rw [inR, this, decide_eq_true hb]; rfl
theorem uI.ge {es : List Ent} {k : ByteArray} {p : Nat} (h : uI es k p) (hs : Srt es) (j : Nat) (hj : j < es.length) (hpj : p ≤ j) : klt es[j].1 k = false := by
 rcases Nat.lt_or_ge p j with h2 | h2
 · exact jh (h.after hs j hj h2)
 · have : j = p := by omega
   subst this; exact h.2.2 hj
theorem aJ9 {es : List Ent} {a b : ByteArray} {p r : Nat} (hs : Srt es) (hp : uI es a p) (hr : uI es b r) (hb : b.size ≠ 0) : kL es a b = (es.drop p).take (max p r - p) := by
 refine aCA (Nat.le_max_left _ _) (fun j hj h => ?_) (fun j hj h h' => ?_) (fun j hj h => ?_)
 · rw [inR, hp.2.1 j hj h]; rfl
 · rw [inR, hp.ge hs j hj h, hr.2.1 j hj (by omega)]; simp
 · rw [inR, hr.ge hs j hj (by omega), decide_eq_false hb]; simp
open Go.RowKit
theorem uR {P : Program} (w : World) {ops : Array Oper} {rest : List Oper} {o : Oper} {a : Act} {Q : Exit → Act → World → Prop} (hgd : o.guard = none) (s x : Operand) (t : TypeId)
 (ho : o.op = .call { callee := .builtin .append, args := #[s, x], argTypes := #[t, t] })
 (base : Nat) (e : TypeId) (i : TypeInfo) (z : Value) (size bytes : Nat) (ht : P.underlying t = some (.slice e)) (hi : P.info? e = some i) (hz : i.zero = some z)
 (hsize : i.size = size) (hby : i.bytes = bytes) (hzs : z.cells.size = size) (hsz : 0 < size)
 (v : Value) (n : Nat) (xs : List Value) (hs : a.eval s = v) (hown : w.ownsRow base e size v n xs)
 (cs : Array Value) (m c : Nat) (hx : a.eval x = .slice (some ⟨w.heap.size, 0, none⟩) m c) (hl : cs.size = m * size) (h1 : ∀ u ∈ cs.toList, u.oneCell' = true)
 (hsmall : (n + m) * bytes ≤ 140737488355328) (hb1 : 1 ≤ bytes) (hbase : base ≤ w.heap.size)
 (h : ∀ v' w', w'.ownsRow base e size v' (n + m) (xs ++ cs.toList) → w.grownBy w' v.ownBlock → wpList P ops Q rest (a.put o.dst v') w') : wpList P ops Q (o :: rest) a (w.alloc (.cells cs e)) := by
 have h63 : n + m ≤ maxLen := by
  have : (n + m) * 1 ≤ (n + m) * bytes := Nat.mul_le_mul_left _ hb1
  unfold maxLen; omega
 refine wpList_append_own (w.alloc (.cells cs e)) hgd s x t ho base e i z size bytes ht hi hz hsize hby hzs hsz v n xs hs (hown.alloc _) ⟨w.heap.size, 0, none⟩ m c cs.toList hx (by simpa using hl) ?_ h1 h63 hsmall (by simp; omega) ?_
 · intro j u hu
   have hadd : (⟨w.heap.size, 0, none⟩ : Addr).add j = ⟨w.heap.size, j, none⟩ := by unfold Addr.add; split <;> simp_all
   rw [hadd, cell_of_row _ w.heap.size j cs e (0, 0) (heap_alloc_new w _)]
   simpa using hu
 · intro v' w' h2 h3 _
   exact h v' w' h2 ⟨h3.os, h3.tape, h3.output, Nat.le_trans (by simp) h3.size, fun k hk hne => (h3.block k (by simp; omega) hne).trans (Below.heap_alloc w _ k hk)⟩
theorem below_grown {B : Nat} {a w w' : World} {v : Value} {base : Nat} {e : TypeId} {sz n : Nat} {xs : List Value} (h : Below B a w) (hg : w.grownBy w' v.ownBlock) (ho : w.ownsRow base e sz v n xs) (hB : B ≤ w.heap.size) (hBb : B ≤ base) : Below B a w' :=
 h.grown hg hB fun k hk => Nat.le_trans hBb (ho.lt k hk).1
theorem aCt {P : Program} (w : World) (dT sT ty elem : TypeId) (i : TypeInfo) (size : Nat) (hu : P.underlying dT = some (.slice elem)) (hi : P.info? elem = some i) (hsz : i.size = size)
 (dp sp : Option Addr) (dLen dCap sLen sCap g off : Nat) (cur : Array Value) (t : TypeId) (hg : Blk w g t cur) (cs : List Value) (hn : cs.length = Nat.min sLen dLen * size)
 (hpos : 0 < cs.length → dp = some ⟨g, off, none⟩ ∧ ∃ ad, sp = some ad ∧ ∀ j v, cs[j]? = some v → w.cell? (ad.add j) = some v) (hfit : off + cs.length ≤ cur.size) (h1 : ∀ v ∈ cs, v.oneCell' = true) :
 ∃ w', (Builtin.copy_ #[dT, sT] ty #[.slice dp dLen dCap, .slice sp sLen sCap]).run P w = .ok (goInt (Nat.min sLen dLen)) w' ∧ Blk w' g t (splice cur.toList off cs).toArray ∧ ∀ B w0, Below B w0 w → B ≤ g → Below B w0 w' := by
 subst hsz
 by_cases h0 : cs.length = 0
 · have hcs : cs = [] := List.eq_nil_of_length_eq_zero h0
   subst hcs
   refine ⟨w, ?_, by simpa [splice] using hg, fun _ _ h _ => h⟩
   have hz : Nat.min sLen dLen * i.size = 0 := by simpa using hn.symm
   have hload : (Builtin.firstCells i.size (Nat.min sLen dLen) (.slice sp sLen sCap)).run P w = .ok #[] w := by
    cases sp with
    | none => simp [Builtin.firstCells]
    | some a => exact run_firstCells_some (P := P) w i.size _ a sLen sCap [] (by simp [hz]) (by simp)
   cases dp with
   | none => simp [Builtin.copy_, run_underlying hu, Builtin.lenOf, sizeOf, typeInfo, hi, hload]
   | some a => simp [Builtin.copy_, run_underlying hu, Builtin.lenOf, sizeOf, typeInfo, hi, hload, storeCells]
 · obtain ⟨rfl, ad, rfl, hsrc⟩ := hpos (by omega)
   have hload := run_firstCells_some (P := P) w i.size (Nat.min sLen dLen) ad sLen sCap cs hn hsrc
   have hst := run_storeCells_at P g off t cs 0 cur w hg (by simpa using hfit) h1
   simp only [Nat.add_zero] at hst
   refine ⟨w.setRow g (cur.toList.take off ++ cs ++ cur.toList.drop (off + cs.length)).toArray, ?_, ?_, fun B w0 h hB => below_setRow h hB _⟩
   · simp [Builtin.copy_, run_underlying hu, Builtin.lenOf, sizeOf, typeInfo, hi, hload, hst]
   · have := setRow_heap w g cur (cur.toList.take off ++ cs ++ cur.toList.drop (off + cs.length)).toArray t (0, 0) hg
     simpa [Blk, splice] using this
theorem kr {P : Program} {w : World} {ops : Array Oper} {rest : List Oper} {o : Oper} {a : Act} {Q : Exit → Act → World → Prop} (hgd : o.guard = none) (d s : Operand) (dT sT : TypeId)
 (ho : o.op = .call { callee := .builtin .copy, args := #[d, s], argTypes := #[dT, sT] }) (elem : TypeId) (i : TypeInfo) (size : Nat) (hu : P.underlying dT = some (.slice elem)) (hi : P.info? elem = some i) (hsz : i.size = size)
 (dp sp : Option Addr) (dLen dCap sLen sCap : Nat) (hd : a.eval d = .slice dp dLen dCap) (hs : a.eval s = .slice sp sLen sCap)
 (g off : Nat) (cur : Array Value) (t : TypeId) (hg : Blk w g t cur) (cs : List Value) (hn : cs.length = Nat.min sLen dLen * size)
 (hpos : 0 < cs.length → dp = some ⟨g, off, none⟩ ∧ ∃ ad, sp = some ad ∧ ∀ j v, cs[j]? = some v → w.cell? (ad.add j) = some v) (hfit : off + cs.length ≤ cur.size) (h1 : ∀ v ∈ cs, v.oneCell' = true)
 (B : Nat) (w0 : World) (hb : Below B w0 w) (hBg : B ≤ g)
 (h : ∀ w', Blk w' g t (splice cur.toList off cs).toArray → Below B w0 w' → wpList P ops Q rest (a.put o.dst (goInt (Nat.min sLen dLen))) w') : wpList P ops Q (o :: rest) a w := by
 refine wpList_plain hgd fun K hK => ?_
 obtain ⟨w', hrun, h2, h3⟩ := aCt (P := P) w dT sT o.type elem i size hu hi hsz dp sp dLen dCap sLen sCap g off cur t hg cs hn hpos hfit h1
 unfold Oper.wp
 simp [execOp, ho, resolve, invoke, builtin, hd, hs, hrun, Result.andThen]
 exact hK _ _ (h w' h2 (h3 B w0 hb hBg))
theorem Rd.piece {w : World} {sz n : Nat} {A : Option Addr} {xs : List Value} (h : Rd w sz A n xs) {i m : Nat} (hm : i + m ≤ n) (hpos : 0 < ((xs.drop (i * sz)).take (m * sz)).length) :
 ∃ b off, A = some ⟨b, off, none⟩ ∧ ∀ j v, ((xs.drop (i * sz)).take (m * sz))[j]? = some v → w.cell? ((⟨b, off + i * sz, none⟩ : Addr).add j) = some v := by
 have hn : 0 < n := by
  rcases Nat.eq_zero_or_pos n with h0 | h0
  · subst h0
    have : m = 0 := by omega
    subst this
    simp at hpos
  · exact h0
 obtain ⟨b, off, rfl, _, hc⟩ := h.2 hn
 refine ⟨b, off, rfl, fun j v hj => ?_⟩
 have hadd : (⟨b, off + i * sz, none⟩ : Addr).add j = ⟨b, off + (i * sz + j), none⟩ := by unfold Addr.add; split <;> simp_all [Nat.add_assoc]
 rw [hadd]
 refine hc _ _ ?_
 rw [List.getElem?_take] at hj
 split at hj
 · rw [List.getElem?_drop] at hj; exact hj
 · cases hj
theorem aEb {xs : List Value} {sz n i m : Nat} (h : xs.length = n * sz) (hm : i + m ≤ n) : ((xs.drop (i * sz)).take (m * sz)).length = m * sz := by
 rw [List.length_take, List.length_drop, h, ← Nat.sub_mul]
 exact Nat.min_eq_left (Nat.mul_le_mul_right _ (by omega))
theorem Rd.cut {w : World} {sz n : Nat} {A : Option Addr} {xs : List Value} (h : Rd w sz A n xs) {i m : Nat} (hm : i + m ≤ n) (hpos : 0 < ((xs.drop (i * sz)).take (m * sz)).length) :
 ∃ ad, Option.map (fun x => x.add (i * sz)) A = some ad ∧ ∀ j v, ((xs.drop (i * sz)).take (m * sz))[j]? = some v → w.cell? (ad.add j) = some v := by
 obtain ⟨b, off, rfl, hc⟩ := h.piece hm hpos
 have hadd : (⟨b, off, none⟩ : Addr).add (i * sz) = ⟨b, off + i * sz, none⟩ := by unfold Addr.add; split <;> simp_all
 exact ⟨_, rfl, fun j v hj => by
  show w.cell? (((⟨b, off, none⟩ : Addr).add (i * sz)).add j) = some v
  rw [hadd]; exact hc j v hj⟩
theorem aFh (key : ByteArray) (v : Int) (w : World) :
 Calls Try.prog 112 #[.agg #[.string key, .int .i64 v]] w fun e w' => e = .returned (.agg #[.string key, .int .i64 v]) ∧ Below w.heap.size w w' := by
 go_enter Try.func112, Try.ntmps112
 go_wp2
 exact bodyPost_ret (v := .agg #[.string key, .int .i64 v]) (by simp [results, Try.results112, go_sem]) rfl ⟨rfl, by
  refine ((((((((((Below.refl _ _).alloc (Nat.le_refl _) _).alloc (by simp) _).alloc (by simp; omega) _)))))))⟩
def EqE (a b : Ent) : Bool := decide (a.1 = b.1) && decide (a.2 = b.2)
theorem aF5 (k1 k2 : ByteArray) (v1 v2 : Int) (w : World) :
 Calls Try.prog 51 #[.agg #[.string k1, .int .i64 v1], .agg #[.string k2, .int .i64 v2]] w fun e w' => e = .returned (.bool (EqE (k1, v1) (k2, v2))) ∧ Below w.heap.size w w' := by
 have hk := vY k1 k2
 by_cases h1 : k1 = k2 <;> by_cases h2 : v1 = v2
 all_goals
  go_enter Try.func51, Try.ntmps51
  go_wp2
  go_ret
  exact ⟨xM (by simp [EqE, h1, h2]), ((Below.refl _ _).alloc (Nat.le_refl _) _).alloc (by simp) _⟩
def aHI (b : Bool) (w : World) (e : Ending) (w' : World) : Prop := e = .returned (.bool b) ∧ Below w.heap.size w w'
set_option maxRecDepth 100000 in
theorem aET (A : Option Addr) (n c : Nat) (es : List Ent) (A' : Option Addr) (n' c' : Nat) (es' : List Ent) (w : World) (hr : Rd w 2 A n (xJ es)) (hr' : Rd w 2 A' n' (xJ es')) (hm : n ≤ maxLen) (hm' : n' ≤ maxLen) :
 Calls Try.prog 23 #[.slice A n c, .slice A' n' c'] w (aHI (decide (es = es')) w) := by
 unfold maxLen at hm hm'
 have hlen := hr.len
 have hlen' := hr'.len
 have Hlen := Lib.hid hlen; clear hlen
 have Hlen' := Lib.hid hlen'; clear hlen'
 by_cases hne : n = n'
 case neg =>
  have hfin : Hid (decide (es = es') = false) := decide_eq_false (fun h => hne (by rw [← Hlen.out, ← Hlen'.out, h]))
  have hb : ((n : Int) != n') = true := by rw [bne_iff_ne]; omega
  go_enter Try.func23, Try.ntmps23
  go_wp2
  go_ret
  exact ⟨xM hfin.out.symm, Below.refl _ _⟩
 subst hne
 go_enter Try.func23, Try.ntmps23
 go_wp2
 go_loopw [5] (fun i wr => ∃ k : Nat, k ≤ n ∧ i = .int .i64 k ∧ es.take k = es'.take k ∧ Below w.heap.size w wr) (fun i _ => n - (intOf i).toNat)
 case atStart => exact ⟨0, Nat.zero_le _, rfl, rfl, Below.refl _ _⟩
 case round =>
  obtain ⟨k, hk, rfl, heq, hb⟩ := hrel
  have Heq := Lib.hid heq; clear heq
  by_cases hlt : k < n
  · have hke : k < es.length := by rw [Hlen.out]; exact hlt
    have hke' : k < es'.length := by rw [Hlen'.out]; exact hlt
    obtain ⟨b, off, rfl, hbl, hbl2, hc1, hc2⟩ := hr.ent hb hke
    obtain ⟨b', off', rfl, hbl', hbl2', hc1', hc2'⟩ := hr'.ent hb hke'
    have hyes : Hid (EqE es[k] es'[k] = true → es.take (k + 1) = es'.take (k + 1)) := by
     intro h
     have h' : es[k] = es'[k] := by simp [EqE] at h; exact Prod.ext h.1 h.2
     rw [List.take_succ_eq_append_getElem hke, List.take_succ_eq_append_getElem hke', Heq.out, h']
    have hno : Hid (EqE es[k] es'[k] = false → decide (es = es') = false) := by
     intro h
     refine decide_eq_false (fun e => ?_)
     subst e
     simp [EqE] at h
    generalize es[k] = ek at *
    generalize es'[k] = ek' at *
    go_wp2
    go_still_tail 8, (by kernel_rfl)
    change wpList _ _ _ _ _ wr.drew
    generalize hw2 : wr.drew = w2
    have hb2 : Below w.heap.size w w2 := by rw [← hw2]; exact hb.drew
    clear hw2 hb
    go_wp2_with fail
    refine (aF5 _ _ _ _ _).mono ?_
    rintro e w3 ⟨rfl, hb3⟩
    cases hE : EqE (ek.1, ek.2) (ek'.1, ek'.2) with
    | true =>
     have HE := Lib.hid hE; clear hE
     go_wp2
     go_roundw
     case rel => exact ⟨k + 1, by omega, by go_num, hyes.out HE.out, hb2.trans (hb3.mono hb2.size)⟩
     case measure => simp [intOf]; omega
    | false =>
     have HE := Lib.hid hE; clear hE
     go_wp2
     go_ret
     exact ⟨xM (hno.out HE.out).symm, hb2.trans (hb3.mono hb2.size)⟩
  · have hfin : Hid (decide (es = es') = true) := by
     have h := Heq.out
     rw [List.take_of_length_le (by rw [Hlen.out]; omega), List.take_of_length_le (by rw [Hlen'.out]; omega)] at h
     exact decide_eq_true h
    go_wp2
    go_ret
    exact ⟨xM hfin.out.symm, hb⟩
theorem aCD : (Try.prog.info? 88).map (fun i => (i.zero, i.size, i.bytes)) = some (some (.agg #[.string ByteArray.empty, .int .i64 0]), 2, 24) := by kernel_rfl
set_option maxRecDepth 100000 in
theorem aFL (A : Option Addr) (n c : Nat) (es : List Ent) (w : World) (hr : Rd w 2 A n (xJ es)) (hm : n ≤ 1048576) :
 Calls Try.prog 98 #[.slice A n c] w fun e w' => ∃ v, e = .returned v ∧ w'.ownsRow w.heap.size 88 2 v n (xJ es) ∧ Below w.heap.size w w' := by
 have hlen := hr.len
 have Hlen := Lib.hid hlen; clear hlen
 obtain ⟨i0, hi, hz0, hz1, hz2⟩ := info_parts aCD
 have hmk := fun W => aAT (P := Try.prog) 47 88 i0 _ Try.underlying47 hi hz0 .i64 .i64 n n (Nat.le_refl _) (by rw [hz2]; omega) (by omega) W
 rw [hz1] at hmk
 have hm' : n ≤ 9223372036854775807 := by omega
 have Hi := Lib.hid hi; clear hi
 clear hz0 hz1 hz2 hm
 go_enter Try.func98, Try.ntmps98
 go_wp2
 have hblk0 : Blk (w.alloc (.cells (madeCells (Value.agg #[Value.string ByteArray.empty, Value.int IntKind.i64 0]).cells (n * 2)) 88)) w.heap.size 88 (madeCells (Value.agg #[Value.string ByteArray.empty, Value.int IntKind.i64 0]).cells (n * 2)) := Blk.new _ _ _
 have HB0 := Lib.hid hblk0; clear hblk0
 have hb0 : Below w.heap.size w (w.alloc (.cells (madeCells (Value.agg #[Value.string ByteArray.empty, Value.int IntKind.i64 0]).cells (n * 2)) 88)) := (Below.refl _ _).alloc (Nat.le_refl _) _
 have HBel := Lib.hid hb0; clear hb0
 generalize hg0 : w.heap.size = g at *
 have Hg0 := Lib.hid hg0; clear hg0
 go_loopw [4] (fun i wr => ∃ (k : Nat) (cs : Array Value), k ≤ n ∧ i = .int .i64 k ∧ Blk wr g 88 cs ∧ cs.size = n * 2 ∧ cs.toList.take (k * 2) = xJ (es.take k) ∧ Below g w wr) (fun i _ => n - (intOf i).toNat)
 case atStart => exact ⟨0, _, Nat.zero_le _, rfl, HB0.out, by simp [size_madeCells], by simp [xJ], HBel.out⟩
 case round =>
  obtain ⟨k, cs, hk, rfl, hblk, hsz, htk, hb⟩ := hrel
  by_cases hlt : k < n
  · have hke : k < es.length := by rw [Hlen.out]; exact hlt
    obtain ⟨b, off, rfl, hbl, hbl2, hc1, hc2⟩ := hr.ent (by rw [Hg0.out]; exact hb) hke
    have hstep : Hid (xJ (es.take (k + 1)) = xJ (es.take k) ++ [.string es[k].1, .int .i64 es[k].2]) := by
     rw [List.take_succ_eq_append_getElem hke, aA1]; rfl
    have HT := Lib.hid htk; clear htk
    have HS := Lib.hid hsz; clear hsz
    have HB := Lib.hid hblk; clear hblk
    generalize es[k] = ek at *
    go_wp2_with fail
    refine (aFh _ _ _).mono ?_
    rintro e w1 ⟨rfl, hb1⟩
    have hgl : g < wr.heap.size := HB.out.lt
    have hblk1 : Blk w1 g 88 cs := HB.out.kept hb1
    have hsz' := HS.out
    have hx0 : w1.cell? ⟨g, k * 2, none⟩ = some (cs[k * 2]'(by omega)) := by rw [hblk1.cell]; exact Array.getElem?_eq_getElem (by omega)
    have hx1 : w1.cell? ⟨g, k * 2 + 1, none⟩ = some (cs[k * 2 + 1]'(by omega)) := by rw [hblk1.cell]; exact Array.getElem?_eq_getElem (by omega)
    have hf0 := hblk1.frozen (k * 2)
    have hf1 := hblk1.frozen (k * 2 + 1)
    generalize cs[k * 2]'(by omega) = y0 at *
    generalize cs[k * 2 + 1]'(by omega) = y1 at *
    have HB1 := Lib.hid hblk1; clear hblk1 hsz'
    go_wp2
    go_roundw
    case rel => exact ⟨k + 1, _, by omega, by go_num, (HB1.out.set_ _ _).set_ _ _, by simpa using HS.out, by rw [aDb _ _ _ _ (by have := HS.out; omega), HT.out, hstep.out], ((hb.trans (hb1.mono (by omega))).setCell (Nat.le_refl g) _).setCell (Nat.le_refl g) _⟩
    case measure => simp [intOf]; omega
  · have HT := Lib.hid htk; clear htk
    have HS := Lib.hid hsz; clear hsz
    have HB := Lib.hid hblk; clear hblk
    have hkn : k = n := by omega
    have HKN := Lib.hid hkn; clear hkn
    go_wp2
    go_ret
    exact ⟨_, rfl, HB.out.own (Nat.le_of_eq Hg0.out) (Nat.le_refl _) (by unfold maxLen; omega) HS.out (by have h := HT.out; rw [HKN.out, List.take_of_length_le (l := es) (by rw [Hlen.out]; exact Nat.le_refl _)] at h; exact h), by rw [Hg0.out]; exact hb⟩
theorem aFi (x : Int) (w : World) :
 Calls Try.prog 109 #[.int .i64 x] w fun e w' => e = .returned (.bool (decide (-1000000 ≤ x) && decide (x ≤ 1000000))) ∧ w = w' := by
 go_enter Try.func109, Try.ntmps109
 go_wp2
 all_goals (go_ret; exact ⟨xM (by rw [Bool.eq_iff_iff]; simp; try omega), rfl⟩)
theorem aHb (x a b : Int) (w : World) :
 Calls Try.prog 76 #[.int .i64 x, .int .i64 a, .int .i64 b] w fun e w' => e = .returned (.bool (decide (a ≤ x) && decide (x ≤ b))) ∧ w = w' := by
 go_enter Try.func76, Try.ntmps76
 go_wp2
 all_goals (go_ret; exact ⟨xM (by rw [Bool.eq_iff_iff]; simp; try omega), rfl⟩)
theorem je (key : ByteArray) (v : Int) (w : World) :
 Calls Try.prog 137 #[.agg #[.string key, .int .i64 v]] w fun e w' => e = .returned (.string key) ∧ Below w.heap.size w w' := by
 go_enter Try.func137, Try.ntmps137
 go_wp2
 go_ret
 exact ⟨rfl, (Below.refl _ _).alloc (Nat.le_refl _) _⟩
theorem aF7 (es : List Ent) (k : Nat) (hke : k < es.length) (hs : es[k].1.size ≤ maxLen) (W : World) :
 Calls Try.prog 75 #[.string es[k].1] W fun e w' => e = .returned (.bool (nm (kAt es k))) ∧ W = w' := by
 rw [qM es k hke]; exact aBU _ W hs
theorem aHc (es : List Ent) (k : Nat) (hke : k < es.length) (W : World) :
 Calls Try.prog 76 #[.int .i64 es[k].2, .int .i64 (-1000000), .int .i64 1000000] W fun e w' => e = .returned (.bool (uF es k)) ∧ W = w' := by
 have e : uF es k = (decide (-1000000 ≤ es[k].2) && decide (es[k].2 ≤ 1000000)) := by simp [uF, aIr, hke]
 rw [e]; exact aHb _ _ _ _
set_option maxRecDepth 100000 in
theorem aHd (A : Option Addr) (n c : Nat) (es : List Ent) (w : World) (hr : Rd w 2 A n (xJ es)) (hm : n ≤ maxLen) (hks : ∀ e ∈ es, e.1.size ≤ maxLen) :
 Calls Try.prog 83 #[.slice A n c] w fun e w' => e = .returned (.bool (xW es)) ∧ Below w.heap.size w w' := by
 unfold maxLen at hm
 have hlen := hr.len
 have Hlen := Lib.hid hlen; clear hlen
 by_cases hbig : 12 < n
 · have hfin : Hid (xW es = false) := aCL (by rw [Hlen.out]; exact hbig)
   go_enter Try.func83, Try.ntmps83
   go_wp2
   go_ret
   exact ⟨xM hfin.out.symm, Below.refl _ _⟩
 have hn12 : n ≤ 12 := by omega
 clear hbig
 go_enter Try.func83, Try.ntmps83
 go_wp2
 go_loopw [3] (fun i wr => ∃ k : Nat, k ≤ n ∧ i = .int .i64 k ∧ (∀ j, j < k → zN es j = true ∧ uF es j = true) ∧ Below w.heap.size w wr) (fun i _ => n - (intOf i).toNat)
 case atStart => exact ⟨0, Nat.zero_le _, rfl, fun j hj => absurd hj (by omega), Below.refl _ _⟩
 case round =>
  obtain ⟨k, hk, rfl, hall, hb⟩ := hrel
  have Hall := Lib.hid hall; clear hall
  by_cases hlt : k < n
  · have hke : k < es.length := by rw [Hlen.out]; exact hlt
    obtain ⟨b, off, rfl, hbl, hbl2, hc1, hc2⟩ := hr.ent hb hke
    have hcall := aF7 es k hke (hks _ (List.getElem_mem hke))
    have hcall2 := aHc es k hke
    cases hw : nm (kAt es k) with
    | false =>
     have hfin : Hid (xW es = false) := aBW hke (by rw [zN, hw]; rfl)
     rw [hw] at hcall
     have Hcall := Lib.hid hcall
     clear hw hcall hcall2
     go_wp2
     go_quiet ((first | (go_at_call 75; exact Calls.quiet_of_same ((Hcall.out _).mono (fun _ _ h => ⟨h.1, h.2.symm⟩)))))
     go_wp2
     go_ret
     exact ⟨xM hfin.out.symm, hb.drewN _⟩
    | true =>
    cases hv : uF es k with
    | false =>
     have hfin : Hid (xW es = false) := aBX hke hv
     rw [hw] at hcall
     rw [hv] at hcall2
     have Hcall := Lib.hid hcall
     have Hcall2 := Lib.hid hcall2
     clear hw hv hcall hcall2
     go_wp2
     go_quiet ((first | (go_at_call 75; exact Calls.quiet_of_same ((Hcall.out _).mono (fun _ _ h => ⟨h.1, h.2.symm⟩))) | (go_at_call 76; exact Calls.quiet_of_same ((Hcall2.out _).mono (fun _ _ h => ⟨h.1, h.2.symm⟩)))))
     go_wp2
     go_ret
     exact ⟨xM hfin.out.symm, hb.drewN _⟩
    | true =>
    by_cases hk0 : k = 0
    · subst hk0
      have hstep : Hid (∀ j, j < 0 + 1 → zN es j = true ∧ uF es j = true) := fun j hj => by
       have : j = 0 := by omega
       subst this; exact ⟨aCR hw, hv⟩
      rw [hw] at hcall
      rw [hv] at hcall2
      have Hcall := Lib.hid hcall
      have Hcall2 := Lib.hid hcall2
      clear hw hv hcall hcall2
      simp only [Nat.zero_mul, Nat.add_zero] at hc1 hc2
      go_wp2
      go_quiet ((first | (go_at_call 75; exact Calls.quiet_of_same ((Hcall.out _).mono (fun _ _ h => ⟨h.1, h.2.symm⟩))) | (go_at_call 76; exact Calls.quiet_of_same ((Hcall2.out _).mono (fun _ _ h => ⟨h.1, h.2.symm⟩)))))
      go_wp2
      go_roundw
      case rel => exact ⟨0 + 1, by omega, by go_num, hstep.out, hb.drewN _⟩
      case measure => simp [intOf]; omega
    · have hkp : 0 < k := by omega
      have hor := aD0 hkp hke hw
      obtain ⟨b', off', he, _, _, hc3, _⟩ := hr.ent hb (show k - 1 < es.length by omega)
      obtain ⟨rfl, rfl⟩ : b = b' ∧ off = off' := by simpa using he
      have ht : (Op.bytesLess es[k].1.toList (es[k - 1]'(by omega)).1.toList || es[k].1.toList == (es[k - 1]'(by omega)).1.toList) = !zN es k := by rw [aKN, hor]
      have hi0 : 0 ≤ (k : Int) - 1 := by omega
      have hi1 : ((k : Int) - 1).toNat = k - 1 := by omega
      have hi2 : (0 : Int) < (k : Int) := by omega
      rw [hw] at hcall
      rw [hv] at hcall2
      have Hcall := Lib.hid hcall
      have Hcall2 := Lib.hid hcall2
      clear hcall hcall2 hk0 he hor
      cases ho : zN es k with
      | false =>
       have hfin : Hid (xW es = false) := aBW hke ho
       rw [ho] at ht
       clear hw hv ho
       go_wp2
       go_quiet ((first | (go_at_call 75; exact Calls.quiet_of_same ((Hcall.out _).mono (fun _ _ h => ⟨h.1, h.2.symm⟩))) | (go_at_call 76; exact Calls.quiet_of_same ((Hcall2.out _).mono (fun _ _ h => ⟨h.1, h.2.symm⟩)))))
       go_wp2
       go_ret
       exact ⟨xM hfin.out.symm, hb.drewN _⟩
      | true =>
       have hstep : Hid (∀ j, j < k + 1 → zN es j = true ∧ uF es j = true) := fun j hj => by
        rcases Nat.lt_or_ge j k with h | h
        · exact Hall.out j h
        · have : j = k := by omega
          subst this; exact ⟨ho, hv⟩
       rw [ho] at ht
       clear hw hv ho
       go_wp2
       go_quiet ((first | (go_at_call 75; exact Calls.quiet_of_same ((Hcall.out _).mono (fun _ _ h => ⟨h.1, h.2.symm⟩))) | (go_at_call 76; exact Calls.quiet_of_same ((Hcall2.out _).mono (fun _ _ h => ⟨h.1, h.2.symm⟩)))))
       go_wp2
       go_roundw
       case rel => exact ⟨k + 1, by omega, by go_num, hstep.out, hb.drewN _⟩
       case measure => simp [intOf]; omega
  · have hfin : Hid (xW es = true) := aEd (by rw [Hlen.out]; exact hn12) (fun i hi => Hall.out i (by rw [Hlen.out] at hi; omega))
    go_wp2
    go_ret
    exact ⟨xM hfin.out.symm, hb⟩
theorem aGp (a : ByteArray) (x : Int) (w : World) : (method 254 88 (.agg #[.string a, .int .i64 x]) "loop.example/g00737/impl.key").run Try.prog w = .ok (137, .agg #[.string a, .int .i64 x]) w := by kernel_rfl
theorem aGq (es : List Ent) (k : Nat) (hke : k < es.length) (hs : es[k].1.size ≤ maxLen) (W : World) :
 Calls Try.prog 106 #[.string es[k].1] W fun e w' => e = .returned (.bool (nm (kAt es k))) ∧ W = w' := by
 rw [qM es k hke]; exact aCM _ W hs
set_option maxHeartbeats 2000000 in
set_option maxRecDepth 100000 in
theorem aBR (A : Option Addr) (n c : Nat) (es : List Ent) (w : World) (hr : Rd w 2 A n (xJ es)) (hm : n ≤ maxLen) (hks : ∀ e ∈ es, e.1.size ≤ maxLen) :
 Calls Try.prog 108 #[.slice A n c] w fun e w' => e = .returned (.bool (kY es)) ∧ Below w.heap.size w w' := by
 unfold maxLen at hm
 have hlen := hr.len
 have Hlen := Lib.hid hlen; clear hlen
 have hmeth := aGp
 go_enter Try.func108, Try.ntmps108
 go_wp2
 go_loopw [3, 7] (fun _ i wr => ∃ k : Nat, k ≤ n ∧ i = .int .i64 k ∧ (∀ j, j < k → zN es j = true) ∧ Below w.heap.size w wr) (fun _ i _ => n - (intOf i).toNat)
 case atStart => exact ⟨0, Nat.zero_le _, rfl, fun j hj => absurd hj (by omega), Below.refl _ _⟩
 case round =>
  obtain ⟨k, hk, rfl, hall, hb⟩ := hrel
  have Hall := Lib.hid hall; clear hall
  by_cases hlt : k < n
  · have hke : k < es.length := by rw [Hlen.out]; exact hlt
    obtain ⟨b, off, rfl, hbl, hbl2, hc1, hc2⟩ := hr.ent hb hke
    have hcall := aGq es k hke (hks _ (List.getElem_mem hke))
    cases hw : nm (kAt es k) with
    | false =>
     have hfin : Hid (kY es = false) := aBf hke (by rw [zN, hw]; rfl)
     rw [hw] at hcall
     have Hcall := Lib.hid hcall
     clear hw hcall
     go_wp2
     have hcL0 : (wr.alloc (Obj.cells #[Value.string es[k].1, Value.int IntKind.i64 es[k].2] 88)).cell? ⟨wr.heap.size, 0, none⟩ = some (.string es[k].1) := cell_of_row _ _ _ _ _ (0, 0) (heap_alloc_new wr _)
     have hcL1 : (wr.alloc (Obj.cells #[Value.string es[k].1, Value.int IntKind.i64 es[k].2] 88)).cell? ⟨wr.heap.size, 1, none⟩ = some (.int .i64 es[k].2) := cell_of_row _ _ _ _ _ (0, 0) (heap_alloc_new wr _)
     have hpl : wr.heap.size < (wr.alloc (Obj.cells #[Value.string es[k].1, Value.int IntKind.i64 es[k].2] 88)).heap.size := by simp
     have hb2 : Below w.heap.size w (wr.alloc (Obj.cells #[Value.string es[k].1, Value.int IntKind.i64 es[k].2] 88)) := hb.alloc hb.size _
     generalize wr.alloc (Obj.cells #[Value.string es[k].1, Value.int IntKind.i64 es[k].2] 88) = w2 at *
     generalize wr.heap.size = p at *
     have hA0 := fun y : Aft w2 => y.cell hpl hcL0
     have hA1 := fun y : Aft w2 => y.cell hpl hcL1
     refine xB (by kernel_rfl) (by kernel_rfl) ?_
     repeat (go_big_quiet_step ((first | (go_at_call 137; exact Aft.call (je _ _ _)) | (go_at_call 106; exact Aft.same (Hcall.out _)))))
     refine wpQuiet_nil ?_
     rintro _ ⟨y, rfl⟩
     have hb3 := yA hb2 y.below
     generalize y.at_ = w3 at *
     go_wp2
     go_ret
     exact ⟨xM hfin.out.symm, hb3⟩
    | true =>
    rw [hw] at hcall
    have Hcall := Lib.hid hcall
    clear hcall
    by_cases hk0 : k = 0
    · subst hk0
      have hstep : Hid (∀ j, j < 0 + 1 → zN es j = true) := fun j hj => by
       have : j = 0 := by omega
       subst this; exact aCR hw
      clear hw
      simp only [Nat.zero_mul, Nat.add_zero] at hc1 hc2
      go_wp2
      have hcL0 : (wr.alloc (Obj.cells #[Value.string es[0].1, Value.int IntKind.i64 es[0].2] 88)).cell? ⟨wr.heap.size, 0, none⟩ = some (.string es[0].1) := cell_of_row _ _ _ _ _ (0, 0) (heap_alloc_new wr _)
      have hcL1 : (wr.alloc (Obj.cells #[Value.string es[0].1, Value.int IntKind.i64 es[0].2] 88)).cell? ⟨wr.heap.size, 1, none⟩ = some (.int .i64 es[0].2) := cell_of_row _ _ _ _ _ (0, 0) (heap_alloc_new wr _)
      have hpl : wr.heap.size < (wr.alloc (Obj.cells #[Value.string es[0].1, Value.int IntKind.i64 es[0].2] 88)).heap.size := by simp
      have hb2 : Below w.heap.size w (wr.alloc (Obj.cells #[Value.string es[0].1, Value.int IntKind.i64 es[0].2] 88)) := hb.alloc hb.size _
      generalize wr.alloc (Obj.cells #[Value.string es[0].1, Value.int IntKind.i64 es[0].2] 88) = w2 at *
      generalize wr.heap.size = p at *
      have hA0 := fun y : Aft w2 => y.cell hpl hcL0
      have hA1 := fun y : Aft w2 => y.cell hpl hcL1
      refine xB (by kernel_rfl) (by kernel_rfl) ?_
      repeat (go_big_quiet_step ((first | (go_at_call 137; exact Aft.call (je _ _ _)) | (go_at_call 106; exact Aft.same (Hcall.out _)))))
      refine wpQuiet_nil ?_
      rintro _ ⟨y, rfl⟩
      have hb3 := yA hb2 y.below
      generalize y.at_ = w3 at *
      go_wp2
      go_roundw
      case rel => exact ⟨0 + 1, by omega, by go_num, hstep.out, hb3⟩
      case measure => simp [intOf]; omega
    · have hkp : 0 < k := by omega
      have hor := aD0 hkp hke hw
      have ht : (!(Op.bytesLess (es[k - 1]'(by omega)).1.toList es[k].1.toList)) = !zN es k := by rw [hor]; rfl
      have hi0 : 0 ≤ (k : Int) - 1 := by omega
      have hi1 : ((k : Int) - 1).toNat = k - 1 := by omega
      have hi2 : (0 : Int) < (k : Int) := by omega
      clear hk0 hor hw
      cases ho : zN es k with
      | false =>
       have hfin : Hid (kY es = false) := aBf hke ho
       rw [ho] at ht
       clear ho
       go_wp2
       have hcL0 : (wr.alloc (Obj.cells #[Value.string es[k].1, Value.int IntKind.i64 es[k].2] 88)).cell? ⟨wr.heap.size, 0, none⟩ = some (.string es[k].1) := cell_of_row _ _ _ _ _ (0, 0) (heap_alloc_new wr _)
       have hcL1 : (wr.alloc (Obj.cells #[Value.string es[k].1, Value.int IntKind.i64 es[k].2] 88)).cell? ⟨wr.heap.size, 1, none⟩ = some (.int .i64 es[k].2) := cell_of_row _ _ _ _ _ (0, 0) (heap_alloc_new wr _)
       have hpl : wr.heap.size < (wr.alloc (Obj.cells #[Value.string es[k].1, Value.int IntKind.i64 es[k].2] 88)).heap.size := by simp
       have hb2 : Below w.heap.size w (wr.alloc (Obj.cells #[Value.string es[k].1, Value.int IntKind.i64 es[k].2] 88)) := hb.alloc hb.size _
       obtain ⟨b', off', he, _, _, hc3, hc4⟩ := hr.ent hb2 (show k - 1 < es.length by omega)
       obtain ⟨rfl, rfl⟩ : b = b' ∧ off = off' := by simpa using he
       have hbl4 := Nat.lt_of_lt_of_le hbl hb2.size
       generalize wr.alloc (Obj.cells #[Value.string es[k].1, Value.int IntKind.i64 es[k].2] 88) = w2 at *
       generalize wr.heap.size = p at *
       have hA0 := fun y : Aft w2 => y.cell hpl hcL0
       have hA1 := fun y : Aft w2 => y.cell hpl hcL1
       have hA3 := fun y : Aft w2 => y.cell hbl4 hc3
       have hA4 := fun y : Aft w2 => y.cell hbl4 hc4
       refine xB (by kernel_rfl) (by kernel_rfl) ?_
       repeat (go_big_quiet_step ((first | (go_at_call 137; exact Aft.call (je _ _ _)) | (go_at_call 106; exact Aft.same (Hcall.out _)))))
       refine wpQuiet_nil ?_
       rintro _ ⟨y, rfl⟩
       have hb3 := yA hb2 y.below
       generalize y.at_ = w3 at *
       go_wp2
       go_ret
       exact ⟨xM hfin.out.symm, hb3⟩
      | true =>
       have hstep : Hid (∀ j, j < k + 1 → zN es j = true) := fun j hj => by
        rcases Nat.lt_or_ge j k with h | h
        · exact Hall.out j h
        · have : j = k := by omega
          subst this; exact ho
       rw [ho] at ht
       clear ho
       go_wp2
       have hcL0 : (wr.alloc (Obj.cells #[Value.string es[k].1, Value.int IntKind.i64 es[k].2] 88)).cell? ⟨wr.heap.size, 0, none⟩ = some (.string es[k].1) := cell_of_row _ _ _ _ _ (0, 0) (heap_alloc_new wr _)
       have hcL1 : (wr.alloc (Obj.cells #[Value.string es[k].1, Value.int IntKind.i64 es[k].2] 88)).cell? ⟨wr.heap.size, 1, none⟩ = some (.int .i64 es[k].2) := cell_of_row _ _ _ _ _ (0, 0) (heap_alloc_new wr _)
       have hpl : wr.heap.size < (wr.alloc (Obj.cells #[Value.string es[k].1, Value.int IntKind.i64 es[k].2] 88)).heap.size := by simp
       have hb2 : Below w.heap.size w (wr.alloc (Obj.cells #[Value.string es[k].1, Value.int IntKind.i64 es[k].2] 88)) := hb.alloc hb.size _
       obtain ⟨b', off', he, _, _, hc3, hc4⟩ := hr.ent hb2 (show k - 1 < es.length by omega)
       obtain ⟨rfl, rfl⟩ : b = b' ∧ off = off' := by simpa using he
       have hbl4 := Nat.lt_of_lt_of_le hbl hb2.size
       generalize wr.alloc (Obj.cells #[Value.string es[k].1, Value.int IntKind.i64 es[k].2] 88) = w2 at *
       generalize wr.heap.size = p at *
       have hA0 := fun y : Aft w2 => y.cell hpl hcL0
       have hA1 := fun y : Aft w2 => y.cell hpl hcL1
       have hA3 := fun y : Aft w2 => y.cell hbl4 hc3
       have hA4 := fun y : Aft w2 => y.cell hbl4 hc4
       refine xB (by kernel_rfl) (by kernel_rfl) ?_
       repeat (go_big_quiet_step ((first | (go_at_call 137; exact Aft.call (je _ _ _)) | (go_at_call 106; exact Aft.same (Hcall.out _)))))
       refine wpQuiet_nil ?_
       rintro _ ⟨y, rfl⟩
       have hb3 := yA hb2 y.below
       generalize y.at_ = w3 at *
       go_wp2
       go_roundw
       case rel => exact ⟨k + 1, by omega, by go_num, hstep.out, hb3⟩
       case measure => simp [intOf]; omega
  · have hfin : Hid (kY es = true) := aGA (fun i hi => Hall.out i (by rw [Hlen.out] at hi; omega))
    go_wp2
    go_ret
    exact ⟨xM hfin.out.symm, hb⟩
theorem aFj (es : List Ent) (k : Nat) (hke : k < es.length) (W : World) :
 Calls Try.prog 109 #[.int .i64 es[k].2] W fun e w' => e = .returned (.bool (uF es k)) ∧ W = w' := by
 have e : uF es k = (decide (-1000000 ≤ es[k].2) && decide (es[k].2 ≤ 1000000)) := by simp [uF, aIr, hke]
 rw [e]; exact aFi _ _
set_option maxHeartbeats 1000000 in
set_option maxRecDepth 100000 in
theorem kV (A : Option Addr) (n c : Nat) (es : List Ent) (w : World) (hr : Rd w 2 A n (xJ es)) (hm : n ≤ maxLen) (hks : ∀ e ∈ es, e.1.size ≤ maxLen) :
 Calls Try.prog 84 #[.slice A n c] w fun e w' => e = .returned (.bool (xW es)) ∧ Below w.heap.size w w' := by
 have hm' := hm
 unfold maxLen at hm
 have hlen := hr.len
 have Hlen := Lib.hid hlen; clear hlen
 by_cases hbig : 12 < n
 · have hfin : Hid (xW es = false) := aCL (by rw [Hlen.out]; exact hbig)
   go_enter Try.func84, Try.ntmps84
   go_wp2
   go_ret
   exact ⟨xM hfin.out.symm, Below.refl _ _⟩
 have hn12 : n ≤ 12 := by omega
 clear hbig
 cases ho : kY es with
 | false =>
  have hfin : Hid (xW es = false) := by show xW es = false; rw [xW, ho]; simp
  have hcall := aBR A n c es w hr hm' hks
  rw [ho] at hcall
  have Hcall := Lib.hid hcall
  clear ho hcall
  go_enter Try.func84, Try.ntmps84
  go_wp2_with (go_at_call 108; refine Hcall.out.mono ?_; rintro e w1 ⟨rfl, hb1⟩)
  go_ret
  exact ⟨xM hfin.out.symm, hb1⟩
 | true =>
  have hcall := aBR A n c es w hr hm' hks
  rw [ho] at hcall
  have Hcall := Lib.hid hcall
  have Ho := Lib.hid ho
  clear ho hcall
  go_enter Try.func84, Try.ntmps84
  go_wp2_with (go_at_call 108; refine Hcall.out.mono ?_; rintro e w1 ⟨rfl, hb1⟩)
  go_loopw [15] (fun i wr => ∃ k : Nat, k ≤ n ∧ i = .int .i64 k ∧ (∀ j, j < k → uF es j = true) ∧ Below w.heap.size w wr) (fun i _ => n - (intOf i).toNat)
  case atStart => exact ⟨0, Nat.zero_le _, rfl, fun j hj => absurd hj (by omega), hb1⟩
  case round =>
   obtain ⟨k, hk, rfl, hall, hb⟩ := hrel
   have Hall := Lib.hid hall; clear hall
   by_cases hlt : k < n
   · have hke : k < es.length := by rw [Hlen.out]; exact hlt
     obtain ⟨b, off, rfl, hbl, hbl2, hc1, hc2⟩ := hr.ent hb hke
     have hcall := aFj es k hke
     cases hv : uF es k with
     | false =>
      have hfin : Hid (xW es = false) := aBX hke hv
      rw [hv] at hcall
      have Hcall := Lib.hid hcall
      clear hv hcall
      go_wp2_with (go_at_call 109; refine (Hcall.out _).mono ?_; rintro e w1 ⟨rfl, rfl⟩)
      go_ret
      exact ⟨xM hfin.out.symm, hb.alloc hb.size _⟩
     | true =>
      have hstep : Hid (∀ j, j < k + 1 → uF es j = true) := fun j hj => by
       rcases Nat.lt_or_ge j k with h | h
       · exact Hall.out j h
       · have : j = k := by omega
         subst this; exact hv
      rw [hv] at hcall
      have Hcall := Lib.hid hcall
      clear hv hcall
      go_wp2_with (go_at_call 109; refine (Hcall.out _).mono ?_; rintro e w1 ⟨rfl, rfl⟩)
      go_roundw
      case rel => exact ⟨k + 1, by omega, by go_num, hstep.out, hb.alloc hb.size _⟩
      case measure => simp [intOf]; omega
   · have hfin : Hid (xW es = true) := aEd (by rw [Hlen.out]; exact hn12) (fun i hi => ⟨aFz Ho.out hi, Hall.out i (by rw [Hlen.out] at hi; omega)⟩)
     go_wp2
     go_ret
     exact ⟨xM hfin.out.symm, hb⟩
def aJD (e : TypeId) (es : List Ent) (w : World) (e' : Ending) (w' : World) : Prop := ∃ v, e' = .returned v ∧ w'.ownsRow w.heap.size e 2 v es.length (xJ es) ∧ Below w.heap.size w w'
def aFl (e : TypeId) (r : List Ent × Int) (w : World) (e' : Ending) (w' : World) : Prop := ∃ v, e' = .returned (.tuple #[v, .int .i64 r.2]) ∧ w'.ownsRow w.heap.size e 2 v r.1.length (xJ r.1) ∧ Below w.heap.size w w'
theorem aFl.mk {e : TypeId} {r : List Ent × Int} {l : List Ent} {c : Int} {v : Value} {w w' : World} (h : r = (l, c)) (ho : w'.ownsRow w.heap.size e 2 v l.length (xJ l)) (hb : Below w.heap.size w w') : aFl e r w (.returned (.tuple #[v, .int .i64 c])) w' := ⟨v, by rw [h], by rw [h]; exact ho, hb⟩
theorem aDH (es : List Ent) : ∀ u ∈ xJ es, u.oneCell' = true := by
 intro u hu
 rw [xJ, List.mem_flatMap] at hu
 obtain ⟨e, _, h⟩ := hu
 simp [aJv] at h
 rcases h with rfl | rfl <;> rfl
theorem aFd (es : List Ent) (i m : Nat) : ((xJ es).drop (i * 2)).take (m * 2) = xJ ((es.drop i).take m) := by rw [ql, aGd]
theorem aFf {α : Type} (L cs : List α) (h : L.length = cs.length) : splice L 0 cs = cs := by
 rw [splice, List.take_zero, List.nil_append, Nat.zero_add, ← h, List.drop_length, List.append_nil]
set_option maxHeartbeats 1000000 in
set_option maxRecDepth 100000 in
theorem aIh (A : Option Addr) (n c : Nat) (es : List Ent) (a b : Nat) (w : World) (hr : Rd w 2 A n (xJ es)) (hab : a ≤ b) (hbn : b ≤ n) (hnc : n ≤ c) (hc : c ≤ maxLen) (hm : n ≤ 4096) :
 Calls Try.prog 86 #[.slice A n c, .int .i64 a, .int .i64 b] w (aJD 88 ((es.drop a).take (b - a)) w) := by
 have hlen := hr.len
 obtain ⟨i0, hi, hz0, hz1, hz2⟩ := info_parts aCD
 have hmk := fun W => aAT (P := Try.prog) 115 88 i0 _ Try.underlying115 hi hz0 .i64 .i64 (b - a) (b - a) (Nat.le_refl _) (by rw [hz2]; omega) (by omega) W
 rw [hz1] at hmk
 have hpl : ((es.drop a).take (b - a)).length = b - a := by rw [List.length_take, List.length_drop]; omega
 have hcl : ((xJ es).drop (a * 2)).take ((b - a) * 2) = xJ ((es.drop a).take (b - a)) := aFd es a (b - a)
 have Hcl := Lib.hid hcl; clear hcl
 have Hpl := Lib.hid hpl; clear hpl
 have Hlen := Lib.hid hlen; clear hlen
 have Hi := Lib.hid hi; clear hi
 have Hz1 := Lib.hid hz1; clear hz1
 clear hz0 hz2
 unfold maxLen at hc
 have hba : ((b : Int) - (a : Int)) = ((b - a : Nat) : Int) := by omega
 have hblk0 : Hid (Blk (w.alloc (.cells (madeCells #[Value.string ByteArray.empty, Value.int IntKind.i64 0] ((b - a) * 2)) 88)) w.heap.size 88 (madeCells #[Value.string ByteArray.empty, Value.int IntKind.i64 0] ((b - a) * 2))) := Blk.new _ _ _
 have hb0 : Hid (Below w.heap.size w (w.alloc (.cells (madeCells #[Value.string ByteArray.empty, Value.int IntKind.i64 0] ((b - a) * 2)) 88))) := (Below.refl _ _).alloc (Nat.le_refl _) _
 have hrd := Lib.hid (hr.alloc (.cells (madeCells #[Value.string ByteArray.empty, Value.int IntKind.i64 0] ((b - a) * 2)) 88))
 have hln := Lib.hid (show (((xJ es).drop (a * 2)).take ((b - a) * 2)).length = (b - a) * 2 from aEb hr.1 (by omega))
 have hmin := Lib.hid (show Nat.min (b - a) (b - a) = b - a from Nat.min_self _)
 have hfin : Hid (∀ w' : World, Blk w' w.heap.size 88 (splice (madeCells #[Value.string ByteArray.empty, Value.int IntKind.i64 0] ((b - a) * 2)).toList 0 (((xJ es).drop (a * 2)).take ((b - a) * 2))).toArray →
  w'.ownsRow w.heap.size 88 2 (.slice (some ⟨w.heap.size, 0, none⟩) (b - a) (b - a)) ((es.drop a).take (b - a)).length (xJ ((es.drop a).take (b - a)))) := fun w' hblk => by
  have e1 := aFf (madeCells #[Value.string ByteArray.empty, Value.int IntKind.i64 0] ((b - a) * 2)).toList (((xJ es).drop (a * 2)).take ((b - a) * 2)) (by rw [hln.out, Array.length_toList, size_madeCells])
  rw [e1, Hcl.out] at hblk
  rw [Hpl.out]
  have hl2 : (xJ ((es.drop a).take (b - a))).length = (b - a) * 2 := by rw [← Hcl.out]; exact hln.out
  exact hblk.own (Nat.le_refl _) (Nat.le_refl _) (by unfold maxLen; omega) (by simpa using hl2) (by rw [List.take_of_length_le (by show (xJ ((es.drop a).take (b - a))).length ≤ _; omega)])
 by_cases hca : c = a
 · have hcs : Hid ((((xJ es).drop (a * 2)).take ((b - a) * 2)).length = 0) := by show (((xJ es).drop (a * 2)).take ((b - a) * 2)).length = 0; rw [hln.out]; omega
   go_enter Try.func86, Try.ntmps86
   go_wp2_with (with_reducible refine kr rfl (.tmp 12) (.tmp 16) 115 115 rfl 88 i0 2 Try.underlying115 Hi.out Hz1.out _ _ _ _ _ _ rfl rfl w.heap.size 0 _ 88 hblk0.out (((xJ es).drop (a * 2)).take ((b - a) * 2)) (hln.out.trans (by rw [hmin.out])) (fun hp => absurd hp (by rw [hcs.out]; omega)) (by rw [hln.out, size_madeCells]; omega) (by rw [Hcl.out]; exact aDH _) w.heap.size w hb0.out (Nat.le_refl _) ?_; intro w' hw1 hw2; have HW1 := Lib.hid hw1; clear hw1)
   go_ret
   exact ⟨_, rfl, hfin.out _ HW1.out, hw2⟩
 · go_enter Try.func86, Try.ntmps86
   go_wp2_with (with_reducible refine kr rfl (.tmp 12) (.tmp 16) 115 115 rfl 88 i0 2 Try.underlying115 Hi.out Hz1.out _ _ _ _ _ _ rfl rfl w.heap.size 0 _ 88 hblk0.out (((xJ es).drop (a * 2)).take ((b - a) * 2)) (hln.out.trans (by rw [hmin.out])) (fun hp => ⟨rfl, hrd.out.cut (by omega) hp⟩) (by rw [hln.out, size_madeCells]; omega) (by rw [Hcl.out]; exact aDH _) w.heap.size w hb0.out (Nat.le_refl _) ?_; intro w' hw1 hw2; have HW1 := Lib.hid hw1; clear hw1)
   go_ret
   exact ⟨_, rfl, hfin.out _ HW1.out, hw2⟩
theorem Blk.two {w : World} {g : Nat} {t : TypeId} {cs : Array Value} (h : Blk w g t cs) {k : Nat} (hk : k * 2 + 1 < cs.size) :
 ∃ y0 y1, w.cell? ⟨g, k * 2, none⟩ = some y0 ∧ w.cell? ⟨g, k * 2 + 1, none⟩ = some y1 ∧ w.frozen? ⟨g, k * 2, none⟩ = false ∧ w.frozen? ⟨g, k * 2 + 1, none⟩ = false :=
 ⟨_, _, (h.cell _).trans (Array.getElem?_eq_getElem (by omega)), (h.cell _).trans (Array.getElem?_eq_getElem hk), h.frozen _, h.frozen _⟩
end Go.Proofs.Ytdhjchdbgognbaa
