/- Texts of the machine over data, folded. -/
import Derived.Test.YtodckioppgjbdaaDoorRows
import Derived.WalkKit
import Derived.WalkLawsBesides
import Derived.WalkSpells
import Derived.Lib.Hide
import Derived.Deep.QuietTactic
import Derived.BigQuiet
import Derived.Deep.Draws
import Derived.Deep.Slices
import Derived.Deep.Fields
import Derived.Deep.AppendLies
import Derived.ChangeSame
import Derived.StillTailTactics
import Derived.Laws.BytesArg
import Derived.Deep.RegionHeld3
import Derived.Laws.CopyOwn
import Derived.Test.YtodckioppgjbdaaDoorKa5
set_option linter.unusedVariables false
namespace Go.Proofs.YtodckioppgjbdaaDoor
open Go.RowKit
theorem xI {a b : Bool} (h : a = b) : Ending.returned (.bool a) = .returned (.bool b) := by rw [h]
theorem toList_inj {a b : ByteArray} (h : a.toList = b.toList) : a = b := by
 have e : a.data.toList = b.data.toList := by simpa [ByteArray.toList_eq] using h
 cases a; cases b; simp at e; simp [e]
theorem wN (a b : ByteArray) : (a.toList == b.toList) = decide (a = b) := by
 rw [Bool.eq_iff_iff]; simp
 exact ⟨toList_inj, fun h => by rw [h]⟩
theorem _root_.Go.RowKit.Below.drewN {B : Nat} {a w : World} (h : Below B a w) (n : Nat) : Below B a (w.drewN n) := ⟨h.os, h.tape, h.output, h.size, h.block⟩
theorem zw {w wx w1 : World} (hb : Below w.heap.size w wx) (h1 : Below wx.heap.size wx w1) : Below w.heap.size w w1 := hb.trans (h1.mono hb.size)
theorem cellS {w wx : World} {b o : Nat} {u : Value} (hb : Below w.heap.size w wx) (hl : b < w.heap.size) (h : w.cell? ⟨b, o, none⟩ = some u) : wx.cell? ⟨b, o, none⟩ = some u := (hb.cell (p := ⟨b, o, none⟩) hl).trans h
structure Aft (w : World) where
 at_ : World
 below : Below w.heap.size w at_
instance Aft.some_ (w : World) : Nonempty (Aft w) := ⟨⟨w, Below.refl _ _⟩⟩
theorem xV {P : Program} {id : Nat} {Q : Exit → Act → World → Prop} {a : Act} {w : World} {l : List Oper} (hm : P.follows .mixedOrders = true) (hB : Region.lexB .any l.toArray = true)
 (h : wpQuiet P l.toArray (fun w' => ∃ y : Aft w, w' = y.at_) (fun a' => ∀ w', (∃ y : Aft w, w' = y.at_) → Q .normal a' w') l a) : (Code.region id l.toArray true).wp P Q a w :=
 wp_region_quiet (C := fun w' => ∃ y : Aft w, w' = y.at_) hm hB ⟨⟨_, (Below.refl w.heap.size w).drew⟩, rfl⟩ (by simpa using h)
theorem Aft.cell {w : World} {b o : Nat} {u : Value} (hl : b < w.heap.size) (h : w.cell? ⟨b, o, none⟩ = some u) (y : Aft w) : y.at_.cell? ⟨b, o, none⟩ = some u := cellS y.below hl h
theorem Aft.call {P : Program} {f : FuncId} {args : Array Value} {w : World} {y : Aft w} {v : Value} (h : Calls P f args y.at_ fun e w' => e = .returned v ∧ Below y.at_.heap.size y.at_ w') :
 Calls P f args y.at_ fun e w'' => e = .returned v ∧ ∃ y' : Aft w, w'' = y'.at_ :=
 h.mono fun _ _ ⟨he, hb⟩ => ⟨he, ⟨_, zw y.below hb⟩, rfl⟩
theorem Aft.same {P : Program} {f : FuncId} {args : Array Value} {w : World} {y : Aft w} {v : Value} (h : Calls P f args y.at_ fun e w' => e = .returned v ∧ y.at_ = w') :
 Calls P f args y.at_ fun e w'' => e = .returned v ∧ ∃ y' : Aft w, w'' = y'.at_ :=
 h.mono fun _ _ ⟨he, hb⟩ => ⟨he, y, hb.symm⟩
def Rd (w : World) (sz : Nat) (A : Option Addr) (n : Nat) (xs : List Value) : Prop :=
 xs.length = n * sz ∧ (0 < n → ∃ b off, A = some ⟨b, off, none⟩ ∧ b < w.heap.size ∧ ∀ j u, xs[j]? = some u → w.cell? ⟨b, off + j, none⟩ = some u)
section
variable {w w' : World} {sz n : Nat} {A : Option Addr} {xs : List Value}
theorem Rd.nil : Rd w sz A 0 [] := ⟨by simp, fun h => absurd h (by omega)⟩
theorem Rd.below {B : Nat} (h : Rd w sz A n xs) (hb : Below B w w') (hB : w.heap.size ≤ B) : Rd w' sz A n xs :=
 ⟨h.1, fun hn => by
  obtain ⟨b, off, e, hlt, hc⟩ := h.2 hn
  exact ⟨b, off, e, Nat.lt_of_lt_of_le hlt hb.size, fun j u hu => (hb.cell (p := ⟨b, off + j, none⟩) (by show b < B; omega)).trans (hc j u hu)⟩⟩
theorem Rd.alloc (h : Rd w sz A n xs) (o : Obj) : Rd (w.alloc o) sz A n xs := h.below ((Below.refl _ _).alloc (Nat.le_refl _) o) (Nat.le_refl _)
theorem Rd.drew (h : Rd w sz A n xs) : Rd w.drew sz A n xs := h
theorem Rd.drewN (h : Rd w sz A n xs) (k : Nat) : Rd (w.drewN k) sz A n xs := h
end
theorem aAP {P : Program} (t e : TypeId) (i : TypeInfo) (z : Value) (ht : P.underlying t = some (.slice e)) (hi : P.info? e = some i) (hz : i.zero = some z)
 (kl kc : IntKind) (n c : Nat) (hnc : n ≤ c) (hbytes : i.bytes * c ≤ 281474976710656) (h63 : c ≤ 9223372036854775807) (w : World) :
 (Instr.makeSlice t (.int kl (n : Int)) (.int kc (c : Int))).run P w = .ok (.slice (some ⟨w.heap.size, 0, none⟩) n c) (w.alloc (.cells (madeCells z.cells (c * i.size)) e)) := by
 have hb : (i.bytes : Int) * (c : Int) ≤ 281474976710656 := by
  have h : ((i.bytes * c : Nat) : Int) ≤ 281474976710656 := by omega
  rwa [Int.natCast_mul] at h
 have hr := run_make (P := P) w t e i z ht hi hz kl kc n c (by omega) (by omega) hb (by omega)
 simp only [Int.toNat_natCast] at hr
 exact hr
def Blk (w : World) (g : Nat) (t : TypeId) (cs : Array Value) : Prop := w.heap[g]? = some (.cells cs t (0, 0))
section
variable {w w' : World} {g : Nat} {t : TypeId} {cs : Array Value}
theorem Blk.lt (h : Blk w g t cs) : g < w.heap.size := by
 rcases Nat.lt_or_ge g w.heap.size with hlt | hge
 · exact hlt
 · unfold Blk at h; rw [Array.getElem?_eq_none hge] at h; cases h
theorem Blk.cell (h : Blk w g t cs) (i : Nat) : w.cell? ⟨g, i, none⟩ = cs[i]? := cell_of_row w g i cs t (0, 0) h
theorem Blk.frozen (h : Blk w g t cs) (i : Nat) : w.frozen? ⟨g, i, none⟩ = false := frozen_of_row w g i cs t h
theorem Blk.new (w : World) (t : TypeId) (cs : Array Value) : Blk (w.alloc (.cells cs t)) w.heap.size t cs := heap_alloc_new w _
theorem Blk.drew (h : Blk w g t cs) : Blk w.drew g t cs := h
theorem Blk.drewN (h : Blk w g t cs) (n : Nat) : Blk (w.drewN n) g t cs := h
theorem Blk.alloc (h : Blk w g t cs) (o : Obj) : Blk (w.alloc o) g t cs := (Below.heap_alloc w o g h.lt).trans h
theorem Blk.set_ (h : Blk w g t cs) (i : Nat) (u : Value) : Blk (w.setCell ⟨g, i, none⟩ u) g t (cs.setIfInBounds i u) := by
 unfold Blk at h ⊢
 simp [World.setCell, Array.getElem?_modify, h]
theorem Blk.far (h : Blk w g t cs) {p : Addr} (hp : g ≠ p.block) (u : Value) : Blk (w.setCell p u) g t cs := (Below.heap_setCell w p u g hp).trans h
theorem Blk.below {B : Nat} (h : Blk w g t cs) (hb : Below B w w') (hg : g < B) : Blk w' g t cs := (hb.block g hg).trans h
theorem Blk.kept (h : Blk w g t cs) (hb : Below w.heap.size w w') : Blk w' g t cs := (hb.block g h.lt).trans h
theorem Blk.own (h : Blk w g t cs) {base sz n cap : Nat} {xs : List Value} (hb : base ≤ g) (hc : n ≤ cap) (hm : cap ≤ maxLen) (hs : cs.size = cap * sz) (ht : cs.toList.take (n * sz) = xs) : w.ownsRow base t sz (.slice (some ⟨g, 0, none⟩) n cap) n xs :=
 ⟨by rw [← ht, List.length_take, Array.length_toList, hs, Nat.min_eq_left (Nat.mul_le_mul_right _ hc)], .inr ⟨g, cap, cs, rfl, hb, h, hc, hm, hs, ht⟩⟩
end
theorem aHB (cs : Array Value) (k : Nat) (u v : Value) (h : k * 2 + 1 < cs.size) : ((cs.setIfInBounds (k * 2) u).setIfInBounds (k * 2 + 1) v).toList.take ((k + 1) * 2) = cs.toList.take (k * 2) ++ [u, v] := by
 rw [show (k + 1) * 2 = k * 2 + 1 + 1 from by omega]
 rw [List.take_succ_eq_append_getElem (by simpa using h), List.take_succ_eq_append_getElem (by simp; omega)]
 simp [List.take_set_of_le]
theorem aHC (cs : Array Value) (k : Nat) (u v z : Value) (h : k * 3 + 2 < cs.size) : (((cs.setIfInBounds (k * 3) u).setIfInBounds (k * 3 + 1) v).setIfInBounds (k * 3 + 2) z).toList.take ((k + 1) * 3) = cs.toList.take (k * 3) ++ [u, v, z] := by
 rw [show (k + 1) * 3 = k * 3 + 1 + 1 + 1 from by omega]
 rw [List.take_succ_eq_append_getElem (by simpa using h), List.take_succ_eq_append_getElem (by simp; omega), List.take_succ_eq_append_getElem (by simp; omega)]
 simp [List.take_set_of_le]
abbrev Ent := ByteArray × Int
def aKW (e : Ent) : List Value := [.string e.1, .int .i64 e.2]
def yF (es : List Ent) : List Value := es.flatMap aKW
theorem vM (e : Ent) (es : List Ent) : yF (e :: es) = .string e.1 :: .int .i64 e.2 :: yF es := rfl
theorem aDg (a b : List Ent) : yF (a ++ b) = yF a ++ yF b := by simp [yF]
theorem vD (es : List Ent) : (yF es).length = es.length * 2 := by
 induction es with
 | nil => rfl
 | cons e r ih => rw [vM, List.length_cons, List.length_cons, ih, List.length_cons]; omega
theorem aBd (es : List Ent) (k : Nat) : (yF es).drop (k * 2) = yF (es.drop k) := by
 induction es generalizing k with
 | nil => simp [yF]
 | cons e r ih =>
  match k with
  | 0 => simp
  | k + 1 => rw [show (k + 1) * 2 = k * 2 + 1 + 1 from by omega, vM, List.drop_succ_cons, List.drop_succ_cons, ih, List.drop_succ_cons]
theorem aCh (es : List Ent) (k : Nat) (h : k < es.length) : (yF es)[k * 2]? = some (.string es[k].1) := by
 have := aBd es k
 rw [List.drop_eq_getElem_cons h, vM] at this
 have h2 : ((yF es).drop (k * 2))[0]? = some (.string es[k].1) := by rw [this]; rfl
 rwa [List.getElem?_drop, Nat.add_zero] at h2
theorem aCi (es : List Ent) (k : Nat) (h : k < es.length) : (yF es)[k * 2 + 1]? = some (.int .i64 es[k].2) := by
 have := aBd es k
 rw [List.drop_eq_getElem_cons h, vM] at this
 have h2 : ((yF es).drop (k * 2))[1]? = some (.int .i64 es[k].2) := by rw [this]; rfl
 rwa [List.getElem?_drop] at h2
theorem Rd.ent {w wr : World} {A : Option Addr} {n : Nat} {es : List Ent} (h : Rd w 2 A n (yF es)) (hb : Below w.heap.size w wr) {k : Nat} (hk : k < es.length) :
 ∃ b off, A = some ⟨b, off, none⟩ ∧ b < w.heap.size ∧ b < wr.heap.size ∧ wr.cell? ⟨b, off + k * 2, none⟩ = some (.string es[k].1) ∧ wr.cell? ⟨b, off + k * 2 + 1, none⟩ = some (.int .i64 es[k].2) := by
 have hl := vD es
 obtain ⟨b, off, e, hlt, hc⟩ := h.2 (by have := h.1; omega)
 refine ⟨b, off, e, hlt, Nat.lt_of_lt_of_le hlt hb.size, ?_, ?_⟩
 · exact (hb.cell (p := ⟨b, off + k * 2, none⟩) hlt).trans (hc _ _ (aCh es k hk))
 · exact (hb.cell (p := ⟨b, off + k * 2 + 1, none⟩) hlt).trans (hc _ _ (aCi es k hk))
theorem Rd.len {w : World} {A : Option Addr} {n : Nat} {es : List Ent} (h : Rd w 2 A n (yF es)) : es.length = n := by
 have h1 := vD es; have h2 := h.1; omega
structure Edt where
 key : ByteArray
 val : Int
 gone : Bool
def aKV (e : Edt) : List Value := [.string e.key, .int .i64 e.val, .bool e.gone]
def yD (es : List Edt) : List Value := es.flatMap aKV
theorem wF (e : Edt) (es : List Edt) : yD (e :: es) = .string e.key :: .int .i64 e.val :: .bool e.gone :: yD es := rfl
theorem aDe (a b : List Edt) : yD (a ++ b) = yD a ++ yD b := by simp [yD]
theorem vC (es : List Edt) : (yD es).length = es.length * 3 := by
 induction es with
 | nil => rfl
 | cons e r ih => rw [wF, List.length_cons, List.length_cons, List.length_cons, ih, List.length_cons]; omega
theorem aF6 (es : List Edt) (k : Nat) : (yD es).drop (k * 3) = yD (es.drop k) := by
 induction es generalizing k with
 | nil => simp [yD]
 | cons e r ih =>
  match k with
  | 0 => simp
  | k + 1 => rw [show (k + 1) * 3 = k * 3 + 1 + 1 + 1 from by omega, wF, List.drop_succ_cons, List.drop_succ_cons, List.drop_succ_cons, ih, List.drop_succ_cons]
theorem aDf (es : List Edt) (k : Nat) (h : k < es.length) : (yD es)[k * 3]? = some (.string es[k].key) ∧ (yD es)[k * 3 + 1]? = some (.int .i64 es[k].val) ∧ (yD es)[k * 3 + 2]? = some (.bool es[k].gone) := by
 have := aF6 es k
 rw [List.drop_eq_getElem_cons h, wF] at this
 refine ⟨?_, ?_, ?_⟩
 · have h2 : ((yD es).drop (k * 3))[0]? = some (.string es[k].key) := by rw [this]; rfl
   rwa [List.getElem?_drop, Nat.add_zero] at h2
 · have h2 : ((yD es).drop (k * 3))[1]? = some (.int .i64 es[k].val) := by rw [this]; rfl
   rwa [List.getElem?_drop] at h2
 · have h2 : ((yD es).drop (k * 3))[2]? = some (.bool es[k].gone) := by rw [this]; rfl
   rwa [List.getElem?_drop] at h2
theorem Rd.edt {w wr : World} {A : Option Addr} {n : Nat} {es : List Edt} (h : Rd w 3 A n (yD es)) (hb : Below w.heap.size w wr) {k : Nat} (hk : k < es.length) :
 ∃ b off, A = some ⟨b, off, none⟩ ∧ b < w.heap.size ∧ b < wr.heap.size ∧ wr.cell? ⟨b, off + k * 3, none⟩ = some (.string es[k].key) ∧ wr.cell? ⟨b, off + k * 3 + 1, none⟩ = some (.int .i64 es[k].val) ∧ wr.cell? ⟨b, off + k * 3 + 2, none⟩ = some (.bool es[k].gone) := by
 have hl := vC es
 obtain ⟨b, off, e, hlt, hc⟩ := h.2 (by have := h.1; omega)
 obtain ⟨e1, e2, e3⟩ := aDf es k hk
 refine ⟨b, off, e, hlt, Nat.lt_of_lt_of_le hlt hb.size, ?_, ?_, ?_⟩
 · exact (hb.cell (p := ⟨b, off + k * 3, none⟩) hlt).trans (hc _ _ e1)
 · exact (hb.cell (p := ⟨b, off + k * 3 + 1, none⟩) hlt).trans (hc _ _ e2)
 · exact (hb.cell (p := ⟨b, off + k * 3 + 2, none⟩) hlt).trans (hc _ _ e3)
theorem Rd.elen {w : World} {A : Option Addr} {n : Nat} {es : List Edt} (h : Rd w 3 A n (yD es)) : es.length = n := by
 have h1 := vC es; have h2 := h.1; omega
namespace Nm
def letter (c : Int) : Bool := (decide (97 ≤ c) && decide (c ≤ 122)) || (decide (65 ≤ c) && decide (c ≤ 90)) || decide (c = 95)
def digit (c : Int) : Bool := decide (48 ≤ c) && decide (c ≤ 57)
def lettersFrom (l : List UInt8) : Bool := l.all fun c => letter c.toNat || digit c.toNat
def nameOK (l : List UInt8) : Bool :=
 match l with
 | [] => false
 | c :: r => decide (r.length < 12) && letter c.toNat && lettersFrom r
theorem aH1 (c : Int) (h : letter c = true) : digit c = false := by
 simp [letter, digit] at *; omega
end Nm
theorem jO (c : Int) (w : World) :
 Calls Tryd.prog 149 #[.int .u8 c] w fun e w' => e = .returned (.bool (Nm.letter c)) ∧ w = w' := by
 go_enter Tryd.func149, Tryd.ntmps149
 go_wp2
 all_goals (go_ret; exact ⟨xI (by rw [Bool.eq_iff_iff]; simp [Nm.letter]; try omega), rfl⟩)
theorem jm (c : Int) (w : World) :
 Calls Tryd.prog 148 #[.int .u8 c] w fun e w' => e = .returned (.bool (Nm.digit c)) ∧ w = w' := by
 go_enter Tryd.func148, Tryd.ntmps148
 go_wp2
 all_goals (go_ret; exact ⟨xI (by rw [Bool.eq_iff_iff]; simp [Nm.digit]; try omega), rfl⟩)
theorem kX (c : Int) (w : World) :
 Calls Tryd.prog 138 #[.int .u8 c] w fun e w' => e = .returned (.bool (Nm.letter c)) ∧ w = w' := by
 go_enter Tryd.func138, Tryd.ntmps138
 go_wp2
 all_goals (go_ret; exact ⟨xI (by rw [Bool.eq_iff_iff]; simp [Nm.letter]; try omega), rfl⟩)
theorem aDp (c : Int) (w : World) :
 Calls Tryd.prog 139 #[.int .u8 c] w fun e w' => e = .returned (.bool (Nm.digit c)) ∧ w = w' := by
 go_enter Tryd.func139, Tryd.ntmps139
 go_wp2
 all_goals (go_ret; exact ⟨xI (by rw [Bool.eq_iff_iff]; simp [Nm.digit]; try omega), rfl⟩)
namespace Nm
def okc (c : UInt8) : Bool := letter c.toNat || digit c.toNat
theorem lettersFrom_take (l : List UInt8) (k : Nat) (h : k < l.length) : lettersFrom (l.take (k + 1)) = (lettersFrom (l.take k) && okc l[k]) := by
 unfold lettersFrom okc; rw [List.take_succ_eq_append_getElem h, List.all_append]; simp
theorem lettersFrom_bad (l : List UInt8) (k : Nat) (h : k < l.length) (hb : okc l[k] = false) : lettersFrom l = false := by
 rw [lettersFrom, List.all_eq_false]
 exact ⟨l[k], List.getElem_mem h, by simp only [okc] at hb; simp [hb]⟩
theorem nameOK_eq (l : List UInt8) (h0 : 0 < l.length) (h1 : l.length ≤ 12) : nameOK l = (letter l[0].toNat && lettersFrom l) := by
 match l, h0 with
 | c :: r, _ =>
  have : r.length < 12 := by simp at h1; omega
  simp [nameOK, this, lettersFrom]
  cases letter c.toNat <;> simp
theorem aKI : nameOK [] = false := rfl
theorem nameOK_long (l : List UInt8) (h : 12 < l.length) : nameOK l = false := by
 match l with
 | c :: r =>
  have : ¬ r.length < 12 := by simp at h; omega
  simp [nameOK, this]
theorem aBS (c : Int) (h : digit c = true) : letter c = false := by
 simp [letter, digit] at *; omega
theorem nameOK_digit (l : List UInt8) (h0 : 0 < l.length) (hd : digit l[0].toNat = true) : nameOK l = false := by
 match l, h0 with
 | c :: r, _ =>
  have hd' : letter c.toNat = false := aBS _ hd
  simp [nameOK, hd']
theorem nameOK_letters (l : List UInt8) (h0 : 0 < l.length) (h1 : l.length ≤ 12) (hd : digit l[0].toNat = false) : nameOK l = lettersFrom l := by
 rw [nameOK_eq l h0 h1]
 cases h : letter l[0].toNat with
 | true => rfl
 | false => exact (lettersFrom_bad l 0 h0 (by simp [okc, h, hd])).symm
end Nm
set_option maxHeartbeats 400000 in
theorem aAB (s : ByteArray) (w : World) (hs : s.size ≤ maxLen) :
 Calls Tryd.prog 118 #[.string s] w fun e w' => e = .returned (.bool (Nm.nameOK s.data.toList)) ∧ w = w' := by
 unfold maxLen at hs
 have hl : s.data.toList.length = s.size := by simp
 by_cases h0 : s.size = 0
 · have : s = ByteArray.empty := by simpa using h0
   subst this
   go_enter Tryd.func118, Tryd.ntmps118
   go_wp2
   go_ret
   exact ⟨rfl, rfl⟩
 by_cases h1 : 12 < s.size
 · go_enter Tryd.func118, Tryd.ntmps118
   go_wp2
   go_ret
   exact ⟨xI (Nm.nameOK_long _ (by omega)).symm, rfl⟩
 have e0 : ((s.size : Int) == 0) = false := beq_eq_false_iff_ne.2 (by omega)
 have e1 : decide ((12 : Int) < s.size) = false := decide_eq_false (by omega)
 have p0 : 0 < s.size := by omega
 cases hd : Nm.digit s[0].toNat with
 | true =>
  have hfin : Nm.nameOK s.data.toList = false := Nm.nameOK_digit _ (by rw [hl]; exact p0) hd
  have Hf := Lib.hid hfin; clear hfin
  go_enter Tryd.func118, Tryd.ntmps118
  go_wp2_with (first | (go_at_call 148; refine (jm _ _).mono ?_; rintro e w' ⟨rfl, rfl⟩) | (go_at_call 149; refine (jO _ _).mono ?_; rintro e w' ⟨rfl, rfl⟩))
  go_ret
  exact ⟨xI Hf.out.symm, rfl⟩
 | false =>
  have hfin : Nm.nameOK s.data.toList = Nm.lettersFrom s.data.toList := Nm.nameOK_letters _ (by rw [hl]; exact p0) (by omega) hd
  have Hf := Lib.hid hfin; clear hfin
  have h1' : s.size ≤ 12 := by omega
  clear h1
  go_enter Tryd.func118, Tryd.ntmps118
  go_wp2_with (first | (go_at_call 148; refine (jm _ _).mono ?_; rintro e w' ⟨rfl, rfl⟩) | (go_at_call 149; refine (jO _ _).mono ?_; rintro e w' ⟨rfl, rfl⟩))
  go_loop [3] (fun i => ∃ k : Nat, k ≤ s.size ∧ i = .int .i64 k ∧ Nm.lettersFrom (s.data.toList.take k) = true) (fun i => s.size - (intOf i).toNat)
  case atStart => exact ⟨0, Nat.zero_le _, rfl, rfl⟩
  case round =>
   obtain ⟨k, hk, rfl, hr⟩ := hrel
   have Hr := Lib.hid hr; clear hr
   by_cases hlt : k < s.size
   · have hst : Hid (Nm.lettersFrom (s.data.toList.take (k + 1)) = (Nm.lettersFrom (s.data.toList.take k) && Nm.okc s[k])) := Nm.lettersFrom_take _ k (by omega)
     have hbad : Hid (Nm.okc s[k] = false → Nm.lettersFrom s.data.toList = false) := fun h => Nm.lettersFrom_bad _ k (by omega) h
     have hok : Nm.okc s[k] = (Nm.letter s[k].toNat || Nm.digit s[k].toNat) := rfl
     have Hok := Lib.hid hok; clear hok
     go_wp2_with (first | (go_at_call 148; refine (jm _ _).mono ?_; rintro e w' ⟨rfl, rfl⟩) | (go_at_call 149; refine (jO _ _).mono ?_; rintro e w' ⟨rfl, rfl⟩))
     · go_round
       case rel => exact ⟨k + 1, by omega, by go_num, by rw [hst.out, Hr.out, Hok.out]; simp [*]⟩
       case measure => simp [intOf]; omega
     · go_ret
       exact ⟨xI (by rw [Hf.out, hbad.out]; rw [Hok.out]; simp_all), rfl⟩
     · go_round
       case rel => exact ⟨k + 1, by omega, by go_num, by rw [hst.out, Hr.out, Hok.out]; simp_all⟩
       case measure => simp [intOf]; omega
   · go_wp2
     go_ret
     exact ⟨xI (by rw [Hf.out]; have := Hr.out; rw [List.take_of_length_le (by omega)] at this; exact this.symm), rfl⟩
set_option maxHeartbeats 400000 in
theorem jq (s : ByteArray) (w : World) (hs : s.size ≤ maxLen) :
 Calls Tryd.prog 98 #[.string s] w fun e w' => e = .returned (.bool (Nm.nameOK s.data.toList)) ∧ w = w' := by
 unfold maxLen at hs
 have hl : s.data.toList.length = s.size := by simp
 by_cases h0 : s.size = 0
 · have : s = ByteArray.empty := by simpa using h0
   subst this
   go_enter Tryd.func98, Tryd.ntmps98
   go_wp2
   go_ret
   exact ⟨rfl, rfl⟩
 have e2 : decide ((s.size : Int) < 1) = false := decide_eq_false (by omega)
 by_cases h1 : 12 < s.size
 · go_enter Tryd.func98, Tryd.ntmps98
   go_wp2
   go_ret
   exact ⟨xI (Nm.nameOK_long _ (by omega)).symm, rfl⟩
 have e1 : decide ((12 : Int) < s.size) = false := decide_eq_false (by omega)
 have p0 : 0 < s.size := by omega
 cases hd : Nm.letter s[0].toNat with
 | false =>
  have hfin : Nm.nameOK s.data.toList = false := by
   rw [Nm.nameOK_eq _ (by rw [hl]; exact p0) (by omega)]
   have : Nm.letter s.data.toList[0].toNat = false := hd
   rw [this]; rfl
  have Hf := Lib.hid hfin; clear hfin
  go_enter Tryd.func98, Tryd.ntmps98
  go_wp2_with (go_at_call 138; refine (kX _ _).mono ?_; rintro e w' ⟨rfl, rfl⟩)
  go_ret
  exact ⟨xI Hf.out.symm, rfl⟩
 | true =>
  have hfin : Nm.nameOK s.data.toList = Nm.lettersFrom s.data.toList := by
   rw [Nm.nameOK_eq _ (by rw [hl]; exact p0) (by omega)]
   have : Nm.letter s.data.toList[0].toNat = true := hd
   rw [this]; rfl
  have Hf := Lib.hid hfin; clear hfin
  have hst1 : Hid (Nm.lettersFrom (s.data.toList.take 1) = true) := by
   have e : Nm.lettersFrom (s.data.toList.take (0 + 1)) = (Nm.lettersFrom (s.data.toList.take 0) && Nm.okc s[0]) := Nm.lettersFrom_take _ 0 (by rw [hl]; exact p0)
   show Nm.lettersFrom (s.data.toList.take (0 + 1)) = true
   rw [e, Nm.okc, hd]; rfl
  have h1' : s.size ≤ 12 := by omega
  clear h1
  go_enter Tryd.func98, Tryd.ntmps98
  go_wp2_with (go_at_call 138; refine (kX _ _).mono ?_; rintro e w' ⟨rfl, rfl⟩)
  go_loop [3] (fun i => ∃ k : Nat, 1 ≤ k ∧ k ≤ s.size ∧ i = .int .i64 k ∧ Nm.lettersFrom (s.data.toList.take k) = true) (fun i => s.size - (intOf i).toNat)
  case atStart => exact ⟨1, Nat.le_refl _, p0, rfl, hst1.out⟩
  case round =>
   obtain ⟨k, hk0, hk, rfl, hr⟩ := hrel
   have Hr := Lib.hid hr; clear hr
   by_cases hlt : k < s.size
   · have hst : Hid (Nm.lettersFrom (s.data.toList.take (k + 1)) = (Nm.lettersFrom (s.data.toList.take k) && Nm.okc s[k])) := Nm.lettersFrom_take _ k (by omega)
     have hbad : Hid (Nm.okc s[k] = false → Nm.lettersFrom s.data.toList = false) := fun h => Nm.lettersFrom_bad _ k (by omega) h
     have hok : Nm.okc s[k] = (Nm.letter s[k].toNat || Nm.digit s[k].toNat) := rfl
     have Hok := Lib.hid hok; clear hok
     go_wp2_with (first | (go_at_call 138; refine (kX _ _).mono ?_; rintro e w' ⟨rfl, rfl⟩) | (go_at_call 139; refine (aDp _ _).mono ?_; rintro e w' ⟨rfl, rfl⟩))
     · go_round
       case rel => exact ⟨k + 1, by omega, by omega, by go_num, by rw [hst.out, Hr.out, Hok.out]; simp [*]⟩
       case measure => simp [intOf]; omega
     · go_ret
       exact ⟨xI (by rw [Hf.out, hbad.out]; rw [Hok.out]; simp_all), rfl⟩
     · go_round
       case rel => exact ⟨k + 1, by omega, by omega, by go_num, by rw [hst.out, Hr.out, Hok.out]; simp_all⟩
       case measure => simp [intOf]; omega
   · go_wp2
     go_ret
     exact ⟨xI (by rw [Hf.out]; have := Hr.out; rw [List.take_of_length_le (by omega)] at this; exact this.symm), rfl⟩
end Go.Proofs.YtodckioppgjbdaaDoor
namespace Go.Proofs.YtodckioppgjbdaaDoor
theorem aAV : ∀ (x y : List UInt8), Op.bytesLess x y = decide (x < y)
 | [], [] => by simp [Op.bytesLess]
 | [], _ :: _ => by simp [Op.bytesLess]
 | _ :: _, [] => by simp [Op.bytesLess]
 | a :: xs, b :: ys => by
  rw [Op.bytesLess, aAV xs ys, Bool.eq_iff_iff]
  simp [List.cons_lt_cons_iff]
def klt (a b : ByteArray) : Bool := Op.bytesLess a.toList b.toList
theorem jD (a b : ByteArray) : klt a b = true ↔ a.toList < b.toList := by simp [klt, aAV]
theorem aBo (a : ByteArray) : klt a a = false := by
 cases h : klt a a with
 | false => rfl
 | true => exact absurd ((jD _ _).1 h) (List.lt_irrefl _)
theorem aCs {a b c : ByteArray} (h : klt a b = true) (k : klt b c = true) : klt a c = true :=
 (jD _ _).2 (List.lt_trans ((jD _ _).1 h) ((jD _ _).1 k))
theorem aGZ {a b : ByteArray} (h : klt a b = true) : klt b a = false := by
 cases k : klt b a with
 | false => rfl
 | true => have := aCs h k; rw [aBo] at this; cases this
theorem aEu {a b : ByteArray} (h : klt a b = false) (k : a ≠ b) : klt b a = true := by
 rw [jD]
 have h' : ¬ a.toList < b.toList := fun x => by rw [(jD _ _).2 x] at h; cases h
 rcases List.le_iff_lt_or_eq.1 (List.not_lt.1 h') with h2 | h2
 · exact h2
 · exact absurd (toList_inj h2.symm) k
theorem aGY (a b : ByteArray) : (Op.bytesLess a.toList b.toList || a.toList == b.toList) = !klt b a := by
 have e : Op.bytesLess a.toList b.toList = klt a b := rfl
 rw [e, wN]
 by_cases h : a = b
 · subst h; simp [aBo]
 · cases k : klt a b with
   | true => simp [aGZ k]
   | false => simp [aEu k h, h]
def nm (k : ByteArray) : Bool := Nm.nameOK k.data.toList
def jy (x : Int) : Bool := decide (-1000000 ≤ x) && decide (x ≤ 1000000)
def kAt (es : List Ent) (i : Nat) : ByteArray := (es.getD i (ByteArray.empty, 0)).1
def xw (es : List Ent) (i : Nat) : Bool := nm (kAt es i) && (decide (i = 0) || klt (kAt es (i - 1)) (kAt es i))
def zX (es : List Ent) (i : Nat) : Bool := jy (es.getD i (ByteArray.empty, 0)).2
def vH (es : List Ent) : Bool := (List.range es.length).all (xw es)
def aCa (es : List Ent) : Bool := (List.range es.length).all (zX es)
def yS (es : List Ent) : Bool := decide (es.length ≤ 12) && (vH es && aCa es)
theorem aA5 (es : List Ent) (i : Nat) (h : i < es.length) : kAt es i = es[i].1 := by simp [kAt, h]
theorem aAu {es : List Ent} (h : ∀ i, i < es.length → xw es i = true) : vH es = true := by
 rw [vH, List.all_eq_true]; intro i hi; exact h i (List.mem_range.1 hi)
theorem aIj {es : List Ent} (h : ∀ i, i < es.length → zX es i = true) : aCa es = true := by
 rw [aCa, List.all_eq_true]; intro i hi; exact h i (List.mem_range.1 hi)
theorem w9 {es : List Ent} {i : Nat} (hi : i < es.length) (h : xw es i = false) : vH es = false := by
 rw [vH, List.all_eq_false]; exact ⟨i, List.mem_range.2 hi, by rw [h]; simp⟩
theorem aHg {es : List Ent} {i : Nat} (hi : i < es.length) (h : zX es i = false) : aCa es = false := by
 rw [aCa, List.all_eq_false]; exact ⟨i, List.mem_range.2 hi, by rw [h]; simp⟩
theorem aCZ {es : List Ent} (h : vH es = true) {i : Nat} (hi : i < es.length) : xw es i = true := List.all_eq_true.1 h i (List.mem_range.2 hi)
theorem aIi {es : List Ent} (h : aCa es = true) {i : Nat} (hi : i < es.length) : zX es i = true := List.all_eq_true.1 h i (List.mem_range.2 hi)
theorem aDu {es : List Ent} (h0 : es.length ≤ 12) (h : ∀ i, i < es.length → xw es i = true ∧ zX es i = true) : yS es = true := by
 rw [yS, aAu fun i hi => (h i hi).1, aIj fun i hi => (h i hi).2, decide_eq_true h0]; rfl
theorem aBL {es : List Ent} {i : Nat} (hi : i < es.length) (h : xw es i = false) : yS es = false := by
 rw [yS, w9 hi h]; simp
theorem aBM {es : List Ent} {i : Nat} (hi : i < es.length) (h : zX es i = false) : yS es = false := by
 rw [yS, aHg hi h]; simp
theorem aBr {es : List Ent} (h : 12 < es.length) : yS es = false := by
 rw [yS, decide_eq_false (by omega)]; rfl
theorem aCx {es : List Ent} {k : Nat} (h : 0 < k) (hk : k < es.length) (hn : nm (kAt es k) = true) : xw es k = klt (es[k - 1]'(by omega)).1 es[k].1 := by
 rw [xw, hn, decide_eq_false (by omega), aA5 es k hk, aA5 es (k - 1) (by omega)]; simp
theorem aBv {es : List Ent} (hn : nm (kAt es 0) = true) : xw es 0 = true := by rw [xw, hn]; rfl
def Srt (es : List Ent) : Prop := es.Pairwise fun a b => klt a.1 b.1 = true
def aDM (es : List Ent) (k : ByteArray) (p : Nat) : Prop := p ≤ es.length ∧ (∀ j, (hj : j < es.length) → j < p → klt es[j].1 k = true) ∧ ((hp : p < es.length) → klt es[p].1 k = false)
theorem aDM.take {es : List Ent} {k : ByteArray} {p : Nat} (h : aDM es k p) : es.takeWhile (fun e => klt e.1 k) = es.take p ∧ es.dropWhile (fun e => klt e.1 k) = es.drop p := by
 induction es generalizing p with
 | nil => obtain ⟨h1, _⟩ := h; simp
 | cons e r ih =>
  obtain ⟨h1, h2, h3⟩ := h
  match p, h1, h2, h3 with
  | 0, _, _, h3 => have := h3 (by simp); simp at this; simp [this]
  | p + 1, h1, h2, h3 =>
   have he := h2 0 (by simp) (by omega)
   simp at he
   have := ih (p := p) ⟨by simpa using h1, fun j hj hjp => by have := h2 (j + 1) (by simp; omega) (by omega); simpa using this, fun hp => by have := h3 (by simp; omega); simpa using this⟩
   simp [he, this]
theorem aDM.after {es : List Ent} {k : ByteArray} {p : Nat} (h : aDM es k p) (hs : Srt es) (j : Nat) (hj : j < es.length) (hpj : p < j) : klt k es[j].1 = true := by
 have h1 : klt es[p].1 es[j].1 = true := (List.pairwise_iff_getElem.1 hs) p j (by omega) hj hpj
 by_cases he : es[p].1 = k
 · rw [← he]; exact h1
 · exact aCs (aEu (h.2.2 (by omega)) he) h1
open Go.RowKit
theorem Rd.piece {w : World} {sz n : Nat} {A : Option Addr} {xs : List Value} (h : Rd w sz A n xs) {i m : Nat} (hm : i + m ≤ n) (hpos : 0 < ((xs.drop (i * sz)).take (m * sz)).length) :
 ∃ b off, A = some ⟨b, off, none⟩ ∧ ∀ j v, ((xs.drop (i * sz)).take (m * sz))[j]? = some v → w.cell? ((⟨b, off + i * sz, none⟩ : Addr).add j) = some v := by
 have hn : 0 < n := by
  rcases Nat.eq_zero_or_pos n with h0 | h0
  · subst h0
    have : m = 0 := by omega
    subst this
    simp at hpos
  · exact h0
 obtain ⟨b, off, rfl, _, hc⟩ := h.2 hn
 refine ⟨b, off, rfl, fun j v hj => ?_⟩
 have hadd : (⟨b, off + i * sz, none⟩ : Addr).add j = ⟨b, off + (i * sz + j), none⟩ := by unfold Addr.add; split <;> simp_all [Nat.add_assoc]
 rw [hadd]
 refine hc _ _ ?_
 rw [List.getElem?_take] at hj
 split at hj
 · rw [List.getElem?_drop] at hj; exact hj
 · cases hj
theorem Rd.cut {w : World} {sz n : Nat} {A : Option Addr} {xs : List Value} (h : Rd w sz A n xs) {i m : Nat} (hm : i + m ≤ n) (hpos : 0 < ((xs.drop (i * sz)).take (m * sz)).length) :
 ∃ ad, Option.map (fun x => x.add (i * sz)) A = some ad ∧ ∀ j v, ((xs.drop (i * sz)).take (m * sz))[j]? = some v → w.cell? (ad.add j) = some v := by
 obtain ⟨b, off, rfl, hc⟩ := h.piece hm hpos
 have hadd : (⟨b, off, none⟩ : Addr).add (i * sz) = ⟨b, off + i * sz, none⟩ := by unfold Addr.add; split <;> simp_all
 exact ⟨_, rfl, fun j v hj => by
  show w.cell? (((⟨b, off, none⟩ : Addr).add (i * sz)).add j) = some v
  rw [hadd]; exact hc j v hj⟩
theorem aEk (key : ByteArray) (v : Int) (w : World) :
 Calls Tryd.prog 50 #[.agg #[.string key, .int .i64 v]] w fun e w' => e = .returned (.agg #[.string key, .int .i64 v]) ∧ Below w.heap.size w w' := by
 go_enter Tryd.func50, Tryd.ntmps50
 go_wp2
 exact bodyPost_ret (v := .agg #[.string key, .int .i64 v]) (by simp [results, Tryd.results50, go_sem]) rfl ⟨rfl, by
  refine ((((((((((Below.refl _ _).alloc (Nat.le_refl _) _).alloc (by simp) _).alloc (by simp; omega) _)))))))⟩
def EqE (a b : Ent) : Bool := decide (a.1 = b.1) && decide (a.2 = b.2)
theorem aEe (k1 k2 : ByteArray) (v1 v2 : Int) (w : World) :
 Calls Tryd.prog 53 #[.agg #[.string k1, .int .i64 v1], .agg #[.string k2, .int .i64 v2]] w fun e w' => e = .returned (.bool (EqE (k1, v1) (k2, v2))) ∧ Below w.heap.size w w' := by
 have hk := wN k1 k2
 by_cases h1 : k1 = k2 <;> by_cases h2 : v1 = v2
 all_goals
  go_enter Tryd.func53, Tryd.ntmps53
  go_wp2
  go_ret
  exact ⟨xI (by simp [EqE, h1, h2]), ((Below.refl _ _).alloc (Nat.le_refl _) _).alloc (by simp) _⟩
def aGE (b : Bool) (w : World) (e : Ending) (w' : World) : Prop := e = .returned (.bool b) ∧ Below w.heap.size w w'
set_option maxRecDepth 100000 in
theorem aDh (A : Option Addr) (n c : Nat) (es : List Ent) (A' : Option Addr) (n' c' : Nat) (es' : List Ent) (w : World) (hr : Rd w 2 A n (yF es)) (hr' : Rd w 2 A' n' (yF es')) (hm : n ≤ maxLen) (hm' : n' ≤ maxLen) :
 Calls Tryd.prog 14 #[.slice A n c, .slice A' n' c'] w (aGE (decide (es = es')) w) := by
 unfold maxLen at hm hm'
 have hlen := hr.len
 have hlen' := hr'.len
 have Hlen := Lib.hid hlen; clear hlen
 have Hlen' := Lib.hid hlen'; clear hlen'
 by_cases hne : n = n'
 case neg =>
  have hfin : Hid (decide (es = es') = false) := decide_eq_false (fun h => hne (by rw [← Hlen.out, ← Hlen'.out, h]))
  have hb : ((n : Int) != n') = true := by rw [bne_iff_ne]; omega
  go_enter Tryd.func14, Tryd.ntmps14
  go_wp2
  go_ret
  exact ⟨xI hfin.out.symm, Below.refl _ _⟩
 subst hne
 go_enter Tryd.func14, Tryd.ntmps14
 go_wp2
 go_loopw [5] (fun i wr => ∃ k : Nat, k ≤ n ∧ i = .int .i64 k ∧ es.take k = es'.take k ∧ Below w.heap.size w wr) (fun i _ => n - (intOf i).toNat)
 case atStart => exact ⟨0, Nat.zero_le _, rfl, rfl, Below.refl _ _⟩
 case round =>
  obtain ⟨k, hk, rfl, heq, hb⟩ := hrel
  have Heq := Lib.hid heq; clear heq
  by_cases hlt : k < n
  · have hke : k < es.length := by rw [Hlen.out]; exact hlt
    have hke' : k < es'.length := by rw [Hlen'.out]; exact hlt
    obtain ⟨b, off, rfl, hbl, hbl2, hc1, hc2⟩ := hr.ent hb hke
    obtain ⟨b', off', rfl, hbl', hbl2', hc1', hc2'⟩ := hr'.ent hb hke'
    have hyes : Hid (EqE es[k] es'[k] = true → es.take (k + 1) = es'.take (k + 1)) := by
     intro h
     have h' : es[k] = es'[k] := by simp [EqE] at h; exact Prod.ext h.1 h.2
     rw [List.take_succ_eq_append_getElem hke, List.take_succ_eq_append_getElem hke', Heq.out, h']
    have hno : Hid (EqE es[k] es'[k] = false → decide (es = es') = false) := by
     intro h
     refine decide_eq_false (fun e => ?_)
     subst e
     simp [EqE] at h
    generalize es[k] = ek at *
    generalize es'[k] = ek' at *
    go_wp2
    go_still_tail 8, (by kernel_rfl)
    change wpList _ _ _ _ _ wr.drew
    generalize hw2 : wr.drew = w2
    have hb2 : Below w.heap.size w w2 := by rw [← hw2]; exact hb.drew
    clear hw2 hb
    go_wp2_with fail
    refine (aEe _ _ _ _ _).mono ?_
    rintro e w3 ⟨rfl, hb3⟩
    cases hE : EqE (ek.1, ek.2) (ek'.1, ek'.2) with
    | true =>
     have HE := Lib.hid hE; clear hE
     go_wp2
     go_roundw
     case rel => exact ⟨k + 1, by omega, by go_num, hyes.out HE.out, hb2.trans (hb3.mono hb2.size)⟩
     case measure => simp [intOf]; omega
    | false =>
     have HE := Lib.hid hE; clear hE
     go_wp2
     go_ret
     exact ⟨xI (hno.out HE.out).symm, hb2.trans (hb3.mono hb2.size)⟩
  · have hfin : Hid (decide (es = es') = true) := by
     have h := Heq.out
     rw [List.take_of_length_le (by rw [Hlen.out]; omega), List.take_of_length_le (by rw [Hlen'.out]; omega)] at h
     exact decide_eq_true h
    go_wp2
    go_ret
    exact ⟨xI hfin.out.symm, hb⟩
theorem aF9 : (Tryd.prog.info? 89).map (fun i => (i.zero, i.size, i.bytes)) = some (some (.agg #[.string ByteArray.empty, .int .i64 0]), 2, 24) := by kernel_rfl
set_option maxRecDepth 100000 in
theorem aET (A : Option Addr) (n c : Nat) (es : List Ent) (w : World) (hr : Rd w 2 A n (yF es)) (hm : n ≤ 1048576) :
 Calls Tryd.prog 12 #[.slice A n c] w fun e w' => ∃ v, e = .returned v ∧ w'.ownsRow w.heap.size 89 2 v n (yF es) ∧ Below w.heap.size w w' := by
 have hlen := hr.len
 have Hlen := Lib.hid hlen; clear hlen
 obtain ⟨i0, hi, hz0, hz1, hz2⟩ := info_parts aF9
 have hmk := fun W => aAP (P := Tryd.prog) 26 89 i0 _ Tryd.underlying26 hi hz0 .i64 .i64 n n (Nat.le_refl _) (by rw [hz2]; omega) (by omega) W
 rw [hz1] at hmk
 have hm' : n ≤ 9223372036854775807 := by omega
 have Hi := Lib.hid hi; clear hi
 clear hz0 hz1 hz2 hm
 go_enter Tryd.func12, Tryd.ntmps12
 go_wp2
 have hblk0 : Blk (w.alloc (.cells (madeCells (Value.agg #[Value.string ByteArray.empty, Value.int IntKind.i64 0]).cells (n * 2)) 89)) w.heap.size 89 (madeCells (Value.agg #[Value.string ByteArray.empty, Value.int IntKind.i64 0]).cells (n * 2)) := Blk.new _ _ _
 have HB0 := Lib.hid hblk0; clear hblk0
 have hb0 : Below w.heap.size w (w.alloc (.cells (madeCells (Value.agg #[Value.string ByteArray.empty, Value.int IntKind.i64 0]).cells (n * 2)) 89)) := (Below.refl _ _).alloc (Nat.le_refl _) _
 have HBel := Lib.hid hb0; clear hb0
 generalize hg0 : w.heap.size = g at *
 have Hg0 := Lib.hid hg0; clear hg0
 go_loopw [4] (fun i wr => ∃ (k : Nat) (cs : Array Value), k ≤ n ∧ i = .int .i64 k ∧ Blk wr g 89 cs ∧ cs.size = n * 2 ∧ cs.toList.take (k * 2) = yF (es.take k) ∧ Below g w wr) (fun i _ => n - (intOf i).toNat)
 case atStart => exact ⟨0, _, Nat.zero_le _, rfl, HB0.out, by simp [size_madeCells], by simp [yF], HBel.out⟩
 case round =>
  obtain ⟨k, cs, hk, rfl, hblk, hsz, htk, hb⟩ := hrel
  by_cases hlt : k < n
  · have hke : k < es.length := by rw [Hlen.out]; exact hlt
    obtain ⟨b, off, rfl, hbl, hbl2, hc1, hc2⟩ := hr.ent (by rw [Hg0.out]; exact hb) hke
    have hstep : Hid (yF (es.take (k + 1)) = yF (es.take k) ++ [.string es[k].1, .int .i64 es[k].2]) := by
     rw [List.take_succ_eq_append_getElem hke, aDg]; rfl
    have HT := Lib.hid htk; clear htk
    have HS := Lib.hid hsz; clear hsz
    have HB := Lib.hid hblk; clear hblk
    generalize es[k] = ek at *
    go_wp2_with fail
    refine (aEk _ _ _).mono ?_
    rintro e w1 ⟨rfl, hb1⟩
    have hgl : g < wr.heap.size := HB.out.lt
    have hblk1 : Blk w1 g 89 cs := HB.out.kept hb1
    have hsz' := HS.out
    have hx0 : w1.cell? ⟨g, k * 2, none⟩ = some (cs[k * 2]'(by omega)) := by rw [hblk1.cell]; exact Array.getElem?_eq_getElem (by omega)
    have hx1 : w1.cell? ⟨g, k * 2 + 1, none⟩ = some (cs[k * 2 + 1]'(by omega)) := by rw [hblk1.cell]; exact Array.getElem?_eq_getElem (by omega)
    have hf0 := hblk1.frozen (k * 2)
    have hf1 := hblk1.frozen (k * 2 + 1)
    generalize cs[k * 2]'(by omega) = y0 at *
    generalize cs[k * 2 + 1]'(by omega) = y1 at *
    have HB1 := Lib.hid hblk1; clear hblk1 hsz'
    go_wp2
    go_roundw
    case rel => exact ⟨k + 1, _, by omega, by go_num, (HB1.out.set_ _ _).set_ _ _, by simpa using HS.out, by rw [aHB _ _ _ _ (by have := HS.out; omega), HT.out, hstep.out], ((hb.trans (hb1.mono (by omega))).setCell (Nat.le_refl g) _).setCell (Nat.le_refl g) _⟩
    case measure => simp [intOf]; omega
  · have HT := Lib.hid htk; clear htk
    have HS := Lib.hid hsz; clear hsz
    have HB := Lib.hid hblk; clear hblk
    have hkn : k = n := by omega
    have HKN := Lib.hid hkn; clear hkn
    go_wp2
    go_ret
    exact ⟨_, rfl, HB.out.own (Nat.le_of_eq Hg0.out) (Nat.le_refl _) (by unfold maxLen; omega) HS.out (by have h := HT.out; rw [HKN.out, List.take_of_length_le (l := es) (by rw [Hlen.out]; exact Nat.le_refl _)] at h; exact h), by rw [Hg0.out]; exact hb⟩
theorem aBR (x : Int) (w : World) :
 Calls Tryd.prog 101 #[.int .i64 x] w fun e w' => e = .returned (.bool (decide (-1000000 ≤ x) && decide (x ≤ 1000000))) ∧ w = w' := by
 go_enter Tryd.func101, Tryd.ntmps101
 go_wp2
 all_goals (go_ret; exact ⟨xI (by rw [Bool.eq_iff_iff]; simp; try omega), rfl⟩)
theorem aCt (x a b : Int) (w : World) :
 Calls Tryd.prog 89 #[.int .i64 x, .int .i64 a, .int .i64 b] w fun e w' => e = .returned (.bool (decide (a ≤ x) && decide (x ≤ b))) ∧ w = w' := by
 go_enter Tryd.func89, Tryd.ntmps89
 go_wp2
 all_goals (go_ret; exact ⟨xI (by rw [Bool.eq_iff_iff]; simp; try omega), rfl⟩)
theorem j6 (key : ByteArray) (v : Int) (w : World) :
 Calls Tryd.prog 223 #[.agg #[.string key, .int .i64 v]] w fun e w' => e = .returned (.string key) ∧ Below w.heap.size w w' := by
 go_enter Tryd.func223, Tryd.ntmps223
 go_wp2
 go_ret
 exact ⟨rfl, (Below.refl _ _).alloc (Nat.le_refl _) _⟩
theorem aEg (es : List Ent) (k : Nat) (hke : k < es.length) (hs : es[k].1.size ≤ maxLen) (W : World) :
 Calls Tryd.prog 98 #[.string es[k].1] W fun e w' => e = .returned (.bool (nm (kAt es k))) ∧ W = w' := by
 rw [aA5 es k hke]; exact jq _ W hs
theorem aG1 (es : List Ent) (k : Nat) (hke : k < es.length) (W : World) :
 Calls Tryd.prog 89 #[.int .i64 es[k].2, .int .i64 (-1000000), .int .i64 1000000] W fun e w' => e = .returned (.bool (zX es k)) ∧ W = w' := by
 have e : zX es k = (decide (-1000000 ≤ es[k].2) && decide (es[k].2 ≤ 1000000)) := by simp [zX, jy, hke]
 rw [e]; exact aCt _ _ _ _
set_option maxRecDepth 100000 in
theorem aG2 (A : Option Addr) (n c : Nat) (es : List Ent) (w : World) (hr : Rd w 2 A n (yF es)) (hm : n ≤ maxLen) (hks : ∀ e ∈ es, e.1.size ≤ maxLen) :
 Calls Tryd.prog 48 #[.slice A n c] w fun e w' => e = .returned (.bool (yS es)) ∧ Below w.heap.size w w' := by
 unfold maxLen at hm
 have hlen := hr.len
 have Hlen := Lib.hid hlen; clear hlen
 by_cases hbig : 12 < n
 · have hfin : Hid (yS es = false) := aBr (by rw [Hlen.out]; exact hbig)
   go_enter Tryd.func48, Tryd.ntmps48
   go_wp2
   go_ret
   exact ⟨xI hfin.out.symm, Below.refl _ _⟩
 have hn12 : n ≤ 12 := by omega
 clear hbig
 go_enter Tryd.func48, Tryd.ntmps48
 go_wp2
 go_loopw [3] (fun i wr => ∃ k : Nat, k ≤ n ∧ i = .int .i64 k ∧ (∀ j, j < k → xw es j = true ∧ zX es j = true) ∧ Below w.heap.size w wr) (fun i _ => n - (intOf i).toNat)
 case atStart => exact ⟨0, Nat.zero_le _, rfl, fun j hj => absurd hj (by omega), Below.refl _ _⟩
 case round =>
  obtain ⟨k, hk, rfl, hall, hb⟩ := hrel
  have Hall := Lib.hid hall; clear hall
  by_cases hlt : k < n
  · have hke : k < es.length := by rw [Hlen.out]; exact hlt
    obtain ⟨b, off, rfl, hbl, hbl2, hc1, hc2⟩ := hr.ent hb hke
    have hcall := aEg es k hke (hks _ (List.getElem_mem hke))
    have hcall2 := aG1 es k hke
    cases hw : nm (kAt es k) with
    | false =>
     have hfin : Hid (yS es = false) := aBL hke (by rw [xw, hw]; rfl)
     rw [hw] at hcall
     have Hcall := Lib.hid hcall
     clear hw hcall hcall2
     go_wp2
     go_quiet ((first | (go_at_call 98; exact Calls.quiet_of_same ((Hcall.out _).mono (fun _ _ h => ⟨h.1, h.2.symm⟩)))))
     go_wp2
     go_ret
     exact ⟨xI hfin.out.symm, hb.drewN _⟩
    | true =>
    cases hv : zX es k with
    | false =>
     have hfin : Hid (yS es = false) := aBM hke hv
     rw [hw] at hcall
     rw [hv] at hcall2
     have Hcall := Lib.hid hcall
     have Hcall2 := Lib.hid hcall2
     clear hw hv hcall hcall2
     go_wp2
     go_quiet ((first | (go_at_call 98; exact Calls.quiet_of_same ((Hcall.out _).mono (fun _ _ h => ⟨h.1, h.2.symm⟩))) | (go_at_call 89; exact Calls.quiet_of_same ((Hcall2.out _).mono (fun _ _ h => ⟨h.1, h.2.symm⟩)))))
     go_wp2
     go_ret
     exact ⟨xI hfin.out.symm, hb.drewN _⟩
    | true =>
    by_cases hk0 : k = 0
    · subst hk0
      have hstep : Hid (∀ j, j < 0 + 1 → xw es j = true ∧ zX es j = true) := fun j hj => by
       have : j = 0 := by omega
       subst this; exact ⟨aBv hw, hv⟩
      rw [hw] at hcall
      rw [hv] at hcall2
      have Hcall := Lib.hid hcall
      have Hcall2 := Lib.hid hcall2
      clear hw hv hcall hcall2
      simp only [Nat.zero_mul, Nat.add_zero] at hc1 hc2
      go_wp2
      go_quiet ((first | (go_at_call 98; exact Calls.quiet_of_same ((Hcall.out _).mono (fun _ _ h => ⟨h.1, h.2.symm⟩))) | (go_at_call 89; exact Calls.quiet_of_same ((Hcall2.out _).mono (fun _ _ h => ⟨h.1, h.2.symm⟩)))))
      go_wp2
      go_roundw
      case rel => exact ⟨0 + 1, by omega, by go_num, hstep.out, hb.drewN _⟩
      case measure => simp [intOf]; omega
    · have hkp : 0 < k := by omega
      have hor := aCx hkp hke hw
      obtain ⟨b', off', he, _, _, hc3, _⟩ := hr.ent hb (show k - 1 < es.length by omega)
      obtain ⟨rfl, rfl⟩ : b = b' ∧ off = off' := by simpa using he
      have ht : (Op.bytesLess es[k].1.toList (es[k - 1]'(by omega)).1.toList || es[k].1.toList == (es[k - 1]'(by omega)).1.toList) = !xw es k := by rw [aGY, hor]
      have hi0 : 0 ≤ (k : Int) - 1 := by omega
      have hi1 : ((k : Int) - 1).toNat = k - 1 := by omega
      have hi2 : (0 : Int) < (k : Int) := by omega
      rw [hw] at hcall
      rw [hv] at hcall2
      have Hcall := Lib.hid hcall
      have Hcall2 := Lib.hid hcall2
      clear hcall hcall2 hk0 he hor
      cases ho : xw es k with
      | false =>
       have hfin : Hid (yS es = false) := aBL hke ho
       rw [ho] at ht
       clear hw hv ho
       go_wp2
       go_quiet ((first | (go_at_call 98; exact Calls.quiet_of_same ((Hcall.out _).mono (fun _ _ h => ⟨h.1, h.2.symm⟩))) | (go_at_call 89; exact Calls.quiet_of_same ((Hcall2.out _).mono (fun _ _ h => ⟨h.1, h.2.symm⟩)))))
       go_wp2
       go_ret
       exact ⟨xI hfin.out.symm, hb.drewN _⟩
      | true =>
       have hstep : Hid (∀ j, j < k + 1 → xw es j = true ∧ zX es j = true) := fun j hj => by
        rcases Nat.lt_or_ge j k with h | h
        · exact Hall.out j h
        · have : j = k := by omega
          subst this; exact ⟨ho, hv⟩
       rw [ho] at ht
       clear hw hv ho
       go_wp2
       go_quiet ((first | (go_at_call 98; exact Calls.quiet_of_same ((Hcall.out _).mono (fun _ _ h => ⟨h.1, h.2.symm⟩))) | (go_at_call 89; exact Calls.quiet_of_same ((Hcall2.out _).mono (fun _ _ h => ⟨h.1, h.2.symm⟩)))))
       go_wp2
       go_roundw
       case rel => exact ⟨k + 1, by omega, by go_num, hstep.out, hb.drewN _⟩
       case measure => simp [intOf]; omega
  · have hfin : Hid (yS es = true) := aDu (by rw [Hlen.out]; exact hn12) (fun i hi => Hall.out i (by rw [Hlen.out] at hi; omega))
    go_wp2
    go_ret
    exact ⟨xI hfin.out.symm, hb⟩
theorem aFk (a : ByteArray) (x : Int) (w : World) : (method 362 89 (.agg #[.string a, .int .i64 x]) "loop.example/g00737/impl.key").run Tryd.prog w = .ok (223, .agg #[.string a, .int .i64 x]) w := by kernel_rfl
theorem aFm (es : List Ent) (k : Nat) (hke : k < es.length) (hs : es[k].1.size ≤ maxLen) (W : World) :
 Calls Tryd.prog 118 #[.string es[k].1] W fun e w' => e = .returned (.bool (nm (kAt es k))) ∧ W = w' := by
 rw [aA5 es k hke]; exact aAB _ W hs
set_option maxHeartbeats 2000000 in
set_option maxRecDepth 100000 in
theorem aBH (A : Option Addr) (n c : Nat) (es : List Ent) (w : World) (hr : Rd w 2 A n (yF es)) (hm : n ≤ maxLen) (hks : ∀ e ∈ es, e.1.size ≤ maxLen) :
 Calls Tryd.prog 100 #[.slice A n c] w fun e w' => e = .returned (.bool (vH es)) ∧ Below w.heap.size w w' := by
 unfold maxLen at hm
 have hlen := hr.len
 have Hlen := Lib.hid hlen; clear hlen
 have hmeth := aFk
 go_enter Tryd.func100, Tryd.ntmps100
 go_wp2
 go_loopw [3, 7] (fun _ i wr => ∃ k : Nat, k ≤ n ∧ i = .int .i64 k ∧ (∀ j, j < k → xw es j = true) ∧ Below w.heap.size w wr) (fun _ i _ => n - (intOf i).toNat)
 case atStart => exact ⟨0, Nat.zero_le _, rfl, fun j hj => absurd hj (by omega), Below.refl _ _⟩
 case round =>
  obtain ⟨k, hk, rfl, hall, hb⟩ := hrel
  have Hall := Lib.hid hall; clear hall
  by_cases hlt : k < n
  · have hke : k < es.length := by rw [Hlen.out]; exact hlt
    obtain ⟨b, off, rfl, hbl, hbl2, hc1, hc2⟩ := hr.ent hb hke
    have hcall := aFm es k hke (hks _ (List.getElem_mem hke))
    cases hw : nm (kAt es k) with
    | false =>
     have hfin : Hid (vH es = false) := w9 hke (by rw [xw, hw]; rfl)
     rw [hw] at hcall
     have Hcall := Lib.hid hcall
     clear hw hcall
     go_wp2
     have hcL0 : (wr.alloc (Obj.cells #[Value.string es[k].1, Value.int IntKind.i64 es[k].2] 89)).cell? ⟨wr.heap.size, 0, none⟩ = some (.string es[k].1) := cell_of_row _ _ _ _ _ (0, 0) (heap_alloc_new wr _)
     have hcL1 : (wr.alloc (Obj.cells #[Value.string es[k].1, Value.int IntKind.i64 es[k].2] 89)).cell? ⟨wr.heap.size, 1, none⟩ = some (.int .i64 es[k].2) := cell_of_row _ _ _ _ _ (0, 0) (heap_alloc_new wr _)
     have hpl : wr.heap.size < (wr.alloc (Obj.cells #[Value.string es[k].1, Value.int IntKind.i64 es[k].2] 89)).heap.size := by simp
     have hb2 : Below w.heap.size w (wr.alloc (Obj.cells #[Value.string es[k].1, Value.int IntKind.i64 es[k].2] 89)) := hb.alloc hb.size _
     generalize wr.alloc (Obj.cells #[Value.string es[k].1, Value.int IntKind.i64 es[k].2] 89) = w2 at *
     generalize wr.heap.size = p at *
     have hA0 := fun y : Aft w2 => y.cell hpl hcL0
     have hA1 := fun y : Aft w2 => y.cell hpl hcL1
     refine xV (by kernel_rfl) (by kernel_rfl) ?_
     repeat (go_big_quiet_step ((first | (go_at_call 223; exact Aft.call (j6 _ _ _)) | (go_at_call 118; exact Aft.same (Hcall.out _)))))
     refine wpQuiet_nil ?_
     rintro _ ⟨y, rfl⟩
     have hb3 := zw hb2 y.below
     generalize y.at_ = w3 at *
     go_wp2
     go_ret
     exact ⟨xI hfin.out.symm, hb3⟩
    | true =>
    rw [hw] at hcall
    have Hcall := Lib.hid hcall
    clear hcall
    by_cases hk0 : k = 0
    · subst hk0
      have hstep : Hid (∀ j, j < 0 + 1 → xw es j = true) := fun j hj => by
       have : j = 0 := by omega
       subst this; exact aBv hw
      clear hw
      simp only [Nat.zero_mul, Nat.add_zero] at hc1 hc2
      go_wp2
      have hcL0 : (wr.alloc (Obj.cells #[Value.string es[0].1, Value.int IntKind.i64 es[0].2] 89)).cell? ⟨wr.heap.size, 0, none⟩ = some (.string es[0].1) := cell_of_row _ _ _ _ _ (0, 0) (heap_alloc_new wr _)
      have hcL1 : (wr.alloc (Obj.cells #[Value.string es[0].1, Value.int IntKind.i64 es[0].2] 89)).cell? ⟨wr.heap.size, 1, none⟩ = some (.int .i64 es[0].2) := cell_of_row _ _ _ _ _ (0, 0) (heap_alloc_new wr _)
      have hpl : wr.heap.size < (wr.alloc (Obj.cells #[Value.string es[0].1, Value.int IntKind.i64 es[0].2] 89)).heap.size := by simp
      have hb2 : Below w.heap.size w (wr.alloc (Obj.cells #[Value.string es[0].1, Value.int IntKind.i64 es[0].2] 89)) := hb.alloc hb.size _
      generalize wr.alloc (Obj.cells #[Value.string es[0].1, Value.int IntKind.i64 es[0].2] 89) = w2 at *
      generalize wr.heap.size = p at *
      have hA0 := fun y : Aft w2 => y.cell hpl hcL0
      have hA1 := fun y : Aft w2 => y.cell hpl hcL1
      refine xV (by kernel_rfl) (by kernel_rfl) ?_
      repeat (go_big_quiet_step ((first | (go_at_call 223; exact Aft.call (j6 _ _ _)) | (go_at_call 118; exact Aft.same (Hcall.out _)))))
      refine wpQuiet_nil ?_
      rintro _ ⟨y, rfl⟩
      have hb3 := zw hb2 y.below
      generalize y.at_ = w3 at *
      go_wp2
      go_roundw
      case rel => exact ⟨0 + 1, by omega, by go_num, hstep.out, hb3⟩
      case measure => simp [intOf]; omega
    · have hkp : 0 < k := by omega
      have hor := aCx hkp hke hw
      have ht : (!(Op.bytesLess (es[k - 1]'(by omega)).1.toList es[k].1.toList)) = !xw es k := by rw [hor]; rfl
      have hi0 : 0 ≤ (k : Int) - 1 := by omega
      have hi1 : ((k : Int) - 1).toNat = k - 1 := by omega
      have hi2 : (0 : Int) < (k : Int) := by omega
      clear hk0 hor hw
      cases ho : xw es k with
      | false =>
       have hfin : Hid (vH es = false) := w9 hke ho
       rw [ho] at ht
       clear ho
       go_wp2
       have hcL0 : (wr.alloc (Obj.cells #[Value.string es[k].1, Value.int IntKind.i64 es[k].2] 89)).cell? ⟨wr.heap.size, 0, none⟩ = some (.string es[k].1) := cell_of_row _ _ _ _ _ (0, 0) (heap_alloc_new wr _)
       have hcL1 : (wr.alloc (Obj.cells #[Value.string es[k].1, Value.int IntKind.i64 es[k].2] 89)).cell? ⟨wr.heap.size, 1, none⟩ = some (.int .i64 es[k].2) := cell_of_row _ _ _ _ _ (0, 0) (heap_alloc_new wr _)
       have hpl : wr.heap.size < (wr.alloc (Obj.cells #[Value.string es[k].1, Value.int IntKind.i64 es[k].2] 89)).heap.size := by simp
       have hb2 : Below w.heap.size w (wr.alloc (Obj.cells #[Value.string es[k].1, Value.int IntKind.i64 es[k].2] 89)) := hb.alloc hb.size _
       obtain ⟨b', off', he, _, _, hc3, hc4⟩ := hr.ent hb2 (show k - 1 < es.length by omega)
       obtain ⟨rfl, rfl⟩ : b = b' ∧ off = off' := by simpa using he
       have hbl4 := Nat.lt_of_lt_of_le hbl hb2.size
       generalize wr.alloc (Obj.cells #[Value.string es[k].1, Value.int IntKind.i64 es[k].2] 89) = w2 at *
       generalize wr.heap.size = p at *
       have hA0 := fun y : Aft w2 => y.cell hpl hcL0
       have hA1 := fun y : Aft w2 => y.cell hpl hcL1
       have hA3 := fun y : Aft w2 => y.cell hbl4 hc3
       have hA4 := fun y : Aft w2 => y.cell hbl4 hc4
       refine xV (by kernel_rfl) (by kernel_rfl) ?_
       repeat (go_big_quiet_step ((first | (go_at_call 223; exact Aft.call (j6 _ _ _)) | (go_at_call 118; exact Aft.same (Hcall.out _)))))
       refine wpQuiet_nil ?_
       rintro _ ⟨y, rfl⟩
       have hb3 := zw hb2 y.below
       generalize y.at_ = w3 at *
       go_wp2
       go_ret
       exact ⟨xI hfin.out.symm, hb3⟩
      | true =>
       have hstep : Hid (∀ j, j < k + 1 → xw es j = true) := fun j hj => by
        rcases Nat.lt_or_ge j k with h | h
        · exact Hall.out j h
        · have : j = k := by omega
          subst this; exact ho
       rw [ho] at ht
       clear ho
       go_wp2
       have hcL0 : (wr.alloc (Obj.cells #[Value.string es[k].1, Value.int IntKind.i64 es[k].2] 89)).cell? ⟨wr.heap.size, 0, none⟩ = some (.string es[k].1) := cell_of_row _ _ _ _ _ (0, 0) (heap_alloc_new wr _)
       have hcL1 : (wr.alloc (Obj.cells #[Value.string es[k].1, Value.int IntKind.i64 es[k].2] 89)).cell? ⟨wr.heap.size, 1, none⟩ = some (.int .i64 es[k].2) := cell_of_row _ _ _ _ _ (0, 0) (heap_alloc_new wr _)
       have hpl : wr.heap.size < (wr.alloc (Obj.cells #[Value.string es[k].1, Value.int IntKind.i64 es[k].2] 89)).heap.size := by simp
       have hb2 : Below w.heap.size w (wr.alloc (Obj.cells #[Value.string es[k].1, Value.int IntKind.i64 es[k].2] 89)) := hb.alloc hb.size _
       obtain ⟨b', off', he, _, _, hc3, hc4⟩ := hr.ent hb2 (show k - 1 < es.length by omega)
       obtain ⟨rfl, rfl⟩ : b = b' ∧ off = off' := by simpa using he
       have hbl4 := Nat.lt_of_lt_of_le hbl hb2.size
       generalize wr.alloc (Obj.cells #[Value.string es[k].1, Value.int IntKind.i64 es[k].2] 89) = w2 at *
       generalize wr.heap.size = p at *
       have hA0 := fun y : Aft w2 => y.cell hpl hcL0
       have hA1 := fun y : Aft w2 => y.cell hpl hcL1
       have hA3 := fun y : Aft w2 => y.cell hbl4 hc3
       have hA4 := fun y : Aft w2 => y.cell hbl4 hc4
       refine xV (by kernel_rfl) (by kernel_rfl) ?_
       repeat (go_big_quiet_step ((first | (go_at_call 223; exact Aft.call (j6 _ _ _)) | (go_at_call 118; exact Aft.same (Hcall.out _)))))
       refine wpQuiet_nil ?_
       rintro _ ⟨y, rfl⟩
       have hb3 := zw hb2 y.below
       generalize y.at_ = w3 at *
       go_wp2
       go_roundw
       case rel => exact ⟨k + 1, by omega, by go_num, hstep.out, hb3⟩
       case measure => simp [intOf]; omega
  · have hfin : Hid (vH es = true) := aAu (fun i hi => Hall.out i (by rw [Hlen.out] at hi; omega))
    go_wp2
    go_ret
    exact ⟨xI hfin.out.symm, hb⟩
theorem aEl (es : List Ent) (k : Nat) (hke : k < es.length) (W : World) :
 Calls Tryd.prog 101 #[.int .i64 es[k].2] W fun e w' => e = .returned (.bool (zX es k)) ∧ W = w' := by
 have e : zX es k = (decide (-1000000 ≤ es[k].2) && decide (es[k].2 ≤ 1000000)) := by simp [zX, jy, hke]
 rw [e]; exact aBR _ _
set_option maxHeartbeats 1000000 in
set_option maxRecDepth 100000 in
theorem aDJ (A : Option Addr) (n c : Nat) (es : List Ent) (w : World) (hr : Rd w 2 A n (yF es)) (hm : n ≤ maxLen) (hks : ∀ e ∈ es, e.1.size ≤ maxLen) :
 Calls Tryd.prog 51 #[.slice A n c] w fun e w' => e = .returned (.bool (yS es)) ∧ Below w.heap.size w w' := by
 have hm' := hm
 unfold maxLen at hm
 have hlen := hr.len
 have Hlen := Lib.hid hlen; clear hlen
 by_cases hbig : 12 < n
 · have hfin : Hid (yS es = false) := aBr (by rw [Hlen.out]; exact hbig)
   go_enter Tryd.func51, Tryd.ntmps51
   go_wp2
   go_ret
   exact ⟨xI hfin.out.symm, Below.refl _ _⟩
 have hn12 : n ≤ 12 := by omega
 clear hbig
 cases ho : vH es with
 | false =>
  have hfin : Hid (yS es = false) := by show yS es = false; rw [yS, ho]; simp
  have hcall := aBH A n c es w hr hm' hks
  rw [ho] at hcall
  have Hcall := Lib.hid hcall
  clear ho hcall
  go_enter Tryd.func51, Tryd.ntmps51
  go_wp2_with (go_at_call 100; refine Hcall.out.mono ?_; rintro e w1 ⟨rfl, hb1⟩)
  go_ret
  exact ⟨xI hfin.out.symm, hb1⟩
 | true =>
  have hcall := aBH A n c es w hr hm' hks
  rw [ho] at hcall
  have Hcall := Lib.hid hcall
  have Ho := Lib.hid ho
  clear ho hcall
  go_enter Tryd.func51, Tryd.ntmps51
  go_wp2_with (go_at_call 100; refine Hcall.out.mono ?_; rintro e w1 ⟨rfl, hb1⟩)
  go_loopw [15] (fun i wr => ∃ k : Nat, k ≤ n ∧ i = .int .i64 k ∧ (∀ j, j < k → zX es j = true) ∧ Below w.heap.size w wr) (fun i _ => n - (intOf i).toNat)
  case atStart => exact ⟨0, Nat.zero_le _, rfl, fun j hj => absurd hj (by omega), hb1⟩
  case round =>
   obtain ⟨k, hk, rfl, hall, hb⟩ := hrel
   have Hall := Lib.hid hall; clear hall
   by_cases hlt : k < n
   · have hke : k < es.length := by rw [Hlen.out]; exact hlt
     obtain ⟨b, off, rfl, hbl, hbl2, hc1, hc2⟩ := hr.ent hb hke
     have hcall := aEl es k hke
     cases hv : zX es k with
     | false =>
      have hfin : Hid (yS es = false) := aBM hke hv
      rw [hv] at hcall
      have Hcall := Lib.hid hcall
      clear hv hcall
      go_wp2_with (go_at_call 101; refine (Hcall.out _).mono ?_; rintro e w1 ⟨rfl, rfl⟩)
      go_ret
      exact ⟨xI hfin.out.symm, hb.alloc hb.size _⟩
     | true =>
      have hstep : Hid (∀ j, j < k + 1 → zX es j = true) := fun j hj => by
       rcases Nat.lt_or_ge j k with h | h
       · exact Hall.out j h
       · have : j = k := by omega
         subst this; exact hv
      rw [hv] at hcall
      have Hcall := Lib.hid hcall
      clear hv hcall
      go_wp2_with (go_at_call 101; refine (Hcall.out _).mono ?_; rintro e w1 ⟨rfl, rfl⟩)
      go_roundw
      case rel => exact ⟨k + 1, by omega, by go_num, hstep.out, hb.alloc hb.size _⟩
      case measure => simp [intOf]; omega
   · have hfin : Hid (yS es = true) := aDu (by rw [Hlen.out]; exact hn12) (fun i hi => ⟨aCZ Ho.out hi, Hall.out i (by rw [Hlen.out] at hi; omega)⟩)
     go_wp2
     go_ret
     exact ⟨xI hfin.out.symm, hb⟩
def aEm (e : TypeId) (r : List Ent × Int) (w : World) (e' : Ending) (w' : World) : Prop := ∃ v, e' = .returned (.tuple #[v, .int .i64 r.2]) ∧ w'.ownsRow w.heap.size e 2 v r.1.length (yF r.1) ∧ Below w.heap.size w w'
theorem aEm.mk {e : TypeId} {r : List Ent × Int} {l : List Ent} {c : Int} {v : Value} {w w' : World} (h : r = (l, c)) (ho : w'.ownsRow w.heap.size e 2 v l.length (yF l)) (hb : Below w.heap.size w w') : aEm e r w (.returned (.tuple #[v, .int .i64 c])) w' := ⟨v, by rw [h], by rw [h]; exact ho, hb⟩
theorem Blk.two {w : World} {g : Nat} {t : TypeId} {cs : Array Value} (h : Blk w g t cs) {k : Nat} (hk : k * 2 + 1 < cs.size) :
 ∃ y0 y1, w.cell? ⟨g, k * 2, none⟩ = some y0 ∧ w.cell? ⟨g, k * 2 + 1, none⟩ = some y1 ∧ w.frozen? ⟨g, k * 2, none⟩ = false ∧ w.frozen? ⟨g, k * 2 + 1, none⟩ = false :=
 ⟨_, _, (h.cell _).trans (Array.getElem?_eq_getElem (by omega)), (h.cell _).trans (Array.getElem?_eq_getElem hk), h.frozen _, h.frozen _⟩
theorem aGB (key : ByteArray) (v : Int) (g : Bool) (w : World) :
 Calls Tryd.prog 61 #[.agg #[.string key, .int .i64 v, .bool g]] w fun e w' => e = .returned (.agg #[.string key, .int .i64 v, .bool g]) ∧ Below w.heap.size w w' := by
 go_enter Tryd.func61, Tryd.ntmps61
 go_wp2
 exact bodyPost_ret (v := .agg #[.string key, .int .i64 v, .bool g]) (by simp [results, Tryd.results61, go_sem]) rfl ⟨rfl, by
  refine ((((((((((Below.refl _ _).alloc (Nat.le_refl _) _).alloc (by simp) _).alloc (by simp; omega) _)))))))⟩
instance edt_dec : DecidableEq Edt := fun a b => decidable_of_iff (a.key = b.key ∧ a.val = b.val ∧ a.gone = b.gone) ⟨fun ⟨h1, h2, h3⟩ => by cases a; cases b; simp at *; exact ⟨h1, h2, h3⟩, fun h => by subst h; exact ⟨rfl, rfl, rfl⟩⟩
def EqD (a b : Edt) : Bool := decide (a.key = b.key) && (decide (a.val = b.val) && decide (a.gone = b.gone))
theorem aIA (a b : Edt) : EqD a b = decide (a = b) := by
 obtain ⟨a1, a2, a3⟩ := a
 obtain ⟨b1, b2, b3⟩ := b
 rw [Bool.eq_iff_iff]; simp [EqD]
set_option maxRecDepth 100000 in
theorem aF7 (k1 k2 : ByteArray) (v1 v2 : Int) (g1 g2 : Bool) (w : World) :
 Calls Tryd.prog 65 #[.agg #[.string k1, .int .i64 v1, .bool g1], .agg #[.string k2, .int .i64 v2, .bool g2]] w fun e w' => e = .returned (.bool (EqD ⟨k1, v1, g1⟩ ⟨k2, v2, g2⟩)) ∧ Below w.heap.size w w' := by
 have hk := wN k1 k2
 by_cases h1 : k1 = k2 <;> by_cases h2 : v1 = v2 <;> cases g1 <;> cases g2
 all_goals
  go_enter Tryd.func65, Tryd.ntmps65
  go_wp2
  go_ret
  exact ⟨xI (by simp [EqD, h1, h2]), ((Below.refl _ _).alloc (Nat.le_refl _) _).alloc (by simp) _⟩
set_option maxRecDepth 100000 in
theorem aEd (A : Option Addr) (n c : Nat) (es : List Edt) (A' : Option Addr) (n' c' : Nat) (es' : List Edt) (w : World) (hr : Rd w 3 A n (yD es)) (hr' : Rd w 3 A' n' (yD es')) (hm : n ≤ maxLen) (hm' : n' ≤ maxLen) (hsame : es = es') :
 Calls Tryd.prog 23 #[.slice A n c, .slice A' n' c'] w (aGE true w) := by
 subst hsame
 have hne : n = n' := by rw [← hr.elen, ← hr'.elen]
 unfold maxLen at hm hm'
 have hlen := hr.elen
 have Hlen := Lib.hid hlen; clear hlen
 subst hne
 go_enter Tryd.func23, Tryd.ntmps23
 go_wp2
 go_loopw [5] (fun i wr => ∃ k : Nat, k ≤ n ∧ i = .int .i64 k ∧ Below w.heap.size w wr) (fun i _ => n - (intOf i).toNat)
 case atStart => exact ⟨0, Nat.zero_le _, rfl, Below.refl _ _⟩
 case round =>
  obtain ⟨k, hk, rfl, hb⟩ := hrel
  by_cases hlt : k < n
  · have hke : k < es.length := by rw [Hlen.out]; exact hlt
    obtain ⟨b, off, rfl, hbl, hbl2, hc1, hc2, hc3⟩ := hr.edt hb hke
    obtain ⟨b', off', rfl, hbl', hbl2', hc1', hc2', hc3'⟩ := hr'.edt hb hke
    generalize es[k] = ek at *
    obtain ⟨k1, v1, g1⟩ := ek
    have hcall : Hid (∀ W : World, Calls Tryd.prog 65 #[.agg #[.string k1, .int .i64 v1, .bool g1], .agg #[.string k1, .int .i64 v1, .bool g1]] W fun e w' => e = .returned (.bool true) ∧ Below W.heap.size W w') := fun W => by
     have h := aF7 k1 k1 v1 v1 g1 g1 W
     rw [aIA, decide_eq_true rfl] at h; exact h
    go_wp2
    go_still_tail 8, (by kernel_rfl)
    change wpList _ _ _ _ _ wr.drew
    generalize hw2 : wr.drew = w2
    have hb2 : Below w.heap.size w w2 := by rw [← hw2]; exact hb.drew
    clear hw2 hb
    go_wp2_with fail
    refine (hcall.out _).mono ?_
    rintro e w3 ⟨rfl, hb3⟩
    go_wp2
    go_roundw
    case rel => exact ⟨k + 1, by omega, by go_num, hb2.trans (hb3.mono hb2.size)⟩
    case measure => simp [intOf]; omega
  · go_wp2
    go_ret
    exact ⟨rfl, hb⟩
theorem aGU : (Tryd.prog.info? 102).map (fun i => (i.zero, i.size, i.bytes)) = some (some (.agg #[.string ByteArray.empty, .int .i64 0, .bool false]), 3, 32) := by kernel_rfl
theorem Blk.three {w : World} {g : Nat} {t : TypeId} {cs : Array Value} (h : Blk w g t cs) {k : Nat} (hk : k * 3 + 2 < cs.size) :
 ∃ y0 y1 y2, w.cell? ⟨g, k * 3, none⟩ = some y0 ∧ w.cell? ⟨g, k * 3 + 1, none⟩ = some y1 ∧ w.cell? ⟨g, k * 3 + 2, none⟩ = some y2 ∧ w.frozen? ⟨g, k * 3, none⟩ = false ∧ w.frozen? ⟨g, k * 3 + 1, none⟩ = false ∧ w.frozen? ⟨g, k * 3 + 2, none⟩ = false :=
 ⟨_, _, _, (h.cell _).trans (Array.getElem?_eq_getElem (by omega)), (h.cell _).trans (Array.getElem?_eq_getElem (by omega)), (h.cell _).trans (Array.getElem?_eq_getElem hk), h.frozen _, h.frozen _, h.frozen _⟩
set_option maxRecDepth 100000 in
theorem aEj (A : Option Addr) (n c : Nat) (es : List Edt) (w : World) (hr : Rd w 3 A n (yD es)) (hm : n ≤ 1048576) :
 Calls Tryd.prog 21 #[.slice A n c] w fun e w' => ∃ v, e = .returned v ∧ w'.ownsRow w.heap.size 102 3 v n (yD es) ∧ Below w.heap.size w w' := by
 have hlen := hr.elen
 have Hlen := Lib.hid hlen; clear hlen
 obtain ⟨i0, hi, hz0, hz1, hz2⟩ := info_parts aGU
 have hmk := fun W => aAP (P := Tryd.prog) 37 102 i0 _ Tryd.underlying37 hi hz0 .i64 .i64 n n (Nat.le_refl _) (by rw [hz2]; omega) (by omega) W
 rw [hz1] at hmk
 have hm' : n ≤ 9223372036854775807 := by omega
 have Hi := Lib.hid hi; clear hi
 clear hz0 hz1 hz2 hm
 go_enter Tryd.func21, Tryd.ntmps21
 go_wp2
 have hblk0 : Blk (w.alloc (.cells (madeCells (Value.agg #[Value.string ByteArray.empty, Value.int IntKind.i64 0, Value.bool false]).cells (n * 3)) 102)) w.heap.size 102 (madeCells (Value.agg #[Value.string ByteArray.empty, Value.int IntKind.i64 0, Value.bool false]).cells (n * 3)) := Blk.new _ _ _
 have HB0 := Lib.hid hblk0; clear hblk0
 have hb0 : Below w.heap.size w (w.alloc (.cells (madeCells (Value.agg #[Value.string ByteArray.empty, Value.int IntKind.i64 0, Value.bool false]).cells (n * 3)) 102)) := (Below.refl _ _).alloc (Nat.le_refl _) _
 have HBel := Lib.hid hb0; clear hb0
 generalize hg0 : w.heap.size = g at *
 have Hg0 := Lib.hid hg0; clear hg0
 go_loopw [4] (fun i wr => ∃ (k : Nat) (cs : Array Value), k ≤ n ∧ i = .int .i64 k ∧ Blk wr g 102 cs ∧ cs.size = n * 3 ∧ cs.toList.take (k * 3) = yD (es.take k) ∧ Below g w wr) (fun i _ => n - (intOf i).toNat)
 case atStart => exact ⟨0, _, Nat.zero_le _, rfl, HB0.out, by simp [size_madeCells], by simp [yD], HBel.out⟩
 case round =>
  obtain ⟨k, cs, hk, rfl, hblk, hsz, htk, hb⟩ := hrel
  by_cases hlt : k < n
  · have hke : k < es.length := by rw [Hlen.out]; exact hlt
    obtain ⟨b, off, rfl, hbl, hbl2, hc1, hc2, hc3⟩ := hr.edt (by rw [Hg0.out]; exact hb) hke
    have hstep : Hid (yD (es.take (k + 1)) = yD (es.take k) ++ [.string es[k].key, .int .i64 es[k].val, .bool es[k].gone]) := by
     rw [List.take_succ_eq_append_getElem hke, aDe]; rfl
    have HT := Lib.hid htk; clear htk
    have HS := Lib.hid hsz; clear hsz
    have HB := Lib.hid hblk; clear hblk
    generalize es[k] = ek at *
    go_wp2_with fail
    refine (aGB _ _ _ _).mono ?_
    rintro e w1 ⟨rfl, hb1⟩
    have hgl : g < wr.heap.size := HB.out.lt
    have hblk1 : Blk w1 g 102 cs := HB.out.kept hb1
    obtain ⟨y0, y1, y2, hx0, hx1, hx2, hf0, hf1, hf2⟩ := hblk1.three (k := k) (by have := HS.out; omega)
    have HB1 := Lib.hid hblk1; clear hblk1
    go_wp2
    go_roundw
    case rel => exact ⟨k + 1, _, by omega, by go_num, ((HB1.out.set_ _ _).set_ _ _).set_ _ _, by simpa using HS.out, by rw [aHC _ _ _ _ _ (by have := HS.out; omega), HT.out, hstep.out], (((hb.trans (hb1.mono (by omega))).setCell (Nat.le_refl g) _).setCell (Nat.le_refl g) _).setCell (Nat.le_refl g) _⟩
    case measure => simp [intOf]; omega
  · have HT := Lib.hid htk; clear htk
    have HS := Lib.hid hsz; clear hsz
    have HB := Lib.hid hblk; clear hblk
    have hkn : k = n := by omega
    have HKN := Lib.hid hkn; clear hkn
    go_wp2
    go_ret
    exact ⟨_, rfl, HB.out.own (Nat.le_of_eq Hg0.out) (Nat.le_refl _) (by unfold maxLen; omega) HS.out (by have h := HT.out; rw [HKN.out, List.take_of_length_le (l := es) (by rw [Hlen.out]; exact Nat.le_refl _)] at h; exact h), by rw [Hg0.out]; exact hb⟩
def aJI : Nat → Int → ByteArray → ByteArray
 | 0, _, t => t
 | f + 1, j, t => if 0 < j then aJI f (j / 10) (strOfNums [48 + j % 10] ++ t) else t
def aKH (k : Int) : ByteArray := if 0 < k then ⟨#[109]⟩ ++ aJI k.toNat k ⟨#[]⟩ else ⟨#[109, 48]⟩
def marked : Nat → Int → List Ent
 | 0, _ => []
 | n + 1, k => (aKH k, k + 1) :: marked n (k + 2)
end Go.Proofs.YtodckioppgjbdaaDoor
namespace Go.Proofs.YtodckioppgjbdaaDoor.AM
open Go Go.RowKit
def yN (k : ByteArray) : AV := .v (.string k)
def aJU (x : Int) : AV := .v (.int .i64 x)
def zY (e : Ent) : AV := .agg [.v (.string e.1), .v (.int .i64 e.2)]
def zJ (e : Edt) : AV := .agg [.v (.string e.key), .v (.int .i64 e.val), .v (.bool e.gone)]
theorem xO {α : Type} {f : α → AV} (h : ∀ a, yB (f a)) : ∀ l : List α, yg (l.map f)
 | [] => by simp only [List.map_nil]; unfold yg; trivial
 | a :: l => by simp only [List.map_cons]; unfold yg; exact ⟨h a, xO h l⟩
theorem qG : ∀ ob ∈ ([] : List OB), kI ob := fun ob h => by cases h
theorem aCQ {t sz : Nat} {xs : List AV} (h : yg xs) : ∀ ob ∈ [(⟨.s t, sz, xs⟩ : OB)], kI ob := fun ob hm => by rw [List.mem_singleton] at hm; subst hm; exact h
theorem aEt {t sz t' sz' : Nat} {xs xs' : List AV} (h : yg xs) (h' : yg xs') : ∀ ob ∈ [(⟨.s t, sz, xs⟩ : OB), ⟨.s t', sz', xs'⟩], kI ob := fun ob hm => by
 rcases List.mem_cons.1 hm with rfl | hm
 · exact h
 · exact aCQ h' ob hm
theorem wR (e : Ent) : yB (zY e) := by unfold zY; simp [yB, yg]
theorem wQ (e : Edt) : yB (zJ e) := by unfold zJ; simp [yB, yg]
theorem wV (e : ByteArray) : yB (yN e) := by unfold yN; simp [yB]
section
variable {S : Nat → Prop} {w : World}
theorem qQ : ∀ {es : List Ent} {cs : List Value}, RL S w (es.map zY) cs ↔ cs = yF es
 | [], cs => by simp only [List.map_nil]; unfold RL; simp [yF]
 | e :: es, cs => by
  simp only [List.map_cons]
  constructor
  · intro h
    unfold RL at h
    obtain ⟨c1, c2, rfl, h1, h2⟩ := h
    rw [qQ.1 h2, vM]
    unfold zY at h1
    simp only [RA, RL] at h1
    obtain ⟨a, b, rfl, ⟨rfl, _⟩, d1, d2, rfl, ⟨rfl, _⟩, rfl⟩ := h1
    rfl
  · intro h
    unfold RL
    refine ⟨[.string e.1, .int .i64 e.2], yF es, by rw [h, vM]; rfl, ?_, qQ.2 rfl⟩
    exact aEH (yY (c1 := [_]) (vS rfl) (yY (c1 := [_]) (vS rfl) qR))
theorem qN : ∀ {es : List Edt} {cs : List Value}, RL S w (es.map zJ) cs ↔ cs = yD es
 | [], cs => by simp only [List.map_nil]; unfold RL; simp [yD]
 | e :: es, cs => by
  simp only [List.map_cons]
  constructor
  · intro h
    unfold RL at h
    obtain ⟨c1, c2, rfl, h1, h2⟩ := h
    rw [qN.1 h2, wF]
    unfold zJ at h1
    simp only [RA, RL] at h1
    obtain ⟨a, b, rfl, ⟨rfl, _⟩, d1, d2, rfl, ⟨rfl, _⟩, f1, f2, rfl, ⟨rfl, _⟩, rfl⟩ := h1
    rfl
  · intro h
    unfold RL
    refine ⟨[.string e.key, .int .i64 e.val, .bool e.gone], yD es, by rw [h, wF]; rfl, ?_, qN.2 rfl⟩
    exact aEH (yY (c1 := [_]) (vS rfl) (yY (c1 := [_]) (vS rfl) (yY (c1 := [_]) (vS rfl) qR)))
theorem aEq (es : List Ent) : ∀ x ∈ es.map zY, asz x = 2 := fun x hx => by obtain ⟨e, _, rfl⟩ := List.mem_map.1 hx; rfl
theorem aEp (es : List Edt) : ∀ x ∈ es.map zJ, asz x = 3 := fun x hx => by obtain ⟨e, _, rfl⟩ := List.mem_map.1 hx; rfl
theorem jH {S0 : Nat → Prop} {hp B V} (hS : ∀ b, S0 b → b < w.heap.size) {es : List Ent} {u : Value} (h : RV S0 w hp B V (.lst 2 (es.map zY)) u) : ∃ A c, u = .slice A es.length c ∧ es.length ≤ c ∧ c ≤ maxLen ∧ Rd w 2 A es.length (yF es) := by
 unfold RV at h
 unfold RA at h
 obtain ⟨A, c, e, h1, h2, _, _, h4⟩ := h
 simp only [List.cons.injEq, and_true, List.length_map] at e h1
 refine ⟨A, c, e, h1, h2, by rw [vD], fun hn => ?_⟩
 rcases h4 with h4 | ⟨b, off, us, rfl, hb, hr, hc⟩
 · have := List.map_eq_nil_iff.1 h4; subst this; simp at hn
 · rw [qQ.1 hr] at hc
   exact ⟨b, off, rfl, hS b hb, hc⟩
theorem jG {S0 : Nat → Prop} {hp B V} (hS : ∀ b, S0 b → b < w.heap.size) {es : List Edt} {u : Value} (h : RV S0 w hp B V (.lst 3 (es.map zJ)) u) : ∃ A c, u = .slice A es.length c ∧ es.length ≤ c ∧ c ≤ maxLen ∧ Rd w 3 A es.length (yD es) := by
 unfold RV at h
 unfold RA at h
 obtain ⟨A, c, e, h1, h2, _, _, h4⟩ := h
 simp only [List.cons.injEq, and_true, List.length_map] at e h1
 refine ⟨A, c, e, h1, h2, by rw [vC], fun hn => ?_⟩
 rcases h4 with h4 | ⟨b, off, us, rfl, hb, hr, hc⟩
 · have := List.map_eq_nil_iff.1 h4; subst this; simp at hn
 · rw [qN.1 hr] at hc
   exact ⟨b, off, rfl, hS b hb, hc⟩
theorem aHi {S0 : Nat → Prop} {hp B V} {x u : Value} (h : RV S0 w hp B V (.v x) u) : u = x := by unfold RV at h; exact h.1
theorem kZ {S0 : Nat → Prop} {hp B V} {x : AV} {us : List Value} (h : RVs S0 w hp B V [x] us) : ∃ u, us = [u] ∧ RV S0 w hp B V x u := by
 unfold RVs at h; obtain ⟨u, us', rfl, h1, h2⟩ := h; unfold RVs at h2; subst h2; exact ⟨u, rfl, h1⟩
theorem aJn {S0 : Nat → Prop} {hp B V} {x : AV} {xs : List AV} {us : List Value} (h : RVs S0 w hp B V (x :: xs) us) : ∃ u us', us = u :: us' ∧ RV S0 w hp B V x u ∧ RVs S0 w hp B V xs us' := by
 unfold RVs at h; exact h
end
section
variable {P : Program} {f : FuncId} {fn : Func} {args : List AV}
theorem uf (hf : P.funcs[f]? = some fn) (hnm : (fn.name == "runtime.NumGoroutine") = false) (hb : fn.body.isNone = false) : ∀ vs w, (callFunc f vs).run P w = .ok (.enter f vs) w := fun vs w => by
 simp only [callFunc, Sem.run_bind, run_program, Result.andThen_ok, hf, hnm, hb]; rfl
theorem aAI {S : Nat → Prop} {w : World} {hp hp' : Nat → Option OB} {B B' : Nat → Nat} {V V' : Nat → Value} {xs : List AV} {vs : List Value} (hn : ∀ l, hp l = none) (h : RVs S w hp B V xs vs) : RVs S w hp' B' V' xs vs :=
 RVs.carry (fun _ h => h) (fun _ _ => rfl) _ _ (fun l _ ob e => by rw [hn] at e; cases e) h
theorem wE {S : Nat → Prop} {w : World} {hp : Nat → Option OB} {B : Nat → Nat} {V : Nat → Value} {T : Nat → Nat → Prop} {lo : Nat → Prop} (hn : ∀ l, hp l = none) : Rows S w hp (fun _ => none) B V T lo :=
 ⟨fun l ob e => (by rw [hn] at e; cases e), fun l ob g e => (by rw [hn] at e; cases e), fun l ob g e => (by rw [hn] at e; cases e), fun l l' o1 o2 g e => (by rw [hn] at e; cases e), fun l es e => (by cases e)⟩
theorem aAs (l : Nat) : zT [] l = none := by simp [zT]
theorem aH6 {w : World} {b t sz n : Nat} {v : Value} {cs : List Value} (h : w.ownsRow b t sz v n cs) : w.ownsRow 0 t sz v n cs := by
 refine ⟨h.1, ?_⟩
 rcases h.2 with k | ⟨g, cap, cur, e, hb, r⟩
 · exact .inl k
 · exact .inr ⟨g, cap, cur, e, Nat.zero_le _, r⟩
theorem kM {r : Value} (hent : ∀ vs w, (callFunc f vs).run P w = .ok (.enter f vs) w) (h1 : r.oneCell' = true)
 (h : ∀ (w : World) (S0 : Nat → Prop) (vs : List Value), (∀ b, S0 b → b < w.heap.size) → RVs S0 w (fun _ => none) (fun _ => 0) (fun _ => undef) args vs → Calls P f vs.toArray w fun e w' => e = .returned r ∧ Below w.heap.size w w') : AC P f args ⟨.v r, []⟩ :=
 ⟨hent, fun w S0 B0 V0 T0 vs hS _ _ hv => (h w S0 vs hS (aAI (fun _ => rfl) hv)).mono fun e w' ⟨he, hb⟩ => ⟨r, S0, fun _ => 0, fun _ => undef, fun _ => Fa, fun _ => Fa, he, Grown.of hb _, fun _ h => h, fun b hb' => ⟨Nat.lt_of_lt_of_le (hS b hb') hb.size, .inl hb'⟩, by unfold RV; exact ⟨rfl, h1⟩, wE aAs, wE (fun _ => rfl), fun l l' ob ob' g e => (by rw [aAs] at e; cases e)⟩⟩
theorem aHc {S : Nat → Prop} {w' : World} {base : Nat} {t sz : Nat} {xs : List AV} {v : Value} {cs : List Value} {lo : Nat → Prop} (hlo : ∀ g, base ≤ g → lo g) (hS : ∀ b, S b → b < base) (ho : w'.ownsRow base t sz v xs.length cs) (ha : ∀ x ∈ xs, asz x = sz) (h0 : 0 < sz) (hr : RL S w' xs cs) : Rows S w' (zT [⟨.s t, sz, xs⟩]) (fun _ => none) (fun _ => (v.ownBlock).getD 0) (fun _ => v) (fun _ => Fa) lo := by
 have h0' : ∀ l ob, zT [(⟨.s t, sz, xs⟩ : OB)] l = some ob → l = 0 ∧ ob = ⟨.s t, sz, xs⟩ := fun l ob e => by
  cases l with
  | zero => simp [zT] at e; exact ⟨rfl, e.symm⟩
  | succ l => simp [zT] at e
 refine ⟨fun l ob e => ?_, fun l ob g e hb => ?_, fun l ob g e _ hb => hb.elim, fun l l' o1 o2 g e1 e2 _ _ => ?_, fun l es e => by cases e⟩
 · obtain ⟨rfl, rfl⟩ := h0' l ob e
   exact ⟨t, cs, ⟨fun t' e => by cases e; rfl, trivial⟩, hr, ha, h0, aH6 ho, fun g hg => by rw [hg]; rfl⟩
 · rcases hb with hb | hb
   · have := ho.lt g hb
     exact ⟨fun hs => by have := hS g hs; omega, this.2, hlo g this.1⟩
   · exact hb.elim
 · rw [(h0' l o1 e1).1, (h0' l' o2 e2).1]
theorem aGI {e : TypeId} {sz : Nat} {xs : List AV} {cs : List Value} (hent : ∀ vs w, (callFunc f vs).run P w = .ok (.enter f vs) w) (ha : ∀ x ∈ xs, asz x = sz) (h0 : 0 < sz) (hr : ∀ S w, RL S w xs cs)
 (h : ∀ (w : World) (S0 : Nat → Prop) (vs : List Value), (∀ b, S0 b → b < w.heap.size) → RVs S0 w (fun _ => none) (fun _ => 0) (fun _ => undef) args vs → Calls P f vs.toArray w fun en w' => ∃ v, en = .returned v ∧ w'.ownsRow w.heap.size e sz v xs.length cs ∧ Below w.heap.size w w') : AC P f args ⟨.own 0, [⟨.s e, sz, xs⟩]⟩ :=
 ⟨hent, fun w S0 B0 V0 T0 vs hS _ _ hv => (h w S0 vs hS (aAI (fun _ => rfl) hv)).mono fun en w' ⟨v, he, ho, hb⟩ =>
  ⟨v, S0, fun _ => (v.ownBlock).getD 0, fun _ => v, fun _ => Fa, fun _ => Fa, he, Grown.of hb _, fun _ h => h, fun b hb' => ⟨Nat.lt_of_lt_of_le (hS b hb') hb.size, .inl hb'⟩, by unfold RV; exact ⟨⟨_, rfl⟩, rfl⟩, aHc (fun g hg => .inl hg) hS ho ha h0 (hr _ _), wE (fun _ => rfl), fun l l' ob ob' g _ e => by cases e⟩⟩
end
theorem aJN : ∀ vs w, (callFunc 48 vs).run Tryd.prog w = .ok (.enter 48 vs) w := uf Tryd.func48 (by kernel_rfl) (by kernel_rfl)
theorem aJO : ∀ vs w, (callFunc 51 vs).run Tryd.prog w = .ok (.enter 51 vs) w := uf Tryd.func51 (by kernel_rfl) (by kernel_rfl)
theorem aJK : ∀ vs w, (callFunc 12 vs).run Tryd.prog w = .ok (.enter 12 vs) w := uf Tryd.func12 (by kernel_rfl) (by kernel_rfl)
theorem aJL : ∀ vs w, (callFunc 14 vs).run Tryd.prog w = .ok (.enter 14 vs) w := uf Tryd.func14 (by kernel_rfl) (by kernel_rfl)
theorem aJM : ∀ vs w, (callFunc 21 vs).run Tryd.prog w = .ok (.enter 21 vs) w := uf Tryd.func21 (by kernel_rfl) (by kernel_rfl)
theorem aHH {es : List Ent} (hm : es.length ≤ maxLen) (hk : ∀ e ∈ es, e.1.size ≤ maxLen) : AC Tryd.prog 48 [.lst 2 (es.map zY)] ⟨.v (.bool (yS es)), []⟩ :=
 kM aJN rfl fun w S0 vs hS hv => by
  obtain ⟨u, rfl, h1⟩ := kZ hv
  obtain ⟨A, c, rfl, _, _, hr⟩ := jH hS h1
  exact aG2 A es.length c es w hr hm hk
theorem aDX {es : List Ent} (hm : es.length ≤ maxLen) (hk : ∀ e ∈ es, e.1.size ≤ maxLen) : AC Tryd.prog 51 [.lst 2 (es.map zY)] ⟨.v (.bool (yS es)), []⟩ :=
 kM aJO rfl fun w S0 vs hS hv => by
  obtain ⟨u, rfl, h1⟩ := kZ hv
  obtain ⟨A, c, rfl, _, _, hr⟩ := jH hS h1
  exact aDJ A es.length c es w hr hm hk
theorem aE7 {es : List Ent} (hm : es.length ≤ 1048576) : AC Tryd.prog 12 [.lst 2 (es.map zY)] ⟨.own 0, [⟨89, 2, es.map zY⟩]⟩ :=
 aGI (cs := yF es) aJK (aEq _) (by omega) (fun S w => qQ.2 rfl) fun w S0 vs hS hv => by
  obtain ⟨u, rfl, h1⟩ := kZ hv
  obtain ⟨A, c, rfl, _, _, hr⟩ := jH hS h1
  rw [List.length_map]
  exact aET A _ c es w hr hm
theorem aEZ {es es' : List Ent} (hm : es.length ≤ maxLen) (hm' : es'.length ≤ maxLen) : AC Tryd.prog 14 [.lst 2 (es.map zY), .lst 2 (es'.map zY)] ⟨.v (.bool (decide (es = es'))), []⟩ :=
 kM aJL rfl fun w S0 vs hS hv => by
  obtain ⟨u, us, rfl, h1, hv⟩ := aJn hv
  obtain ⟨u', rfl, h2⟩ := kZ hv
  obtain ⟨A, c, rfl, _, _, hr⟩ := jH hS h1
  obtain ⟨A', c', rfl, _, _, hr'⟩ := jH hS h2
  exact aDh A _ c es A' _ c' es' w hr hr' hm hm'
theorem aFY {es : List Edt} (hm : es.length ≤ 1048576) : AC Tryd.prog 21 [.lst 3 (es.map zJ)] ⟨.own 0, [⟨102, 3, es.map zJ⟩]⟩ :=
 aGI (cs := yD es) aJM (aEp _) (by omega) (fun S w => qN.2 rfl) fun w S0 vs hS hv => by
  obtain ⟨u, rfl, h1⟩ := kZ hv
  obtain ⟨A, c, rfl, _, _, hr⟩ := jG hS h1
  rw [List.length_map]
  exact aEj A _ c es w hr hm
theorem aFV {es : List Edt} (hm : es.length ≤ maxLen) : AC Tryd.prog 23 [.lst 3 (es.map zJ), .lst 3 (es.map zJ)] ⟨.v (.bool true), []⟩ :=
 kM (uf Tryd.func23 (by kernel_rfl) (by kernel_rfl)) rfl fun w S0 vs hS hv => by
  obtain ⟨u, us, rfl, h1, hv⟩ := aJn hv
  obtain ⟨u', rfl, h2⟩ := kZ hv
  obtain ⟨A, c, rfl, _, _, hr⟩ := jG hS h1
  obtain ⟨A', c', rfl, _, _, hr'⟩ := jG hS h2
  exact aEd A _ c es A' _ c' es w hr hr' hm hm rfl
end Go.Proofs.YtodckioppgjbdaaDoor.AM
