/- Texts of the machine over data, folded. -/
import Derived.Test.YtoaifonjemlfcaaDoorRows
import Derived.WalkKit
import Derived.WalkLawsBesides
import Derived.WalkSpells
import Derived.Lib.Hide
import Derived.Deep.QuietTactic
import Derived.BigQuiet
import Derived.Deep.Draws
import Derived.Deep.Slices
import Derived.Deep.Fields
import Derived.Deep.AppendLies
import Derived.ChangeSame
import Derived.StillTailTactics
import Derived.Laws.BytesArg
import Derived.Deep.RegionHeld3
import Derived.Laws.CopyOwn
import Derived.Test.YtoaifonjemlfcaaDoorKa5
import Derived.ProofKit
import Derived.OpenShut
import Derived.ShutString
import Derived.Laws.StructEq
set_option linter.unusedVariables false
set_option maxRecDepth 100000
set_option linter.unusedSimpArgs false
namespace Go.Proofs.YtoaifonjemlfcaaDoor
open Go.RowKit
theorem x9 {a b : Bool} (h : a = b) : Ending.returned (.bool a) = .returned (.bool b) := by rw [h]
theorem aJv {k : IntKind} {a b : Int} (h : a = b) : Ending.returned (.int k a) = .returned (.int k b) := by rw [h]
theorem toList_inj {a b : ByteArray} (h : a.toList = b.toList) : a = b := by
 have e : a.data.toList = b.data.toList := by simpa [ByteArray.toList_eq] using h
 cases a; cases b; simp at e; simp [e]
theorem jX (a b : ByteArray) : (a.toList == b.toList) = decide (a = b) := by
 rw [Bool.eq_iff_iff]; simp
 exact ⟨toList_inj, fun h => by rw [h]⟩
theorem _root_.Go.RowKit.Below.drewN {B : Nat} {a w : World} (h : Below B a w) (n : Nat) : Below B a (w.drewN n) := ⟨h.os, h.tape, h.output, h.size, h.block⟩
theorem aBY {w wx w1 : World} (hb : Below w.heap.size w wx) (h1 : Below wx.heap.size wx w1) : Below w.heap.size w w1 := hb.trans (h1.mono hb.size)
theorem aJL {w wx w1 : World} {p : Prop} (hb : Below w.heap.size w wx ∧ p) (h1 : Below wx.heap.size wx w1) : Below w.heap.size w w1 := aBY hb.1 h1
theorem cellS {w wx : World} {b o : Nat} {u : Value} (hb : Below w.heap.size w wx) (hl : b < w.heap.size) (h : w.cell? ⟨b, o, none⟩ = some u) : wx.cell? ⟨b, o, none⟩ = some u := (hb.cell (p := ⟨b, o, none⟩) hl).trans h
theorem cellW {w wx : World} {b o : Nat} {u : Value} (hb : Below w.heap.size w wx) (hl : b < w.heap.size) (h : wx.cell? ⟨b, o, none⟩ = some u) : w.cell? ⟨b, o, none⟩ = some u := (hb.cell (p := ⟨b, o, none⟩) hl).symm.trans h
structure Aft (w : World) where
 at_ : World
 below : Below w.heap.size w at_
instance Aft.some_ (w : World) : Nonempty (Aft w) := ⟨⟨w, Below.refl _ _⟩⟩
theorem vS {P : Program} {id : Nat} {Q : Exit → Act → World → Prop} {a : Act} {w : World} {l : List Oper} (hm : P.follows .mixedOrders = true) (hB : Region.lexB .any l.toArray = true)
 (h : wpQuiet P l.toArray (fun w' => ∃ y : Aft w, w' = y.at_) (fun a' => ∀ w', (∃ y : Aft w, w' = y.at_) → Q .normal a' w') l a) : (Code.region id l.toArray true).wp P Q a w :=
 wp_region_quiet (C := fun w' => ∃ y : Aft w, w' = y.at_) hm hB ⟨⟨_, (Below.refl w.heap.size w).drew⟩, rfl⟩ (by simpa using h)
theorem Aft.cell {w : World} {b o : Nat} {u : Value} (hl : b < w.heap.size) (h : w.cell? ⟨b, o, none⟩ = some u) (y : Aft w) : y.at_.cell? ⟨b, o, none⟩ = some u := cellS y.below hl h
theorem Aft.call {P : Program} {f : FuncId} {args : Array Value} {w : World} {y : Aft w} {v : Value} (h : Calls P f args y.at_ fun e w' => e = .returned v ∧ Below y.at_.heap.size y.at_ w') :
 Calls P f args y.at_ fun e w'' => e = .returned v ∧ ∃ y' : Aft w, w'' = y'.at_ :=
 h.mono fun _ _ ⟨he, hb⟩ => ⟨he, ⟨_, aBY y.below hb⟩, rfl⟩
theorem Aft.same {P : Program} {f : FuncId} {args : Array Value} {w : World} {y : Aft w} {v : Value} (h : Calls P f args y.at_ fun e w' => e = .returned v ∧ y.at_ = w') :
 Calls P f args y.at_ fun e w'' => e = .returned v ∧ ∃ y' : Aft w, w'' = y'.at_ :=
 h.mono fun _ _ ⟨he, hb⟩ => ⟨he, y, hb.symm⟩
def Rd (w : World) (sz : Nat) (A : Option Addr) (n : Nat) (xs : List Value) : Prop :=
 xs.length = n * sz ∧ (0 < n → ∃ b off, A = some ⟨b, off, none⟩ ∧ b < w.heap.size ∧ ∀ j u, xs[j]? = some u → w.cell? ⟨b, off + j, none⟩ = some u)
section
variable {w w' : World} {sz n : Nat} {A : Option Addr} {xs : List Value}
theorem Rd.nil : Rd w sz A 0 [] := ⟨by simp, fun h => absurd h (by omega)⟩
theorem Rd.below {B : Nat} (h : Rd w sz A n xs) (hb : Below B w w') (hB : w.heap.size ≤ B) : Rd w' sz A n xs :=
 ⟨h.1, fun hn => by
  obtain ⟨b, off, e, hlt, hc⟩ := h.2 hn
  exact ⟨b, off, e, Nat.lt_of_lt_of_le hlt hb.size, fun j u hu => (hb.cell (p := ⟨b, off + j, none⟩) (by show b < B; omega)).trans (hc j u hu)⟩⟩
theorem Rd.alloc (h : Rd w sz A n xs) (o : Obj) : Rd (w.alloc o) sz A n xs := h.below ((Below.refl _ _).alloc (Nat.le_refl _) o) (Nat.le_refl _)
theorem Rd.drew (h : Rd w sz A n xs) : Rd w.drew sz A n xs := h
theorem Rd.drewN (h : Rd w sz A n xs) (k : Nat) : Rd (w.drewN k) sz A n xs := h
end
theorem aF6 {P : Program} (src dst e : TypeId) (hs : P.underlying src = some (.slice e)) (he : P.underlying e = some (.int .u8)) (hd : P.underlying dst = some .string) (w : World) (x : Int) :
 (convert src dst (.slice (some ⟨w.heap.size, 0, none⟩) 1 1)).run P (w.alloc (.cells #[.int .u8 x] e)) = .ok (.string (strOfNums [x])) (w.alloc (.cells #[.int .u8 x] e)) :=
 run_convert_bytes_arg (P := P) (w.alloc (.cells #[.int .u8 x] e)) src e hs he w.heap.size 0 1 1 [x] rfl (fun i hi => by
  have : i = 0 := by omega
  subst this
  rw [cell_of_row _ w.heap.size (0 + 0) #[.int .u8 x] e (0, 0) (heap_alloc_new w _)]; rfl) dst hd
def Blk (w : World) (g : Nat) (t : TypeId) (cs : Array Value) : Prop := w.heap[g]? = some (.cells cs t (0, 0))
section
variable {w w' : World} {g : Nat} {t : TypeId} {cs : Array Value}
theorem Blk.lt (h : Blk w g t cs) : g < w.heap.size := by
 rcases Nat.lt_or_ge g w.heap.size with hlt | hge
 · exact hlt
 · unfold Blk at h; rw [Array.getElem?_eq_none hge] at h; cases h
theorem Blk.cell (h : Blk w g t cs) (i : Nat) : w.cell? ⟨g, i, none⟩ = cs[i]? := cell_of_row w g i cs t (0, 0) h
theorem Blk.frozen (h : Blk w g t cs) (i : Nat) : w.frozen? ⟨g, i, none⟩ = false := frozen_of_row w g i cs t h
theorem Blk.new (w : World) (t : TypeId) (cs : Array Value) : Blk (w.alloc (.cells cs t)) w.heap.size t cs := heap_alloc_new w _
theorem Blk.drew (h : Blk w g t cs) : Blk w.drew g t cs := h
theorem Blk.drewN (h : Blk w g t cs) (n : Nat) : Blk (w.drewN n) g t cs := h
theorem Blk.alloc (h : Blk w g t cs) (o : Obj) : Blk (w.alloc o) g t cs := (Below.heap_alloc w o g h.lt).trans h
theorem Blk.far (h : Blk w g t cs) {p : Addr} (hp : g ≠ p.block) (u : Value) : Blk (w.setCell p u) g t cs := (Below.heap_setCell w p u g hp).trans h
theorem Blk.below {B : Nat} (h : Blk w g t cs) (hb : Below B w w') (hg : g < B) : Blk w' g t cs := (hb.block g hg).trans h
theorem Blk.own (h : Blk w g t cs) {base sz n cap : Nat} {xs : List Value} (hb : base ≤ g) (hc : n ≤ cap) (hm : cap ≤ maxLen) (hs : cs.size = cap * sz) (ht : cs.toList.take (n * sz) = xs) : w.ownsRow base t sz (.slice (some ⟨g, 0, none⟩) n cap) n xs :=
 ⟨by rw [← ht, List.length_take, Array.length_toList, hs, Nat.min_eq_left (Nat.mul_le_mul_right _ hc)], .inr ⟨g, cap, cs, rfl, hb, h, hc, hm, hs, ht⟩⟩
end
abbrev Ent := ByteArray × Int
def aLR (e : Ent) : List Value := [.string e.1, .int .i64 e.2]
def zP (es : List Ent) : List Value := es.flatMap aLR
theorem wD (e : Ent) (es : List Ent) : zP (e :: es) = .string e.1 :: .int .i64 e.2 :: zP es := rfl
theorem jm (es : List Ent) : (zP es).length = es.length * 2 := by
 induction es with
 | nil => rfl
 | cons e r ih => rw [wD, List.length_cons, List.length_cons, ih, List.length_cons]; omega
theorem aCa (es : List Ent) (k : Nat) : (zP es).drop (k * 2) = zP (es.drop k) := by
 induction es generalizing k with
 | nil => simp [zP]
 | cons e r ih =>
  match k with
  | 0 => simp
  | k + 1 => rw [show (k + 1) * 2 = k * 2 + 1 + 1 from by omega, wD, List.drop_succ_cons, List.drop_succ_cons, ih, List.drop_succ_cons]
theorem aH9 (es : List Ent) (k : Nat) (h : k < es.length) : (zP es)[k * 2]? = some (.string es[k].1) := by
 have := aCa es k
 rw [List.drop_eq_getElem_cons h, wD] at this
 have h2 : ((zP es).drop (k * 2))[0]? = some (.string es[k].1) := by rw [this]; rfl
 rwa [List.getElem?_drop, Nat.add_zero] at h2
theorem aHa (es : List Ent) (k : Nat) (h : k < es.length) : (zP es)[k * 2 + 1]? = some (.int .i64 es[k].2) := by
 have := aCa es k
 rw [List.drop_eq_getElem_cons h, wD] at this
 have h2 : ((zP es).drop (k * 2))[1]? = some (.int .i64 es[k].2) := by rw [this]; rfl
 rwa [List.getElem?_drop] at h2
theorem Rd.ent {w wr : World} {A : Option Addr} {n : Nat} {es : List Ent} (h : Rd w 2 A n (zP es)) (hb : Below w.heap.size w wr) {k : Nat} (hk : k < es.length) :
 ∃ b off, A = some ⟨b, off, none⟩ ∧ b < w.heap.size ∧ b < wr.heap.size ∧ wr.cell? ⟨b, off + k * 2, none⟩ = some (.string es[k].1) ∧ wr.cell? ⟨b, off + k * 2 + 1, none⟩ = some (.int .i64 es[k].2) := by
 have hl := jm es
 obtain ⟨b, off, e, hlt, hc⟩ := h.2 (by have := h.1; omega)
 refine ⟨b, off, e, hlt, Nat.lt_of_lt_of_le hlt hb.size, ?_, ?_⟩
 · exact (hb.cell (p := ⟨b, off + k * 2, none⟩) hlt).trans (hc _ _ (aH9 es k hk))
 · exact (hb.cell (p := ⟨b, off + k * 2 + 1, none⟩) hlt).trans (hc _ _ (aHa es k hk))
theorem Rd.len {w : World} {A : Option Addr} {n : Nat} {es : List Ent} (h : Rd w 2 A n (zP es)) : es.length = n := by
 have h1 := jm es; have h2 := h.1; omega
structure Edt where
 key : ByteArray
 val : Int
 gone : Bool
def aLQ (e : Edt) : List Value := [.string e.key, .int .i64 e.val, .bool e.gone]
def aJJ (es : List Edt) : List Value := es.flatMap aLQ
namespace Nm
def letter (c : Int) : Bool := (decide (97 ≤ c) && decide (c ≤ 122)) || (decide (65 ≤ c) && decide (c ≤ 90)) || decide (c = 95)
def digit (c : Int) : Bool := decide (48 ≤ c) && decide (c ≤ 57)
def lettersFrom (l : List UInt8) : Bool := l.all fun c => letter c.toNat || digit c.toNat
def nameOK (l : List UInt8) : Bool :=
 match l with
 | [] => false
 | c :: r => decide (r.length < 12) && letter c.toNat && lettersFrom r
theorem aIe (c : Int) (h : letter c = true) : digit c = false := by
 simp [letter, digit] at *; omega
end Nm
theorem jw (c : Int) (w : World) :
 Calls Tryd.prog 92 #[.int .u8 c] w fun e w' => e = .returned (.bool (Nm.letter c)) ∧ w = w' := by
 go_enter Tryd.func92, Tryd.ntmps92
 go_wp2
 all_goals (go_ret; exact ⟨x9 (by rw [Bool.eq_iff_iff]; simp [Nm.letter]; try omega), rfl⟩)
theorem qb (c : Int) (w : World) :
 Calls Tryd.prog 91 #[.int .u8 c] w fun e w' => e = .returned (.bool (Nm.digit c)) ∧ w = w' := by
 go_enter Tryd.func91, Tryd.ntmps91
 go_wp2
 all_goals (go_ret; exact ⟨x9 (by rw [Bool.eq_iff_iff]; simp [Nm.digit]; try omega), rfl⟩)
theorem jO (c : Int) (w : World) :
 Calls Tryd.prog 77 #[.int .u8 c] w fun e w' => e = .returned (.bool (Nm.letter c)) ∧ w = w' := by
 go_enter Tryd.func77, Tryd.ntmps77
 go_wp2
 all_goals (go_ret; exact ⟨x9 (by rw [Bool.eq_iff_iff]; simp [Nm.letter]; try omega), rfl⟩)
theorem aFD (c : Int) (w : World) :
 Calls Tryd.prog 78 #[.int .u8 c] w fun e w' => e = .returned (.bool (Nm.digit c)) ∧ w = w' := by
 go_enter Tryd.func78, Tryd.ntmps78
 go_wp2
 all_goals (go_ret; exact ⟨x9 (by rw [Bool.eq_iff_iff]; simp [Nm.digit]; try omega), rfl⟩)
namespace Nm
def okc (c : UInt8) : Bool := letter c.toNat || digit c.toNat
theorem lettersFrom_take (l : List UInt8) (k : Nat) (h : k < l.length) : lettersFrom (l.take (k + 1)) = (lettersFrom (l.take k) && okc l[k]) := by
 unfold lettersFrom okc; rw [List.take_succ_eq_append_getElem h, List.all_append]; simp
theorem lettersFrom_bad (l : List UInt8) (k : Nat) (h : k < l.length) (hb : okc l[k] = false) : lettersFrom l = false := by
 rw [lettersFrom, List.all_eq_false]
 exact ⟨l[k], List.getElem_mem h, by simp only [okc] at hb; simp [hb]⟩
theorem nameOK_eq (l : List UInt8) (h0 : 0 < l.length) (h1 : l.length ≤ 12) : nameOK l = (letter l[0].toNat && lettersFrom l) := by
 match l, h0 with
 | c :: r, _ =>
  have : r.length < 12 := by simp at h1; omega
  simp [nameOK, this, lettersFrom]
  cases letter c.toNat <;> simp
theorem aLD : nameOK [] = false := rfl
theorem nameOK_long (l : List UInt8) (h : 12 < l.length) : nameOK l = false := by
 match l with
 | c :: r =>
  have : ¬ r.length < 12 := by simp at h; omega
  simp [nameOK, this]
theorem aBz (c : Int) (h : digit c = true) : letter c = false := by
 simp [letter, digit] at *; omega
theorem nameOK_digit (l : List UInt8) (h0 : 0 < l.length) (hd : digit l[0].toNat = true) : nameOK l = false := by
 match l, h0 with
 | c :: r, _ =>
  have hd' : letter c.toNat = false := aBz _ hd
  simp [nameOK, hd']
theorem nameOK_letters (l : List UInt8) (h0 : 0 < l.length) (h1 : l.length ≤ 12) (hd : digit l[0].toNat = false) : nameOK l = lettersFrom l := by
 rw [nameOK_eq l h0 h1]
 cases h : letter l[0].toNat with
 | true => rfl
 | false => exact (lettersFrom_bad l 0 h0 (by simp [okc, h, hd])).symm
end Nm
set_option maxHeartbeats 400000 in
theorem aCq (s : ByteArray) (w : World) (hs : s.size ≤ maxLen) :
 Calls Tryd.prog 85 #[.string s] w fun e w' => e = .returned (.bool (Nm.nameOK s.data.toList)) ∧ w = w' := by
 unfold maxLen at hs
 have hl : s.data.toList.length = s.size := by simp
 by_cases h0 : s.size = 0
 · have : s = ByteArray.empty := by simpa using h0
   subst this
   go_enter Tryd.func85, Tryd.ntmps85
   go_wp2
   go_ret
   exact ⟨rfl, rfl⟩
 by_cases h1 : 12 < s.size
 · go_enter Tryd.func85, Tryd.ntmps85
   go_wp2
   go_ret
   exact ⟨x9 (Nm.nameOK_long _ (by omega)).symm, rfl⟩
 have e0 : ((s.size : Int) == 0) = false := beq_eq_false_iff_ne.2 (by omega)
 have e1 : decide ((12 : Int) < s.size) = false := decide_eq_false (by omega)
 have p0 : 0 < s.size := by omega
 cases hd : Nm.digit s[0].toNat with
 | true =>
  have hfin : Nm.nameOK s.data.toList = false := Nm.nameOK_digit _ (by rw [hl]; exact p0) hd
  have Hf := Lib.hid hfin; clear hfin
  go_enter Tryd.func85, Tryd.ntmps85
  go_wp2_with (first | (go_at_call 91; refine (qb _ _).mono ?_; rintro e w' ⟨rfl, rfl⟩) | (go_at_call 92; refine (jw _ _).mono ?_; rintro e w' ⟨rfl, rfl⟩))
  go_ret
  exact ⟨x9 Hf.out.symm, rfl⟩
 | false =>
  have hfin : Nm.nameOK s.data.toList = Nm.lettersFrom s.data.toList := Nm.nameOK_letters _ (by rw [hl]; exact p0) (by omega) hd
  have Hf := Lib.hid hfin; clear hfin
  have h1' : s.size ≤ 12 := by omega
  clear h1
  go_enter Tryd.func85, Tryd.ntmps85
  go_wp2_with (first | (go_at_call 91; refine (qb _ _).mono ?_; rintro e w' ⟨rfl, rfl⟩) | (go_at_call 92; refine (jw _ _).mono ?_; rintro e w' ⟨rfl, rfl⟩))
  go_loop [3] (fun i => ∃ k : Nat, k ≤ s.size ∧ i = .int .i64 k ∧ Nm.lettersFrom (s.data.toList.take k) = true) (fun i => s.size - (intOf i).toNat)
  case atStart => exact ⟨0, Nat.zero_le _, rfl, rfl⟩
  case round =>
   obtain ⟨k, hk, rfl, hr⟩ := hrel
   have Hr := Lib.hid hr; clear hr
   by_cases hlt : k < s.size
   · have hst : Hid (Nm.lettersFrom (s.data.toList.take (k + 1)) = (Nm.lettersFrom (s.data.toList.take k) && Nm.okc s[k])) := Nm.lettersFrom_take _ k (by omega)
     have hbad : Hid (Nm.okc s[k] = false → Nm.lettersFrom s.data.toList = false) := fun h => Nm.lettersFrom_bad _ k (by omega) h
     have hok : Nm.okc s[k] = (Nm.letter s[k].toNat || Nm.digit s[k].toNat) := rfl
     have Hok := Lib.hid hok; clear hok
     go_wp2_with (first | (go_at_call 91; refine (qb _ _).mono ?_; rintro e w' ⟨rfl, rfl⟩) | (go_at_call 92; refine (jw _ _).mono ?_; rintro e w' ⟨rfl, rfl⟩))
     · go_round
       case rel => exact ⟨k + 1, by omega, by go_num, by rw [hst.out, Hr.out, Hok.out]; simp [*]⟩
       case measure => simp [intOf]; omega
     · go_ret
       exact ⟨x9 (by rw [Hf.out, hbad.out]; rw [Hok.out]; simp_all), rfl⟩
     · go_round
       case rel => exact ⟨k + 1, by omega, by go_num, by rw [hst.out, Hr.out, Hok.out]; simp_all⟩
       case measure => simp [intOf]; omega
   · go_wp2
     go_ret
     exact ⟨x9 (by rw [Hf.out]; have := Hr.out; rw [List.take_of_length_le (by omega)] at this; exact this.symm), rfl⟩
set_option maxHeartbeats 400000 in
theorem aBn (s : ByteArray) (w : World) (hs : s.size ≤ maxLen) :
 Calls Tryd.prog 66 #[.string s] w fun e w' => e = .returned (.bool (Nm.nameOK s.data.toList)) ∧ w = w' := by
 unfold maxLen at hs
 have hl : s.data.toList.length = s.size := by simp
 by_cases h0 : s.size = 0
 · have : s = ByteArray.empty := by simpa using h0
   subst this
   go_enter Tryd.func66, Tryd.ntmps66
   go_wp2
   go_ret
   exact ⟨rfl, rfl⟩
 have e2 : decide ((s.size : Int) < 1) = false := decide_eq_false (by omega)
 by_cases h1 : 12 < s.size
 · go_enter Tryd.func66, Tryd.ntmps66
   go_wp2
   go_ret
   exact ⟨x9 (Nm.nameOK_long _ (by omega)).symm, rfl⟩
 have e1 : decide ((12 : Int) < s.size) = false := decide_eq_false (by omega)
 have p0 : 0 < s.size := by omega
 cases hd : Nm.letter s[0].toNat with
 | false =>
  have hfin : Nm.nameOK s.data.toList = false := by
   rw [Nm.nameOK_eq _ (by rw [hl]; exact p0) (by omega)]
   have : Nm.letter s.data.toList[0].toNat = false := hd
   rw [this]; rfl
  have Hf := Lib.hid hfin; clear hfin
  go_enter Tryd.func66, Tryd.ntmps66
  go_wp2_with (go_at_call 77; refine (jO _ _).mono ?_; rintro e w' ⟨rfl, rfl⟩)
  go_ret
  exact ⟨x9 Hf.out.symm, rfl⟩
 | true =>
  have hfin : Nm.nameOK s.data.toList = Nm.lettersFrom s.data.toList := by
   rw [Nm.nameOK_eq _ (by rw [hl]; exact p0) (by omega)]
   have : Nm.letter s.data.toList[0].toNat = true := hd
   rw [this]; rfl
  have Hf := Lib.hid hfin; clear hfin
  have hst1 : Hid (Nm.lettersFrom (s.data.toList.take 1) = true) := by
   have e : Nm.lettersFrom (s.data.toList.take (0 + 1)) = (Nm.lettersFrom (s.data.toList.take 0) && Nm.okc s[0]) := Nm.lettersFrom_take _ 0 (by rw [hl]; exact p0)
   show Nm.lettersFrom (s.data.toList.take (0 + 1)) = true
   rw [e, Nm.okc, hd]; rfl
  have h1' : s.size ≤ 12 := by omega
  clear h1
  go_enter Tryd.func66, Tryd.ntmps66
  go_wp2_with (go_at_call 77; refine (jO _ _).mono ?_; rintro e w' ⟨rfl, rfl⟩)
  go_loop [3] (fun i => ∃ k : Nat, 1 ≤ k ∧ k ≤ s.size ∧ i = .int .i64 k ∧ Nm.lettersFrom (s.data.toList.take k) = true) (fun i => s.size - (intOf i).toNat)
  case atStart => exact ⟨1, Nat.le_refl _, p0, rfl, hst1.out⟩
  case round =>
   obtain ⟨k, hk0, hk, rfl, hr⟩ := hrel
   have Hr := Lib.hid hr; clear hr
   by_cases hlt : k < s.size
   · have hst : Hid (Nm.lettersFrom (s.data.toList.take (k + 1)) = (Nm.lettersFrom (s.data.toList.take k) && Nm.okc s[k])) := Nm.lettersFrom_take _ k (by omega)
     have hbad : Hid (Nm.okc s[k] = false → Nm.lettersFrom s.data.toList = false) := fun h => Nm.lettersFrom_bad _ k (by omega) h
     have hok : Nm.okc s[k] = (Nm.letter s[k].toNat || Nm.digit s[k].toNat) := rfl
     have Hok := Lib.hid hok; clear hok
     go_wp2_with (first | (go_at_call 77; refine (jO _ _).mono ?_; rintro e w' ⟨rfl, rfl⟩) | (go_at_call 78; refine (aFD _ _).mono ?_; rintro e w' ⟨rfl, rfl⟩))
     · go_round
       case rel => exact ⟨k + 1, by omega, by omega, by go_num, by rw [hst.out, Hr.out, Hok.out]; simp [*]⟩
       case measure => simp [intOf]; omega
     · go_ret
       exact ⟨x9 (by rw [Hf.out, hbad.out]; rw [Hok.out]; simp_all), rfl⟩
     · go_round
       case rel => exact ⟨k + 1, by omega, by omega, by go_num, by rw [hst.out, Hr.out, Hok.out]; simp_all⟩
       case measure => simp [intOf]; omega
   · go_wp2
     go_ret
     exact ⟨x9 (by rw [Hf.out]; have := Hr.out; rw [List.take_of_length_le (by omega)] at this; exact this.symm), rfl⟩
end Go.Proofs.YtoaifonjemlfcaaDoor
namespace Go.Proofs.YtoaifonjemlfcaaDoor
theorem aAq : ∀ (x y : List UInt8), Op.bytesLess x y = decide (x < y)
 | [], [] => by simp [Op.bytesLess]
 | [], _ :: _ => by simp [Op.bytesLess]
 | _ :: _, [] => by simp [Op.bytesLess]
 | a :: xs, b :: ys => by
  rw [Op.bytesLess, aAq xs ys, Bool.eq_iff_iff]
  simp [List.cons_lt_cons_iff]
def klt (a b : ByteArray) : Bool := Op.bytesLess a.toList b.toList
theorem j5 (a b : ByteArray) : klt a b = true ↔ a.toList < b.toList := by simp [klt, aAq]
theorem aCj (a : ByteArray) : klt a a = false := by
 cases h : klt a a with
 | false => rfl
 | true => exact absurd ((j5 _ _).1 h) (List.lt_irrefl _)
theorem aEB {a b c : ByteArray} (h : klt a b = true) (k : klt b c = true) : klt a c = true :=
 (j5 _ _).2 (List.lt_trans ((j5 _ _).1 h) ((j5 _ _).1 k))
theorem aHh {a b : ByteArray} (h : klt a b = true) : klt b a = false := by
 cases k : klt b a with
 | false => rfl
 | true => have := aEB h k; rw [aCj] at this; cases this
theorem aGI {a b : ByteArray} (h : klt a b = false) (k : a ≠ b) : klt b a = true := by
 rw [j5]
 have h' : ¬ a.toList < b.toList := fun x => by rw [(j5 _ _).2 x] at h; cases h
 rcases List.le_iff_lt_or_eq.1 (List.not_lt.1 h') with h2 | h2
 · exact h2
 · exact absurd (toList_inj h2.symm) k
theorem aK8 (a b : ByteArray) : (Op.bytesLess a.toList b.toList || a.toList == b.toList) = !klt b a := by
 have e : Op.bytesLess a.toList b.toList = klt a b := rfl
 rw [e, jX]
 by_cases h : a = b
 · subst h; simp [aCj]
 · cases k : klt a b with
   | true => simp [aHh k]
   | false => simp [aGI k h, h]
def nm (k : ByteArray) : Bool := Nm.nameOK k.data.toList
def aHL (x : Int) : Bool := decide (-1000000 ≤ x) && decide (x ≤ 1000000)
def kAt (es : List Ent) (i : Nat) : ByteArray := (es.getD i (ByteArray.empty, 0)).1
def zU (es : List Ent) (i : Nat) : Bool := nm (kAt es i) && (decide (i = 0) || klt (kAt es (i - 1)) (kAt es i))
def zl (es : List Ent) (i : Nat) : Bool := aHL (es.getD i (ByteArray.empty, 0)).2
def qD (es : List Ent) : Bool := (List.range es.length).all (zU es)
def aDb (es : List Ent) : Bool := (List.range es.length).all (zl es)
def yX (es : List Ent) : Bool := decide (es.length ≤ 12) && (qD es && aDb es)
theorem aBA (es : List Ent) (i : Nat) (h : i < es.length) : kAt es i = es[i].1 := by simp [kAt, h]
theorem aGP {es : List Ent} (h : ∀ i, i < es.length → zU es i = true) : qD es = true := by
 rw [qD, List.all_eq_true]; intro i hi; exact h i (List.mem_range.1 hi)
theorem aKE {es : List Ent} (h : ∀ i, i < es.length → zl es i = true) : aDb es = true := by
 rw [aDb, List.all_eq_true]; intro i hi; exact h i (List.mem_range.1 hi)
theorem aCI {es : List Ent} {i : Nat} (hi : i < es.length) (h : zU es i = false) : qD es = false := by
 rw [qD, List.all_eq_false]; exact ⟨i, List.mem_range.2 hi, by rw [h]; simp⟩
theorem aJA {es : List Ent} {i : Nat} (hi : i < es.length) (h : zl es i = false) : aDb es = false := by
 rw [aDb, List.all_eq_false]; exact ⟨i, List.mem_range.2 hi, by rw [h]; simp⟩
theorem aGO {es : List Ent} (h : qD es = true) {i : Nat} (hi : i < es.length) : zU es i = true := List.all_eq_true.1 h i (List.mem_range.2 hi)
theorem aKD {es : List Ent} (h : aDb es = true) {i : Nat} (hi : i < es.length) : zl es i = true := List.all_eq_true.1 h i (List.mem_range.2 hi)
theorem aFH {es : List Ent} (h0 : es.length ≤ 12) (h : ∀ i, i < es.length → zU es i = true ∧ zl es i = true) : yX es = true := by
 rw [yX, aGP fun i hi => (h i hi).1, aKE fun i hi => (h i hi).2, decide_eq_true h0]; rfl
theorem aBp {es : List Ent} {i : Nat} (hi : i < es.length) (h : zU es i = false) : yX es = false := by
 rw [yX, aCI hi h]; simp
theorem aBq {es : List Ent} {i : Nat} (hi : i < es.length) (h : zl es i = false) : yX es = false := by
 rw [yX, aJA hi h]; simp
theorem aCp {es : List Ent} (h : 12 < es.length) : yX es = false := by
 rw [yX, decide_eq_false (by omega)]; rfl
theorem aEE {es : List Ent} {k : Nat} (h : 0 < k) (hk : k < es.length) (hn : nm (kAt es k) = true) : zU es k = klt (es[k - 1]'(by omega)).1 es[k].1 := by
 rw [zU, hn, decide_eq_false (by omega), aBA es k hk, aBA es (k - 1) (by omega)]; simp
theorem aCv {es : List Ent} (hn : nm (kAt es 0) = true) : zU es 0 = true := by rw [zU, hn]; rfl
def Srt (es : List Ent) : Prop := es.Pairwise fun a b => klt a.1 b.1 = true
def aET (es : List Ent) (k : ByteArray) (p : Nat) : Prop := p ≤ es.length ∧ (∀ j, (hj : j < es.length) → j < p → klt es[j].1 k = true) ∧ ((hp : p < es.length) → klt es[p].1 k = false)
theorem aET.take {es : List Ent} {k : ByteArray} {p : Nat} (h : aET es k p) : es.takeWhile (fun e => klt e.1 k) = es.take p ∧ es.dropWhile (fun e => klt e.1 k) = es.drop p := by
 induction es generalizing p with
 | nil => obtain ⟨h1, _⟩ := h; simp
 | cons e r ih =>
  obtain ⟨h1, h2, h3⟩ := h
  match p, h1, h2, h3 with
  | 0, _, _, h3 => have := h3 (by simp); simp at this; simp [this]
  | p + 1, h1, h2, h3 =>
   have he := h2 0 (by simp) (by omega)
   simp at he
   have := ih (p := p) ⟨by simpa using h1, fun j hj hjp => by have := h2 (j + 1) (by simp; omega) (by omega); simpa using this, fun hp => by have := h3 (by simp; omega); simpa using this⟩
   simp [he, this]
theorem aET.after {es : List Ent} {k : ByteArray} {p : Nat} (h : aET es k p) (hs : Srt es) (j : Nat) (hj : j < es.length) (hpj : p < j) : klt k es[j].1 = true := by
 have h1 : klt es[p].1 es[j].1 = true := (List.pairwise_iff_getElem.1 hs) p j (by omega) hj hpj
 by_cases he : es[p].1 = k
 · rw [← he]; exact h1
 · exact aEB (aGI (h.2.2 (by omega)) he) h1
open Go.RowKit
theorem Rd.piece {w : World} {sz n : Nat} {A : Option Addr} {xs : List Value} (h : Rd w sz A n xs) {i m : Nat} (hm : i + m ≤ n) (hpos : 0 < ((xs.drop (i * sz)).take (m * sz)).length) :
 ∃ b off, A = some ⟨b, off, none⟩ ∧ ∀ j v, ((xs.drop (i * sz)).take (m * sz))[j]? = some v → w.cell? ((⟨b, off + i * sz, none⟩ : Addr).add j) = some v := by
 have hn : 0 < n := by
  rcases Nat.eq_zero_or_pos n with h0 | h0
  · subst h0
    have : m = 0 := by omega
    subst this
    simp at hpos
  · exact h0
 obtain ⟨b, off, rfl, _, hc⟩ := h.2 hn
 refine ⟨b, off, rfl, fun j v hj => ?_⟩
 have hadd : (⟨b, off + i * sz, none⟩ : Addr).add j = ⟨b, off + (i * sz + j), none⟩ := by unfold Addr.add; split <;> simp_all [Nat.add_assoc]
 rw [hadd]
 refine hc _ _ ?_
 rw [List.getElem?_take] at hj
 split at hj
 · rw [List.getElem?_drop] at hj; exact hj
 · cases hj
theorem Rd.cut {w : World} {sz n : Nat} {A : Option Addr} {xs : List Value} (h : Rd w sz A n xs) {i m : Nat} (hm : i + m ≤ n) (hpos : 0 < ((xs.drop (i * sz)).take (m * sz)).length) :
 ∃ ad, Option.map (fun x => x.add (i * sz)) A = some ad ∧ ∀ j v, ((xs.drop (i * sz)).take (m * sz))[j]? = some v → w.cell? (ad.add j) = some v := by
 obtain ⟨b, off, rfl, hc⟩ := h.piece hm hpos
 have hadd : (⟨b, off, none⟩ : Addr).add (i * sz) = ⟨b, off + i * sz, none⟩ := by unfold Addr.add; split <;> simp_all
 exact ⟨_, rfl, fun j v hj => by
  show w.cell? (((⟨b, off, none⟩ : Addr).add (i * sz)).add j) = some v
  rw [hadd]; exact hc j v hj⟩
def EqE (a b : Ent) : Bool := decide (a.1 = b.1) && decide (a.2 = b.2)
theorem aFk (k1 k2 : ByteArray) (v1 v2 : Int) (w : World) :
 Calls Tryd.prog 54 #[.agg #[.string k1, .int .i64 v1], .agg #[.string k2, .int .i64 v2]] w fun e w' => e = .returned (.bool (EqE (k1, v1) (k2, v2))) ∧ Below w.heap.size w w' := by
 have hk := jX k1 k2
 by_cases h1 : k1 = k2 <;> by_cases h2 : v1 = v2
 all_goals
  go_enter Tryd.func54, Tryd.ntmps54
  go_wp2
  go_ret
  exact ⟨x9 (by simp [EqE, h1, h2]), ((Below.refl _ _).alloc (Nat.le_refl _) _).alloc (by simp) _⟩
def aKF (b : Bool) (w : World) (e : Ending) (w' : World) : Prop := e = .returned (.bool b) ∧ Below w.heap.size w w'
set_option maxRecDepth 100000 in
theorem aEu (A : Option Addr) (n c : Nat) (es : List Ent) (A' : Option Addr) (n' c' : Nat) (es' : List Ent) (w : World) (hr : Rd w 2 A n (zP es)) (hr' : Rd w 2 A' n' (zP es')) (hm : n ≤ maxLen) (hm' : n' ≤ maxLen) :
 Calls Tryd.prog 27 #[.slice A n c, .slice A' n' c'] w (aKF (decide (es = es')) w) := by
 unfold maxLen at hm hm'
 have hlen := hr.len
 have hlen' := hr'.len
 have Hlen := Lib.hid hlen; clear hlen
 have Hlen' := Lib.hid hlen'; clear hlen'
 by_cases hne : n = n'
 case neg =>
  have hfin : Hid (decide (es = es') = false) := decide_eq_false (fun h => hne (by rw [← Hlen.out, ← Hlen'.out, h]))
  have hb : ((n : Int) != n') = true := by rw [bne_iff_ne]; omega
  go_enter Tryd.func27, Tryd.ntmps27
  go_wp2
  go_ret
  exact ⟨x9 hfin.out.symm, Below.refl _ _⟩
 subst hne
 go_enter Tryd.func27, Tryd.ntmps27
 go_wp2
 go_loopw [5] (fun i wr => ∃ k : Nat, k ≤ n ∧ i = .int .i64 k ∧ es.take k = es'.take k ∧ Below w.heap.size w wr) (fun i _ => n - (intOf i).toNat)
 case atStart => exact ⟨0, Nat.zero_le _, rfl, rfl, Below.refl _ _⟩
 case round =>
  obtain ⟨k, hk, rfl, heq, hb⟩ := hrel
  have Heq := Lib.hid heq; clear heq
  by_cases hlt : k < n
  · have hke : k < es.length := by rw [Hlen.out]; exact hlt
    have hke' : k < es'.length := by rw [Hlen'.out]; exact hlt
    obtain ⟨b, off, rfl, hbl, hbl2, hc1, hc2⟩ := hr.ent hb hke
    obtain ⟨b', off', rfl, hbl', hbl2', hc1', hc2'⟩ := hr'.ent hb hke'
    have hyes : Hid (EqE es[k] es'[k] = true → es.take (k + 1) = es'.take (k + 1)) := by
     intro h
     have h' : es[k] = es'[k] := by simp [EqE] at h; exact Prod.ext h.1 h.2
     rw [List.take_succ_eq_append_getElem hke, List.take_succ_eq_append_getElem hke', Heq.out, h']
    have hno : Hid (EqE es[k] es'[k] = false → decide (es = es') = false) := by
     intro h
     refine decide_eq_false (fun e => ?_)
     subst e
     simp [EqE] at h
    generalize es[k] = ek at *
    generalize es'[k] = ek' at *
    go_wp2
    go_still_tail 8, (by kernel_rfl)
    change wpList _ _ _ _ _ wr.drew
    generalize hw2 : wr.drew = w2
    have hb2 : Below w.heap.size w w2 := by rw [← hw2]; exact hb.drew
    clear hw2 hb
    go_wp2_with fail
    refine (aFk _ _ _ _ _).mono ?_
    rintro e w3 ⟨rfl, hb3⟩
    cases hE : EqE (ek.1, ek.2) (ek'.1, ek'.2) with
    | true =>
     have HE := Lib.hid hE; clear hE
     go_wp2
     go_roundw
     case rel => exact ⟨k + 1, by omega, by go_num, hyes.out HE.out, hb2.trans (hb3.mono hb2.size)⟩
     case measure => simp [intOf]; omega
    | false =>
     have HE := Lib.hid hE; clear hE
     go_wp2
     go_ret
     exact ⟨x9 (hno.out HE.out).symm, hb2.trans (hb3.mono hb2.size)⟩
  · have hfin : Hid (decide (es = es') = true) := by
     have h := Heq.out
     rw [List.take_of_length_le (by rw [Hlen.out]; omega), List.take_of_length_le (by rw [Hlen'.out]; omega)] at h
     exact decide_eq_true h
    go_wp2
    go_ret
    exact ⟨x9 hfin.out.symm, hb⟩
theorem aFs (x : Int) (w : World) :
 Calls Tryd.prog 82 #[.int .i64 x] w fun e w' => e = .returned (.bool (decide (-1000000 ≤ x) && decide (x ≤ 1000000))) ∧ w = w' := by
 go_enter Tryd.func82, Tryd.ntmps82
 go_wp2
 all_goals (go_ret; exact ⟨x9 (by rw [Bool.eq_iff_iff]; simp; try omega), rfl⟩)
theorem aHj (x a b : Int) (w : World) :
 Calls Tryd.prog 18 #[.int .i64 x, .int .i64 a, .int .i64 b] w fun e w' => e = .returned (.bool (decide (a ≤ x) && decide (x ≤ b))) ∧ w = w' := by
 go_enter Tryd.func18, Tryd.ntmps18
 go_wp2
 all_goals (go_ret; exact ⟨x9 (by rw [Bool.eq_iff_iff]; simp; try omega), rfl⟩)
theorem qN (key : ByteArray) (v : Int) (w : World) :
 Calls Tryd.prog 108 #[.agg #[.string key, .int .i64 v]] w fun e w' => e = .returned (.string key) ∧ Below w.heap.size w w' := by
 go_enter Tryd.func108, Tryd.ntmps108
 go_wp2
 go_ret
 exact ⟨rfl, (Below.refl _ _).alloc (Nat.le_refl _) _⟩
theorem aFm (es : List Ent) (k : Nat) (hke : k < es.length) (hs : es[k].1.size ≤ maxLen) (W : World) :
 Calls Tryd.prog 66 #[.string es[k].1] W fun e w' => e = .returned (.bool (nm (kAt es k))) ∧ W = w' := by
 rw [aBA es k hke]; exact aBn _ W hs
theorem aHk (es : List Ent) (k : Nat) (hke : k < es.length) (W : World) :
 Calls Tryd.prog 18 #[.int .i64 es[k].2, .int .i64 (-1000000), .int .i64 1000000] W fun e w' => e = .returned (.bool (zl es k)) ∧ W = w' := by
 have e : zl es k = (decide (-1000000 ≤ es[k].2) && decide (es[k].2 ≤ 1000000)) := by simp [zl, aHL, hke]
 rw [e]; exact aHj _ _ _ _
set_option maxRecDepth 100000 in
theorem aHl (A : Option Addr) (n c : Nat) (es : List Ent) (w : World) (hr : Rd w 2 A n (zP es)) (hm : n ≤ maxLen) (hks : ∀ e ∈ es, e.1.size ≤ maxLen) :
 Calls Tryd.prog 48 #[.slice A n c] w fun e w' => e = .returned (.bool (yX es)) ∧ Below w.heap.size w w' := by
 unfold maxLen at hm
 have hlen := hr.len
 have Hlen := Lib.hid hlen; clear hlen
 by_cases hbig : 12 < n
 · have hfin : Hid (yX es = false) := aCp (by rw [Hlen.out]; exact hbig)
   go_enter Tryd.func48, Tryd.ntmps48
   go_wp2
   go_ret
   exact ⟨x9 hfin.out.symm, Below.refl _ _⟩
 have hn12 : n ≤ 12 := by omega
 clear hbig
 go_enter Tryd.func48, Tryd.ntmps48
 go_wp2
 go_loopw [3] (fun i wr => ∃ k : Nat, k ≤ n ∧ i = .int .i64 k ∧ (∀ j, j < k → zU es j = true ∧ zl es j = true) ∧ Below w.heap.size w wr) (fun i _ => n - (intOf i).toNat)
 case atStart => exact ⟨0, Nat.zero_le _, rfl, fun j hj => absurd hj (by omega), Below.refl _ _⟩
 case round =>
  obtain ⟨k, hk, rfl, hall, hb⟩ := hrel
  have Hall := Lib.hid hall; clear hall
  by_cases hlt : k < n
  · have hke : k < es.length := by rw [Hlen.out]; exact hlt
    obtain ⟨b, off, rfl, hbl, hbl2, hc1, hc2⟩ := hr.ent hb hke
    have hcall := aFm es k hke (hks _ (List.getElem_mem hke))
    have hcall2 := aHk es k hke
    cases hw : nm (kAt es k) with
    | false =>
     have hfin : Hid (yX es = false) := aBp hke (by rw [zU, hw]; rfl)
     rw [hw] at hcall
     have Hcall := Lib.hid hcall
     clear hw hcall hcall2
     go_wp2
     go_quiet ((first | (go_at_call 66; exact Calls.quiet_of_same ((Hcall.out _).mono (fun _ _ h => ⟨h.1, h.2.symm⟩)))))
     go_wp2
     go_ret
     exact ⟨x9 hfin.out.symm, hb.drewN _⟩
    | true =>
    cases hv : zl es k with
    | false =>
     have hfin : Hid (yX es = false) := aBq hke hv
     rw [hw] at hcall
     rw [hv] at hcall2
     have Hcall := Lib.hid hcall
     have Hcall2 := Lib.hid hcall2
     clear hw hv hcall hcall2
     go_wp2
     go_quiet ((first | (go_at_call 66; exact Calls.quiet_of_same ((Hcall.out _).mono (fun _ _ h => ⟨h.1, h.2.symm⟩))) | (go_at_call 18; exact Calls.quiet_of_same ((Hcall2.out _).mono (fun _ _ h => ⟨h.1, h.2.symm⟩)))))
     go_wp2
     go_ret
     exact ⟨x9 hfin.out.symm, hb.drewN _⟩
    | true =>
    by_cases hk0 : k = 0
    · subst hk0
      have hstep : Hid (∀ j, j < 0 + 1 → zU es j = true ∧ zl es j = true) := fun j hj => by
       have : j = 0 := by omega
       subst this; exact ⟨aCv hw, hv⟩
      rw [hw] at hcall
      rw [hv] at hcall2
      have Hcall := Lib.hid hcall
      have Hcall2 := Lib.hid hcall2
      clear hw hv hcall hcall2
      simp only [Nat.zero_mul, Nat.add_zero] at hc1 hc2
      go_wp2
      go_quiet ((first | (go_at_call 66; exact Calls.quiet_of_same ((Hcall.out _).mono (fun _ _ h => ⟨h.1, h.2.symm⟩))) | (go_at_call 18; exact Calls.quiet_of_same ((Hcall2.out _).mono (fun _ _ h => ⟨h.1, h.2.symm⟩)))))
      go_wp2
      go_roundw
      case rel => exact ⟨0 + 1, by omega, by go_num, hstep.out, hb.drewN _⟩
      case measure => simp [intOf]; omega
    · have hkp : 0 < k := by omega
      have hor := aEE hkp hke hw
      obtain ⟨b', off', he, _, _, hc3, _⟩ := hr.ent hb (show k - 1 < es.length by omega)
      obtain ⟨rfl, rfl⟩ : b = b' ∧ off = off' := by simpa using he
      have ht : (Op.bytesLess es[k].1.toList (es[k - 1]'(by omega)).1.toList || es[k].1.toList == (es[k - 1]'(by omega)).1.toList) = !zU es k := by rw [aK8, hor]
      have hi0 : 0 ≤ (k : Int) - 1 := by omega
      have hi1 : ((k : Int) - 1).toNat = k - 1 := by omega
      have hi2 : (0 : Int) < (k : Int) := by omega
      rw [hw] at hcall
      rw [hv] at hcall2
      have Hcall := Lib.hid hcall
      have Hcall2 := Lib.hid hcall2
      clear hcall hcall2 hk0 he hor
      cases ho : zU es k with
      | false =>
       have hfin : Hid (yX es = false) := aBp hke ho
       rw [ho] at ht
       clear hw hv ho
       go_wp2
       go_quiet ((first | (go_at_call 66; exact Calls.quiet_of_same ((Hcall.out _).mono (fun _ _ h => ⟨h.1, h.2.symm⟩))) | (go_at_call 18; exact Calls.quiet_of_same ((Hcall2.out _).mono (fun _ _ h => ⟨h.1, h.2.symm⟩)))))
       go_wp2
       go_ret
       exact ⟨x9 hfin.out.symm, hb.drewN _⟩
      | true =>
       have hstep : Hid (∀ j, j < k + 1 → zU es j = true ∧ zl es j = true) := fun j hj => by
        rcases Nat.lt_or_ge j k with h | h
        · exact Hall.out j h
        · have : j = k := by omega
          subst this; exact ⟨ho, hv⟩
       rw [ho] at ht
       clear hw hv ho
       go_wp2
       go_quiet ((first | (go_at_call 66; exact Calls.quiet_of_same ((Hcall.out _).mono (fun _ _ h => ⟨h.1, h.2.symm⟩))) | (go_at_call 18; exact Calls.quiet_of_same ((Hcall2.out _).mono (fun _ _ h => ⟨h.1, h.2.symm⟩)))))
       go_wp2
       go_roundw
       case rel => exact ⟨k + 1, by omega, by go_num, hstep.out, hb.drewN _⟩
       case measure => simp [intOf]; omega
  · have hfin : Hid (yX es = true) := aFH (by rw [Hlen.out]; exact hn12) (fun i hi => Hall.out i (by rw [Hlen.out] at hi; omega))
    go_wp2
    go_ret
    exact ⟨x9 hfin.out.symm, hb⟩
theorem aGv (a : ByteArray) (x : Int) (w : World) : (method 215 70 (.agg #[.string a, .int .i64 x]) "loop.example/g00737/impl.key").run Tryd.prog w = .ok (108, .agg #[.string a, .int .i64 x]) w := by kernel_rfl
theorem aGw (es : List Ent) (k : Nat) (hke : k < es.length) (hs : es[k].1.size ≤ maxLen) (W : World) :
 Calls Tryd.prog 85 #[.string es[k].1] W fun e w' => e = .returned (.bool (nm (kAt es k))) ∧ W = w' := by
 rw [aBA es k hke]; exact aCq _ W hs
set_option maxHeartbeats 2000000 in
set_option maxRecDepth 100000 in
theorem aBk (A : Option Addr) (n c : Nat) (es : List Ent) (w : World) (hr : Rd w 2 A n (zP es)) (hm : n ≤ maxLen) (hks : ∀ e ∈ es, e.1.size ≤ maxLen) :
 Calls Tryd.prog 81 #[.slice A n c] w fun e w' => e = .returned (.bool (qD es)) ∧ Below w.heap.size w w' := by
 unfold maxLen at hm
 have hlen := hr.len
 have Hlen := Lib.hid hlen; clear hlen
 have hmeth := aGv
 go_enter Tryd.func81, Tryd.ntmps81
 go_wp2
 go_loopw [3, 7] (fun _ i wr => ∃ k : Nat, k ≤ n ∧ i = .int .i64 k ∧ (∀ j, j < k → zU es j = true) ∧ Below w.heap.size w wr) (fun _ i _ => n - (intOf i).toNat)
 case atStart => exact ⟨0, Nat.zero_le _, rfl, fun j hj => absurd hj (by omega), Below.refl _ _⟩
 case round =>
  obtain ⟨k, hk, rfl, hall, hb⟩ := hrel
  have Hall := Lib.hid hall; clear hall
  by_cases hlt : k < n
  · have hke : k < es.length := by rw [Hlen.out]; exact hlt
    obtain ⟨b, off, rfl, hbl, hbl2, hc1, hc2⟩ := hr.ent hb hke
    have hcall := aGw es k hke (hks _ (List.getElem_mem hke))
    cases hw : nm (kAt es k) with
    | false =>
     have hfin : Hid (qD es = false) := aCI hke (by rw [zU, hw]; rfl)
     rw [hw] at hcall
     have Hcall := Lib.hid hcall
     clear hw hcall
     go_wp2
     have hcL0 : (wr.alloc (Obj.cells #[Value.string es[k].1, Value.int IntKind.i64 es[k].2] 70)).cell? ⟨wr.heap.size, 0, none⟩ = some (.string es[k].1) := cell_of_row _ _ _ _ _ (0, 0) (heap_alloc_new wr _)
     have hcL1 : (wr.alloc (Obj.cells #[Value.string es[k].1, Value.int IntKind.i64 es[k].2] 70)).cell? ⟨wr.heap.size, 1, none⟩ = some (.int .i64 es[k].2) := cell_of_row _ _ _ _ _ (0, 0) (heap_alloc_new wr _)
     have hpl : wr.heap.size < (wr.alloc (Obj.cells #[Value.string es[k].1, Value.int IntKind.i64 es[k].2] 70)).heap.size := by simp
     have hb2 : Below w.heap.size w (wr.alloc (Obj.cells #[Value.string es[k].1, Value.int IntKind.i64 es[k].2] 70)) := hb.alloc hb.size _
     generalize wr.alloc (Obj.cells #[Value.string es[k].1, Value.int IntKind.i64 es[k].2] 70) = w2 at *
     generalize wr.heap.size = p at *
     have hA0 := fun y : Aft w2 => y.cell hpl hcL0
     have hA1 := fun y : Aft w2 => y.cell hpl hcL1
     refine vS (by kernel_rfl) (by kernel_rfl) ?_
     repeat (go_big_quiet_step ((first | (go_at_call 108; exact Aft.call (qN _ _ _)) | (go_at_call 85; exact Aft.same (Hcall.out _)))))
     refine wpQuiet_nil ?_
     rintro _ ⟨y, rfl⟩
     have hb3 := aBY hb2 y.below
     generalize y.at_ = w3 at *
     go_wp2
     go_ret
     exact ⟨x9 hfin.out.symm, hb3⟩
    | true =>
    rw [hw] at hcall
    have Hcall := Lib.hid hcall
    clear hcall
    by_cases hk0 : k = 0
    · subst hk0
      have hstep : Hid (∀ j, j < 0 + 1 → zU es j = true) := fun j hj => by
       have : j = 0 := by omega
       subst this; exact aCv hw
      clear hw
      simp only [Nat.zero_mul, Nat.add_zero] at hc1 hc2
      go_wp2
      have hcL0 : (wr.alloc (Obj.cells #[Value.string es[0].1, Value.int IntKind.i64 es[0].2] 70)).cell? ⟨wr.heap.size, 0, none⟩ = some (.string es[0].1) := cell_of_row _ _ _ _ _ (0, 0) (heap_alloc_new wr _)
      have hcL1 : (wr.alloc (Obj.cells #[Value.string es[0].1, Value.int IntKind.i64 es[0].2] 70)).cell? ⟨wr.heap.size, 1, none⟩ = some (.int .i64 es[0].2) := cell_of_row _ _ _ _ _ (0, 0) (heap_alloc_new wr _)
      have hpl : wr.heap.size < (wr.alloc (Obj.cells #[Value.string es[0].1, Value.int IntKind.i64 es[0].2] 70)).heap.size := by simp
      have hb2 : Below w.heap.size w (wr.alloc (Obj.cells #[Value.string es[0].1, Value.int IntKind.i64 es[0].2] 70)) := hb.alloc hb.size _
      generalize wr.alloc (Obj.cells #[Value.string es[0].1, Value.int IntKind.i64 es[0].2] 70) = w2 at *
      generalize wr.heap.size = p at *
      have hA0 := fun y : Aft w2 => y.cell hpl hcL0
      have hA1 := fun y : Aft w2 => y.cell hpl hcL1
      refine vS (by kernel_rfl) (by kernel_rfl) ?_
      repeat (go_big_quiet_step ((first | (go_at_call 108; exact Aft.call (qN _ _ _)) | (go_at_call 85; exact Aft.same (Hcall.out _)))))
      refine wpQuiet_nil ?_
      rintro _ ⟨y, rfl⟩
      have hb3 := aBY hb2 y.below
      generalize y.at_ = w3 at *
      go_wp2
      go_roundw
      case rel => exact ⟨0 + 1, by omega, by go_num, hstep.out, hb3⟩
      case measure => simp [intOf]; omega
    · have hkp : 0 < k := by omega
      have hor := aEE hkp hke hw
      have ht : (!(Op.bytesLess (es[k - 1]'(by omega)).1.toList es[k].1.toList)) = !zU es k := by rw [hor]; rfl
      have hi0 : 0 ≤ (k : Int) - 1 := by omega
      have hi1 : ((k : Int) - 1).toNat = k - 1 := by omega
      have hi2 : (0 : Int) < (k : Int) := by omega
      clear hk0 hor hw
      cases ho : zU es k with
      | false =>
       have hfin : Hid (qD es = false) := aCI hke ho
       rw [ho] at ht
       clear ho
       go_wp2
       have hcL0 : (wr.alloc (Obj.cells #[Value.string es[k].1, Value.int IntKind.i64 es[k].2] 70)).cell? ⟨wr.heap.size, 0, none⟩ = some (.string es[k].1) := cell_of_row _ _ _ _ _ (0, 0) (heap_alloc_new wr _)
       have hcL1 : (wr.alloc (Obj.cells #[Value.string es[k].1, Value.int IntKind.i64 es[k].2] 70)).cell? ⟨wr.heap.size, 1, none⟩ = some (.int .i64 es[k].2) := cell_of_row _ _ _ _ _ (0, 0) (heap_alloc_new wr _)
       have hpl : wr.heap.size < (wr.alloc (Obj.cells #[Value.string es[k].1, Value.int IntKind.i64 es[k].2] 70)).heap.size := by simp
       have hb2 : Below w.heap.size w (wr.alloc (Obj.cells #[Value.string es[k].1, Value.int IntKind.i64 es[k].2] 70)) := hb.alloc hb.size _
       obtain ⟨b', off', he, _, _, hc3, hc4⟩ := hr.ent hb2 (show k - 1 < es.length by omega)
       obtain ⟨rfl, rfl⟩ : b = b' ∧ off = off' := by simpa using he
       have hbl4 := Nat.lt_of_lt_of_le hbl hb2.size
       generalize wr.alloc (Obj.cells #[Value.string es[k].1, Value.int IntKind.i64 es[k].2] 70) = w2 at *
       generalize wr.heap.size = p at *
       have hA0 := fun y : Aft w2 => y.cell hpl hcL0
       have hA1 := fun y : Aft w2 => y.cell hpl hcL1
       have hA3 := fun y : Aft w2 => y.cell hbl4 hc3
       have hA4 := fun y : Aft w2 => y.cell hbl4 hc4
       refine vS (by kernel_rfl) (by kernel_rfl) ?_
       repeat (go_big_quiet_step ((first | (go_at_call 108; exact Aft.call (qN _ _ _)) | (go_at_call 85; exact Aft.same (Hcall.out _)))))
       refine wpQuiet_nil ?_
       rintro _ ⟨y, rfl⟩
       have hb3 := aBY hb2 y.below
       generalize y.at_ = w3 at *
       go_wp2
       go_ret
       exact ⟨x9 hfin.out.symm, hb3⟩
      | true =>
       have hstep : Hid (∀ j, j < k + 1 → zU es j = true) := fun j hj => by
        rcases Nat.lt_or_ge j k with h | h
        · exact Hall.out j h
        · have : j = k := by omega
          subst this; exact ho
       rw [ho] at ht
       clear ho
       go_wp2
       have hcL0 : (wr.alloc (Obj.cells #[Value.string es[k].1, Value.int IntKind.i64 es[k].2] 70)).cell? ⟨wr.heap.size, 0, none⟩ = some (.string es[k].1) := cell_of_row _ _ _ _ _ (0, 0) (heap_alloc_new wr _)
       have hcL1 : (wr.alloc (Obj.cells #[Value.string es[k].1, Value.int IntKind.i64 es[k].2] 70)).cell? ⟨wr.heap.size, 1, none⟩ = some (.int .i64 es[k].2) := cell_of_row _ _ _ _ _ (0, 0) (heap_alloc_new wr _)
       have hpl : wr.heap.size < (wr.alloc (Obj.cells #[Value.string es[k].1, Value.int IntKind.i64 es[k].2] 70)).heap.size := by simp
       have hb2 : Below w.heap.size w (wr.alloc (Obj.cells #[Value.string es[k].1, Value.int IntKind.i64 es[k].2] 70)) := hb.alloc hb.size _
       obtain ⟨b', off', he, _, _, hc3, hc4⟩ := hr.ent hb2 (show k - 1 < es.length by omega)
       obtain ⟨rfl, rfl⟩ : b = b' ∧ off = off' := by simpa using he
       have hbl4 := Nat.lt_of_lt_of_le hbl hb2.size
       generalize wr.alloc (Obj.cells #[Value.string es[k].1, Value.int IntKind.i64 es[k].2] 70) = w2 at *
       generalize wr.heap.size = p at *
       have hA0 := fun y : Aft w2 => y.cell hpl hcL0
       have hA1 := fun y : Aft w2 => y.cell hpl hcL1
       have hA3 := fun y : Aft w2 => y.cell hbl4 hc3
       have hA4 := fun y : Aft w2 => y.cell hbl4 hc4
       refine vS (by kernel_rfl) (by kernel_rfl) ?_
       repeat (go_big_quiet_step ((first | (go_at_call 108; exact Aft.call (qN _ _ _)) | (go_at_call 85; exact Aft.same (Hcall.out _)))))
       refine wpQuiet_nil ?_
       rintro _ ⟨y, rfl⟩
       have hb3 := aBY hb2 y.below
       generalize y.at_ = w3 at *
       go_wp2
       go_roundw
       case rel => exact ⟨k + 1, by omega, by go_num, hstep.out, hb3⟩
       case measure => simp [intOf]; omega
  · have hfin : Hid (qD es = true) := aGP (fun i hi => Hall.out i (by rw [Hlen.out] at hi; omega))
    go_wp2
    go_ret
    exact ⟨x9 hfin.out.symm, hb⟩
theorem aFt (es : List Ent) (k : Nat) (hke : k < es.length) (W : World) :
 Calls Tryd.prog 82 #[.int .i64 es[k].2] W fun e w' => e = .returned (.bool (zl es k)) ∧ W = w' := by
 have e : zl es k = (decide (-1000000 ≤ es[k].2) && decide (es[k].2 ≤ 1000000)) := by simp [zl, aHL, hke]
 rw [e]; exact aFs _ _
set_option maxHeartbeats 1000000 in
set_option maxRecDepth 100000 in
theorem aER (A : Option Addr) (n c : Nat) (es : List Ent) (w : World) (hr : Rd w 2 A n (zP es)) (hm : n ≤ maxLen) (hks : ∀ e ∈ es, e.1.size ≤ maxLen) :
 Calls Tryd.prog 70 #[.slice A n c] w fun e w' => e = .returned (.bool (yX es)) ∧ Below w.heap.size w w' := by
 have hm' := hm
 unfold maxLen at hm
 have hlen := hr.len
 have Hlen := Lib.hid hlen; clear hlen
 by_cases hbig : 12 < n
 · have hfin : Hid (yX es = false) := aCp (by rw [Hlen.out]; exact hbig)
   go_enter Tryd.func70, Tryd.ntmps70
   go_wp2
   go_ret
   exact ⟨x9 hfin.out.symm, Below.refl _ _⟩
 have hn12 : n ≤ 12 := by omega
 clear hbig
 cases ho : qD es with
 | false =>
  have hfin : Hid (yX es = false) := by show yX es = false; rw [yX, ho]; simp
  have hcall := aBk A n c es w hr hm' hks
  rw [ho] at hcall
  have Hcall := Lib.hid hcall
  clear ho hcall
  go_enter Tryd.func70, Tryd.ntmps70
  go_wp2_with (go_at_call 81; refine Hcall.out.mono ?_; rintro e w1 ⟨rfl, hb1⟩)
  go_ret
  exact ⟨x9 hfin.out.symm, hb1⟩
 | true =>
  have hcall := aBk A n c es w hr hm' hks
  rw [ho] at hcall
  have Hcall := Lib.hid hcall
  have Ho := Lib.hid ho
  clear ho hcall
  go_enter Tryd.func70, Tryd.ntmps70
  go_wp2_with (go_at_call 81; refine Hcall.out.mono ?_; rintro e w1 ⟨rfl, hb1⟩)
  go_loopw [15] (fun i wr => ∃ k : Nat, k ≤ n ∧ i = .int .i64 k ∧ (∀ j, j < k → zl es j = true) ∧ Below w.heap.size w wr) (fun i _ => n - (intOf i).toNat)
  case atStart => exact ⟨0, Nat.zero_le _, rfl, fun j hj => absurd hj (by omega), hb1⟩
  case round =>
   obtain ⟨k, hk, rfl, hall, hb⟩ := hrel
   have Hall := Lib.hid hall; clear hall
   by_cases hlt : k < n
   · have hke : k < es.length := by rw [Hlen.out]; exact hlt
     obtain ⟨b, off, rfl, hbl, hbl2, hc1, hc2⟩ := hr.ent hb hke
     have hcall := aFt es k hke
     cases hv : zl es k with
     | false =>
      have hfin : Hid (yX es = false) := aBq hke hv
      rw [hv] at hcall
      have Hcall := Lib.hid hcall
      clear hv hcall
      go_wp2_with (go_at_call 82; refine (Hcall.out _).mono ?_; rintro e w1 ⟨rfl, rfl⟩)
      go_ret
      exact ⟨x9 hfin.out.symm, hb.alloc hb.size _⟩
     | true =>
      have hstep : Hid (∀ j, j < k + 1 → zl es j = true) := fun j hj => by
       rcases Nat.lt_or_ge j k with h | h
       · exact Hall.out j h
       · have : j = k := by omega
         subst this; exact hv
      rw [hv] at hcall
      have Hcall := Lib.hid hcall
      clear hv hcall
      go_wp2_with (go_at_call 82; refine (Hcall.out _).mono ?_; rintro e w1 ⟨rfl, rfl⟩)
      go_roundw
      case rel => exact ⟨k + 1, by omega, by go_num, hstep.out, hb.alloc hb.size _⟩
      case measure => simp [intOf]; omega
   · have hfin : Hid (yX es = true) := aFH (by rw [Hlen.out]; exact hn12) (fun i hi => ⟨aGO Ho.out hi, Hall.out i (by rw [Hlen.out] at hi; omega)⟩)
     go_wp2
     go_ret
     exact ⟨x9 hfin.out.symm, hb⟩
def aFu (e : TypeId) (r : List Ent × Int) (w : World) (e' : Ending) (w' : World) : Prop := ∃ v, e' = .returned (.tuple #[v, .int .i64 r.2]) ∧ w'.ownsRow w.heap.size e 2 v r.1.length (zP r.1) ∧ Below w.heap.size w w'
theorem aFu.mk {e : TypeId} {r : List Ent × Int} {l : List Ent} {c : Int} {v : Value} {w w' : World} (h : r = (l, c)) (ho : w'.ownsRow w.heap.size e 2 v l.length (zP l)) (hb : Below w.heap.size w w') : aFu e r w (.returned (.tuple #[v, .int .i64 c])) w' := ⟨v, by rw [h], by rw [h]; exact ho, hb⟩
theorem Blk.two {w : World} {g : Nat} {t : TypeId} {cs : Array Value} (h : Blk w g t cs) {k : Nat} (hk : k * 2 + 1 < cs.size) :
 ∃ y0 y1, w.cell? ⟨g, k * 2, none⟩ = some y0 ∧ w.cell? ⟨g, k * 2 + 1, none⟩ = some y1 ∧ w.frozen? ⟨g, k * 2, none⟩ = false ∧ w.frozen? ⟨g, k * 2 + 1, none⟩ = false :=
 ⟨_, _, (h.cell _).trans (Array.getElem?_eq_getElem (by omega)), (h.cell _).trans (Array.getElem?_eq_getElem hk), h.frozen _, h.frozen _⟩
instance edt_dec : DecidableEq Edt := fun a b => decidable_of_iff (a.key = b.key ∧ a.val = b.val ∧ a.gone = b.gone) ⟨fun ⟨h1, h2, h3⟩ => by cases a; cases b; simp at *; exact ⟨h1, h2, h3⟩, fun h => by subst h; exact ⟨rfl, rfl, rfl⟩⟩
def qZ : Nat → Int → ByteArray → ByteArray
 | 0, _, t => t
 | f + 1, j, t => if 0 < j then qZ f (j / 10) (strOfNums [48 + j % 10] ++ t) else t
def uT (k : Int) : ByteArray := if 0 < k then ⟨#[109]⟩ ++ qZ k.toNat k ⟨#[]⟩ else ⟨#[109, 48]⟩
theorem aH7 (f : Nat) (t : ByteArray) : qZ f 0 t = t := by cases f <;> simp [qZ]
theorem aG0 {a b : ByteArray} (h : a = b) : Ending.returned (.string a) = .returned (.string b) := by rw [h]
set_option maxRecDepth 100000 in
theorem aBD (k : Int) (w : World) (h0 : 0 ≤ k) (h1 : k ≤ 1099511627776) :
 Calls Tryd.prog 55 #[.int .i64 k] w fun e w' => e = .returned (.string (uT k)) ∧ Below w.heap.size w w' := by
 by_cases hk : k ≤ 0
 · have hfin : Hid (uT k = ⟨#[109, 48]⟩) := by show uT k = _; unfold uT; rw [if_neg (by omega)]
   go_enter Tryd.func55, Tryd.ntmps55
   go_wp2
   go_ret
   exact ⟨aG0 hfin.out.symm, Below.refl _ _⟩
 have hk' : 0 < k := by omega
 have hfin : Hid (uT k = ⟨#[109]⟩ ++ qZ k.toNat k ⟨#[]⟩) := by show uT k = _; unfold uT; rw [if_pos hk']
 have hcv := aF6 (P := Tryd.prog) 87 9 5 Tryd.underlying87 Tryd.underlying5 Tryd.underlying9
 clear hk
 go_enter Tryd.func55, Tryd.ntmps55
 go_wp2
 go_loopw [0, 3] (fun x out wr => ∃ (j : Int) (t : ByteArray) (f : Nat), x = .int .i64 j ∧ out = .string t ∧ 0 ≤ j ∧ (t.size : Int) + j ≤ k ∧ j ≤ f ∧ qZ f j t = qZ k.toNat k ⟨#[]⟩ ∧ Below w.heap.size w wr) (fun x _ _ => (intOf x).toNat)
 case atStart => exact ⟨k, ⟨#[]⟩, k.toNat, rfl, rfl, by omega, by show ((0 : Nat) : Int) + k ≤ k; omega, by omega, rfl, Below.refl _ _⟩
 case round =>
  obtain ⟨j, t, f, rfl, rfl, hj0, hj1, hjf, hd, hb⟩ := hrel
  have HD := Lib.hid hd; clear hd
  by_cases hlt : 0 < j
  · have hone : (strOfNums [48 + j % 10]).size ≤ 1 := Nat.le_refl 1
    obtain ⟨f', hf'⟩ : ∃ f', f = f' + 1 := ⟨f - 1, by omega⟩
    have hst : Hid (qZ f' (j / 10) (strOfNums [48 + j % 10] ++ t) = qZ k.toNat k ⟨#[]⟩) := by
     have h := HD.out
     rw [hf', qZ, if_pos hlt] at h; exact h
    have hsz : Hid ((strOfNums [48 + j % 10] ++ t).size = 1 + t.size) := by
     show (strOfNums [48 + j % 10] ++ t).size = 1 + t.size
     rw [ByteArray.size_append]; rfl
    have hfj : j ≤ (f' : Int) + 1 := by omega
    clear hf' hjf
    go_wp2
    go_roundw
    case rel => exact ⟨_, _, f', rfl, rfl, by omega, by rw [hsz.out]; omega, by omega, hst.out, hb.alloc hb.size _⟩
    case measure => simp [intOf]; omega
  · have hz : j = 0 := by omega
    subst hz
    have hone : t.size ≤ 1099511627776 := by omega
    go_wp2
    go_ret
    exact ⟨aG0 (by rw [hfin.out, ← HD.out, aH7]), hb⟩
def marked : Nat → Int → List Ent
 | 0, _ => []
 | n + 1, k => (uT k, k + 1) :: marked n (k + 2)
theorem uP (n : Nat) (k : Int) : (marked n k).length = n := by
 induction n generalizing k with
 | zero => rfl
 | succ n ih => simp [marked, ih]
theorem aFq (n : Nat) (k : Int) : marked (n + 1) k = marked n k ++ [(uT (k + 2 * n), k + 2 * n + 1)] := by
 induction n generalizing k with
 | zero => simp [marked]
 | succ n ih =>
  rw [marked, ih, marked, List.cons_append]
  have e : k + 2 + 2 * (n : Int) = k + 2 * ((n + 1 : Nat) : Int) := by omega
  rw [e]
theorem aGu (n : Nat) (k0 : Int) (k : Nat) (h : k < n) : (marked n k0)[k]'(by rw [uP]; exact h) = (uT (k0 + 2 * k), k0 + 2 * k + 1) := by
 induction n generalizing k0 k with
 | zero => omega
 | succ n ih =>
  cases k with
  | zero => simp [marked]
  | succ k =>
   have := ih (k0 + 2) k (by omega)
   have e : k0 + 2 * ((k + 1 : Nat) : Int) = k0 + 2 + 2 * (k : Int) := by omega
   rw [e, ← this]; simp [marked]
set_option maxRecDepth 100000 in
theorem aDO (A : Option Addr) (n c : Nat) (k0 : Int) (w : World) (hr : Rd w 2 A n (zP (marked n k0))) (hm : n ≤ 1048600) (h0 : 0 ≤ k0) (h1 : k0 ≤ 8388608) :
 Calls Tryd.prog 31 #[.slice A n c, .int .i64 k0] w fun e w' => e = .returned (.int .i64 (k0 + 2 * n)) ∧ Below w.heap.size w w' := by
 have hlen := hr.len
 have Hlen := Lib.hid hlen; clear hlen
 go_enter Tryd.func31, Tryd.ntmps31
 go_wp2
 go_loopw [1, 5] (fun kk i wr => ∃ (k : Nat), k ≤ n ∧ i = .int .i64 k ∧ kk = .int .i64 (k0 + 2 * k) ∧ Below w.heap.size w wr) (fun _ i _ => n - (intOf i).toNat)
 case atStart => exact ⟨0, Nat.zero_le _, rfl, by simp, Below.refl _ _⟩
 case round =>
  obtain ⟨k, hk, rfl, rfl, hb⟩ := hrel
  by_cases hlt : k < n
  · have hke : k < (marked n k0).length := by rw [uP]; exact hlt
    obtain ⟨b, off, rfl, hbl, hbl2, hc1, hc2⟩ := hr.ent hb hke
    rw [aGu n k0 k hlt] at hc1 hc2
    have hcW := cellW hb hbl hc1
    have hcW2 := cellW hb hbl hc2
    clear hc2
    have hcall : Hid (∀ W : World, Calls Tryd.prog 55 #[.int .i64 (k0 + 2 * (k : Int))] W fun e w' => e = .returned (.string (uT (k0 + 2 * (k : Int)))) ∧ Below W.heap.size W w') := fun W => aBD _ W (by omega) (by omega)
    generalize uT (k0 + 2 * (k : Int)) = mb at *
    have ht : (!(mb.toList == mb.toList)) = false := by simp
    go_wp2
    go_region_held3 (fun w' => Below w.heap.size w w' ∧ w'.cell? ⟨b, off + k * 2, none⟩ = some (.string mb)) (first | exact ⟨hb.drew, hc1⟩ | exact ⟨aJL (by assumption) hb1, cellS (aJL (by assumption) hb1) hbl hcW⟩)
     (first | (go_at_call 55; refine (hcall.out _).mono ?_; rintro e w1 ⟨rfl, hb1⟩))
    rename_i hH
    obtain ⟨hbb, _⟩ := hH
    have hc2' := cellS hbb hbl hcW2
    go_wp2
    go_roundw
    case rel =>
     refine ⟨k + 1, by omega, by go_num, ?_, hbb⟩
     rw [show k0 + 2 * (k : Int) + 1 + 1 = k0 + 2 * ((k + 1 : Nat) : Int) from by omega]
    case measure => simp [intOf]; omega
  · go_wp2
    go_ret
    exact ⟨aJv (by omega), hb⟩
end Go.Proofs.YtoaifonjemlfcaaDoor
namespace Go.Proofs.YtoaifonjemlfcaaDoor.AM
open Go Go.RowKit
def aKs (k : ByteArray) : AV := .v (.string k)
def xu (x : Int) : AV := .v (.int .i64 x)
def yP (e : Ent) : AV := .agg [.v (.string e.1), .v (.int .i64 e.2)]
def aKW (e : Edt) : AV := .agg [.v (.string e.key), .v (.int .i64 e.val), .v (.bool e.gone)]
theorem y8 {α : Type} {f : α → AV} (h : ∀ a, yI (f a)) : ∀ l : List α, zH (l.map f)
 | [] => by simp only [List.map_nil]; unfold zH; trivial
 | a :: l => by simp only [List.map_cons]; unfold zH; exact ⟨h a, y8 h l⟩
theorem aGD : ∀ ob ∈ ([] : List OB), wV ob := fun ob h => by cases h
theorem aGE {t sz : Nat} {xs : List AV} (h : zH xs) : ∀ ob ∈ [(⟨.s t, sz, xs⟩ : OB)], wV ob := fun ob hm => by rw [List.mem_singleton] at hm; subst hm; exact h
theorem aJa {t sz t' sz' : Nat} {xs xs' : List AV} (h : zH xs) (h' : zH xs') : ∀ ob ∈ [(⟨.s t, sz, xs⟩ : OB), ⟨.s t', sz', xs'⟩], wV ob := fun ob hm => by
 rcases List.mem_cons.1 hm with rfl | hm
 · exact h
 · exact aGE h' ob hm
theorem aCB (e : Ent) : yI (yP e) := by unfold yP; simp [yI, zH]
theorem aCA (e : Edt) : yI (aKW e) := by unfold aKW; simp [yI, zH]
theorem aCE (e : ByteArray) : yI (aKs e) := by unfold aKs; simp [yI]
section
variable {S : Nat → Prop} {w : World}
theorem aD5 : ∀ {es : List Ent} {cs : List Value}, RL S w (es.map yP) cs ↔ cs = zP es
 | [], cs => by simp only [List.map_nil]; unfold RL; simp [zP]
 | e :: es, cs => by
  simp only [List.map_cons]
  constructor
  · intro h
    unfold RL at h
    obtain ⟨c1, c2, rfl, h1, h2⟩ := h
    rw [aD5.1 h2, wD]
    unfold yP at h1
    simp only [RA, RL] at h1
    obtain ⟨a, b, rfl, ⟨rfl, _⟩, d1, d2, rfl, ⟨rfl, _⟩, rfl⟩ := h1
    rfl
  · intro h
    unfold RL
    refine ⟨[.string e.1, .int .i64 e.2], zP es, by rw [h, wD]; rfl, ?_, aD5.2 rfl⟩
    exact aIF (aD4 (c1 := [_]) (aIp rfl) (aD4 (c1 := [_]) (aIp rfl) aIN))
theorem ji {S0 : Nat → Prop} {hp B V} (hS : ∀ b, S0 b → b < w.heap.size) {es : List Ent} {u : Value} (h : RV S0 w hp B V (.lst 2 (es.map yP)) u) : ∃ A c, u = .slice A es.length c ∧ es.length ≤ c ∧ c ≤ maxLen ∧ Rd w 2 A es.length (zP es) := by
 unfold RV at h
 unfold RA at h
 obtain ⟨A, c, e, h1, h2, _, _, h4⟩ := h
 simp only [List.cons.injEq, and_true, List.length_map] at e h1
 refine ⟨A, c, e, h1, h2, by rw [jm], fun hn => ?_⟩
 rcases h4 with h4 | ⟨b, off, us, rfl, hb, hr, hc⟩
 · have := List.map_eq_nil_iff.1 h4; subst this; simp at hn
 · rw [aD5.1 hr] at hc
   exact ⟨b, off, rfl, hS b hb, hc⟩
theorem aEV {S0 : Nat → Prop} {hp B V} {x u : Value} (h : RV S0 w hp B V (.v x) u) : u = x := by unfold RV at h; exact h.1
theorem aCQ {S0 : Nat → Prop} {hp B V} {x : AV} {us : List Value} (h : RVs S0 w hp B V [x] us) : ∃ u, us = [u] ∧ RV S0 w hp B V x u := by
 unfold RVs at h; obtain ⟨u, us', rfl, h1, h2⟩ := h; unfold RVs at h2; subst h2; exact ⟨u, rfl, h1⟩
theorem aKp {S0 : Nat → Prop} {hp B V} {x : AV} {xs : List AV} {us : List Value} (h : RVs S0 w hp B V (x :: xs) us) : ∃ u us', us = u :: us' ∧ RV S0 w hp B V x u ∧ RVs S0 w hp B V xs us' := by
 unfold RVs at h; exact h
end
section
variable {P : Program} {f : FuncId} {fn : Func} {args : List AV}
theorem wQ (hf : P.funcs[f]? = some fn) (hnm : (fn.name == "runtime.NumGoroutine") = false) (hb : fn.body.isNone = false) : ∀ vs w, (callFunc f vs).run P w = .ok (.enter f vs) w := fun vs w => by
 simp only [callFunc, Sem.run_bind, run_program, Result.andThen_ok, hf, hnm, hb]; rfl
theorem aAf {S : Nat → Prop} {w : World} {hp hp' : Nat → Option OB} {B B' : Nat → Nat} {V V' : Nat → Value} {xs : List AV} {vs : List Value} (hn : ∀ l, hp l = none) (h : RVs S w hp B V xs vs) : RVs S w hp' B' V' xs vs :=
 RVs.carry (fun _ h => h) (fun _ _ => rfl) _ _ (fun l _ ob e => by rw [hn] at e; cases e) h
theorem kC {S : Nat → Prop} {w : World} {hp : Nat → Option OB} {B : Nat → Nat} {V : Nat → Value} {T : Nat → Nat → Prop} {lo : Nat → Prop} (hn : ∀ l, hp l = none) : Rows S w hp (fun _ => none) B V T lo :=
 ⟨fun l ob e => (by rw [hn] at e; cases e), fun l ob g e => (by rw [hn] at e; cases e), fun l ob g e => (by rw [hn] at e; cases e), fun l l' o1 o2 g e => (by rw [hn] at e; cases e), fun l es e => (by cases e)⟩
theorem j6 (l : Nat) : uO [] l = none := by simp [uO]
theorem jg {r : Value} (hent : ∀ vs w, (callFunc f vs).run P w = .ok (.enter f vs) w) (h1 : r.oneCell' = true)
 (h : ∀ (w : World) (S0 : Nat → Prop) (vs : List Value), (∀ b, S0 b → b < w.heap.size) → RVs S0 w (fun _ => none) (fun _ => 0) (fun _ => undef) args vs → Calls P f vs.toArray w fun e w' => e = .returned r ∧ Below w.heap.size w w') : AC P f args ⟨.v r, []⟩ :=
 ⟨hent, fun w S0 B0 V0 T0 vs hS _ _ hv => (h w S0 vs hS (aAf (fun _ => rfl) hv)).mono fun e w' ⟨he, hb⟩ => ⟨r, S0, fun _ => 0, fun _ => undef, fun _ => Fa, fun _ => Fa, he, Grown.of hb _, fun _ h => h, fun b hb' => ⟨Nat.lt_of_lt_of_le (hS b hb') hb.size, .inl hb'⟩, by unfold RV; exact ⟨rfl, h1⟩, kC j6, kC (fun _ => rfl), fun l l' ob ob' g e => (by rw [j6] at e; cases e)⟩⟩
end
theorem aK0 : ∀ vs w, (callFunc 48 vs).run Tryd.prog w = .ok (.enter 48 vs) w := wQ Tryd.func48 (by kernel_rfl) (by kernel_rfl)
theorem aK3 : ∀ vs w, (callFunc 70 vs).run Tryd.prog w = .ok (.enter 70 vs) w := wQ Tryd.func70 (by kernel_rfl) (by kernel_rfl)
theorem aKY : ∀ vs w, (callFunc 27 vs).run Tryd.prog w = .ok (.enter 27 vs) w := wQ Tryd.func27 (by kernel_rfl) (by kernel_rfl)
theorem aKZ : ∀ vs w, (callFunc 31 vs).run Tryd.prog w = .ok (.enter 31 vs) w := wQ Tryd.func31 (by kernel_rfl) (by kernel_rfl)
theorem aK1 : ∀ vs w, (callFunc 55 vs).run Tryd.prog w = .ok (.enter 55 vs) w := wQ Tryd.func55 (by kernel_rfl) (by kernel_rfl)
theorem aEd {es : List Ent} (hm : es.length ≤ maxLen) (hk : ∀ e ∈ es, e.1.size ≤ maxLen) : AC Tryd.prog 48 [.lst 2 (es.map yP)] ⟨.v (.bool (yX es)), []⟩ :=
 jg aK0 rfl fun w S0 vs hS hv => by
  obtain ⟨u, rfl, h1⟩ := aCQ hv
  obtain ⟨A, c, rfl, _, _, hr⟩ := ji hS h1
  exact aHl A es.length c es w hr hm hk
theorem aEb {es : List Ent} (hm : es.length ≤ maxLen) (hk : ∀ e ∈ es, e.1.size ≤ maxLen) : AC Tryd.prog 70 [.lst 2 (es.map yP)] ⟨.v (.bool (yX es)), []⟩ :=
 jg aK3 rfl fun w S0 vs hS hv => by
  obtain ⟨u, rfl, h1⟩ := aCQ hv
  obtain ⟨A, c, rfl, _, _, hr⟩ := ji hS h1
  exact aER A es.length c es w hr hm hk
theorem wm {es : List Ent} {b : Bool} (hb : yX es = b) (hm : es.length ≤ maxLen) (hk : ∀ e ∈ es, e.1.size ≤ maxLen) : AC Tryd.prog 48 [.lst 2 (es.map yP)] ⟨.v (.bool b), []⟩ := hb ▸ aEd hm hk
theorem aFc {es es' : List Ent} (hm : es.length ≤ maxLen) (hm' : es'.length ≤ maxLen) : AC Tryd.prog 27 [.lst 2 (es.map yP), .lst 2 (es'.map yP)] ⟨.v (.bool (decide (es = es'))), []⟩ :=
 jg aKY rfl fun w S0 vs hS hv => by
  obtain ⟨u, us, rfl, h1, hv⟩ := aKp hv
  obtain ⟨u', rfl, h2⟩ := aCQ hv
  obtain ⟨A, c, rfl, _, _, hr⟩ := ji hS h1
  obtain ⟨A', c', rfl, _, _, hr'⟩ := ji hS h2
  exact aEu A _ c es A' _ c' es' w hr hr' hm hm'
theorem aAj {n : Nat} {k : Int} (hm : n ≤ 1048600) (h0 : 0 ≤ k) (h1 : k ≤ 8388608) : AC Tryd.prog 31 [.lst 2 ((marked n k).map yP), .v (.int .i64 k)] ⟨.v (.int .i64 (k + 2 * n)), []⟩ :=
 jg aKZ rfl fun w S0 vs hS hv => by
  obtain ⟨u, us, rfl, h1', hv⟩ := aKp hv
  obtain ⟨u', rfl, h2⟩ := aCQ hv
  obtain ⟨A, c, rfl, _, _, hr⟩ := ji hS h1'
  rw [aEV h2]
  rw [uP] at hr ⊢
  exact aDO A n c k w hr hm h0 h1
theorem wL {k : Int} (h0 : 0 ≤ k) (h1 : k ≤ 1099511627776) : AC Tryd.prog 55 [.v (.int .i64 k)] ⟨.v (.string (uT k)), []⟩ :=
 jg aK1 rfl fun w S0 vs hS hv => by
  obtain ⟨u', rfl, h2⟩ := aCQ hv
  rw [aEV h2]
  exact aBD k w h0 h1
end Go.Proofs.YtoaifonjemlfcaaDoor.AM
namespace Go.Proofs.YtoaifonjemlfcaaDoor
open Go.RowKit Go.ChangeShapes Go.WideShapes Go.Deep
section
variable {H : Type} {enc : TypeId × Value → H} {P : Program} {w : World} {base : Nat} {spare : Nat → Bool} {held : Bool}
end
section
variable {H : Type} {enc : TypeId × Value → H} {P : Program} {w : World} {base : Nat} {held : Bool}
end
end Go.Proofs.YtoaifonjemlfcaaDoor
namespace Go.Proofs.YtoaifonjemlfcaaDoor.AM
open Go Go.RowKit Go.ChangeShapes Go.WideShapes Go.Deep
section
variable {H : Type} {enc : TypeId × Value → H} {P : Program} {w : World} {base : Nat} {spare : Nat → Bool} {held : Bool}
end
section
variable {w : World} {hp : Nat → Option OB} {B : Nat → Nat} {V : Nat → Value}
def InW (w : World) : Nat → Prop := fun b => b < w.heap.size
theorem rv_one {x : Value} (h : x.oneCell' = true) : RV (InW w) w hp B V (.v x) x := by unfold RV; exact ⟨rfl, h⟩
theorem rvs_nil : RVs (InW w) w hp B V [] [] := by unfold RVs; rfl
theorem rvs_cons {x : AV} {xs : List AV} {u : Value} {us : List Value} (h : RV (InW w) w hp B V x u) (r : RVs (InW w) w hp B V xs us) : RVs (InW w) w hp B V (x :: xs) (u :: us) := by
 unfold RVs; exact ⟨u, us, rfl, h, r⟩
theorem law_calls {P : Program} {f : FuncId} {args : List AV} {vs : List Value} {r : Value} (h : AC P f args ⟨.v r, []⟩) (hv : RVs (InW w) w (fun _ => none) (fun _ => 0) (fun _ => undef) args vs) (hG : ∀ g y, GT g = some y → RA (InW w) w (.ptr y) [.pointer (some ⟨g, 0, none⟩)] := by intro g y e; cases e) : Calls P f vs.toArray w fun e w' => e = .returned r ∧ Below w.heap.size w w' :=
 (h.2 w (InW w) (fun _ => 0) (fun _ => undef) (fun _ => Fa) vs (fun b hb => hb) hG (kC (fun _ => rfl)) (aAf (fun _ => rfl) hv)).mono fun e w' ⟨v, S, B, V, T, T1, h1, h2, _, _, h5, _⟩ => by
  unfold RV at h5
  exact ⟨by rw [h1, h5.1], h2.below (fun g ⟨l, ob, e, _⟩ => by cases e)⟩
end
end Go.Proofs.YtoaifonjemlfcaaDoor.AM
namespace Go.Proofs.YtoaifonjemlfcaaDoor.AM
open Go Go.RowKit
attribute [local irreducible] xM xO xg yE y7 Pre ACG
end Go.Proofs.YtoaifonjemlfcaaDoor.AM
namespace Go.Proofs.YtoaifonjemlfcaaDoor.AM
open Go Go.RowKit
section
variable {P : Program} {t : TypeId} {x y : Operand} {a b : ByteArray}
theorem aJ3 (h : a ≠ b) : yZ P .neq t x y (.string a) (.string b) (.bool true) := aEZ fun w => by simp [Op.stringOp, jX, h]
theorem aBV (h : a = b) : yZ P .neq t x y (.string a) (.string b) (.bool false) := aEZ fun w => by simp [Op.stringOp, h]
theorem aFy (h : a = b) : yZ P .eql t x y (.string a) (.string b) (.bool true) := aEZ fun w => by simp [Op.stringOp, h]
theorem aFx (h : a ≠ b) : yZ P .eql t x y (.string a) (.string b) (.bool false) := aEZ fun w => by simp [Op.stringOp, jX, h]
end
attribute [local irreducible] xM xO xg yE y7 Pre ACG
end Go.Proofs.YtoaifonjemlfcaaDoor.AM
namespace Go.Proofs.YtoaifonjemlfcaaDoor
open Go.RowKit
def aKG (e : TypeId) (r : List Edt × Int) (w : World) (e' : Ending) (w' : World) : Prop := ∃ v, e' = .returned (.tuple #[v, .int .i64 r.2]) ∧ w'.ownsRow w.heap.size e 3 v r.1.length (aJJ r.1) ∧ Below w.heap.size w w'
theorem aKG.mk {e : TypeId} {r : List Edt × Int} {l : List Edt} {c : Int} {v : Value} {w w' : World} (h : r = (l, c)) (ho : w'.ownsRow w.heap.size e 3 v l.length (aJJ l)) (hb : Below w.heap.size w w') : aKG e r w (.returned (.tuple #[v, .int .i64 c])) w' := ⟨v, by rw [h], by rw [h]; exact ho, hb⟩
end Go.Proofs.YtoaifonjemlfcaaDoor
namespace Go.Proofs.YtoaifonjemlfcaaDoor.AM
open Go Go.RowKit
attribute [local irreducible] xM xO xg yE y7 Pre ACG
theorem aA1 {α : Type} (l : List α) (z : α) (k : Nat) (h : k < l.length) : (l.take k ++ List.replicate (l.length - k) z).set k l[k] = l.take (k + 1) ++ List.replicate (l.length - (k + 1)) z := by
 have h1 : l.length - k = (l.length - (k + 1)) + 1 := by omega
 rw [h1, List.replicate_succ, List.set_append_right _ _ (by simp; omega), List.take_succ_eq_append_getElem h, List.append_assoc]
 have : k - (l.take k).length = 0 := by simp; omega
 rw [this]; rfl
end Go.Proofs.YtoaifonjemlfcaaDoor.AM
namespace Go.Proofs.YtoaifonjemlfcaaDoor.AM
open Go Go.RowKit
abbrev Cmt := List Int × List Ent
def xP (c : Cmt) : AV := .agg [.lst 1 (c.1.map xu), .lst 2 (c.2.map yP)]
theorem aCC (e : Int) : yI (xu e) := by unfold xu; simp [yI]
theorem aJm {s : St} {a t l : Nat} {ob : OB} {x : AV} {Θ : Tab} (h1 : s.sl a = .optr l 0 [] 0) (ho : s.hp l = some ob) (hx : ob.xs[0]? = some x) (hk : ((Θ.look t).known && (Bool.xor (zR x) (Θ.look t).isAgg).not && Nat.beq (asz x) (Θ.look t).size) = true) (hd : (match x with | .v _ | .agg _ | .lst _ _ | .any => True | _ => False)) (hop : ob.e.open_ = true := by rfl) :
 jd Θ [.cell a t] ⟨x, []⟩ .ret s := by
 have hr : rvA s (.cell a t) = x := by
  simp only [rvA, h1, ho, hop, hx, cond_true, Option.getD_some]
 simp only [Bool.and_eq_true] at hk
 refine ⟨trivial, [], by simp, trivial, ⟨⟨hk.1.1, by rw [hr]; exact xor_not hk.1.2, by rw [hr]; exact Nat.eq_of_beq_eq_true hk.2, .inl ⟨l, ob, x, h1, ho, .inl ⟨hop, hx⟩⟩⟩, trivial⟩, trivial, ⟨.inl ?_, trivial⟩⟩
 rw [hr]
 cases x <;> first | exact ⟨rfl, rfl⟩ | exact hd.elim
attribute [local irreducible] xM xO xg yE y7 Pre ACG
abbrev jK : Cmt := ([], [])
theorem aHQ {l : List Int} (hm : l.length ≤ maxLen) : AC Tryd.prog 26 [.lst 1 (l.map xu), .lst 1 (l.map xu)] ⟨.v (.bool true), []⟩ := by
 unfold maxLen at hm
 refine qrf Tryd.func26 Tryd.ntmps26 Tryd.results26 ?_; conv => whnf
 repeat ((refine qz ?_; conv => whnf))
 refine xZ (ι := { k : Nat // k ≤ l.length }) (fun k => ⟨[(0, .lst 1 (l.map xu)), (1, .lst 1 (l.map xu)), (5, .v (.int .i64 (k.1 : Int)))], []⟩) (fun k => l.length - k.1) ⟨0, Nat.zero_le _⟩ (by exact qle) ?_
 rintro ⟨k, hk⟩
 dsimp only
 conv => whnf
 by_cases hlt : k < l.length
 · repeat ((refine qz ?_; conv => whnf))
   refine .inl ⟨by kernel_rfl, ?_⟩
   conv => whnf
   repeat ((first | refine qz ?_ | refine qp (xG (jB rfl) rfl rfl rfl) ?_); conv => whnf)
   exact ⟨⟨k + 1, hlt⟩, by exact qle, by simp; omega⟩
 · repeat ((refine qz ?_; conv => whnf))
   exact xA rfl trivial
theorem qW {c : Cmt} (hm : c.1.length ≤ maxLen) (hm2 : c.2.length ≤ maxLen) : AC Tryd.prog 10 [xP c, xP c] ⟨.v (.bool true), []⟩ := by
 have he : decide (c.2 = c.2) = true := by simp
 have hq := aFc (es := c.2) (es' := c.2) hm2 hm2
 rw [he] at hq
 refine qrf Tryd.func10 Tryd.ntmps10 Tryd.results10 ?_; conv => whnf
 repeat ((first | refine qz ?_ | refine qc (aHQ hm) ?_ | refine qc (hq) ?_); conv => whnf)
 exact xA rfl trivial
theorem aEa {l : List Cmt} (hm : l.length ≤ maxLen) (hc : ∀ c ∈ l, c.1.length ≤ maxLen ∧ c.2.length ≤ maxLen) : AC Tryd.prog 38 [.lst 2 (l.map xP), .lst 2 (l.map xP)] ⟨.v (.bool true), []⟩ := by
 unfold maxLen at hm
 refine qrf Tryd.func38 Tryd.ntmps38 Tryd.results38 ?_; conv => whnf
 repeat ((refine qz ?_; conv => whnf))
 refine xZ (ι := { k : Nat // k ≤ l.length }) (fun k => ⟨[(0, .lst 2 (l.map xP)), (1, .lst 2 (l.map xP)), (5, .v (.int .i64 (k.1 : Int)))], []⟩) (fun k => l.length - k.1) ⟨0, Nat.zero_le _⟩ (by exact qle) ?_
 rintro ⟨k, hk⟩
 dsimp only
 conv => whnf
 by_cases hlt : k < l.length
 · obtain ⟨q1, q2⟩ := hc _ (List.getElem_mem hlt)
   repeat ((refine qz ?_; conv => whnf))
   refine .inl ⟨by kernel_rfl, ?_⟩
   conv => whnf
   repeat ((first | refine qz ?_ | refine qc (qW q1 q2) ?_); conv => whnf)
   exact ⟨⟨k + 1, hlt⟩, by exact qle, by simp; omega⟩
 · repeat ((refine qz ?_; conv => whnf))
   exact xA rfl trivial
end Go.Proofs.YtoaifonjemlfcaaDoor.AM
namespace Go.Proofs.YtoaifonjemlfcaaDoor.AM
open Go Go.RowKit
section
variable {P : Program} {Θ : Tab} {s : St} {d : Option Tmp} {ty : TypeId} {pos : String} {after : Array Edge} {g : Option (Nat × Bool)}
end
section
variable {s : St} {Θ : Tab}
theorem aIq {t : Nat} {y : AV} (h : s.sl t = y) (hy : (match y with | .v _ | .agg _ | .lst _ _ | .any => True | _ => False)) : aD3 s [] (s.sl t) y := .inl (by cases y <;> first | exact ⟨h, rfl⟩ | exact hy.elim)
theorem aKl {t1 t2 t3 : Nat} {y1 y2 y3 : AV} (h1 : aD3 s [] (s.sl t1) y1) (h2 : aD3 s [] (s.sl t2) y2) (h3 : aD3 s [] (s.sl t3) y3) : jd Θ [.tmp t1, .tmp t2, .tmp t3] ⟨.tup [y1, y2, y3], []⟩ .ret s :=
 ⟨trivial, [], by simp, trivial, ⟨trivial, trivial, trivial, trivial⟩, ⟨_, rfl⟩, ⟨h1, h2, h3, trivial⟩⟩
end
end Go.Proofs.YtoaifonjemlfcaaDoor.AM
