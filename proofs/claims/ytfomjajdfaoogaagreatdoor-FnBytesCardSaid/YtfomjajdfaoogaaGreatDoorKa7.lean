/- Texts of the machine over data, folded. -/
import Derived.Test.YtfomjajdfaoogaaGreatDoorKa6
import Derived.Test.YtfomjajdfaoogaaGreatDoorKa5
import Derived.ProofKit
import Derived.OpenShut
import Derived.ShutString
import Derived.Laws.StructEq
set_option linter.unusedVariables false
set_option maxRecDepth 100000
set_option linter.unusedSimpArgs false
namespace Go.Proofs.YtfomjajdfaoogaaGreatDoor
open Go.RowKit
theorem jK (es : List Ent) (k : ByteArray) (v : Int) : yK (es ++ [(k, v)]) = yK es ++ #[Value.string k, Value.int .i64 v].toList := by rw [aJf]; rfl
theorem jk (k : ByteArray) (v : Int) : ∀ u ∈ #[Value.string k, Value.int .i64 v].toList, u.oneCell' = true := by
 intro u hu
 simp at hu
 rcases hu with rfl | rfl <;> rfl
def aLI (e : TypeId) (es : List Ent) (w : World) (e' : Ending) (w' : World) : Prop := ∃ v, e' = .returned v ∧ w'.ownsRow w.heap.size e 2 v es.length (yK es) ∧ Below w.heap.size w w'
set_option maxHeartbeats 2000000 in
set_option maxRecDepth 100000 in
theorem aMh (A : Option Addr) (n c : Nat) (es : List Ent) (key : ByteArray) (v : Int) (w : World) (hr : Rd w 2 A n (yK es)) (hm : n ≤ 4096) :
 Calls Tryz.prog 98 #[.slice A n c, .string key, .int .i64 v] w (aLI 74 (uq es key v) w) := by
 have hlen := hr.len
 have Hlen := Lib.hid hlen; clear hlen
 obtain ⟨i0, hi, hz0, hz1, hz2⟩ := info_parts aG7
 have Hi := Lib.hid hi; clear hi
 have Hz0 := Lib.hid hz0; clear hz0
 have Hz1 := Lib.hid hz1; clear hz1
 have Hz2 := Lib.hid hz2; clear hz2
 go_enter Tryz.func98, Tryz.ntmps98
 go_wp2
 have hst : Hid ((w.alloc (Obj.cells #[] 74)).ownsRow w.heap.size 74 2 (.slice (some ⟨w.heap.size, 0, none⟩) 0 0) 0 []) := World.ownsRow_made w #[] 0 (Nat.le_refl _) (by simp) (by simp)
 have hbst : Hid (Below w.heap.size w (w.alloc (Obj.cells #[] 74))) := (Below.refl _ _).alloc (Nat.le_refl _) _
 go_loopw [7, 8, 9] (fun out d i wr => ∃ k : Nat, k ≤ n ∧ i = .int .i64 k ∧ d = .bool (zy es key v k).2 ∧ wr.ownsRow w.heap.size 74 2 out (zy es key v k).1.length (yK (zy es key v k).1) ∧ Below w.heap.size w wr) (fun _ _ i _ => n - (intOf i).toNat)
 case atStart => exact ⟨0, Nat.zero_le _, rfl, by rw [aD8], by rw [aD8]; exact hst.out, hbst.out⟩
 case round =>
  obtain ⟨k, hk, rfl, rfl, hown, hb⟩ := hrel
  by_cases hlt : k < n
  · have hke : k < es.length := by rw [Hlen.out]; exact hlt
    obtain ⟨b, off, rfl, hbl, hbl2, hc1, hc2⟩ := hr.ent hb hke
    have hstp := Lib.hid (aGr es key v k hke)
    have hl2 := aGq es key v k (by omega)
    generalize zy es key v k = s at *
    obtain ⟨acc, dn⟩ := s
    simp only at hown hl2
    have hbs := hb.size
    cases hq : klt es[k].1 key with
    | true =>
     have hne : es[k].1 ≠ key := aJr hq
     have ht : Op.bytesLess es[k].1.toList key.toList = true := hq
     have ht2 : (es[k].1.toList == key.toList) = false := by rw [vP]; exact decide_eq_false hne
     have hfin : Hid (zy es key v (k + 1) = (acc ++ [es[k]], dn)) := by
      show zy es key v (k + 1) = _
      rw [hstp.out, aCc (.inr hq), if_neg hne]
     clear hne hq
     generalize es[k] = ek at *
     obtain ⟨ek1, ek2⟩ := ek
     have Hown := Lib.hid hown; clear hown
     cases dn
     all_goals
      go_wp2_with (at_builtin; refine zP wr rfl _ _ 31 rfl w.heap.size 74 i0 _ 2 24 Tryz.underlying31 Hi.out Hz0.out Hz1.out Hz2.out rfl (by decide) u7 acc.length (yK acc) rfl Hown.out #[.string ek1, .int .i64 ek2] 1 1 rfl rfl (jk ek1 ek2) (by omega) (by decide) hbs ?_; intro v' w1 hown' hgrow)
      have Hown' := Lib.hid hown'; clear hown'
      go_wp2
      go_roundw
      case rel => exact ⟨k + 1, by omega, by go_num, by rw [hfin.out], by rw [hfin.out, List.length_append, jK]; exact Hown'.out, below_grown hb hgrow Hown.out hbs (Nat.le_refl _)⟩
      case measure => simp [intOf]; omega
    | false =>
     have hcW1 := cellW hb hbl hc1
     have hcW2 := cellW hb hbl hc2
     have ht : Op.bytesLess es[k].1.toList key.toList = false := hq
     cases dn with
     | false =>
      by_cases he : es[k].1 = key
      · have ht2 : (es[k].1.toList == key.toList) = true := by rw [he]; simp
        have hfin : Hid (zy es key v (k + 1) = (acc ++ [(key, v)], true)) := by
         show zy es key v (k + 1) = _
         rw [hstp.out, aFX rfl hq, if_pos he]
        clear he hq
        generalize es[k] = ek at *
        obtain ⟨ek1, ek2⟩ := ek
        have Hown := Lib.hid hown; clear hown
        go_wp2_with (at_builtin; refine zP wr rfl _ _ 31 rfl w.heap.size 74 i0 _ 2 24 Tryz.underlying31 Hi.out Hz0.out Hz1.out Hz2.out rfl (by decide) u7 acc.length (yK acc) rfl Hown.out #[.string key, .int .i64 v] 1 1 rfl rfl (jk key v) (by omega) (by decide) hbs ?_; intro v1 w1 hown1 hgrow1; have Hown1 := Lib.hid hown1; clear hown1; have hbb1 := below_grown hb hgrow1 Hown.out hbs (Nat.le_refl _); have hd1 := cellS hbb1 hbl hcW1; have hd2 := cellS hbb1 hbl hcW2; have hbs1 := hbb1.size; have hbl3 := Nat.lt_of_lt_of_le hbl hbs1)
        go_roundw
        case rel => exact ⟨k + 1, by omega, by go_num, by rw [hfin.out], by rw [hfin.out, List.length_append, jK]; exact Hown1.out, hbb1⟩
        case measure => simp [intOf]; omega
      · have ht2 : (es[k].1.toList == key.toList) = false := by rw [vP]; exact decide_eq_false he
        have hfin : Hid (zy es key v (k + 1) = (acc ++ [(key, v)] ++ [es[k]], true)) := by
         show zy es key v (k + 1) = _
         rw [hstp.out, aFX rfl hq, if_neg he]
        clear he hq
        generalize es[k] = ek at *
        obtain ⟨ek1, ek2⟩ := ek
        have Hown := Lib.hid hown; clear hown
        go_wp2_with (first | (at_builtin; refine zP w1 rfl _ _ 31 rfl w.heap.size 74 i0 _ 2 24 Tryz.underlying31 Hi.out Hz0.out Hz1.out Hz2.out rfl (by decide) v1 (acc.length + 1) (yK acc ++ #[Value.string key, Value.int .i64 v].toList) rfl Hown1.out #[.string ek1, .int .i64 ek2] 1 1 rfl rfl (jk ek1 ek2) (by omega) (by decide) hbs1 ?_; intro v2 w2 hown2 hgrow2; have Hown2 := Lib.hid hown2; clear hown2) | (at_builtin; refine zP wr rfl _ _ 31 rfl w.heap.size 74 i0 _ 2 24 Tryz.underlying31 Hi.out Hz0.out Hz1.out Hz2.out rfl (by decide) u7 acc.length (yK acc) rfl Hown.out #[.string key, .int .i64 v] 1 1 rfl rfl (jk key v) (by omega) (by decide) hbs ?_; intro v1 w1 hown1 hgrow1; have Hown1 := Lib.hid hown1; clear hown1; have hbb1 := below_grown hb hgrow1 Hown.out hbs (Nat.le_refl _); have hd1 := cellS hbb1 hbl hcW1; have hd2 := cellS hbb1 hbl hcW2; have hbs1 := hbb1.size; have hbl3 := Nat.lt_of_lt_of_le hbl hbs1))
        go_roundw
        case rel => exact ⟨k + 1, by omega, by go_num, by rw [hfin.out], by rw [hfin.out, List.length_append, List.length_append, jK, jK]; exact Hown2.out, below_grown hbb1 hgrow2 Hown1.out hbs1 (Nat.le_refl _)⟩
        case measure => simp [intOf]; omega
     | true =>
      by_cases he : es[k].1 = key
      · have ht2 : (es[k].1.toList == key.toList) = true := by rw [he]; simp
        have hfin : Hid (zy es key v (k + 1) = (acc, true)) := by
         show zy es key v (k + 1) = _
         rw [hstp.out, aCc (.inl rfl), if_pos he]
        clear he hq
        have Hown := Lib.hid hown; clear hown
        go_wp2
        go_roundw
        case rel => exact ⟨k + 1, by omega, by go_num, by rw [hfin.out], by rw [hfin.out]; exact Hown.out, hb⟩
        case measure => simp [intOf]; omega
      · have ht2 : (es[k].1.toList == key.toList) = false := by rw [vP]; exact decide_eq_false he
        have hfin : Hid (zy es key v (k + 1) = (acc ++ [es[k]], true)) := by
         show zy es key v (k + 1) = _
         rw [hstp.out, aCc (.inl rfl), if_neg he]
        clear he hq
        generalize es[k] = ek at *
        obtain ⟨ek1, ek2⟩ := ek
        have Hown := Lib.hid hown; clear hown
        go_wp2_with (at_builtin; refine zP wr rfl _ _ 31 rfl w.heap.size 74 i0 _ 2 24 Tryz.underlying31 Hi.out Hz0.out Hz1.out Hz2.out rfl (by decide) u7 acc.length (yK acc) rfl Hown.out #[.string ek1, .int .i64 ek2] 1 1 rfl rfl (jk ek1 ek2) (by omega) (by decide) hbs ?_; intro v' w1 hown' hgrow; have Hown' := Lib.hid hown'; clear hown')
        go_roundw
        case rel => exact ⟨k + 1, by omega, by go_num, by rw [hfin.out], by rw [hfin.out, List.length_append, jK]; exact Hown'.out, below_grown hb hgrow Hown.out hbs (Nat.le_refl _)⟩
        case measure => simp [intOf]; omega
  · have hkn : k = es.length := by rw [Hlen.out]; omega
    have hend := aO5 es key v
    have hl2 := aGq es key v k (by omega)
    have hbs := hb.size
    rw [← hkn] at hend
    clear hkn
    generalize zy es key v k = s at *
    obtain ⟨acc, dn⟩ := s
    simp only at hown hl2 hend
    have Hown := Lib.hid hown; clear hown
    cases dn with
    | true =>
     have Hend := Lib.hid (show acc = uq es key v by simpa using hend)
     clear hend
     go_wp2
     go_ret
     exact ⟨_, rfl, by rw [← Hend.out]; exact Hown.out, hb⟩
    | false =>
     have Hend := Lib.hid (show acc ++ [(key, v)] = uq es key v by simpa using hend)
     clear hend
     go_wp2_with (at_builtin; refine zP wr rfl _ _ 31 rfl w.heap.size 74 i0 _ 2 24 Tryz.underlying31 Hi.out Hz0.out Hz1.out Hz2.out rfl (by decide) u7 acc.length (yK acc) rfl Hown.out #[.string key, .int .i64 v] 1 1 rfl rfl (jk key v) (by omega) (by decide) hbs ?_; intro v1 w1 hown1 hgrow1; have Hown1 := Lib.hid hown1; clear hown1; have hbb1 := below_grown hb hgrow1 Hown.out hbs (Nat.le_refl _))
     go_ret
     exact ⟨_, rfl, by rw [← Hend.out, List.length_append, jK]; exact Hown1.out, hbb1⟩
theorem aKz (q : Ent → Bool) (es : List Ent) (k : Nat) (h : k < es.length) : (es.take (k + 1)).filter q = (es.take k).filter q ++ (if q es[k] then [es[k]] else []) := by
 rw [List.take_succ_eq_append_getElem h, List.filter_append]
 congr 1
 cases hq : q es[k] <;> simp [hq]
theorem aG2 (q : Ent → Bool) (es : List Ent) (k : Nat) : ((es.take k).filter q).length ≤ k := Nat.le_trans (List.length_filter_le _ _) (List.length_take_le _ _)
set_option maxHeartbeats 1000000 in
set_option maxRecDepth 100000 in
theorem aIm (A : Option Addr) (n c : Nat) (es : List Ent) (key : ByteArray) (w : World) (hr : Rd w 2 A n (yK es)) (hm : n ≤ 4096) :
 Calls Tryz.prog 101 #[.slice A n c, .string key] w (aLI 74 (aDQ es key) w) := by
 have hlen := hr.len
 have Hlen := Lib.hid hlen; clear hlen
 obtain ⟨i0, hi, hz0, hz1, hz2⟩ := info_parts aG7
 have Hi := Lib.hid hi; clear hi
 have Hz0 := Lib.hid hz0; clear hz0
 have Hz1 := Lib.hid hz1; clear hz1
 have Hz2 := Lib.hid hz2; clear hz2
 go_enter Tryz.func101, Tryz.ntmps101
 go_wp2
 have hst : Hid ((w.alloc (Obj.cells #[] 74)).ownsRow w.heap.size 74 2 (.slice (some ⟨w.heap.size, 0, none⟩) 0 0) 0 []) := World.ownsRow_made w #[] 0 (Nat.le_refl _) (by simp) (by simp)
 have hbst : Hid (Below w.heap.size w (w.alloc (Obj.cells #[] 74))) := (Below.refl _ _).alloc (Nat.le_refl _) _
 go_loopw [5, 6] (fun out i wr => ∃ (k : Nat) (acc : List Ent), k ≤ n ∧ i = .int .i64 k ∧ acc = (es.take k).filter (fun e => decide (e.1 ≠ key)) ∧ wr.ownsRow w.heap.size 74 2 out acc.length (yK acc) ∧ Below w.heap.size w wr) (fun _ i _ => n - (intOf i).toNat)
 case atStart => exact ⟨0, [], Nat.zero_le _, rfl, by simp, hst.out, hbst.out⟩
 case round =>
  obtain ⟨k, acc, hk, rfl, hacc, hown, hb⟩ := hrel
  have hal : acc.length ≤ k := by rw [hacc]; exact aG2 _ _ _
  have Hacc := Lib.hid hacc; clear hacc
  have Hown := Lib.hid hown; clear hown
  by_cases hlt : k < n
  · have hke : k < es.length := by rw [Hlen.out]; exact hlt
    obtain ⟨b, off, rfl, hbl, hbl2, hc1, hc2⟩ := hr.ent hb hke
    have hbs := hb.size
    have hsn := Lib.hid (aKz (fun e => decide (e.1 ≠ key)) es k hke)
    by_cases he : es[k].1 = key
    · have ht2 : (es[k].1.toList == key.toList) = true := by rw [he]; simp
      have hfin := Lib.hid (show acc = (es.take (k + 1)).filter (fun e => decide (e.1 ≠ key)) by rw [hsn.out, ← Hacc.out]; simp [he])
      clear he
      go_wp2
      go_roundw
      case rel => exact ⟨k + 1, acc, by omega, by go_num, hfin.out, Hown.out, hb⟩
      case measure => simp [intOf]; omega
    · have ht2 : (es[k].1.toList == key.toList) = false := by rw [vP]; exact decide_eq_false he
      have hfin := Lib.hid (show acc ++ [es[k]] = (es.take (k + 1)).filter (fun e => decide (e.1 ≠ key)) by rw [hsn.out, ← Hacc.out]; simp [he])
      clear he hsn
      generalize es[k] = ek at *
      obtain ⟨ek1, ek2⟩ := ek
      go_wp2_with (at_builtin; refine zP wr rfl _ _ 31 rfl w.heap.size 74 i0 _ 2 24 Tryz.underlying31 Hi.out Hz0.out Hz1.out Hz2.out rfl (by decide) u5 acc.length (yK acc) rfl Hown.out #[.string ek1, .int .i64 ek2] 1 1 rfl rfl (jk ek1 ek2) (by omega) (by decide) hbs ?_; intro v' w1 hown' hgrow; have Hown' := Lib.hid hown'; clear hown')
      go_roundw
      case rel => exact ⟨k + 1, acc ++ [(ek1, ek2)], by omega, by go_num, hfin.out, by rw [List.length_append, jK]; exact Hown'.out, below_grown hb hgrow Hown.out hbs (Nat.le_refl _)⟩
      case measure => simp [intOf]; omega
  · have hfin := Lib.hid (show acc = aDQ es key by rw [Hacc.out, List.take_of_length_le (by rw [Hlen.out]; omega)]; rfl)
    go_wp2
    go_ret
    exact ⟨_, rfl, by rw [← hfin.out]; exact Hown.out, hb⟩
def aLJ (e : TypeId) (r : List Ent × Int) (w : World) (e' : Ending) (w' : World) : Prop := ∃ v, e' = .returned (.tuple #[v, .int .i64 r.2]) ∧ w'.ownsRow w.heap.size e 2 v r.1.length (yK r.1) ∧ Below w.heap.size w w'
theorem aLJ.mk {e : TypeId} {r : List Ent × Int} {l : List Ent} {c : Int} {v : Value} {w w' : World} (h : r = (l, c)) (ho : w'.ownsRow w.heap.size e 2 v l.length (yK l)) (hb : Below w.heap.size w w') : aLJ e r w (.returned (.tuple #[v, .int .i64 c])) w' := ⟨v, by rw [h], by rw [h]; exact ho, hb⟩
theorem Blk.two {w : World} {g : Nat} {t : TypeId} {cs : Array Value} (h : Blk w g t cs) {k : Nat} (hk : k * 2 + 1 < cs.size) :
 ∃ y0 y1, w.cell? ⟨g, k * 2, none⟩ = some y0 ∧ w.cell? ⟨g, k * 2 + 1, none⟩ = some y1 ∧ w.frozen? ⟨g, k * 2, none⟩ = false ∧ w.frozen? ⟨g, k * 2 + 1, none⟩ = false :=
 ⟨_, _, (h.cell _).trans (Array.getElem?_eq_getElem (by omega)), (h.cell _).trans (Array.getElem?_eq_getElem hk), h.frozen _, h.frozen _⟩
instance edt_dec : DecidableEq Edt := fun a b => decidable_of_iff (a.key = b.key ∧ a.val = b.val ∧ a.gone = b.gone) ⟨fun ⟨h1, h2, h3⟩ => by cases a; cases b; simp at *; exact ⟨h1, h2, h3⟩, fun h => by subst h; exact ⟨rfl, rfl, rfl⟩⟩
theorem aNy : (Tryz.prog.info? 140).map (fun i => (i.zero, i.size, i.bytes)) = some (some (.agg #[.string ByteArray.empty, .int .i64 0, .bool false]), 3, 32) := by kernel_rfl
theorem Blk.three {w : World} {g : Nat} {t : TypeId} {cs : Array Value} (h : Blk w g t cs) {k : Nat} (hk : k * 3 + 2 < cs.size) :
 ∃ y0 y1 y2, w.cell? ⟨g, k * 3, none⟩ = some y0 ∧ w.cell? ⟨g, k * 3 + 1, none⟩ = some y1 ∧ w.cell? ⟨g, k * 3 + 2, none⟩ = some y2 ∧ w.frozen? ⟨g, k * 3, none⟩ = false ∧ w.frozen? ⟨g, k * 3 + 1, none⟩ = false ∧ w.frozen? ⟨g, k * 3 + 2, none⟩ = false :=
 ⟨_, _, _, (h.cell _).trans (Array.getElem?_eq_getElem (by omega)), (h.cell _).trans (Array.getElem?_eq_getElem (by omega)), (h.cell _).trans (Array.getElem?_eq_getElem hk), h.frozen _, h.frozen _, h.frozen _⟩
def aSg : Nat → Int → ByteArray → ByteArray
 | 0, _, t => t
 | f + 1, j, t => if 0 < j then aSg f (j / 10) (strOfNums [48 + j % 10] ++ t) else t
def aTf (k : Int) : ByteArray := if 0 < k then ⟨#[109]⟩ ++ aSg k.toNat k ⟨#[]⟩ else ⟨#[109, 48]⟩
def marked : Nat → Int → List Ent
 | 0, _ => []
 | n + 1, k => (aTf k, k + 1) :: marked n (k + 2)
def yO : Nat → List Ent → List Ent → List Edt
 | 0, _, _ => []
 | _ + 1, [], [] => []
 | f + 1, x :: a, [] => ⟨x.1, 0, true⟩ :: yO f a []
 | f + 1, [], y :: b => ⟨y.1, y.2, false⟩ :: yO f [] b
 | f + 1, x :: a, y :: b => if klt x.1 y.1 then ⟨x.1, 0, true⟩ :: yO f a (y :: b) else if klt y.1 x.1 then ⟨y.1, y.2, false⟩ :: yO f (x :: a) b else (if x.2 = y.2 then [] else [⟨y.1, y.2, false⟩]) ++ yO f a b
def zw (a b : List Ent) : List Edt := yO (a.length + b.length) a b
theorem aNj (f : Nat) (a b : List Ent) (ha : a = []) (hb : b = []) : yO f a b = [] := by subst ha; subst hb; cases f <;> rfl
theorem aGV {f : Nat} {a b : List Ent} {p q : Nat} (hp : p < a.length) (h : b.length ≤ q ∨ ∃ hq : q < b.length, klt a[p].1 b[q].1 = true) : yO (f + 1) (a.drop p) (b.drop q) = ⟨a[p].1, 0, true⟩ :: yO f (a.drop (p + 1)) (b.drop q) := by
 rw [List.drop_eq_getElem_cons hp]
 rcases h with h | ⟨hq, h⟩
 · rw [List.drop_eq_nil_of_le h]; rfl
 · rw [List.drop_eq_getElem_cons hq, yO, if_pos h]
theorem aHz {f : Nat} {a b : List Ent} {p q : Nat} (hq : q < b.length) (h : a.length ≤ p ∨ ∃ hp : p < a.length, klt b[q].1 a[p].1 = true) : yO (f + 1) (a.drop p) (b.drop q) = ⟨b[q].1, b[q].2, false⟩ :: yO f (a.drop p) (b.drop (q + 1)) := by
 rw [List.drop_eq_getElem_cons hq]
 rcases h with h | ⟨hp, h⟩
 · rw [List.drop_eq_nil_of_le h]; rfl
 · rw [List.drop_eq_getElem_cons hp, yO, if_neg (by rw [aIP h]; simp), if_pos h]
theorem aM6 {f : Nat} {a b : List Ent} {p q : Nat} (hp : p < a.length) (hq : q < b.length) (h1 : klt a[p].1 b[q].1 = false) (h2 : klt b[q].1 a[p].1 = false) : yO (f + 1) (a.drop p) (b.drop q) = (if a[p].2 = b[q].2 then [] else [⟨b[q].1, b[q].2, false⟩]) ++ yO f (a.drop (p + 1)) (b.drop (q + 1)) := by
 rw [List.drop_eq_getElem_cons hp, List.drop_eq_getElem_cons hq, yO, if_neg (by rw [h1]; simp), if_neg (by rw [h2]; simp)]
def aQ7 (e : TypeId) (l : List Edt) (w : World) (e' : Ending) (w' : World) : Prop := ∃ v, e' = .returned v ∧ w'.ownsRow w.heap.size e 3 v l.length (vO l) ∧ Below w.heap.size w w'
theorem aAA (es : List Edt) (k : ByteArray) (v : Int) (g : Bool) : vO (es ++ [⟨k, v, g⟩]) = vO es ++ #[Value.string k, Value.int .i64 v, Value.bool g].toList := by rw [aJd]; rfl
theorem aIB (k : ByteArray) (v : Int) (g : Bool) : ∀ u ∈ #[Value.string k, Value.int .i64 v, Value.bool g].toList, u.oneCell' = true := by
 intro u hu
 simp at hu
 rcases hu with rfl | rfl | rfl <;> rfl
set_option maxHeartbeats 4000000 in
set_option maxRecDepth 100000 in
theorem aLC (A : Option Addr) (n c : Nat) (es : List Ent) (A' : Option Addr) (n' c' : Nat) (es' : List Ent) (w : World) (hr : Rd w 2 A n (yK es)) (hr' : Rd w 2 A' n' (yK es')) (hm : n ≤ 4096) (hm' : n' ≤ 4096) :
 Calls Tryz.prog 102 #[.slice A n c, .slice A' n' c'] w (aQ7 140 (zw es es') w) := by
 have hlen := hr.len
 have hlen' := hr'.len
 have Hlen := Lib.hid hlen; clear hlen
 have Hlen' := Lib.hid hlen'; clear hlen'
 obtain ⟨i0, hi, hz0, hz1, hz2⟩ := info_parts aNy
 have Hi := Lib.hid hi; clear hi
 have Hz0 := Lib.hid hz0; clear hz0
 have Hz1 := Lib.hid hz1; clear hz1
 have Hz2 := Lib.hid hz2; clear hz2
 go_enter Tryz.func102, Tryz.ntmps102
 go_wp2
 have hst : Hid ((w.alloc (Obj.cells #[] 140)).ownsRow w.heap.size 140 3 (.slice (some ⟨w.heap.size, 0, none⟩) 0 0) 0 []) := World.ownsRow_made w #[] 0 (Nat.le_refl _) (by simp) (by simp)
 have hbst : Hid (Below w.heap.size w (w.alloc (Obj.cells #[] 140))) := (Below.refl _ _).alloc (Nat.le_refl _) _
 go_loopw [5, 6, 7] (fun out i j wr => ∃ (p q f : Nat) (acc : List Edt), p ≤ n ∧ q ≤ n' ∧ i = .int .i64 p ∧ j = .int .i64 q ∧ (n - p) + (n' - q) ≤ f ∧ acc.length ≤ p + q ∧ acc ++ yO f (es.drop p) (es'.drop q) = zw es es' ∧ wr.ownsRow w.heap.size 140 3 out acc.length (vO acc) ∧ Below w.heap.size w wr) (fun _ i j _ => (n - (intOf i).toNat) + (n' - (intOf j).toNat))
 case atStart => exact ⟨0, 0, es.length + es'.length, [], Nat.zero_le _, Nat.zero_le _, rfl, rfl, by rw [Hlen.out, Hlen'.out]; omega, Nat.le_refl _, by simp [zw], hst.out, hbst.out⟩
 case round =>
  obtain ⟨p, q, f, acc, hp, hq, rfl, rfl, hf, hal, hacc, hown, hb⟩ := hrel
  have Hacc := Lib.hid hacc; clear hacc
  have Hown := Lib.hid hown; clear hown
  have hbs := hb.size
  by_cases hlt : p < n
  · have hpe : p < es.length := by rw [Hlen.out]; exact hlt
    obtain ⟨b1, o1, rfl, hl1, hl1x, hc1, hc2⟩ := hr.ent hb hpe
    have hWc1 := cellW hb hl1 hc1
    have hWc2 := cellW hb hl1 hc2
    obtain ⟨f', hf'⟩ : ∃ f', f = f' + 1 := ⟨f - 1, by omega⟩
    subst hf'
    by_cases hlq : q < n'
    case neg =>
     have hqn : q = n' := by omega
     have hte : ((q : Int) == (n' : Int)) = true := beq_iff_eq.2 (by omega)
     have hnew := Lib.hid (show (acc ++ [⟨es[p].1, 0, true⟩]) ++ yO f' (es.drop (p + 1)) (es'.drop q) = zw es es' by rw [← Hacc.out, aGV hpe (.inl (by rw [Hlen'.out]; omega))]; simp)
     clear hqn Hacc
     generalize es[p] = ek at *
     obtain ⟨k1, v1⟩ := ek
     go_wp2
     have hA_c1 := fun y : Aft wr => y.cell hl1x hc1
     have hA_c2 := fun y : Aft wr => y.cell hl1x hc2
     refine xW (by kernel_rfl) (by kernel_rfl) ?_
     repeat (go_big_quiet_step (fail))
     refine wpQuiet_nil ?_
     rintro _ ⟨y, rfl⟩
     clear hA_c1 hA_c2
     replace hb := um hb y.below
     replace Hown := Lib.hid (ownsRow_below Hown.out y.below (Nat.le_refl _))
     replace hbs := hb.size
     replace hc1 := cellS hb hl1 hWc1
     replace hc2 := cellS hb hl1 hWc2
     replace hl1x := Nat.lt_of_lt_of_le hl1 hbs
     generalize y.at_ = w3 at *
     go_wp2_with (at_builtin; refine zP w3 rfl _ _ 102 rfl w.heap.size 140 i0 _ 3 32 Tryz.underlying102 Hi.out Hz0.out Hz1.out Hz2.out rfl (by decide) u5 acc.length (vO acc) rfl Hown.out #[.string k1, .int .i64 0, .bool true] 1 1 rfl rfl (aIB _ _ _) (by omega) (by decide) hbs ?_; intro v' w9 hown' hgrow; have Hown' := Lib.hid hown'; clear hown')
     go_roundw
     case rel => exact ⟨p + 1, q, f', acc ++ [⟨k1, 0, true⟩], by omega, hq, by go_num, rfl, by omega, by rw [List.length_append, List.length_singleton]; omega, hnew.out, by rw [List.length_append, aAA]; exact Hown'.out, below_grown hb hgrow Hown.out hbs (Nat.le_refl _)⟩
     case measure => simp [intOf]; omega
    have hqe : q < es'.length := by rw [Hlen'.out]; exact hlq
    obtain ⟨b2, o2, rfl, hl2, hl2x, hc3, hc4⟩ := hr'.ent hb hqe
    have hWc3 := cellW hb hl2 hc3
    have hWc4 := cellW hb hl2 hc4
    have hte : ((q : Int) == (n' : Int)) = false := beq_eq_false_iff_ne.2 (by omega)
    have htp : ((p : Int) == (n : Int)) = false := beq_eq_false_iff_ne.2 (by omega)
    have hpi : (p : Int) < (n : Int) := by omega
    cases hk1 : klt es[p].1 es'[q].1 with
    | true =>
     have ht1 : Op.bytesLess es[p].1.toList es'[q].1.toList = true := hk1
     have hnew := Lib.hid (show (acc ++ [⟨es[p].1, 0, true⟩]) ++ yO f' (es.drop (p + 1)) (es'.drop q) = zw es es' by rw [← Hacc.out, aGV hpe (.inr ⟨hqe, hk1⟩)]; simp)
     clear Hacc hk1
     generalize es[p] = ek at *
     generalize es'[q] = ek2 at *
     obtain ⟨k1, v1⟩ := ek
     obtain ⟨k2, v2⟩ := ek2
     go_wp2
     have hA_c1 := fun y : Aft wr => y.cell hl1x hc1
     have hA_c2 := fun y : Aft wr => y.cell hl1x hc2
     have hA_c3 := fun y : Aft wr => y.cell hl2x hc3
     have hA_c4 := fun y : Aft wr => y.cell hl2x hc4
     refine xW (by kernel_rfl) (by kernel_rfl) ?_
     repeat (go_big_quiet_step (fail))
     refine wpQuiet_nil ?_
     rintro _ ⟨y, rfl⟩
     clear hA_c1 hA_c2 hA_c3 hA_c4
     replace hb := um hb y.below
     replace Hown := Lib.hid (ownsRow_below Hown.out y.below (Nat.le_refl _))
     replace hbs := hb.size
     replace hc1 := cellS hb hl1 hWc1
     replace hc2 := cellS hb hl1 hWc2
     replace hc3 := cellS hb hl2 hWc3
     replace hc4 := cellS hb hl2 hWc4
     replace hl1x := Nat.lt_of_lt_of_le hl1 hbs
     replace hl2x := Nat.lt_of_lt_of_le hl2 hbs
     generalize y.at_ = w3 at *
     go_wp2_with (at_builtin; refine zP w3 rfl _ _ 102 rfl w.heap.size 140 i0 _ 3 32 Tryz.underlying102 Hi.out Hz0.out Hz1.out Hz2.out rfl (by decide) u5 acc.length (vO acc) rfl Hown.out #[.string k1, .int .i64 0, .bool true] 1 1 rfl rfl (aIB _ _ _) (by omega) (by decide) hbs ?_; intro v' w9 hown' hgrow; have Hown' := Lib.hid hown'; clear hown')
     go_roundw
     case rel => exact ⟨p + 1, q, f', acc ++ [⟨k1, 0, true⟩], by omega, hq, by go_num, rfl, by omega, by rw [List.length_append, List.length_singleton]; omega, hnew.out, by rw [List.length_append, aAA]; exact Hown'.out, below_grown hb hgrow Hown.out hbs (Nat.le_refl _)⟩
     case measure => simp [intOf]; omega
    | false =>
     cases hk2 : klt es'[q].1 es[p].1 with
     | true =>
     have ht1 : Op.bytesLess es[p].1.toList es'[q].1.toList = false := hk1
     have ht2 : Op.bytesLess es'[q].1.toList es[p].1.toList = true := hk2
     have hnew := Lib.hid (show (acc ++ [⟨es'[q].1, es'[q].2, false⟩]) ++ yO f' (es.drop p) (es'.drop (q + 1)) = zw es es' by rw [← Hacc.out, aHz hqe (.inr ⟨hpe, hk2⟩)]; simp)
     clear Hacc hk1 hk2
     generalize es[p] = ek at *
     generalize es'[q] = ek2 at *
     obtain ⟨k1, v1⟩ := ek
     obtain ⟨k2, v2⟩ := ek2
     go_wp2
     have hA_c1 := fun y : Aft wr => y.cell hl1x hc1
     have hA_c2 := fun y : Aft wr => y.cell hl1x hc2
     have hA_c3 := fun y : Aft wr => y.cell hl2x hc3
     have hA_c4 := fun y : Aft wr => y.cell hl2x hc4
     refine xW (by kernel_rfl) (by kernel_rfl) ?_
     repeat (go_big_quiet_step (fail))
     refine wpQuiet_nil ?_
     rintro _ ⟨y, rfl⟩
     clear hA_c1 hA_c2 hA_c3 hA_c4
     replace hb := um hb y.below
     replace Hown := Lib.hid (ownsRow_below Hown.out y.below (Nat.le_refl _))
     replace hbs := hb.size
     replace hc1 := cellS hb hl1 hWc1
     replace hc2 := cellS hb hl1 hWc2
     replace hc3 := cellS hb hl2 hWc3
     replace hc4 := cellS hb hl2 hWc4
     replace hl1x := Nat.lt_of_lt_of_le hl1 hbs
     replace hl2x := Nat.lt_of_lt_of_le hl2 hbs
     generalize y.at_ = w3 at *
     go_wp2
     have hA_c1 := fun y : Aft w3 => y.cell hl1x hc1
     have hA_c2 := fun y : Aft w3 => y.cell hl1x hc2
     have hA_c3 := fun y : Aft w3 => y.cell hl2x hc3
     have hA_c4 := fun y : Aft w3 => y.cell hl2x hc4
     refine xW (by kernel_rfl) (by kernel_rfl) ?_
     repeat (go_big_quiet_step (fail))
     refine wpQuiet_nil ?_
     rintro _ ⟨y, rfl⟩
     clear hA_c1 hA_c2 hA_c3 hA_c4
     replace hb := um hb y.below
     replace Hown := Lib.hid (ownsRow_below Hown.out y.below (Nat.le_refl _))
     replace hbs := hb.size
     replace hc1 := cellS hb hl1 hWc1
     replace hc2 := cellS hb hl1 hWc2
     replace hc3 := cellS hb hl2 hWc3
     replace hc4 := cellS hb hl2 hWc4
     replace hl1x := Nat.lt_of_lt_of_le hl1 hbs
     replace hl2x := Nat.lt_of_lt_of_le hl2 hbs
     generalize y.at_ = w4 at *
     go_wp2
     have hc1x := hl1x
     have hq0 : (0 : Int) ≤ (q : Int) := by omega
     have hq1 : (q : Int) < (n' : Int) := by omega
     clear ht1 ht2 hc1 hc2
     go_region_held3 (fun w' => w'.cell? ⟨b2, o2 + q * 2, none⟩ = some (.string k2) ∧ w'.cell? ⟨b2, o2 + q * 2 + 1, none⟩ = some (.int .i64 v2))
     (first | go_keep | (go_split_ands; refine ⟨?_, ?_⟩ <;> (rw [hgrow.cell_far _ (by simp; omega) (fun h => by have h2 : w.heap.size ≤ b2 := (Hown.out.lt _ h.symm).1; omega)]; assumption)))
     ((refine step_append_lies _ (by rfl) _ _ _ (by rfl) w.heap.size 140 i0 _ 3 32 Tryz.underlying102 Hi.out Hz0.out Hz1.out Hz2.out rfl (by omega) u5 acc.length (vO acc) (by rfl) ((Hown.out.alloc _).drew) ⟨w4.heap.size, 0, none⟩ 1 1 [.string k2, .int .i64 v2, .bool false] (by rfl) (by rfl) (World.news_of_block (cs := #[.string k2, .int .i64 v2, .bool false]) (t := 140) (fr := (0, 0)) (heap_alloc_new w4 _)) (by simp [Value.oneCell']) (by omega) (by unfold maxLen; omega) (by omega) (by simp; omega) (w4.heap.size + 1) (by simp) ?_; intro gg cap w9 hown' hgrow hat hlt9))
     have hb9 : Below w.heap.size w w9 := below_grown (hb.alloc hbs _).drew hgrow ((Hown.out.alloc _).drew) (by simp; omega) (Nat.le_refl _)
     have Hown' := Lib.hid hown'
     clear hown' hgrow hat hlt9 hc1x
     go_wp2
     go_roundw
     case rel => exact ⟨p, q + 1, f', acc ++ [⟨k2, v2, false⟩], by omega, by omega, rfl, by go_num, by omega, by rw [List.length_append, List.length_singleton]; omega, hnew.out, by rw [List.length_append, aAA]; exact Hown'.out, hb9⟩
     case measure => simp [intOf]; omega
     | false =>
     have ht1 : Op.bytesLess es[p].1.toList es'[q].1.toList = false := hk1
     have ht2 : Op.bytesLess es'[q].1.toList es[p].1.toList = false := hk2
     have hdb := aM6 (f := f') hpe hqe hk1 hk2
     by_cases hvv : es[p].2 = es'[q].2
     · have hnew := Lib.hid (show acc ++ yO f' (es.drop (p + 1)) (es'.drop (q + 1)) = zw es es' by rw [← Hacc.out, hdb, if_pos hvv]; simp)
       have htv : (es[p].2 != es'[q].2) = false := by rw [hvv]; simp
       clear Hacc hk1 hk2 hdb hvv
       generalize es[p] = ek at *
       generalize es'[q] = ek2 at *
       obtain ⟨k1, v1⟩ := ek
       obtain ⟨k2, v2⟩ := ek2
       go_wp2
       have hA_c1 := fun y : Aft wr => y.cell hl1x hc1
       have hA_c2 := fun y : Aft wr => y.cell hl1x hc2
       have hA_c3 := fun y : Aft wr => y.cell hl2x hc3
       have hA_c4 := fun y : Aft wr => y.cell hl2x hc4
       refine xW (by kernel_rfl) (by kernel_rfl) ?_
       repeat (go_big_quiet_step (fail))
       refine wpQuiet_nil ?_
       rintro _ ⟨y, rfl⟩
       clear hA_c1 hA_c2 hA_c3 hA_c4
       replace hb := um hb y.below
       replace Hown := Lib.hid (ownsRow_below Hown.out y.below (Nat.le_refl _))
       replace hbs := hb.size
       replace hc1 := cellS hb hl1 hWc1
       replace hc2 := cellS hb hl1 hWc2
       replace hc3 := cellS hb hl2 hWc3
       replace hc4 := cellS hb hl2 hWc4
       replace hl1x := Nat.lt_of_lt_of_le hl1 hbs
       replace hl2x := Nat.lt_of_lt_of_le hl2 hbs
       generalize y.at_ = w3 at *
       go_wp2
       have hA_c1 := fun y : Aft w3 => y.cell hl1x hc1
       have hA_c2 := fun y : Aft w3 => y.cell hl1x hc2
       have hA_c3 := fun y : Aft w3 => y.cell hl2x hc3
       have hA_c4 := fun y : Aft w3 => y.cell hl2x hc4
       refine xW (by kernel_rfl) (by kernel_rfl) ?_
       repeat (go_big_quiet_step (fail))
       refine wpQuiet_nil ?_
       rintro _ ⟨y, rfl⟩
       clear hA_c1 hA_c2 hA_c3 hA_c4
       replace hb := um hb y.below
       replace Hown := Lib.hid (ownsRow_below Hown.out y.below (Nat.le_refl _))
       replace hbs := hb.size
       replace hc1 := cellS hb hl1 hWc1
       replace hc2 := cellS hb hl1 hWc2
       replace hc3 := cellS hb hl2 hWc3
       replace hc4 := cellS hb hl2 hWc4
       replace hl1x := Nat.lt_of_lt_of_le hl1 hbs
       replace hl2x := Nat.lt_of_lt_of_le hl2 hbs
       generalize y.at_ = w4 at *
       go_wp2
       have hA_c1 := fun y : Aft w4 => y.cell hl1x hc1
       have hA_c2 := fun y : Aft w4 => y.cell hl1x hc2
       have hA_c3 := fun y : Aft w4 => y.cell hl2x hc3
       have hA_c4 := fun y : Aft w4 => y.cell hl2x hc4
       refine xW (by kernel_rfl) (by kernel_rfl) ?_
       repeat (go_big_quiet_step (fail))
       refine wpQuiet_nil ?_
       rintro _ ⟨y, rfl⟩
       clear hA_c1 hA_c2 hA_c3 hA_c4
       replace hb := um hb y.below
       replace Hown := Lib.hid (ownsRow_below Hown.out y.below (Nat.le_refl _))
       replace hbs := hb.size
       replace hc1 := cellS hb hl1 hWc1
       replace hc2 := cellS hb hl1 hWc2
       replace hc3 := cellS hb hl2 hWc3
       replace hc4 := cellS hb hl2 hWc4
       replace hl1x := Nat.lt_of_lt_of_le hl1 hbs
       replace hl2x := Nat.lt_of_lt_of_le hl2 hbs
       generalize y.at_ = w5 at *
       go_wp2
       go_roundw
       case rel => exact ⟨p + 1, q + 1, f', acc, by omega, by omega, by go_num, by go_num, by omega, by omega, hnew.out, Hown.out, hb⟩
       case measure => simp [intOf]; omega
     · have hnew := Lib.hid (show (acc ++ [⟨es'[q].1, es'[q].2, false⟩]) ++ yO f' (es.drop (p + 1)) (es'.drop (q + 1)) = zw es es' by rw [← Hacc.out, hdb, if_neg hvv]; simp)
       have htv : (es[p].2 != es'[q].2) = true := bne_iff_ne.2 hvv
       clear Hacc hk1 hk2 hdb hvv
       generalize es[p] = ek at *
       generalize es'[q] = ek2 at *
       obtain ⟨k1, v1⟩ := ek
       obtain ⟨k2, v2⟩ := ek2
       go_wp2
       have hA_c1 := fun y : Aft wr => y.cell hl1x hc1
       have hA_c2 := fun y : Aft wr => y.cell hl1x hc2
       have hA_c3 := fun y : Aft wr => y.cell hl2x hc3
       have hA_c4 := fun y : Aft wr => y.cell hl2x hc4
       refine xW (by kernel_rfl) (by kernel_rfl) ?_
       repeat (go_big_quiet_step (fail))
       refine wpQuiet_nil ?_
       rintro _ ⟨y, rfl⟩
       clear hA_c1 hA_c2 hA_c3 hA_c4
       replace hb := um hb y.below
       replace Hown := Lib.hid (ownsRow_below Hown.out y.below (Nat.le_refl _))
       replace hbs := hb.size
       replace hc1 := cellS hb hl1 hWc1
       replace hc2 := cellS hb hl1 hWc2
       replace hc3 := cellS hb hl2 hWc3
       replace hc4 := cellS hb hl2 hWc4
       replace hl1x := Nat.lt_of_lt_of_le hl1 hbs
       replace hl2x := Nat.lt_of_lt_of_le hl2 hbs
       generalize y.at_ = w3 at *
       go_wp2
       have hA_c1 := fun y : Aft w3 => y.cell hl1x hc1
       have hA_c2 := fun y : Aft w3 => y.cell hl1x hc2
       have hA_c3 := fun y : Aft w3 => y.cell hl2x hc3
       have hA_c4 := fun y : Aft w3 => y.cell hl2x hc4
       refine xW (by kernel_rfl) (by kernel_rfl) ?_
       repeat (go_big_quiet_step (fail))
       refine wpQuiet_nil ?_
       rintro _ ⟨y, rfl⟩
       clear hA_c1 hA_c2 hA_c3 hA_c4
       replace hb := um hb y.below
       replace Hown := Lib.hid (ownsRow_below Hown.out y.below (Nat.le_refl _))
       replace hbs := hb.size
       replace hc1 := cellS hb hl1 hWc1
       replace hc2 := cellS hb hl1 hWc2
       replace hc3 := cellS hb hl2 hWc3
       replace hc4 := cellS hb hl2 hWc4
       replace hl1x := Nat.lt_of_lt_of_le hl1 hbs
       replace hl2x := Nat.lt_of_lt_of_le hl2 hbs
       generalize y.at_ = w4 at *
       go_wp2
       have hA_c1 := fun y : Aft w4 => y.cell hl1x hc1
       have hA_c2 := fun y : Aft w4 => y.cell hl1x hc2
       have hA_c3 := fun y : Aft w4 => y.cell hl2x hc3
       have hA_c4 := fun y : Aft w4 => y.cell hl2x hc4
       refine xW (by kernel_rfl) (by kernel_rfl) ?_
       repeat (go_big_quiet_step (fail))
       refine wpQuiet_nil ?_
       rintro _ ⟨y, rfl⟩
       clear hA_c1 hA_c2 hA_c3 hA_c4
       replace hb := um hb y.below
       replace Hown := Lib.hid (ownsRow_below Hown.out y.below (Nat.le_refl _))
       replace hbs := hb.size
       replace hc1 := cellS hb hl1 hWc1
       replace hc2 := cellS hb hl1 hWc2
       replace hc3 := cellS hb hl2 hWc3
       replace hc4 := cellS hb hl2 hWc4
       replace hl1x := Nat.lt_of_lt_of_le hl1 hbs
       replace hl2x := Nat.lt_of_lt_of_le hl2 hbs
       generalize y.at_ = w5 at *
       go_wp2
       have hc1x := hl1x
       have hq0 : (0 : Int) ≤ (q : Int) := by omega
       have hq1 : (q : Int) < (n' : Int) := by omega
       clear ht1 ht2 htv hc1 hc2
       go_region_held3 (fun w' => w'.cell? ⟨b2, o2 + q * 2, none⟩ = some (.string k2) ∧ w'.cell? ⟨b2, o2 + q * 2 + 1, none⟩ = some (.int .i64 v2))
       (first | go_keep | (go_split_ands; refine ⟨?_, ?_⟩ <;> (rw [hgrow.cell_far _ (by simp; omega) (fun h => by have h2 : w.heap.size ≤ b2 := (Hown.out.lt _ h.symm).1; omega)]; assumption)))
       ((refine step_append_lies _ (by rfl) _ _ _ (by rfl) w.heap.size 140 i0 _ 3 32 Tryz.underlying102 Hi.out Hz0.out Hz1.out Hz2.out rfl (by omega) u5 acc.length (vO acc) (by rfl) ((Hown.out.alloc _).drew) ⟨w5.heap.size, 0, none⟩ 1 1 [.string k2, .int .i64 v2, .bool false] (by rfl) (by rfl) (World.news_of_block (cs := #[.string k2, .int .i64 v2, .bool false]) (t := 140) (fr := (0, 0)) (heap_alloc_new w5 _)) (by simp [Value.oneCell']) (by omega) (by unfold maxLen; omega) (by omega) (by simp; omega) (w5.heap.size + 1) (by simp) ?_; intro gg cap w9 hown' hgrow hat hlt9))
       have hb9 : Below w.heap.size w w9 := below_grown (hb.alloc hbs _).drew hgrow ((Hown.out.alloc _).drew) (by simp; omega) (Nat.le_refl _)
       have Hown' := Lib.hid hown'
       clear hown' hgrow hat hlt9 hc1x
       go_wp2
       go_roundw
       case rel => exact ⟨p + 1, q + 1, f', acc ++ [⟨k2, v2, false⟩], by omega, by omega, by go_num, by go_num, by omega, by rw [List.length_append, List.length_singleton]; omega, hnew.out, by rw [List.length_append, aAA]; exact Hown'.out, hb9⟩
       case measure => simp [intOf]; omega
  · have hpn : p = n := by omega
    have htp : ((p : Int) == (n : Int)) = true := beq_iff_eq.2 (by omega)
    by_cases hlq : q < n'
    · have hqe : q < es'.length := by rw [Hlen'.out]; exact hlq
      obtain ⟨b2, o2, rfl, hl2, hl2x, hc3, hc4⟩ := hr'.ent hb hqe
      have hWc3 := cellW hb hl2 hc3
      have hWc4 := cellW hb hl2 hc4
      obtain ⟨f', hf'⟩ : ∃ f', f = f' + 1 := ⟨f - 1, by omega⟩
      subst hf'
      have hte : ((q : Int) == (n' : Int)) = false := beq_eq_false_iff_ne.2 (by omega)
      have hpi : ¬ (p : Int) < (n : Int) := by omega
      have hnew := Lib.hid (show (acc ++ [⟨es'[q].1, es'[q].2, false⟩]) ++ yO f' (es.drop p) (es'.drop (q + 1)) = zw es es' by rw [← Hacc.out, aHz hqe (.inl (by rw [Hlen.out]; omega))]; simp)
      clear Hacc hpn
      generalize es'[q] = ek2 at *
      obtain ⟨k2, v2⟩ := ek2
      have hdp : decide ((p : Int) < (n : Int)) = false := decide_eq_false hpi
      go_wp2
      have hA_c3 := fun y : Aft wr => y.cell hl2x hc3
      have hA_c4 := fun y : Aft wr => y.cell hl2x hc4
      refine xW (by kernel_rfl) (by kernel_rfl) ?_
      repeat (go_big_quiet_step (fail))
      refine wpQuiet_nil ?_
      rintro _ ⟨y, rfl⟩
      clear hA_c3 hA_c4
      replace hb := um hb y.below
      replace Hown := Lib.hid (ownsRow_below Hown.out y.below (Nat.le_refl _))
      replace hbs := hb.size
      replace hc3 := cellS hb hl2 hWc3
      replace hc4 := cellS hb hl2 hWc4
      replace hl2x := Nat.lt_of_lt_of_le hl2 hbs
      generalize y.at_ = w3 at *
      go_wp2
      have hA_c3 := fun y : Aft w3 => y.cell hl2x hc3
      have hA_c4 := fun y : Aft w3 => y.cell hl2x hc4
      refine xW (by kernel_rfl) (by kernel_rfl) ?_
      repeat (go_big_quiet_step (fail))
      refine wpQuiet_nil ?_
      rintro _ ⟨y, rfl⟩
      clear hA_c3 hA_c4
      replace hb := um hb y.below
      replace Hown := Lib.hid (ownsRow_below Hown.out y.below (Nat.le_refl _))
      replace hbs := hb.size
      replace hc3 := cellS hb hl2 hWc3
      replace hc4 := cellS hb hl2 hWc4
      replace hl2x := Nat.lt_of_lt_of_le hl2 hbs
      generalize y.at_ = w4 at *
      go_wp2
      have hc1x := hl2x
      have hq0 : (0 : Int) ≤ (q : Int) := by omega
      have hq1 : (q : Int) < (n' : Int) := by omega
      go_region_held3 (fun w' => w'.cell? ⟨b2, o2 + q * 2, none⟩ = some (.string k2) ∧ w'.cell? ⟨b2, o2 + q * 2 + 1, none⟩ = some (.int .i64 v2))
      (first | go_keep | (go_split_ands; refine ⟨?_, ?_⟩ <;> (rw [hgrow.cell_far _ (by simp; omega) (fun h => by have h2 : w.heap.size ≤ b2 := (Hown.out.lt _ h.symm).1; omega)]; assumption)))
      ((refine step_append_lies _ (by rfl) _ _ _ (by rfl) w.heap.size 140 i0 _ 3 32 Tryz.underlying102 Hi.out Hz0.out Hz1.out Hz2.out rfl (by omega) u5 acc.length (vO acc) (by rfl) ((Hown.out.alloc _).drew) ⟨w4.heap.size, 0, none⟩ 1 1 [.string k2, .int .i64 v2, .bool false] (by rfl) (by rfl) (World.news_of_block (cs := #[.string k2, .int .i64 v2, .bool false]) (t := 140) (fr := (0, 0)) (heap_alloc_new w4 _)) (by simp [Value.oneCell']) (by omega) (by unfold maxLen; omega) (by omega) (by simp; omega) (w4.heap.size + 1) (by simp) ?_; intro gg cap w9 hown' hgrow hat hlt9))
      have hb9 : Below w.heap.size w w9 := below_grown (hb.alloc hbs _).drew hgrow ((Hown.out.alloc _).drew) (by simp; omega) (Nat.le_refl _)
      have Hown' := Lib.hid hown'
      clear hown' hgrow hat hlt9 hc1x
      go_wp2
      go_roundw
      case rel => exact ⟨p, q + 1, f', acc ++ [⟨k2, v2, false⟩], by omega, by omega, rfl, by go_num, by omega, by rw [List.length_append, List.length_singleton]; omega, hnew.out, by rw [List.length_append, aAA]; exact Hown'.out, hb9⟩
      case measure => simp [intOf]; omega
    · have hfin := Lib.hid (show acc = zw es es' by rw [← Hacc.out, aNj _ _ _ (List.drop_eq_nil_of_le (by rw [Hlen.out]; omega)) (List.drop_eq_nil_of_le (by rw [Hlen'.out]; omega)), List.append_nil])
      clear hpn
      go_wp2
      go_ret
      exact ⟨_, rfl, by rw [← hfin.out]; exact Hown.out, hb⟩
end Go.Proofs.YtfomjajdfaoogaaGreatDoor
namespace Go.Proofs.YtfomjajdfaoogaaGreatDoor.AM
open Go Go.RowKit
def qA (k : ByteArray) : AV := .v (.string k)
def yo (x : Int) : AV := .v (.int .i64 x)
def yB (e : Ent) : AV := .agg [.v (.string e.1), .v (.int .i64 e.2)]
def uf (e : Edt) : AV := .agg [.v (.string e.key), .v (.int .i64 e.val), .v (.bool e.gone)]
theorem x9 {α : Type} {f : α → AV} (h : ∀ a, yj (f a)) : ∀ l : List α, uJ (l.map f)
 | [] => by simp only [List.map_nil]; unfold uJ; trivial
 | a :: l => by simp only [List.map_cons]; unfold uJ; exact ⟨h a, x9 h l⟩
theorem aEd : ∀ ob ∈ ([] : List OB), aAD ob := fun ob h => by cases h
theorem aEe {t sz : Nat} {xs : List AV} (h : uJ xs) : ∀ ob ∈ [(⟨.s t, sz, xs⟩ : OB)], aAD ob := fun ob hm => by rw [List.mem_singleton] at hm; subst hm; exact h
theorem aL2 {t sz t' sz' : Nat} {xs xs' : List AV} (h : uJ xs) (h' : uJ xs') : ∀ ob ∈ [(⟨.s t, sz, xs⟩ : OB), ⟨.s t', sz', xs'⟩], aAD ob := fun ob hm => by
 rcases List.mem_cons.1 hm with rfl | hm
 · exact h
 · exact aEe h' ob hm
theorem qV (e : Ent) : yj (yB e) := by unfold yB; simp [yj, uJ]
theorem aA1 (e : Edt) : yj (uf e) := by unfold uf; simp [yj, uJ]
theorem aA4 (e : ByteArray) : yj (qA e) := by unfold qA; simp [yj]
section
variable {S : Nat → Prop} {w : World}
theorem aDD : ∀ {es : List Ent} {cs : List Value}, RL S w (es.map yB) cs ↔ cs = yK es
 | [], cs => by simp only [List.map_nil]; unfold RL; simp [yK]
 | e :: es, cs => by
  simp only [List.map_cons]
  constructor
  · intro h
    unfold RL at h
    obtain ⟨c1, c2, rfl, h1, h2⟩ := h
    rw [aDD.1 h2, qF]
    unfold yB at h1
    simp only [RA, RL] at h1
    obtain ⟨a, b, rfl, ⟨rfl, _⟩, d1, d2, rfl, ⟨rfl, _⟩, rfl⟩ := h1
    rfl
  · intro h
    unfold RL
    refine ⟨[.string e.1, .int .i64 e.2], yK es, by rw [h, qF]; rfl, ?_, aDD.2 rfl⟩
    exact aKV (aAi (c1 := [_]) (aFk rfl) (aAi (c1 := [_]) (aFk rfl) aGy))
theorem aHf : ∀ {es : List Edt} {cs : List Value}, RL S w (es.map uf) cs ↔ cs = vO es
 | [], cs => by simp only [List.map_nil]; unfold RL; simp [vO]
 | e :: es, cs => by
  simp only [List.map_cons]
  constructor
  · intro h
    unfold RL at h
    obtain ⟨c1, c2, rfl, h1, h2⟩ := h
    rw [aHf.1 h2, aGY]
    unfold uf at h1
    simp only [RA, RL] at h1
    obtain ⟨a, b, rfl, ⟨rfl, _⟩, d1, d2, rfl, ⟨rfl, _⟩, f1, f2, rfl, ⟨rfl, _⟩, rfl⟩ := h1
    rfl
  · intro h
    unfold RL
    refine ⟨[.string e.key, .int .i64 e.val, .bool e.gone], vO es, by rw [h, aGY]; rfl, ?_, aHf.2 rfl⟩
    exact aKV (aAi (c1 := [_]) (aFk rfl) (aAi (c1 := [_]) (aFk rfl) (aAi (c1 := [_]) (aFk rfl) aGy)))
theorem aLO (es : List Ent) : ∀ x ∈ es.map yB, asz x = 2 := fun x hx => by obtain ⟨e, _, rfl⟩ := List.mem_map.1 hx; rfl
theorem aQr (es : List Edt) : ∀ x ∈ es.map uf, asz x = 3 := fun x hx => by obtain ⟨e, _, rfl⟩ := List.mem_map.1 hx; rfl
theorem kS {S0 : Nat → Prop} {hp B V} (hS : ∀ b, S0 b → b < w.heap.size) {es : List Ent} {u : Value} (h : RV S0 w hp B V (.lst 2 (es.map yB)) u) : ∃ A c, u = .slice A es.length c ∧ es.length ≤ c ∧ c ≤ maxLen ∧ Rd w 2 A es.length (yK es) := by
 unfold RV at h
 unfold RA at h
 obtain ⟨A, c, e, h1, h2, _, _, h4⟩ := h
 simp only [List.cons.injEq, and_true, List.length_map] at e h1
 refine ⟨A, c, e, h1, h2, by rw [aBo], fun hn => ?_⟩
 rcases h4 with h4 | ⟨b, off, us, rfl, hb, hr, hc⟩
 · have := List.map_eq_nil_iff.1 h4; subst this; simp at hn
 · rw [aDD.1 hr] at hc
   exact ⟨b, off, rfl, hS b hb, hc⟩
theorem aGI {S0 : Nat → Prop} {hp B V} {x u : Value} (h : RV S0 w hp B V (.v x) u) : u = x := by unfold RV at h; exact h.1
theorem aDb {S0 : Nat → Prop} {hp B V} {x : AV} {us : List Value} (h : RVs S0 w hp B V [x] us) : ∃ u, us = [u] ∧ RV S0 w hp B V x u := by
 unfold RVs at h; obtain ⟨u, us', rfl, h1, h2⟩ := h; unfold RVs at h2; subst h2; exact ⟨u, rfl, h1⟩
theorem aHj {S0 : Nat → Prop} {hp B V} {x : AV} {xs : List AV} {us : List Value} (h : RVs S0 w hp B V (x :: xs) us) : ∃ u us', us = u :: us' ∧ RV S0 w hp B V x u ∧ RVs S0 w hp B V xs us' := by
 unfold RVs at h; exact h
end
section
variable {P : Program} {f : FuncId} {fn : Func} {args : List AV}
theorem wR (hf : P.funcs[f]? = some fn) (hnm : (fn.name == "runtime.NumGoroutine") = false) (hb : fn.body.isNone = false) : ∀ vs w, (callFunc f vs).run P w = .ok (.enter f vs) w := fun vs w => by
 simp only [callFunc, Sem.run_bind, run_program, Result.andThen_ok, hf, hnm, hb]; rfl
theorem aCF {S : Nat → Prop} {w : World} {hp hp' : Nat → Option OB} {B B' : Nat → Nat} {V V' : Nat → Value} {xs : List AV} {vs : List Value} (hn : ∀ l, hp l = none) (h : RVs S w hp B V xs vs) : RVs S w hp' B' V' xs vs :=
 RVs.carry (fun _ h => h) (fun _ _ => rfl) _ _ (fun l _ ob e => by rw [hn] at e; cases e) h
theorem aOl {S : Nat → Prop} {w : World} {hp hp' : Nat → Option OB} {B B' : Nat → Nat} {V V' : Nat → Value} {xs : List AV} {vs : List Value} (hn : zC (fun _ => false) xs = true) (h : RVs S w hp B V xs vs) : RVs S w hp' B' V' xs vs :=
 RVs.carry (fun _ h => h) (fun _ _ => rfl) _ _ (fun l hl ob e => by have := vB _ hn hl; cases this) h
theorem wK {S : Nat → Prop} {w : World} {hp : Nat → Option OB} {B : Nat → Nat} {V : Nat → Value} {T : Nat → Nat → Prop} {lo : Nat → Prop} (hn : ∀ l, hp l = none) : Rows S w hp (fun _ => none) B V T lo :=
 ⟨fun l ob e => (by rw [hn] at e; cases e), fun l ob g e => (by rw [hn] at e; cases e), fun l ob g e => (by rw [hn] at e; cases e), fun l l' o1 o2 g e => (by rw [hn] at e; cases e), fun l es e => (by cases e)⟩
theorem j4 (l : Nat) : vQ [] l = none := by simp [vQ]
theorem aPk {w : World} {b t sz n : Nat} {v : Value} {cs : List Value} (h : w.ownsRow b t sz v n cs) : w.ownsRow 0 t sz v n cs := by
 refine ⟨h.1, ?_⟩
 rcases h.2 with k | ⟨g, cap, cur, e, hb, r⟩
 · exact .inl k
 · exact .inr ⟨g, cap, cur, e, Nat.zero_le _, r⟩
theorem aNt {a b : World} {M M' : Nat → Prop} (h : Grown a b M) (hs : ∀ g, M g → M' g) : Grown a b M' := ⟨h.os, h.tape, h.output, h.size, fun k hk hn => h.block k hk (fun e => hn (hs k e))⟩
theorem aCi {r : Value} (hent : ∀ vs w, (callFunc f vs).run P w = .ok (.enter f vs) w) (h1 : r.oneCell' = true)
 (h : ∀ (w : World) (S0 : Nat → Prop) (vs : List Value), (∀ b, S0 b → b < w.heap.size) → RVs S0 w (fun _ => none) (fun _ => 0) (fun _ => undef) args vs → Calls P f vs.toArray w fun e w' => e = .returned r ∧ Below w.heap.size w w') : AC P f args ⟨.v r, []⟩ :=
 ⟨hent, fun w S0 B0 V0 T0 vs hS _ _ hv => (h w S0 vs hS (aCF (fun _ => rfl) hv)).mono fun e w' ⟨he, hb⟩ => ⟨r, S0, fun _ => 0, fun _ => undef, fun _ => Fa, fun _ => Fa, he, Grown.of hb _, fun _ h => h, fun b hb' => ⟨Nat.lt_of_lt_of_le (hS b hb') hb.size, .inl hb'⟩, by unfold RV; exact ⟨rfl, h1⟩, wK j4, wK (fun _ => rfl), fun l l' ob ob' g e => (by rw [j4] at e; cases e)⟩⟩
theorem aPw {S : Nat → Prop} {w' : World} {base : Nat} {t sz : Nat} {xs : List AV} {v : Value} {cs : List Value} {lo : Nat → Prop} (hlo : ∀ g, base ≤ g → lo g) (hS : ∀ b, S b → b < base) (ho : w'.ownsRow base t sz v xs.length cs) (ha : ∀ x ∈ xs, asz x = sz) (h0 : 0 < sz) (hr : RL S w' xs cs) : Rows S w' (vQ [⟨.s t, sz, xs⟩]) (fun _ => none) (fun _ => (v.ownBlock).getD 0) (fun _ => v) (fun _ => Fa) lo := by
 have h0' : ∀ l ob, vQ [(⟨.s t, sz, xs⟩ : OB)] l = some ob → l = 0 ∧ ob = ⟨.s t, sz, xs⟩ := fun l ob e => by
  cases l with
  | zero => simp [vQ] at e; exact ⟨rfl, e.symm⟩
  | succ l => simp [vQ] at e
 refine ⟨fun l ob e => ?_, fun l ob g e hb => ?_, fun l ob g e _ hb => hb.elim, fun l l' o1 o2 g e1 e2 _ _ => ?_, fun l es e => by cases e⟩
 · obtain ⟨rfl, rfl⟩ := h0' l ob e
   exact ⟨t, cs, ⟨fun t' e => by cases e; rfl, trivial⟩, hr, ha, h0, aPk ho, fun g hg => by rw [hg]; rfl⟩
 · rcases hb with hb | hb
   · have := ho.lt g hb
     exact ⟨fun hs => by have := hS g hs; omega, this.2, hlo g this.1⟩
   · exact hb.elim
 · rw [(h0' l o1 e1).1, (h0' l' o2 e2).1]
theorem aJU {e : TypeId} {sz : Nat} {xs : List AV} {cs : List Value} (hent : ∀ vs w, (callFunc f vs).run P w = .ok (.enter f vs) w) (ha : ∀ x ∈ xs, asz x = sz) (h0 : 0 < sz) (hr : ∀ S w, RL S w xs cs)
 (h : ∀ (w : World) (S0 : Nat → Prop) (vs : List Value), (∀ b, S0 b → b < w.heap.size) → RVs S0 w (fun _ => none) (fun _ => 0) (fun _ => undef) args vs → Calls P f vs.toArray w fun en w' => ∃ v, en = .returned v ∧ w'.ownsRow w.heap.size e sz v xs.length cs ∧ Below w.heap.size w w') : AC P f args ⟨.own 0, [⟨.s e, sz, xs⟩]⟩ :=
 ⟨hent, fun w S0 B0 V0 T0 vs hS _ _ hv => (h w S0 vs hS (aCF (fun _ => rfl) hv)).mono fun en w' ⟨v, he, ho, hb⟩ =>
  ⟨v, S0, fun _ => (v.ownBlock).getD 0, fun _ => v, fun _ => Fa, fun _ => Fa, he, Grown.of hb _, fun _ h => h, fun b hb' => ⟨Nat.lt_of_lt_of_le (hS b hb') hb.size, .inl hb'⟩, by unfold RV; exact ⟨⟨_, rfl⟩, rfl⟩, aPw (fun g hg => .inl hg) hS ho ha h0 (hr _ _), wK (fun _ => rfl), fun l l' ob ob' g _ e => by cases e⟩⟩
end
theorem aSr : ∀ vs w, (callFunc 65 vs).run Tryz.prog w = .ok (.enter 65 vs) w := wR Tryz.func65 (by kernel_rfl) (by kernel_rfl)
theorem aSn : ∀ vs w, (callFunc 36 vs).run Tryz.prog w = .ok (.enter 36 vs) w := wR Tryz.func36 (by kernel_rfl) (by kernel_rfl)
theorem aRF : ∀ vs w, (callFunc 102 vs).run Tryz.prog w = .ok (.enter 102 vs) w := wR Tryz.func102 (by kernel_rfl) (by kernel_rfl)
theorem aSs : ∀ vs w, (callFunc 98 vs).run Tryz.prog w = .ok (.enter 98 vs) w := wR Tryz.func98 (by kernel_rfl) (by kernel_rfl)
theorem aRE : ∀ vs w, (callFunc 101 vs).run Tryz.prog w = .ok (.enter 101 vs) w := wR Tryz.func101 (by kernel_rfl) (by kernel_rfl)
theorem aJN {es : List Ent} (hm : es.length ≤ maxLen) (hk : ∀ e ∈ es, e.1.size ≤ maxLen) : AC Tryz.prog 65 [.lst 2 (es.map yB)] ⟨.v (.bool (yV es)), []⟩ :=
 aCi aSr rfl fun w S0 vs hS hv => by
  obtain ⟨u, rfl, h1⟩ := aDb hv
  obtain ⟨A, c, rfl, _, _, hr⟩ := kS hS h1
  exact aOF A es.length c es w hr hm hk
theorem aDr {es : List Ent} (hm : es.length ≤ maxLen) (hk : ∀ e ∈ es, e.1.size ≤ maxLen) : AC Tryz.prog 36 [.lst 2 (es.map yB)] ⟨.v (.bool (yV es)), []⟩ :=
 aCi aSn rfl fun w S0 vs hS hv => by
  obtain ⟨u, rfl, h1⟩ := aDb hv
  obtain ⟨A, c, rfl, _, _, hr⟩ := kS hS h1
  exact aIl A es.length c es w hr hm hk
theorem wJ {es : List Ent} {b : Bool} (hb : yV es = b) (hm : es.length ≤ maxLen) (hk : ∀ e ∈ es, e.1.size ≤ maxLen) : AC Tryz.prog 65 [.lst 2 (es.map yB)] ⟨.v (.bool b), []⟩ := hb ▸ aJN hm hk
theorem aIh {es : List Ent} {b : Bool} (hb : yV es = b) (hm : es.length ≤ maxLen) (hk : ∀ e ∈ es, e.1.size ≤ maxLen) : AC Tryz.prog 36 [.lst 2 (es.map yB)] ⟨.v (.bool b), []⟩ := hb ▸ aDr hm hk
theorem aGA {es es' : List Ent} (hm : es.length ≤ 4096) (hm' : es'.length ≤ 4096) : AC Tryz.prog 102 [.lst 2 (es.map yB), .lst 2 (es'.map yB)] ⟨.own 0, [⟨140, 3, (zw es es').map uf⟩]⟩ :=
 aJU (cs := vO (zw es es')) aRF (aQr _) (by omega) (fun S w => aHf.2 rfl) fun w S0 vs hS hv => by
  obtain ⟨u, us, rfl, h1, hv⟩ := aHj hv
  obtain ⟨u', rfl, h2⟩ := aDb hv
  obtain ⟨A, c, rfl, _, _, hr⟩ := kS hS h1
  obtain ⟨A', c', rfl, _, _, hr'⟩ := kS hS h2
  rw [List.length_map]
  exact aLC A _ c es A' _ c' es' w hr hr' hm hm'
theorem aDs {es : List Ent} {k : ByteArray} {v : Int} (hm : es.length ≤ 4096) : AC Tryz.prog 98 [.lst 2 (es.map yB), .v (.string k), .v (.int .i64 v)] ⟨.own 0, [⟨74, 2, (uq es k v).map yB⟩]⟩ :=
 aJU (cs := yK (uq es k v)) aSs (aLO _) (by omega) (fun S w => aDD.2 rfl) fun w S0 vs hS hv => by
  obtain ⟨u, us, rfl, h1, hv⟩ := aHj hv
  obtain ⟨u2, us, rfl, h2, hv⟩ := aHj hv
  obtain ⟨u3, rfl, h3⟩ := aDb hv
  obtain ⟨A, c, rfl, _, _, hr⟩ := kS hS h1
  rw [aGI h2, aGI h3, List.length_map]
  exact aMh A _ c es k v w hr hm
theorem aJO {es : List Ent} {k : ByteArray} (hm : es.length ≤ 4096) : AC Tryz.prog 101 [.lst 2 (es.map yB), .v (.string k)] ⟨.own 0, [⟨74, 2, (aDQ es k).map yB⟩]⟩ :=
 aJU (cs := yK (aDQ es k)) aRE (aLO _) (by omega) (fun S w => aDD.2 rfl) fun w S0 vs hS hv => by
  obtain ⟨u, us, rfl, h1, hv⟩ := aHj hv
  obtain ⟨u2, rfl, h2⟩ := aDb hv
  obtain ⟨A, c, rfl, _, _, hr⟩ := kS hS h1
  rw [aGI h2, List.length_map]
  exact aIm A _ c es k w hr hm
end Go.Proofs.YtfomjajdfaoogaaGreatDoor.AM
namespace Go.Proofs.YtfomjajdfaoogaaGreatDoor
open Go.RowKit Go.ChangeShapes Go.WideShapes Go.Deep
theorem aDx (a : Addr) : a.add 0 = a := by unfold Addr.add; simp
theorem aEX {w : World} {a : Addr} {v : Value} (h : w.cell? a = some v) : a.spot = none := by
 unfold World.cell? at h
 cases hs : a.spot with
 | none => rfl
 | some x => simp [hs] at h; split at h <;> simp at h
section
variable {H : Type} {enc : TypeId × Value → H} {P : Program} {w : World} {base : Nat} {spare : Nat → Bool} {held : Bool}
end
theorem aRS {α : Type} (n : Nat) (Q : Nat → α → Prop) (h : ∀ i, i < n → ∃ a, Q i a) : ∃ l : List α, l.length = n ∧ ∀ i (hi : i < l.length), Q i l[i] := by
 induction n with
 | zero => exact ⟨[], rfl, fun i hi => absurd hi (by simp)⟩
 | succ n ih =>
  obtain ⟨l, hl, hq⟩ := ih fun i hi => h i (by omega)
  obtain ⟨a, ha⟩ := h n (by omega)
  refine ⟨l ++ [a], by simp [hl], fun i hi => ?_⟩
  rw [List.length_append, List.length_singleton] at hi
  rcases Nat.lt_or_ge i l.length with hlt | hge
  · rw [List.getElem_append_left hlt]; exact hq i hlt
  · have : i = l.length := by omega
    subst this
    rw [List.getElem_append_right (Nat.le_refl _)]
    simp only [Nat.sub_self, List.getElem_cons_zero]
    rw [hl]; exact ha
section
variable {H : Type} {enc : TypeId × Value → H} {P : Program} {w : World} {base : Nat} {held : Bool}
end
end Go.Proofs.YtfomjajdfaoogaaGreatDoor
namespace Go.Proofs.YtfomjajdfaoogaaGreatDoor.AM
open Go Go.RowKit Go.ChangeShapes Go.WideShapes Go.Deep
section
variable {H : Type} {enc : TypeId × Value → H} {P : Program} {w : World} {base : Nat} {spare : Nat → Bool} {held : Bool}
theorem open_cap {t e : TypeId} {A : Option Addr} {n c : Nat} {d : DataW H} {p : List MemPlace} (ht : P.underlying t = some (.slice e)) (h : DataW.Trod enc P w base spare held t (.slice A n c) d p) : n ≤ c ∧ c ≤ maxLen := by
 obtain ⟨fuel, hf⟩ := h
 rcases open_slice ht hf with ⟨hcs, _⟩ | ⟨a, len, cap, m, n', D, Pl, hcs, hb, hl, hm, _⟩
 · simp [Value.cells] at hcs; obtain ⟨rfl, rfl, rfl⟩ := hcs; exact ⟨Nat.le_refl _, Nat.zero_le _⟩
 · simp [Value.cells] at hcs; obtain ⟨rfl, rfl, rfl⟩ := hcs; exact ⟨hl, hm⟩
end
section
variable {w : World} {hp : Nat → Option OB} {B : Nat → Nat} {V : Nat → Value}
def InW (w : World) : Nat → Prop := fun b => b < w.heap.size
theorem aTk {sz : Nat} {A : Option Addr} {n : Nat} {xs : List Value} (h : Rd w sz A n xs) (hn : 0 < n) : ∃ b off, A = some ⟨b, off, none⟩ ∧ InW w b ∧ ∀ j u, xs[j]? = some u → w.cell? ⟨b, off + j, none⟩ = some u := by
 obtain ⟨b, off, h1, h2, h3⟩ := h.2 hn
 exact ⟨b, off, h1, h2, h3⟩
theorem rvs_nil : RVs (InW w) w hp B V [] [] := by unfold RVs; rfl
theorem rvs_cons {x : AV} {xs : List AV} {u : Value} {us : List Value} (h : RV (InW w) w hp B V x u) (r : RVs (InW w) w hp B V xs us) : RVs (InW w) w hp B V (x :: xs) (u :: us) := by
 unfold RVs; exact ⟨u, us, rfl, h, r⟩
theorem law_calls {P : Program} {f : FuncId} {args : List AV} {vs : List Value} {r : Value} (h : AC P f args ⟨.v r, []⟩) (hv : RVs (InW w) w (fun _ => none) (fun _ => 0) (fun _ => undef) args vs) (hG : ∀ g y, GT g = some y → RA (InW w) w (.ptr y) [.pointer (some ⟨g, 0, none⟩)] := by intro g y e; cases e) : Calls P f vs.toArray w fun e w' => e = .returned r ∧ Below w.heap.size w w' :=
 (h.2 w (InW w) (fun _ => 0) (fun _ => undef) (fun _ => Fa) vs (fun b hb => hb) hG (wK (fun _ => rfl)) (aCF (fun _ => rfl) hv)).mono fun e w' ⟨v, S, B, V, T, T1, h1, h2, _, _, h5, _⟩ => by
  unfold RV at h5
  exact ⟨by rw [h1, h5.1], h2.below (fun g ⟨l, ob, e, _⟩ => by cases e)⟩
end
end Go.Proofs.YtfomjajdfaoogaaGreatDoor.AM
namespace Go.Proofs.YtfomjajdfaoogaaGreatDoor.AM
open Go Go.RowKit
attribute [local irreducible] xI xO xQ xX yG Pre ACG
end Go.Proofs.YtfomjajdfaoogaaGreatDoor.AM
namespace Go.Proofs.YtfomjajdfaoogaaGreatDoor.AM
open Go Go.RowKit
section
variable {P : Program} {t : TypeId} {x y : Operand} {a b : ByteArray}
theorem aQt (h : a ≠ b) : yh P .neq t x y (.string a) (.string b) (.bool true) := aGK fun w => by simp [Op.stringOp, vP, h]
theorem aHQ (h : a = b) : yh P .neq t x y (.string a) (.string b) (.bool false) := aGK fun w => by simp [Op.stringOp, h]
theorem aE9 (h : a = b) : yh P .eql t x y (.string a) (.string b) (.bool true) := aGK fun w => by simp [Op.stringOp, h]
theorem aE8 (h : a ≠ b) : yh P .eql t x y (.string a) (.string b) (.bool false) := aGK fun w => by simp [Op.stringOp, vP, h]
end
attribute [local irreducible] xI xO xQ xX yG Pre ACG
end Go.Proofs.YtfomjajdfaoogaaGreatDoor.AM
namespace Go.Proofs.YtfomjajdfaoogaaGreatDoor
open Go.RowKit
def aSJ (e : TypeId) (r : List Edt × Int) (w : World) (e' : Ending) (w' : World) : Prop := ∃ v, e' = .returned (.tuple #[v, .int .i64 r.2]) ∧ w'.ownsRow w.heap.size e 3 v r.1.length (vO r.1) ∧ Below w.heap.size w w'
theorem aSJ.mk {e : TypeId} {r : List Edt × Int} {l : List Edt} {c : Int} {v : Value} {w w' : World} (h : r = (l, c)) (ho : w'.ownsRow w.heap.size e 3 v l.length (vO l)) (hb : Below w.heap.size w w') : aSJ e r w (.returned (.tuple #[v, .int .i64 c])) w' := ⟨v, by rw [h], by rw [h]; exact ho, hb⟩
end Go.Proofs.YtfomjajdfaoogaaGreatDoor
namespace Go.Proofs.YtfomjajdfaoogaaGreatDoor.AM
open Go Go.RowKit
attribute [local irreducible] xI xO xQ xX yG Pre ACG
def aIv (es : List Edt) : List ByteArray := es.map fun e => e.key
theorem aJo (es : List Edt) : (aIv es).length = es.length := by simp [aIv]
theorem aP2 (f : Nat) (a b : List Ent) : (yO f a b).length ≤ a.length + b.length := by
 induction f generalizing a b with
 | zero => simp [yO]
 | succ f ih =>
  match a, b with
  | [], [] => simp [yO]
  | x :: a, [] =>
   have := ih a []
   simp only [yO, List.length_cons]; simp at *; omega
  | [], y :: b =>
   have := ih [] b
   simp only [yO, List.length_cons]; simp at *; omega
  | x :: a, y :: b =>
   rw [yO]
   split
   · have := ih a (y :: b); simp at *; omega
   · split
     · have := ih (x :: a) b; simp at *; omega
     · have := ih a b
       split <;> simp at * <;> omega
theorem aCR (a b : List Ent) : (zw a b).length ≤ a.length + b.length := by
 unfold zw; exact aP2 _ _ _
theorem aDU {α : Type} (l : List α) (z : α) (k : Nat) (h : k < l.length) : (l.take k ++ List.replicate (l.length - k) z).set k l[k] = l.take (k + 1) ++ List.replicate (l.length - (k + 1)) z := by
 have h1 : l.length - k = (l.length - (k + 1)) + 1 := by omega
 rw [h1, List.replicate_succ, List.set_append_right _ _ (by simp; omega), List.take_succ_eq_append_getElem h, List.append_assoc]
 have : k - (l.take k).length = 0 := by simp; omega
 rw [this]; rfl
end Go.Proofs.YtfomjajdfaoogaaGreatDoor.AM
namespace Go.Proofs.YtfomjajdfaoogaaGreatDoor.AM
open Go Go.RowKit
abbrev Cmt := List Int × List Ent
def xS (c : Cmt) : AV := .agg [.lst 1 (c.1.map yo), .lst 2 (c.2.map yB)]
theorem aQs (cs : List Int) : ∀ x ∈ cs.map yo, asz x = 1 := fun x hx => by obtain ⟨e, _, rfl⟩ := List.mem_map.1 hx; rfl
theorem aA2 (e : Int) : yj (yo e) := by unfold yo; simp [yj]
theorem aOX {P : Program} {Θ : Tab} {s : St} {d : Option Tmp} {ty : TypeId} {pos : String} {after : Array Edge} {g : Option (Nat × Bool)} {t : TypeId} {x y : Operand} {l l' i c : Nat} {p : List Nat} {ob ob' : OB} {q z : AV} (hq : ob.xs[i]? = some q) (hx : s.ev x = .optr l i p c) (ho : s.hp l = some ob) (hg : xh q p 0 = some (z, c)) (hs : ((Θ.look t).known && (Nat.beq (asz z) (Θ.look t).size && Nat.beq 1 (asz z))) = true) (hy : s.ev y = .own l') (ho' : s.hp l' = some ob') (hn : Nat.beq l l' = false) (hop : ob.e.open_ = true := by rfl) (hsh : ob'.e.shut = true := by rfl) (hok : okL l' = true := by rfl) (hc : cOK y = true := by rfl) :
 Pre P Θ ⟨d, .store t x y, ty, pos, after, g⟩ s ⟨.any, some fun s' => (s'.frz l').set l (some ⟨.s (ob.e.typ.getD 0), ob.sz, ob.xs.set i (vT q p (.lst ob'.sz ob'.xs))⟩)⟩ := by
 simp only [Bool.and_eq_true] at hs
 have hd : s.dat (s.ev y) = .lst ob'.sz ob'.xs := by rw [hy]; simp [St.dat, ho', hsh]
 have hown : yP (s.ev y) = [l'] := by rw [hy]; rfl
 have hda : xM s (s.ev y) = true := by rw [hy]; simp [xM, ho', hsh]
 obtain ⟨t0, he⟩ : ∃ t0, ob.e = .s t0 ∨ ob.e = .z t0 := by
  cases h : ob.e with
  | s t0 => exact ⟨t0, .inl rfl⟩
  | z t0 => exact ⟨t0, .inr rfl⟩
  | _ => rw [h] at hop; cases hop
 have ht : ob.e.typ.getD 0 = t0 := by rcases he with he | he <;> rw [he] <;> rfl
 have hne : l ≠ l' := fun e => by rw [e] at hn; simp at hn
 refine ⟨jG hc, hs.1, l, i, p, c, ob, hx, ho, .inl ⟨t0, q, z, he, hq, hg, Nat.eq_of_beq_eq_true hs.2.1, by rw [hd]; exact Nat.eq_of_beq_eq_true hs.2.2, hda, by rw [hown]; simpa using hne, by rw [hown]; simp [hok], ?_⟩⟩
 rw [hd, hown, ht]; rfl
theorem aEs {s : St} {a t l : Nat} {ob : OB} {x : AV} {Θ : Tab} (h1 : s.sl a = .optr l 0 [] 0) (ho : s.hp l = some ob) (hx : ob.xs[0]? = some x) (hk : ((Θ.look t).known && (Bool.xor (zW x) (Θ.look t).isAgg).not && Nat.beq (asz x) (Θ.look t).size) = true) (hd : (match x with | .v _ | .agg _ | .lst _ _ | .any => True | _ => False)) (hop : ob.e.open_ = true := by rfl) :
 vg Θ [.cell a t] ⟨x, []⟩ .ret s := by
 have hr : rvA s (.cell a t) = x := by
  simp only [rvA, h1, ho, hop, hx, cond_true, Option.getD_some]
 simp only [Bool.and_eq_true] at hk
 refine ⟨trivial, [], by simp, trivial, ⟨⟨hk.1.1, by rw [hr]; exact xor_not hk.1.2, by rw [hr]; exact Nat.eq_of_beq_eq_true hk.2, .inl ⟨l, ob, x, h1, ho, .inl ⟨hop, hx⟩⟩⟩, trivial⟩, trivial, ⟨.inl ?_, trivial⟩⟩
 rw [hr]
 cases x <;> first | exact ⟨rfl, rfl⟩ | exact hd.elim
attribute [local irreducible] xI xO xQ xX yG Pre ACG
abbrev aBK : Cmt := ([], [])
end Go.Proofs.YtfomjajdfaoogaaGreatDoor.AM
namespace Go.Proofs.YtfomjajdfaoogaaGreatDoor.AM
open Go Go.RowKit
theorem aL6 : Tryz.prog.underlying 140 = some (.struct (Tryz.prog.fieldsOf 140)) := by kernel_rfl
theorem aNw : Tryz.prog.stoodInHeld 140 = false := by kernel_rfl
theorem aMa : Tryz.prog.eqGuardType Tryz.prog.depth 140 = false := by kernel_rfl
theorem aRC (a b : ByteArray) (x y : Int) (g h : Bool) (w : World) : (Op.equalIn 10000 140 (.agg #[.string a, .int .i64 x, .bool g]) (.agg #[.string b, .int .i64 y, .bool h])).run Tryz.prog w = .ok (decide (a = b ∧ x = y ∧ g = h)) w := by
 have hf := Option.some.inj (aL6.symm.trans Tryz.underlying140)
 injection hf with hf
 rw [run_equalIn_struct w 9999 _ _ _ aL6 aNw, hf]
 have q0 : ∀ (s : ByteArray) (n : Int) (c : Bool) (w : World), (part 9 #[.string s, .int .i64 n, .bool c] 0).run Tryz.prog w = .ok (.string s) w := fun s n c w => rfl
 have q1 : ∀ (s : ByteArray) (n : Int) (c : Bool) (w : World), (part 3 #[.string s, .int .i64 n, .bool c] 1).run Tryz.prog w = .ok (.int .i64 n) w := fun s n c w => rfl
 have q2 : ∀ (s : ByteArray) (n : Int) (c : Bool) (w : World), (part 4 #[.string s, .int .i64 n, .bool c] 2).run Tryz.prog w = .ok (.bool c) w := fun s n c w => rfl
 have r0 := fun a b w => run_equalIn_string (P := Tryz.prog) w 9998 9 a b Tryz.underlying9
 have r1 := fun a b w => run_equalIn_int (P := Tryz.prog) w 9998 3 .i64 .i64 a b Tryz.underlying3
 have r2 := fun a b w => run_equalIn_bool' (P := Tryz.prog) w 9998 4 a b Tryz.underlying4
 by_cases h1 : a = b
 · subst h1
   by_cases h2 : x = y
   · subst h2
     cases g <;> cases h <;> simp [Op.eqFields, q0, q1, q2, r0, r1, r2, Result.andThen]
   · simp [Op.eqFields, q0, q1, q2, r0, r1, r2, Result.andThen, h2]
 · simp [Op.eqFields, q0, q1, q2, r0, r1, r2, Result.andThen, vP, h1]
theorem aRD {a b : Edt} : a = b ↔ a.key = b.key ∧ a.val = b.val ∧ a.gone = b.gone := by
 cases a; cases b; simp
theorem aHP {a b : Edt} {x y : Operand} {r : Bool} (h : decide (a ≠ b) = r) : yh Tryz.prog .neq 140 x y (.agg #[.string a.key, .int .i64 a.val, .bool a.gone]) (.agg #[.string b.key, .int .i64 b.val, .bool b.gone]) (.bool r) := fun w => by
 rw [Sem.run_bind, run_eqGuard_agg w _ _ _ _ _ _ aMa, Result.andThen_ok, run_neq_struct, aRC, Result.andThen_ok, ← h]
 have : decide (a.key = b.key ∧ a.val = b.val ∧ a.gone = b.gone) = decide (a = b) := by
  rw [decide_eq_decide]; exact aRD.symm
 rw [this]
 by_cases e : a = b <;> simp [e]
section
variable {P : Program} {Θ : Tab} {s : St} {d : Option Tmp} {ty : TypeId} {pos : String} {after : Array Edge} {g : Option (Nat × Bool)}
theorem aGn {op : BinOp} {t t2 : TypeId} {x y : Operand} {a b r : Value} (h : yh P op t x y a b r) (hx : y9 (s.ev x) = some a) (hy : y9 (s.ev y) = some b) (h1 : r.oneCell' = true) : Pre P Θ ⟨d, .binOp op t x y t2, ty, pos, after, g⟩ s ⟨.v r, none⟩ :=
 .inl ⟨a, b, r, hx, hy, h, h1, rfl⟩
end
section
variable {s : St} {Θ : Tab}
theorem aCd {t l sz : Nat} {e : ET} {xs : List AV} (h : s.sl t = .own l) (ho : s.hp l = some ⟨e, sz, xs⟩) (hok : okL l = true := by rfl) (hsh : e.shut = true := by rfl) : aAg s [] (s.sl t) (.lst sz xs) :=
 .inr ⟨by rw [h]; simp [xM, ho, hsh], by rw [h]; simp [yP, hok], by rw [h]; simp [St.dat, ho, hsh]⟩
theorem wW {t : Nat} {y : AV} (h : s.sl t = y) (hy : (match y with | .v _ | .agg _ | .lst _ _ | .any => True | _ => False)) : aAg s [] (s.sl t) y := .inl (by cases y <;> first | exact ⟨h, rfl⟩ | exact hy.elim)
theorem aGu {t1 t2 t3 : Nat} {y1 y2 y3 : AV} (h1 : aAg s [] (s.sl t1) y1) (h2 : aAg s [] (s.sl t2) y2) (h3 : aAg s [] (s.sl t3) y3) : vg Θ [.tmp t1, .tmp t2, .tmp t3] ⟨.tup [y1, y2, y3], []⟩ .ret s :=
 ⟨trivial, [], by simp, trivial, ⟨trivial, trivial, trivial, trivial⟩, ⟨_, rfl⟩, ⟨h1, h2, h3, trivial⟩⟩
end
theorem aOk {P : Program} {w : World} {t : TypeId} {a b : Bool} (d : Nat) (h : P.underlying t = some .bool) : (Op.equalIn (d + 1) t (.bool a) (.bool b)).run P w = .ok (a == b) w := by
 simp [Op.equalIn, run_underlying h]
theorem aRp {P : Program} {w : World} {t : TypeId} {a b : Bool} (h : P.underlying t = some .bool) : (Op.equal t (.bool a) (.bool b)).run P w = .ok (a == b) w := by
 exact aOk 9999 h
theorem aCP {P : Program} {t : TypeId} {x y : Operand} {a b : Bool} (h : P.underlying t = some .bool) : yh P .neq t x y (.bool a) (.bool b) (.bool (a != b)) := fun w => by
 simp [eqGuard, binOp, aRp h]; cases a <;> cases b <;> rfl
theorem aCu {P : Program} {Θ : Tab} {s : St} {d : Option Tmp} {ty : TypeId} {pos : String} {after : Array Edge} {g : Option (Nat × Bool)} {α : Type} {f : α → AV} {t : TypeId} {x y : Operand} {el sz b h : Nat} {k : IntKind} {z : AV} {xs : List α} (hh : h ≤ xs.length) (ht : Θ.look t = .slice el sz b z) (hx : s.ev x = .lst sz (xs.map f)) (hy : s.ev y = .v (.int k (h : Int))) : Pre P Θ ⟨d, .slice t x none (some y) none, ty, pos, after, g⟩ s ⟨.lst sz ((xs.take h).map f), none⟩ := by
 have := aPl (P := P) (Θ := Θ) (s := s) (d := d) (ty := ty) (pos := pos) (after := after) (g := g) (t := t) (x := x) (lo := none) (hi := some y) (l := 0) (h := h) (xs := xs.map f) (Nat.zero_le _) (by simpa using hh) ht hx rfl ⟨k, hy⟩
 rw [List.drop_zero, ← List.map_take] at this
 exact this
def aFi (n : Nat) (ps : List Int) (i : Nat) : Prop := ∃ h : i < ps.length, 1 ≤ ps[i] ∧ ps[i] ≤ n ∧ ps[i] ∉ ps.take i
def aGp (n : Nat) (ps : List Int) : Prop := ps.length ≤ 2 ∧ (ps.length = 0 ↔ n = 0) ∧ ∀ i, i < ps.length → aFi n ps i
open Classical in
noncomputable def jq (n : Nat) (ps : List Int) : Bool := decide (aGp n ps)
noncomputable def u6 (n : Nat) (c : Cmt) : Bool := yV c.2 && jq n c.1
noncomputable def vN : Nat → List Cmt → Bool
 | _, [] => true
 | n, c :: cs => u6 n c && vN (n + 1) cs
noncomputable def uO (cs : List Cmt) : Bool := decide (1 ≤ cs.length ∧ cs.length ≤ 60) && vN 0 cs
theorem aCv {n : Nat} {ps : List Int} (h : ¬ aGp n ps) : jq n ps = false := by unfold jq; simpa using h
theorem aCB {n : Nat} {ps : List Int} (h : aGp n ps) : jq n ps = true := by unfold jq; simpa using h
theorem aGO {n : Nat} {cs : List Cmt} {k : Nat} (h : k < cs.length) : vN n (cs.drop k) = (u6 n cs[k] && vN (n + 1) (cs.drop (k + 1))) := by
 rw [List.drop_eq_getElem_cons h, vN]
theorem aBl : ∀ {cs : List Cmt} {n : Nat}, vN n cs = true → ∀ i (h : i < cs.length), u6 (n + i) cs[i] = true
 | [], n, _, i, h => by simp at h
 | c :: cs, n, hb, 0, h => by
  unfold vN at hb
  simp only [Bool.and_eq_true] at hb
  exact hb.1
 | c :: cs, n, hb, i + 1, h => by
  unfold vN at hb
  simp only [Bool.and_eq_true] at hb
  have := aBl hb.2 i (by simpa using h)
  simpa [Nat.add_assoc, Nat.add_comm 1 i] using this
attribute [local irreducible] xI xO xQ xX yG Pre ACG
theorem vV {x lo hi : Int} (h : lo ≤ x) (h' : x ≤ hi) : AC Tryz.prog 24 [.v (.int .i64 x), .v (.int .i64 lo), .v (.int .i64 hi)] ⟨.v (.bool true), []⟩ := by
 refine qrf Tryz.func24 Tryz.ntmps24 Tryz.results24 ?_; conv => whnf
 repeat ((refine qz ?_; conv => whnf))
 exact xD rfl trivial
theorem aBX {x lo hi : Int} (h : ¬ (lo ≤ x ∧ x ≤ hi)) : AC Tryz.prog 24 [.v (.int .i64 x), .v (.int .i64 lo), .v (.int .i64 hi)] ⟨.v (.bool false), []⟩ := by
 by_cases h1 : lo ≤ x
 · refine qrf Tryz.func24 Tryz.ntmps24 Tryz.results24 ?_; conv => whnf
   repeat ((refine qz ?_; conv => whnf))
   exact xD rfl trivial
 · refine qrf Tryz.func24 Tryz.ntmps24 Tryz.results24 ?_; conv => whnf
   repeat ((refine qz ?_; conv => whnf))
   exact xD rfl trivial
theorem aJP {pre : List Cmt} {c : Cmt} (hn : pre.length ≤ maxLen) (hm : c.1.length ≤ maxLen) (hm2 : c.2.length ≤ maxLen) (hk : ∀ e ∈ c.2, e.1.size ≤ maxLen) : AC Tryz.prog 123 [.lst 2 (pre.map xS), xS c] ⟨.v (.bool (u6 pre.length c)), []⟩ := by
 have hn' := hn
 unfold maxLen at hn'
 unfold u6
 cases hmo : yV c.2 with
 | false =>
  refine qrf Tryz.func123 Tryz.ntmps123 Tryz.results123 ?_; conv => whnf
  repeat ((first | refine qz ?_ | refine qc (wJ hmo hm2 hk) ?_); conv => whnf)
  exact xD rfl trivial
 | true =>
  rw [Bool.true_and]
  by_cases h2 : c.1.length ≤ 2
  case neg =>
   rw [aCv (fun h => h2 h.1)]
   refine qrf Tryz.func123 Tryz.ntmps123 Tryz.results123 ?_; conv => whnf
   repeat ((first | refine qz ?_ | refine qc (wJ hmo hm2 hk) ?_); conv => whnf)
   exact xD rfl trivial
  by_cases h3 : c.1.length = 0 ↔ pre.length = 0
  case neg =>
   rw [aCv (fun h => h3 h.2.1)]
   by_cases h4 : c.1.length = 0
   · have h5 : ¬ pre.length = 0 := fun e => h3 ⟨fun _ => e, fun _ => h4⟩
     refine qrf Tryz.func123 Tryz.ntmps123 Tryz.results123 ?_; conv => whnf
     repeat ((first | refine qz ?_ | refine qc (wJ hmo hm2 hk) ?_ | refine qp (xC (aCP Tryz.underlying4) rfl rfl rfl) ?_); conv => whnf)
     exact xD rfl trivial
   · have h5 : pre.length = 0 := Classical.byContradiction fun e => h3 ⟨fun q => absurd q h4, fun q => absurd q e⟩
     refine qrf Tryz.func123 Tryz.ntmps123 Tryz.results123 ?_; conv => whnf
     repeat ((first | refine qz ?_ | refine qc (wJ hmo hm2 hk) ?_ | refine qp (xC (aCP Tryz.underlying4) rfl rfl rfl) ?_); conv => whnf)
     exact xD rfl trivial
  have fin : ∀ k, k ≤ c.1.length → ¬ k < c.1.length → (∀ i, i < k → aFi pre.length c.1 i) → jq pre.length c.1 = true := fun k h1 h2' h3' => aCB ⟨h2, h3, fun i hi => h3' i (by omega)⟩
  have bad : ∀ k, k < c.1.length → ¬ aFi pre.length c.1 k → jq pre.length c.1 = false := fun k h1 h2' => aCv (fun h => h2' (h.2.2 k h1))
  by_cases h4 : c.1.length = 0
  · have h5 : pre.length = 0 := h3.1 h4
    rw [fin 0 (by omega) (by omega) (fun i h => by omega)]
    refine qrf Tryz.func123 Tryz.ntmps123 Tryz.results123 ?_; conv => whnf
    repeat ((first | refine qz ?_ | refine qc (wJ hmo hm2 hk) ?_ | refine qp (xC (aCP Tryz.underlying4) rfl rfl rfl) ?_); conv => whnf)
    refine xZ (ι := Unit) (fun _ => ⟨[(5, .v (.int .i64 (c.1.length : Int))), (6, .v (.int .i64 0))], []⟩) (fun _ => 0) () ⟨trivial, .inl ⟨rfl, rfl⟩, .inl ⟨rfl, rfl⟩, trivial⟩ ?_
    rintro ⟨⟩
    conv => whnf
    repeat ((refine qz ?_; conv => whnf))
    exact xD rfl trivial
  · have h5 : ¬ pre.length = 0 := fun e => h4 (h3.2 e)
    refine qrf Tryz.func123 Tryz.ntmps123 Tryz.results123 ?_; conv => whnf
    repeat ((first | refine qz ?_ | refine qc (wJ hmo hm2 hk) ?_ | refine qp (xC (aCP Tryz.underlying4) rfl rfl rfl) ?_); conv => whnf)
    refine xZ (ι := { k : Nat // k ≤ c.1.length ∧ ∀ i, i < k → aFi pre.length c.1 i }) (fun k => ⟨[(0, .lst 2 (pre.map xS)), (3, .optr 4 0 [] 0), (5, .v (.int .i64 (c.1.length : Int))), (6, .v (.int .i64 (k.1 : Int)))], [(4, ⟨33, 2, [xS c]⟩)]⟩) (fun k => c.1.length - k.1) ⟨0, Nat.zero_le _, fun i h => by omega⟩ ⟨⟨rfl, trivial⟩, .inl ⟨rfl, rfl⟩, .inl ⟨rfl, rfl⟩, .inl ⟨rfl, rfl⟩, .inl ⟨rfl, rfl⟩, trivial⟩ ?_
    rintro ⟨k, hk', hg⟩
    dsimp only at hk' hg ⊢
    conv => whnf
    by_cases hlt : k < c.1.length
    case neg =>
     rw [fin k hk' hlt hg]
     repeat ((refine qz ?_; conv => whnf))
     exact xD rfl trivial
    have h0 : 0 < c.1.length := by omega
    by_cases hin : 1 ≤ c.1[k] ∧ c.1[k] ≤ (pre.length : Int)
    case neg =>
     rw [bad k hlt (fun ⟨_, q1, q2, _⟩ => hin ⟨q1, q2⟩)]
     repeat ((refine qz ?_; conv => whnf))
     refine .inl ⟨by kernel_rfl, ?_⟩
     conv => whnf
     repeat ((first | refine qz ?_ | refine qc (aBX hin) ?_); conv => whnf)
     exact xD rfl trivial
    by_cases hk0 : k = 0
    · subst hk0
      repeat ((refine qz ?_; conv => whnf))
      refine .inl ⟨by kernel_rfl, ?_⟩
      conv => whnf
      repeat ((first | refine qz ?_ | refine qc (vV hin.1 hin.2) ?_); conv => whnf)
      exact ⟨⟨0 + 1, hlt, fun i hi => by
       have : i = 0 := by omega
       subst this; exact ⟨hlt, hin.1, hin.2, by simp⟩⟩, by exact qle, by simp; omega⟩
    · have hk1 : k = 1 := by omega
      subst hk1
      have htk : c.1.take 1 = [c.1[0]] := by
       rw [show (1 : Nat) = 0 + 1 from rfl, List.take_succ_eq_append_getElem h0]; simp
      by_cases hne : c.1[1] = c.1[0]
      · rw [bad 1 hlt (fun ⟨_, _, _, q⟩ => q (by rw [htk, hne]; simp))]
        repeat ((refine qz ?_; conv => whnf))
        refine .inl ⟨by kernel_rfl, ?_⟩
        conv => whnf
        repeat ((first | refine qz ?_ | refine qc (vV hin.1 hin.2) ?_ | refine qp (aAO (j := 0) (jl _ h0) rfl rfl rfl) ?_); conv => whnf)
        exact xD rfl trivial
      · repeat ((refine qz ?_; conv => whnf))
        refine .inl ⟨by kernel_rfl, ?_⟩
        conv => whnf
        repeat ((first | refine qz ?_ | refine qc (vV hin.1 hin.2) ?_ | refine qp (aAO (j := 0) (jl _ h0) rfl rfl rfl) ?_); conv => whnf)
        exact ⟨⟨1 + 1, hlt, fun i hi => by
         rcases Nat.lt_or_ge i 1 with h | h
         · exact hg i h
         · have : i = 1 := by omega
           subst this; exact ⟨hlt, hin.1, hin.2, by rw [htk]; simpa using hne⟩⟩, by exact qle, by simp; omega⟩
theorem aPF {cs : List Cmt} (hn : cs.length ≤ maxLen) (hc : ∀ c ∈ cs, c.1.length ≤ maxLen ∧ c.2.length ≤ maxLen ∧ ∀ e ∈ c.2, e.1.size ≤ maxLen) : AC Tryz.prog 85 [.lst 2 (cs.map xS)] ⟨.v (.bool (uO cs)), []⟩ := by
 have hn' := hn
 unfold maxLen at hn'
 unfold uO
 by_cases hin : (1 : Int) ≤ (cs.length : Int) ∧ (cs.length : Int) ≤ 60
 case neg =>
  have : decide (1 ≤ cs.length ∧ cs.length ≤ 60) = false := by simp; omega
  rw [this, Bool.false_and]
  refine qrf Tryz.func85 Tryz.ntmps85 Tryz.results85 ?_; conv => whnf
  repeat ((first | refine qz ?_ | refine qc (aBX hin) ?_); conv => whnf)
  exact xD rfl trivial
 have : decide (1 ≤ cs.length ∧ cs.length ≤ 60) = true := by simp; omega
 rw [this, Bool.true_and]
 refine qrf Tryz.func85 Tryz.ntmps85 Tryz.results85 ?_; conv => whnf
 repeat ((first | refine qz ?_ | refine qc (vV hin.1 hin.2) ?_); conv => whnf)
 refine xZ (ι := { k : Nat // k ≤ cs.length ∧ vN k (cs.drop k) = vN 0 cs }) (fun k => ⟨[(0, .lst 2 (cs.map xS)), (3, .v (.int .i64 (k.1 : Int)))], []⟩) (fun k => cs.length - k.1) ⟨0, Nat.zero_le _, rfl⟩ (by exact qle) ?_
 rintro ⟨k, hk', hd⟩
 dsimp only at hk' hd ⊢
 conv => whnf
 by_cases hlt : k < cs.length
 case neg =>
  rw [← hd, List.drop_eq_nil_of_le (by omega)]
  repeat ((refine qz ?_; conv => whnf))
  exact xD rfl trivial
 obtain ⟨q1, q2, q3⟩ := hc _ (List.getElem_mem hlt)
 rw [aGO hlt] at hd
 have hl : (cs.take k).length = k := by simp; omega
 have hac := aJP (pre := cs.take k) (c := cs[k]) (by omega) q1 q2 q3
 rw [hl] at hac
 cases hb : u6 k cs[k] with
 | false =>
  rw [hb, Bool.false_and] at hd
  rw [hb] at hac
  rw [← hd]
  repeat ((refine qz ?_; conv => whnf))
  refine .inl ⟨by kernel_rfl, ?_⟩
  conv => whnf
  repeat ((first | refine qz ?_ | refine qc (hac) ?_ | refine qp (aCu (h := k) (xs := cs) (f := xS) (by omega) rfl rfl rfl) ?_); conv => whnf)
  exact xD rfl trivial
 | true =>
  rw [hb, Bool.true_and] at hd
  rw [hb] at hac
  repeat ((refine qz ?_; conv => whnf))
  refine .inl ⟨by kernel_rfl, ?_⟩
  conv => whnf
  repeat ((first | refine qz ?_ | refine qc (hac) ?_ | refine qp (aCu (h := k) (xs := cs) (f := xS) (by omega) rfl rfl rfl) ?_); conv => whnf)
  exact ⟨⟨k + 1, hlt, hd⟩, by exact qle, by simp; omega⟩
end Go.Proofs.YtfomjajdfaoogaaGreatDoor.AM
