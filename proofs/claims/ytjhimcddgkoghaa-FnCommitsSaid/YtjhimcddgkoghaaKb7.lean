/- Texts of the machine over data, folded. -/
import Derived.Test.YtjhimcddgkoghaaKb6
namespace Go.Proofs.Ytjhimcddgkoghaa
open Go.RowKit

theorem valueOK_ent (es : List Ent) (k : Nat) (hke : k < es.length) (W : World) :
    Calls Try.prog 173 #[.int .i64 es[k].2] W fun e w' => e = .returned (.bool (valAt es k)) ∧ W = w' := by
  have e : valAt es k = (decide (-1000000 ≤ es[k].2) && decide (es[k].2 ≤ 1000000)) := by simp [valAt, valB, hke]
  rw [e]; exact valueOK_any _ _

set_option maxHeartbeats 1000000 in
set_option maxRecDepth 100000 in
theorem implMapOK_any (A : Option Addr) (n c : Nat) (es : List Ent) (w : World) (hr : Rd w 2 A n (entsC es)) (hm : n ≤ maxLen) (hks : ∀ e ∈ es, e.1.size ≤ maxLen) :
    Calls Try.prog 125 #[.slice A n c] w fun e w' => e = .returned (.bool (mapOK es)) ∧ Below w.heap.size w w' := by
  have hm' := hm
  unfold maxLen at hm
  have hlen := hr.len
  have Hlen := Lib.hid hlen; clear hlen
  by_cases hbig : 12 < n
  · have hfin : Hid (mapOK es = false) := mapOK_long (by rw [Hlen.out]; exact hbig)
    go_enter Try.func125, Try.ntmps125
    go_wp2
    go_ret
    exact ⟨ret_bool hfin.out.symm, Below.refl _ _⟩
  have hn12 : n ≤ 12 := by omega
  clear hbig
  cases ho : ordM es with
  | false =>
    have hfin : Hid (mapOK es = false) := by show mapOK es = false; rw [mapOK, ho]; simp
    have hcall := inOrder_any A n c es w hr hm' hks
    rw [ho] at hcall
    have Hcall := Lib.hid hcall
    clear ho hcall
    go_enter Try.func125, Try.ntmps125
    go_wp2_with (go_at_call 215; refine Hcall.out.mono ?_; rintro e w1 ⟨rfl, hb1⟩)
    go_ret
    exact ⟨ret_bool hfin.out.symm, hb1⟩
  | true =>
    have hcall := inOrder_any A n c es w hr hm' hks
    rw [ho] at hcall
    have Hcall := Lib.hid hcall
    have Ho := Lib.hid ho
    clear ho hcall
    go_enter Try.func125, Try.ntmps125
    go_wp2_with (go_at_call 215; refine Hcall.out.mono ?_; rintro e w1 ⟨rfl, hb1⟩)
    go_loopw [15] (fun i wr => ∃ k : Nat, k ≤ n ∧ i = .int .i64 k ∧ (∀ j, j < k → valAt es j = true) ∧ Below w.heap.size w wr) (fun i _ => n - (intOf i).toNat)
    case atStart => exact ⟨0, Nat.zero_le _, rfl, fun j hj => absurd hj (by omega), hb1⟩
    case round =>
      obtain ⟨k, hk, rfl, hall, hb⟩ := hrel
      have Hall := Lib.hid hall; clear hall
      by_cases hlt : k < n
      · have hke : k < es.length := by rw [Hlen.out]; exact hlt
        obtain ⟨b, off, rfl, hbl, hbl2, hc1, hc2⟩ := hr.ent hb hke
        have hcall := valueOK_ent es k hke
        cases hv : valAt es k with
        | false =>
          have hfin : Hid (mapOK es = false) := mapOK_noVal hke hv
          rw [hv] at hcall
          have Hcall := Lib.hid hcall
          clear hv hcall
          go_wp2_with (go_at_call 173; refine (Hcall.out _).mono ?_; rintro e w1 ⟨rfl, rfl⟩)
          go_ret
          exact ⟨ret_bool hfin.out.symm, hb.alloc hb.size _⟩
        | true =>
          have hstep : Hid (∀ j, j < k + 1 → valAt es j = true) := fun j hj => by
            rcases Nat.lt_or_ge j k with h | h
            · exact Hall.out j h
            · have : j = k := by omega
              subst this; exact hv
          rw [hv] at hcall
          have Hcall := Lib.hid hcall
          clear hv hcall
          go_wp2_with (go_at_call 173; refine (Hcall.out _).mono ?_; rintro e w1 ⟨rfl, rfl⟩)
          go_roundw
          case rel => exact ⟨k + 1, by omega, by go_num, hstep.out, hb.alloc hb.size _⟩
          case measure => simp [intOf]; omega
      · have hfin : Hid (mapOK es = true) := mapOK_of (by rw [Hlen.out]; exact hn12) (fun i hi => ⟨ordM_at Ho.out hi, Hall.out i (by rw [Hlen.out] at hi; omega)⟩)
        go_wp2
        go_ret
        exact ⟨ret_bool hfin.out.symm, hb⟩

end Go.Proofs.Ytjhimcddgkoghaa
namespace Go.Proofs.Ytjhimcddgkoghaa
open Go.RowKit

end Go.Proofs.Ytjhimcddgkoghaa
namespace Go.Proofs.Ytjhimcddgkoghaa
open Go.RowKit

def PlcPost (es : List Ent) (key : ByteArray) (w : World) (e : Ending) (w' : World) : Prop := ∃ p : Nat, e = .returned (.int .i64 p) ∧ IsPlc es key p ∧ Below w.heap.size w w'
theorem plc_end {es : List Ent} {key : ByteArray} {k : Nat} (h : k ≤ es.length) (hall : ∀ j, (hj : j < es.length) → j < k → klt es[j].1 key = true) (hn : (hk : k < es.length) → klt es[k].1 key = false) : IsPlc es key k := ⟨h, hall, hn⟩

theorem place_any (A : Option Addr) (n c : Nat) (es : List Ent) (key : ByteArray) (w : World) (hr : Rd w 2 A n (entsC es)) (hm : n ≤ maxLen) :
    Calls Try.prog 270 #[.slice A n c, .string key] w (PlcPost es key w) := by
  unfold maxLen at hm
  have hlen := hr.len
  have Hlen := Lib.hid hlen; clear hlen
  have hmeth := method_key
  go_enter Try.func270, Try.ntmps270
  go_wp2
  go_loopw [5] (fun i wr => ∃ k : Nat, k ≤ n ∧ i = .int .i64 k ∧ (∀ j, (hj : j < es.length) → j < k → klt es[j].1 key = true) ∧ Below w.heap.size w wr) (fun i _ => n - (intOf i).toNat)
  case atStart => exact ⟨0, Nat.zero_le _, rfl, fun j _ hj => absurd hj (by omega), Below.refl _ _⟩
  case round =>
    obtain ⟨k, hk, rfl, hall, hb⟩ := hrel
    have Hall := Lib.hid hall; clear hall
    by_cases hlt : k < n
    · have hke : k < es.length := by rw [Hlen.out]; exact hlt
      obtain ⟨b, off, rfl, hbl, hbl2, hc1, hc2⟩ := hr.ent hb hke
      cases hq : klt es[k].1 key with
      | true =>
        have ht : Op.bytesLess es[k].1.toList key.toList = true := hq
        have hstep : Hid (∀ j, (hj : j < es.length) → j < k + 1 → klt es[j].1 key = true) := fun j hj hjk => by
          rcases Nat.lt_or_ge j k with h | h
          · exact Hall.out j hj h
          · have : j = k := by omega
            subst this; exact hq
        clear hq
        go_wp2_with (go_at_call 289; refine (keyOf_any _ _ _).mono ?_; rintro e w1 ⟨rfl, hb1⟩)
        go_roundw
        case rel => exact ⟨k + 1, by omega, by go_num, hstep.out, keepS hb hb1⟩
        case measure => simp [intOf]; omega
      | false =>
        have ht : Op.bytesLess es[k].1.toList key.toList = false := hq
        have hfin : Hid (IsPlc es key k) := plc_end (by omega) Hall.out (fun _ => hq)
        clear hq
        go_wp2_with (go_at_call 289; refine (keyOf_any _ _ _).mono ?_; rintro e w1 ⟨rfl, hb1⟩)
        go_ret
        exact ⟨k, rfl, hfin.out, keepS hb hb1⟩
    · have hfin : Hid (IsPlc es key k) := plc_end (by rw [Hlen.out]; omega) Hall.out (fun h => absurd h (by rw [Hlen.out]; omega))
      go_wp2
      go_ret
      exact ⟨k, rfl, hfin.out, hb⟩

def FndPost (es : List Ent) (key : ByteArray) (w : World) (e : Ending) (w' : World) : Prop :=
  ∃ (p : Nat) (f : Bool), e = .returned (.tuple #[.int .i64 p, .bool f]) ∧ IsPlc es key p ∧ (f = true → ∃ h : p < es.length, es[p].1 = key) ∧ (f = false → ∀ h : p < es.length, es[p].1 ≠ key) ∧ Below w.heap.size w w'

theorem find_any (A : Option Addr) (n c : Nat) (es : List Ent) (key : ByteArray) (w : World) (hr : Rd w 2 A n (entsC es)) (hm : n ≤ maxLen) :
    Calls Try.prog 262 #[.slice A n c, .string key] w (FndPost es key w) := by
  have hlen := hr.len
  have Hlen := Lib.hid hlen; clear hlen
  have hmeth := method_key
  go_enter Try.func262, Try.ntmps262
  go_wp2_with fail
  refine (place_any A n c es key w hr hm).mono ?_
  rintro e w1 ⟨p, rfl, hp, hb⟩
  unfold maxLen at hm
  have hple := hp.1
  rw [Hlen.out] at hple
  have HP := Lib.hid hp; clear hp
  by_cases hlt : p < n
  · have hke : p < es.length := by rw [Hlen.out]; exact hlt
    obtain ⟨b, off, rfl, hbl, hbl2, hc1, hc2⟩ := hr.ent hb hke
    by_cases he : es[p].1 = key
    · have ht : (es[p].1.toList == key.toList) = true := by rw [he]; simp
      have HE := Lib.hid he; clear he
      go_wp2_with (go_at_call 289; refine (keyOf_any _ _ _).mono ?_; rintro e w2 ⟨rfl, hb1⟩)
      go_ret2
      exact ⟨p, true, rfl, HP.out, (fun _ => ⟨hke, HE.out⟩), (fun h => by cases h), keepS hb hb1⟩
    · have ht : (es[p].1.toList == key.toList) = false := by rw [toList_beq]; exact decide_eq_false he
      have HE := Lib.hid he; clear he
      go_wp2_with (go_at_call 289; refine (keyOf_any _ _ _).mono ?_; rintro e w2 ⟨rfl, hb1⟩)
      go_ret2
      exact ⟨p, false, rfl, HP.out, (fun h => by cases h), (fun _ _ => HE.out), keepS hb hb1⟩
  · go_wp2
    go_ret2
    exact ⟨p, false, rfl, HP.out, (fun h => by cases h), (fun _ h => absurd h (by rw [Hlen.out]; omega)), hb⟩

end Go.Proofs.Ytjhimcddgkoghaa
/- The document's l01Put: what it gathers, round by round. -/
namespace Go.Proofs.Ytjhimcddgkoghaa
open Go.RowKit

theorem entsC_snoc (es : List Ent) (k : ByteArray) (v : Int) : entsC (es ++ [(k, v)]) = entsC es ++ #[Value.string k, Value.int .i64 v].toList := by rw [entsC_append]; rfl
theorem ent_cells (k : ByteArray) (v : Int) : ∀ u ∈ #[Value.string k, Value.int .i64 v].toList, u.oneCell' = true := by
  intro u hu
  simp at hu
  rcases hu with rfl | rfl <;> rfl

def OwnPost (e : TypeId) (es : List Ent) (w : World) (e' : Ending) (w' : World) : Prop := ∃ v, e' = .returned v ∧ w'.ownsRow w.heap.size e 2 v es.length (entsC es) ∧ Below w.heap.size w w'

set_option maxHeartbeats 2000000 in
set_option maxRecDepth 100000 in
theorem l01Put_any (A : Option Addr) (n c : Nat) (es : List Ent) (key : ByteArray) (v : Int) (w : World) (hr : Rd w 2 A n (entsC es)) (hm : n ≤ 4096) :
    Calls Try.prog 237 #[.slice A n c, .string key, .int .i64 v] w (OwnPost 167 (putL es key v) w) := by
  have hlen := hr.len
  have Hlen := Lib.hid hlen; clear hlen
  obtain ⟨i0, hi, hz0, hz1, hz2⟩ := info_parts info_Entry
  have Hi := Lib.hid hi; clear hi
  have Hz0 := Lib.hid hz0; clear hz0
  have Hz1 := Lib.hid hz1; clear hz1
  have Hz2 := Lib.hid hz2; clear hz2
  go_enter Try.func237, Try.ntmps237
  go_wp2
  have hst : Hid ((w.alloc (Obj.cells #[] 167)).ownsRow w.heap.size 167 2 (.slice (some ⟨w.heap.size, 0, none⟩) 0 0) 0 []) := World.ownsRow_made w #[] 0 (Nat.le_refl _) (by simp) (by simp)
  have hbst : Hid (Below w.heap.size w (w.alloc (Obj.cells #[] 167))) := (Below.refl _ _).alloc (Nat.le_refl _) _
  go_loopw [7, 8, 9] (fun out d i wr => ∃ k : Nat, k ≤ n ∧ i = .int .i64 k ∧ d = .bool (putTo es key v k).2 ∧ wr.ownsRow w.heap.size 167 2 out (putTo es key v k).1.length (entsC (putTo es key v k).1) ∧ Below w.heap.size w wr) (fun _ _ i _ => n - (intOf i).toNat)
  case atStart => exact ⟨0, Nat.zero_le _, rfl, by rw [putTo_zero], by rw [putTo_zero]; exact hst.out, hbst.out⟩
  case round =>
    obtain ⟨k, hk, rfl, rfl, hown, hb⟩ := hrel
    by_cases hlt : k < n
    · have hke : k < es.length := by rw [Hlen.out]; exact hlt
      obtain ⟨b, off, rfl, hbl, hbl2, hc1, hc2⟩ := hr.ent hb hke
      have hstp := Lib.hid (putTo_succ es key v k hke)
      have hl2 := putTo_len2 es key v k (by omega)
      generalize putTo es key v k = s at *
      obtain ⟨acc, dn⟩ := s
      simp only at hown hl2
      have hbs := hb.size
      cases hq : klt es[k].1 key with
      | true =>
        have hne : es[k].1 ≠ key := klt_ne hq
        have ht : Op.bytesLess es[k].1.toList key.toList = true := hq
        have ht2 : (es[k].1.toList == key.toList) = false := by rw [toList_beq]; exact decide_eq_false hne
        have hfin : Hid (putTo es key v (k + 1) = (acc ++ [es[k]], dn)) := by
          show putTo es key v (k + 1) = _
          rw [hstp.out, putStep_old (.inr hq), if_neg hne]
        clear hne hq
        generalize es[k] = ek at *
        obtain ⟨ek1, ek2⟩ := ek
        have Hown := Lib.hid hown; clear hown
        cases dn
        all_goals
          go_wp2_with (at_builtin; refine wpList_append_new wr rfl _ _ 36 rfl w.heap.size 167 i0 _ 2 24 Try.underlying36 Hi.out Hz0.out Hz1.out Hz2.out rfl (by decide) u7 acc.length (entsC acc) rfl Hown.out #[.string ek1, .int .i64 ek2] 1 1 rfl rfl (ent_cells ek1 ek2) (by omega) (by decide) hbs ?_; intro v' w1 hown' hgrow)
          have Hown' := Lib.hid hown'; clear hown'
          go_wp2
          go_roundw
          case rel => exact ⟨k + 1, by omega, by go_num, by rw [hfin.out], by rw [hfin.out, List.length_append, entsC_snoc]; exact Hown'.out, below_grown hb hgrow Hown.out hbs (Nat.le_refl _)⟩
          case measure => simp [intOf]; omega
      | false =>
        have hcW1 := cellW hb hbl hc1
        have hcW2 := cellW hb hbl hc2
        have ht : Op.bytesLess es[k].1.toList key.toList = false := hq
        cases dn with
        | false =>
          by_cases he : es[k].1 = key
          · have ht2 : (es[k].1.toList == key.toList) = true := by rw [he]; simp
            have hfin : Hid (putTo es key v (k + 1) = (acc ++ [(key, v)], true)) := by
              show putTo es key v (k + 1) = _
              rw [hstp.out, putStep_new rfl hq, if_pos he]
            clear he hq
            generalize es[k] = ek at *
            obtain ⟨ek1, ek2⟩ := ek
            have Hown := Lib.hid hown; clear hown
            go_wp2_with (at_builtin; refine wpList_append_new wr rfl _ _ 36 rfl w.heap.size 167 i0 _ 2 24 Try.underlying36 Hi.out Hz0.out Hz1.out Hz2.out rfl (by decide) u7 acc.length (entsC acc) rfl Hown.out #[.string key, .int .i64 v] 1 1 rfl rfl (ent_cells key v) (by omega) (by decide) hbs ?_; intro v1 w1 hown1 hgrow1; have Hown1 := Lib.hid hown1; clear hown1; have hbb1 := below_grown hb hgrow1 Hown.out hbs (Nat.le_refl _); have hd1 := cellS hbb1 hbl hcW1; have hd2 := cellS hbb1 hbl hcW2; have hbs1 := hbb1.size; have hbl3 := Nat.lt_of_lt_of_le hbl hbs1)
            go_roundw
            case rel => exact ⟨k + 1, by omega, by go_num, by rw [hfin.out], by rw [hfin.out, List.length_append, entsC_snoc]; exact Hown1.out, hbb1⟩
            case measure => simp [intOf]; omega
          · have ht2 : (es[k].1.toList == key.toList) = false := by rw [toList_beq]; exact decide_eq_false he
            have hfin : Hid (putTo es key v (k + 1) = (acc ++ [(key, v)] ++ [es[k]], true)) := by
              show putTo es key v (k + 1) = _
              rw [hstp.out, putStep_new rfl hq, if_neg he]
            clear he hq
            generalize es[k] = ek at *
            obtain ⟨ek1, ek2⟩ := ek
            have Hown := Lib.hid hown; clear hown
            go_wp2_with (first | (at_builtin; refine wpList_append_new w1 rfl _ _ 36 rfl w.heap.size 167 i0 _ 2 24 Try.underlying36 Hi.out Hz0.out Hz1.out Hz2.out rfl (by decide) v1 (acc.length + 1) (entsC acc ++ #[Value.string key, Value.int .i64 v].toList) rfl Hown1.out #[.string ek1, .int .i64 ek2] 1 1 rfl rfl (ent_cells ek1 ek2) (by omega) (by decide) hbs1 ?_; intro v2 w2 hown2 hgrow2; have Hown2 := Lib.hid hown2; clear hown2) | (at_builtin; refine wpList_append_new wr rfl _ _ 36 rfl w.heap.size 167 i0 _ 2 24 Try.underlying36 Hi.out Hz0.out Hz1.out Hz2.out rfl (by decide) u7 acc.length (entsC acc) rfl Hown.out #[.string key, .int .i64 v] 1 1 rfl rfl (ent_cells key v) (by omega) (by decide) hbs ?_; intro v1 w1 hown1 hgrow1; have Hown1 := Lib.hid hown1; clear hown1; have hbb1 := below_grown hb hgrow1 Hown.out hbs (Nat.le_refl _); have hd1 := cellS hbb1 hbl hcW1; have hd2 := cellS hbb1 hbl hcW2; have hbs1 := hbb1.size; have hbl3 := Nat.lt_of_lt_of_le hbl hbs1))
            go_roundw
            case rel => exact ⟨k + 1, by omega, by go_num, by rw [hfin.out], by rw [hfin.out, List.length_append, List.length_append, entsC_snoc, entsC_snoc]; exact Hown2.out, below_grown hbb1 hgrow2 Hown1.out hbs1 (Nat.le_refl _)⟩
            case measure => simp [intOf]; omega
        | true =>
          by_cases he : es[k].1 = key
          · have ht2 : (es[k].1.toList == key.toList) = true := by rw [he]; simp
            have hfin : Hid (putTo es key v (k + 1) = (acc, true)) := by
              show putTo es key v (k + 1) = _
              rw [hstp.out, putStep_old (.inl rfl), if_pos he]
            clear he hq
            have Hown := Lib.hid hown; clear hown
            go_wp2
            go_roundw
            case rel => exact ⟨k + 1, by omega, by go_num, by rw [hfin.out], by rw [hfin.out]; exact Hown.out, hb⟩
            case measure => simp [intOf]; omega
          · have ht2 : (es[k].1.toList == key.toList) = false := by rw [toList_beq]; exact decide_eq_false he
            have hfin : Hid (putTo es key v (k + 1) = (acc ++ [es[k]], true)) := by
              show putTo es key v (k + 1) = _
              rw [hstp.out, putStep_old (.inl rfl), if_neg he]
            clear he hq
            generalize es[k] = ek at *
            obtain ⟨ek1, ek2⟩ := ek
            have Hown := Lib.hid hown; clear hown
            go_wp2_with (at_builtin; refine wpList_append_new wr rfl _ _ 36 rfl w.heap.size 167 i0 _ 2 24 Try.underlying36 Hi.out Hz0.out Hz1.out Hz2.out rfl (by decide) u7 acc.length (entsC acc) rfl Hown.out #[.string ek1, .int .i64 ek2] 1 1 rfl rfl (ent_cells ek1 ek2) (by omega) (by decide) hbs ?_; intro v' w1 hown' hgrow; have Hown' := Lib.hid hown'; clear hown')
            go_roundw
            case rel => exact ⟨k + 1, by omega, by go_num, by rw [hfin.out], by rw [hfin.out, List.length_append, entsC_snoc]; exact Hown'.out, below_grown hb hgrow Hown.out hbs (Nat.le_refl _)⟩
            case measure => simp [intOf]; omega
    · have hkn : k = es.length := by rw [Hlen.out]; omega
      have hend := putTo_end es key v
      have hl2 := putTo_len2 es key v k (by omega)
      have hbs := hb.size
      rw [← hkn] at hend
      clear hkn
      generalize putTo es key v k = s at *
      obtain ⟨acc, dn⟩ := s
      simp only at hown hl2 hend
      have Hown := Lib.hid hown; clear hown
      cases dn with
      | true =>
        have Hend := Lib.hid (show acc = putL es key v by simpa using hend)
        clear hend
        go_wp2
        go_ret
        exact ⟨_, rfl, by rw [← Hend.out]; exact Hown.out, hb⟩
      | false =>
        have Hend := Lib.hid (show acc ++ [(key, v)] = putL es key v by simpa using hend)
        clear hend
        go_wp2_with (at_builtin; refine wpList_append_new wr rfl _ _ 36 rfl w.heap.size 167 i0 _ 2 24 Try.underlying36 Hi.out Hz0.out Hz1.out Hz2.out rfl (by decide) u7 acc.length (entsC acc) rfl Hown.out #[.string key, .int .i64 v] 1 1 rfl rfl (ent_cells key v) (by omega) (by decide) hbs ?_; intro v1 w1 hown1 hgrow1; have Hown1 := Lib.hid hown1; clear hown1; have hbb1 := below_grown hb hgrow1 Hown.out hbs (Nat.le_refl _))
        go_ret
        exact ⟨_, rfl, by rw [← Hend.out, List.length_append, entsC_snoc]; exact Hown1.out, hbb1⟩

end Go.Proofs.Ytjhimcddgkoghaa
/- The document's Put, l01Remove, Remove, Scan. -/
namespace Go.Proofs.Ytjhimcddgkoghaa
open Go.RowKit

theorem filter_snoc (q : Ent → Bool) (es : List Ent) (k : Nat) (h : k < es.length) : (es.take (k + 1)).filter q = (es.take k).filter q ++ (if q es[k] then [es[k]] else []) := by
  rw [List.take_succ_eq_append_getElem h, List.filter_append]
  congr 1
  cases hq : q es[k] <;> simp [hq]
theorem filter_take_len (q : Ent → Bool) (es : List Ent) (k : Nat) : ((es.take k).filter q).length ≤ k := Nat.le_trans (List.length_filter_le _ _) (List.length_take_le _ _)

set_option maxHeartbeats 1000000 in
set_option maxRecDepth 100000 in
theorem l01Remove_any (A : Option Addr) (n c : Nat) (es : List Ent) (key : ByteArray) (w : World) (hr : Rd w 2 A n (entsC es)) (hm : n ≤ 4096) :
    Calls Try.prog 243 #[.slice A n c, .string key] w (OwnPost 167 (delL es key) w) := by
  have hlen := hr.len
  have Hlen := Lib.hid hlen; clear hlen
  obtain ⟨i0, hi, hz0, hz1, hz2⟩ := info_parts info_Entry
  have Hi := Lib.hid hi; clear hi
  have Hz0 := Lib.hid hz0; clear hz0
  have Hz1 := Lib.hid hz1; clear hz1
  have Hz2 := Lib.hid hz2; clear hz2
  go_enter Try.func243, Try.ntmps243
  go_wp2
  have hst : Hid ((w.alloc (Obj.cells #[] 167)).ownsRow w.heap.size 167 2 (.slice (some ⟨w.heap.size, 0, none⟩) 0 0) 0 []) := World.ownsRow_made w #[] 0 (Nat.le_refl _) (by simp) (by simp)
  have hbst : Hid (Below w.heap.size w (w.alloc (Obj.cells #[] 167))) := (Below.refl _ _).alloc (Nat.le_refl _) _
  go_loopw [5, 6] (fun out i wr => ∃ (k : Nat) (acc : List Ent), k ≤ n ∧ i = .int .i64 k ∧ acc = (es.take k).filter (fun e => decide (e.1 ≠ key)) ∧ wr.ownsRow w.heap.size 167 2 out acc.length (entsC acc) ∧ Below w.heap.size w wr) (fun _ i _ => n - (intOf i).toNat)
  case atStart => exact ⟨0, [], Nat.zero_le _, rfl, by simp, hst.out, hbst.out⟩
  case round =>
    obtain ⟨k, acc, hk, rfl, hacc, hown, hb⟩ := hrel
    have hal : acc.length ≤ k := by rw [hacc]; exact filter_take_len _ _ _
    have Hacc := Lib.hid hacc; clear hacc
    have Hown := Lib.hid hown; clear hown
    by_cases hlt : k < n
    · have hke : k < es.length := by rw [Hlen.out]; exact hlt
      obtain ⟨b, off, rfl, hbl, hbl2, hc1, hc2⟩ := hr.ent hb hke
      have hbs := hb.size
      have hsn := Lib.hid (filter_snoc (fun e => decide (e.1 ≠ key)) es k hke)
      by_cases he : es[k].1 = key
      · have ht2 : (es[k].1.toList == key.toList) = true := by rw [he]; simp
        have hfin := Lib.hid (show acc = (es.take (k + 1)).filter (fun e => decide (e.1 ≠ key)) by rw [hsn.out, ← Hacc.out]; simp [he])
        clear he
        go_wp2
        go_roundw
        case rel => exact ⟨k + 1, acc, by omega, by go_num, hfin.out, Hown.out, hb⟩
        case measure => simp [intOf]; omega
      · have ht2 : (es[k].1.toList == key.toList) = false := by rw [toList_beq]; exact decide_eq_false he
        have hfin := Lib.hid (show acc ++ [es[k]] = (es.take (k + 1)).filter (fun e => decide (e.1 ≠ key)) by rw [hsn.out, ← Hacc.out]; simp [he])
        clear he hsn
        generalize es[k] = ek at *
        obtain ⟨ek1, ek2⟩ := ek
        go_wp2_with (at_builtin; refine wpList_append_new wr rfl _ _ 36 rfl w.heap.size 167 i0 _ 2 24 Try.underlying36 Hi.out Hz0.out Hz1.out Hz2.out rfl (by decide) u5 acc.length (entsC acc) rfl Hown.out #[.string ek1, .int .i64 ek2] 1 1 rfl rfl (ent_cells ek1 ek2) (by omega) (by decide) hbs ?_; intro v' w1 hown' hgrow; have Hown' := Lib.hid hown'; clear hown')
        go_roundw
        case rel => exact ⟨k + 1, acc ++ [(ek1, ek2)], by omega, by go_num, hfin.out, by rw [List.length_append, entsC_snoc]; exact Hown'.out, below_grown hb hgrow Hown.out hbs (Nat.le_refl _)⟩
        case measure => simp [intOf]; omega
    · have hfin := Lib.hid (show acc = delL es key by rw [Hacc.out, List.take_of_length_le (by rw [Hlen.out]; omega)]; rfl)
      go_wp2
      go_ret
      exact ⟨_, rfl, by rw [← hfin.out]; exact Hown.out, hb⟩

def TupPost (e : TypeId) (r : List Ent × Int) (w : World) (e' : Ending) (w' : World) : Prop := ∃ v, e' = .returned (.tuple #[v, .int .i64 r.2]) ∧ w'.ownsRow w.heap.size e 2 v r.1.length (entsC r.1) ∧ Below w.heap.size w w'
theorem TupPost.mk {e : TypeId} {r : List Ent × Int} {l : List Ent} {c : Int} {v : Value} {w w' : World} (h : r = (l, c)) (ho : w'.ownsRow w.heap.size e 2 v l.length (entsC l)) (hb : Below w.heap.size w w') : TupPost e r w (.returned (.tuple #[v, .int .i64 c])) w' := ⟨v, by rw [h], by rw [h]; exact ho, hb⟩
end Go.Proofs.Ytjhimcddgkoghaa
/- The program's part, with, without, Put, Remove, Scan. -/
namespace Go.Proofs.Ytjhimcddgkoghaa
open Go.RowKit

theorem entsC_one (es : List Ent) : ∀ u ∈ entsC es, u.oneCell' = true := by
  intro u hu
  rw [entsC, List.mem_flatMap] at hu
  obtain ⟨e, _, h⟩ := hu
  simp [entC] at h
  rcases h with rfl | rfl <;> rfl
theorem piece_entsC (es : List Ent) (i m : Nat) : ((entsC es).drop (i * 2)).take (m * 2) = entsC ((es.drop i).take m) := by rw [entsC_drop, entsC_take]

theorem splice_full {α : Type} (L cs : List α) (h : L.length = cs.length) : splice L 0 cs = cs := by
  rw [splice, List.take_zero, List.nil_append, Nat.zero_add, ← h, List.drop_length, List.append_nil]

set_option maxHeartbeats 1000000 in
set_option maxRecDepth 100000 in
theorem part_any (A : Option Addr) (n c : Nat) (es : List Ent) (a b : Nat) (w : World) (hr : Rd w 2 A n (entsC es)) (hab : a ≤ b) (hbn : b ≤ n) (hnc : n ≤ c) (hc : c ≤ maxLen) (hm : n ≤ 4096) :
    Calls Try.prog 239 #[.slice A n c, .int .i64 a, .int .i64 b] w (OwnPost 167 ((es.drop a).take (b - a)) w) := by
  have hlen := hr.len
  obtain ⟨i0, hi, hz0, hz1, hz2⟩ := info_parts info_Entry
  have hmk := fun W => run_make_rowN (P := Try.prog) 239 167 i0 _ Try.underlying239 hi hz0 .i64 .i64 (b - a) (b - a) (Nat.le_refl _) (by rw [hz2]; omega) (by omega) W
  rw [hz1] at hmk
  have hpl : ((es.drop a).take (b - a)).length = b - a := by rw [List.length_take, List.length_drop]; omega
  have hcl : ((entsC es).drop (a * 2)).take ((b - a) * 2) = entsC ((es.drop a).take (b - a)) := piece_entsC es a (b - a)
  have Hcl := Lib.hid hcl; clear hcl
  have Hpl := Lib.hid hpl; clear hpl
  have Hlen := Lib.hid hlen; clear hlen
  have Hi := Lib.hid hi; clear hi
  have Hz1 := Lib.hid hz1; clear hz1
  clear hz0 hz2
  unfold maxLen at hc
  have hba : ((b : Int) - (a : Int)) = ((b - a : Nat) : Int) := by omega
  have hblk0 : Hid (Blk (w.alloc (.cells (madeCells #[Value.string ByteArray.empty, Value.int IntKind.i64 0] ((b - a) * 2)) 167)) w.heap.size 167 (madeCells #[Value.string ByteArray.empty, Value.int IntKind.i64 0] ((b - a) * 2))) := Blk.new _ _ _
  have hb0 : Hid (Below w.heap.size w (w.alloc (.cells (madeCells #[Value.string ByteArray.empty, Value.int IntKind.i64 0] ((b - a) * 2)) 167))) := (Below.refl _ _).alloc (Nat.le_refl _) _
  have hrd := Lib.hid (hr.alloc (.cells (madeCells #[Value.string ByteArray.empty, Value.int IntKind.i64 0] ((b - a) * 2)) 167))
  have hln := Lib.hid (show (((entsC es).drop (a * 2)).take ((b - a) * 2)).length = (b - a) * 2 from length_piece hr.1 (by omega))
  have hmin := Lib.hid (show Nat.min (b - a) (b - a) = b - a from Nat.min_self _)
  have hfin : Hid (∀ w' : World, Blk w' w.heap.size 167 (splice (madeCells #[Value.string ByteArray.empty, Value.int IntKind.i64 0] ((b - a) * 2)).toList 0 (((entsC es).drop (a * 2)).take ((b - a) * 2))).toArray →
      w'.ownsRow w.heap.size 167 2 (.slice (some ⟨w.heap.size, 0, none⟩) (b - a) (b - a)) ((es.drop a).take (b - a)).length (entsC ((es.drop a).take (b - a)))) := fun w' hblk => by
    have e1 := splice_full (madeCells #[Value.string ByteArray.empty, Value.int IntKind.i64 0] ((b - a) * 2)).toList (((entsC es).drop (a * 2)).take ((b - a) * 2)) (by rw [hln.out, Array.length_toList, size_madeCells])
    rw [e1, Hcl.out] at hblk
    rw [Hpl.out]
    have hl2 : (entsC ((es.drop a).take (b - a))).length = (b - a) * 2 := by rw [← Hcl.out]; exact hln.out
    exact hblk.own (Nat.le_refl _) (Nat.le_refl _) (by unfold maxLen; omega) (by simpa using hl2) (by rw [List.take_of_length_le (by show (entsC ((es.drop a).take (b - a))).length ≤ _; omega)])
  by_cases hca : c = a
  · have hcs : Hid ((((entsC es).drop (a * 2)).take ((b - a) * 2)).length = 0) := by show (((entsC es).drop (a * 2)).take ((b - a) * 2)).length = 0; rw [hln.out]; omega
    go_enter Try.func239, Try.ntmps239
    go_wp2_with (with_reducible refine wpList_copy_multi rfl (.tmp 12) (.tmp 16) 239 239 rfl 167 i0 2 Try.underlying239 Hi.out Hz1.out _ _ _ _ _ _ rfl rfl w.heap.size 0 _ 167 hblk0.out (((entsC es).drop (a * 2)).take ((b - a) * 2)) (hln.out.trans (by rw [hmin.out])) (fun hp => absurd hp (by rw [hcs.out]; omega)) (by rw [hln.out, size_madeCells]; omega) (by rw [Hcl.out]; exact entsC_one _) w.heap.size w hb0.out (Nat.le_refl _) ?_; intro w' hw1 hw2; have HW1 := Lib.hid hw1; clear hw1)
    go_ret
    exact ⟨_, rfl, hfin.out _ HW1.out, hw2⟩
  · go_enter Try.func239, Try.ntmps239
    go_wp2_with (with_reducible refine wpList_copy_multi rfl (.tmp 12) (.tmp 16) 239 239 rfl 167 i0 2 Try.underlying239 Hi.out Hz1.out _ _ _ _ _ _ rfl rfl w.heap.size 0 _ 167 hblk0.out (((entsC es).drop (a * 2)).take ((b - a) * 2)) (hln.out.trans (by rw [hmin.out])) (fun hp => ⟨rfl, hrd.out.cut (by omega) hp⟩) (by rw [hln.out, size_madeCells]; omega) (by rw [Hcl.out]; exact entsC_one _) w.heap.size w hb0.out (Nat.le_refl _) ?_; intro w' hw1 hw2; have HW1 := Lib.hid hw1; clear hw1)
    go_ret
    exact ⟨_, rfl, hfin.out _ HW1.out, hw2⟩

end Go.Proofs.Ytjhimcddgkoghaa
/- The program's with: an entry put in at its place, into new memory. -/
namespace Go.Proofs.Ytjhimcddgkoghaa
open Go.RowKit

theorem ins_cells (L0 : List Value) (a b : List Ent) (k : ByteArray) (v : Int) (h : L0.length = (a.length + 1 + b.length) * 2) :
    splice (((splice L0 0 (entsC a)).set (a.length * 2) (.string k)).set (a.length * 2 + 1) (.int .i64 v)) ((a.length + 1) * 2) (entsC b) = entsC (a ++ (k, v) :: b) := by
  have hla := entsC_length a
  have hlb := entsC_length b
  have e1 : splice L0 0 (entsC a) = entsC a ++ L0.drop (a.length * 2) := by rw [splice, List.take_zero, List.nil_append, Nat.zero_add, hla]
  rw [e1]
  have hd : (L0.drop (a.length * 2)).length = (1 + b.length) * 2 := by rw [List.length_drop, h]; omega
  generalize L0.drop (a.length * 2) = r at *
  match r, hd with
  | [], hd => simp at hd; omega
  | [_], hd => simp at hd; omega
  | x :: y :: r, hd =>
    have hr : r.length = b.length * 2 := by simp at hd; omega
    have e2 : ((entsC a ++ x :: y :: r).set (a.length * 2) (.string k)).set (a.length * 2 + 1) (.int .i64 v) = entsC a ++ .string k :: .int .i64 v :: r := by
      rw [← hla, List.set_append_right _ _ (Nat.le_refl _), List.set_append_right _ _ (by omega)]
      simp
    rw [e2, splice, hlb]
    have e3 : (entsC a ++ Value.string k :: Value.int .i64 v :: r).take ((a.length + 1) * 2) = entsC a ++ [.string k, .int .i64 v] := by
      rw [List.take_append, hla, List.take_of_length_le (by omega), show (a.length + 1) * 2 - a.length * 2 = 2 from by omega]; rfl
    have e4 : (entsC a ++ Value.string k :: Value.int .i64 v :: r).drop ((a.length + 1) * 2 + b.length * 2) = [] := List.drop_eq_nil_of_le (by simp [hla, hr]; omega)
    rw [e3, e4, List.append_nil, entsC_append, entsC_cons]
    simp

theorem Rd.front {w : World} {sz n : Nat} {A : Option Addr} {xs : List Value} (h : Rd w sz A n xs) {m : Nat} (hm : m ≤ n) (hpos : 0 < (xs.take (m * sz)).length) :
    ∃ ad, A = some ad ∧ ∀ j v, (xs.take (m * sz))[j]? = some v → w.cell? (ad.add j) = some v := by
  obtain ⟨b, off, rfl, hc⟩ := h.piece (i := 0) (m := m) (by omega) (by simpa using hpos)
  simp only [Nat.zero_mul, List.drop_zero, Nat.add_zero] at hc
  exact ⟨_, rfl, hc⟩
theorem Blk.two {w : World} {g : Nat} {t : TypeId} {cs : Array Value} (h : Blk w g t cs) {k : Nat} (hk : k * 2 + 1 < cs.size) :
    ∃ y0 y1, w.cell? ⟨g, k * 2, none⟩ = some y0 ∧ w.cell? ⟨g, k * 2 + 1, none⟩ = some y1 ∧ w.frozen? ⟨g, k * 2, none⟩ = false ∧ w.frozen? ⟨g, k * 2 + 1, none⟩ = false :=
  ⟨_, _, (h.cell _).trans (Array.getElem?_eq_getElem (by omega)), (h.cell _).trans (Array.getElem?_eq_getElem hk), h.frozen _, h.frozen _⟩
theorem Blk.cast {w : World} {g : Nat} {t : TypeId} {cs cs' : Array Value} (h : Blk w g t cs) (e : cs.toList = cs'.toList) : Blk w g t cs' := by
  have : cs = cs' := Array.ext' e
  rw [← this]; exact h

set_option maxHeartbeats 2000000 in
set_option maxRecDepth 100000 in
theorem with_any (A : Option Addr) (n c : Nat) (es : List Ent) (key : ByteArray) (v : Int) (w : World) (hr : Rd w 2 A n (entsC es)) (hs : Srt es) (hnc : n ≤ c) (hm : n ≤ 4096) :
    Calls Try.prog 241 #[.slice A n c, .agg #[.string key, .int .i64 v]] w (OwnPost 167 (putL es key v) w) := by
  have hlen := hr.len
  have Hlen := Lib.hid hlen; clear hlen
  have hm' : n ≤ maxLen := by unfold maxLen; omega
  obtain ⟨i0, hi, hz0, hz1, hz2⟩ := info_parts info_Entry
  have hmkN : Hid (∀ (N : Nat) (x : Int), x = N → N ≤ 100000 → ∀ W : World, (Instr.makeSlice 239 (.int .i64 x) (.int .i64 x)).run Try.prog W = .ok (.slice (some ⟨W.heap.size, 0, none⟩) N N) (W.alloc (.cells (madeCells #[Value.string ByteArray.empty, Value.int IntKind.i64 0] (N * 2)) 167))) := fun N x hx hN W => by
    subst hx
    have h := run_make_rowN (P := Try.prog) 239 167 i0 _ Try.underlying239 hi hz0 .i64 .i64 N N (Nat.le_refl _) (by rw [hz2]; omega) (by omega) W
    rw [hz1] at h; exact h
  have Hi := Lib.hid hi; clear hi
  have Hz1 := Lib.hid hz1; clear hz1
  clear hz0 hz2
  have hmeth := method_key
  go_enter Try.func241, Try.ntmps241
  go_wp2_with fail
  have hx0 : (w.alloc (Obj.cells #[Value.string key, Value.int IntKind.i64 v] 167)).cell? ⟨w.heap.size, 0, none⟩ = some (.string key) := cell_of_row _ _ _ _ _ (0, 0) (heap_alloc_new w _)
  have hx1 : (w.alloc (Obj.cells #[Value.string key, Value.int IntKind.i64 v] 167)).cell? ⟨w.heap.size, 1, none⟩ = some (.int .i64 v) := cell_of_row _ _ _ _ _ (0, 0) (heap_alloc_new w _)
  have hpl : w.heap.size < (w.alloc (Obj.cells #[Value.string key, Value.int IntKind.i64 v] 167)).heap.size := by simp
  have hb0 : Below w.heap.size w (w.alloc (Obj.cells #[Value.string key, Value.int IntKind.i64 v] 167)) := (Below.refl _ _).alloc (Nat.le_refl _) _
  have hrd0 := hr.below hb0 (Nat.le_refl _)
  generalize w.alloc (Obj.cells #[Value.string key, Value.int IntKind.i64 v] 167) = w0 at *
  have HRD0 := Lib.hid hrd0
  have HB0 := Lib.hid hb0; clear hb0
  have Hpq := Lib.hid hpl
  generalize hq : w.heap.size = q at *
  have Hq := Lib.hid hq; clear hq
  refine (keyOf_any _ _ _).mono ?_
  rintro e w1 ⟨rfl, hb1⟩
  go_wp2_with fail
  refine (find_any A n c es key _ (hrd0.below hb1 (Nat.le_refl _)) hm').mono ?_
  rintro e w2 ⟨p, f, rfl, hp, hy, hn, hb2⟩
  have hb02 := keepS hb1 hb2
  have hrd2 := Lib.hid (hrd0.below hb02 (Nat.le_refl _))
  have hple : p ≤ n := by have := hp.1; rw [Hlen.out] at this; exact this
  have hbs := hb02.size
  cases f with
  | false =>
    have hput := Lib.hid (hp.put_no hs (hn rfl) v)
    clear hy hn hp
    have hmk := hmkN.out (n + 1) ((p : Int) + 1 + n - p) (by omega) (by omega)
    have hB3 := Lib.hid (Blk.new w2 167 (madeCells #[Value.string ByteArray.empty, Value.int IntKind.i64 0] ((n + 1) * 2)))
    have hb3 := Lib.hid (hb02.alloc hbs (.cells (madeCells #[Value.string ByteArray.empty, Value.int IntKind.i64 0] ((n + 1) * 2)) 167))
    have hrd3 := Lib.hid (hrd2.out.alloc (.cells (madeCells #[Value.string ByteArray.empty, Value.int IntKind.i64 0] ((n + 1) * 2)) 167))
    have hL0 := Lib.hid (show (madeCells #[Value.string ByteArray.empty, Value.int IntKind.i64 0] ((n + 1) * 2)).size = (n + 1) * 2 from size_madeCells _ _)
    generalize madeCells #[Value.string ByteArray.empty, Value.int IntKind.i64 0] ((n + 1) * 2) = L0 at *
    have hta := Lib.hid (show (es.take p).length = p by rw [List.length_take, Hlen.out]; omega)
    have htb := Lib.hid (show (es.drop (p)).length = n - (p) by rw [List.length_drop, Hlen.out])
    have ht1 := Lib.hid (show (entsC (es.take p)).length = p * 2 by rw [entsC_length, hta.out])
    have ht2 := Lib.hid (show (entsC (es.drop (p))).length = (n - (p)) * 2 by rw [entsC_length, htb.out])
    have hL0' := Lib.hid (show L0.toList.length = ((es.take p).length + 1 + (es.drop (p)).length) * 2 by rw [hta.out, htb.out, Array.length_toList, hL0.out]; omega)
    have hplen := Lib.hid (show (putL es key v).length = n + 1 by rw [hput.out, List.length_append, List.length_cons, hta.out, htb.out]; omega)
    have hins := Lib.hid (ins_cells L0.toList (es.take p) (es.drop (p)) key v hL0'.out)
    have hfin : Hid (∀ w' : World, Blk w' w2.heap.size 167 (splice (((splice L0.toList 0 (entsC (es.take p))).toArray.setIfInBounds (p * 2) (.string key)).setIfInBounds (p * 2 + 1) (.int .i64 v)).toList ((p + 1) * 2) (entsC (es.drop (p)))).toArray → Below w0.heap.size w0 w' →
        OwnPost 167 (putL es key v) w (.returned (.slice (some ⟨w2.heap.size, 0, none⟩) (n + 1) (n + 1))) w') := fun w' hblk hbw => by
      have h1 := hins.out
      rw [hta.out] at h1
      rw [Array.toList_setIfInBounds, Array.toList_setIfInBounds, List.toList_toArray, h1, ← hput.out] at hblk
      have hbq : Below w.heap.size w w' := by rw [Hq.out]; exact HB0.out.trans (hbw.mono (Nat.le_of_lt Hpq.out))
      have h2 : (entsC (putL es key v)).length = (n + 1) * 2 := by rw [entsC_length, hplen.out]
      refine ⟨_, rfl, ?_, hbq⟩
      rw [hplen.out]
      exact hblk.own (by have := Hpq.out; have := Hq.out; omega) (Nat.le_refl _) (by unfold maxLen; omega) (by simpa using h2) (by rw [List.toList_toArray, List.take_of_length_le (by omega)])
    go_wp2_with (with_reducible refine wpList_copy_multi rfl (.tmp 29) (.tmp 32) 239 239 rfl 167 i0 2 Try.underlying239 Hi.out Hz1.out _ _ _ _ _ _ rfl rfl w2.heap.size 0 _ 167 hB3.out (entsC (es.take p)) (by rw [ht1.out]; congr 1; exact (Nat.min_eq_left (by omega)).symm) (fun hp => ⟨rfl, by have h := hrd3.out.front (m := p) (by omega); rw [entsC_take] at h; exact h hp⟩) (by rw [ht1.out, hL0.out]; omega) (entsC_one _) w0.heap.size w0 hb3.out hbs ?_; intro w4 hw1 hw2; have hy0 := cellS hw2 hpl hx0; have hy1 := cellS hw2 hpl hx1; obtain ⟨z0, z1, hz0, hz1, hf0, hf1⟩ := hw1.two (k := p) (by rw [List.size_toArray, length_splice _ _ _ (by rw [ht1.out, Array.length_toList, hL0.out]; omega), Array.length_toList, hL0.out]; omega); have HW1 := Lib.hid hw1; clear hw1)
    have hB5 := Lib.hid ((HW1.out.set_ (p * 2) (.string key)).set_ (p * 2 + 1) (.int .i64 v))
    have hb5 : Below w0.heap.size w0 ((w4.setCell ⟨w2.heap.size, p * 2, none⟩ (.string key)).setCell ⟨w2.heap.size, p * 2 + 1, none⟩ (.int .i64 v)) := (hw2.setCell (p := ⟨w2.heap.size, p * 2, none⟩) hbs _).setCell (p := ⟨w2.heap.size, p * 2 + 1, none⟩) hbs _
    clear hy0 hy1 hz0 hz1 hf0 hf1 hx0 hx1 hrd0 hmk
    generalize (w4.setCell ⟨w2.heap.size, p * 2, none⟩ (.string key)).setCell ⟨w2.heap.size, p * 2 + 1, none⟩ (.int .i64 v) = w5 at *
    have hB6 := Lib.hid (hB5.out.drew)
    have hb6 := Lib.hid (hb5.drew)
    have hrd6 := Lib.hid ((HRD0.out.below hb5 (Nat.le_refl _)).drew)
    have hq0 : (0 : Int) ≤ (p : Int) + 1 := by omega
    have hq1 : ((p : Int) + 1).toNat = p + 1 := by omega
    have hq2 : ¬ n + 1 < p + 1 := by omega
    have hq3 : IntKind.i64.wrap ((p : Int) + 1) = (p : Int) + 1 := IntWalk.i64_in _ (by omega)
    by_cases hrn : p < n
    · have hne1 : ¬ n = p := by omega
      have hne2 : ¬ c = p := by omega
      go_still_tail 7, (by kernel_rfl)
      change wpList _ _ _ _ _ w5.drew
      generalize w5.drew = w6 at *
      go_wp2_with (with_reducible refine wpList_copy_multi rfl (.tmp 41) (.tmp 44) 239 239 rfl 167 i0 2 Try.underlying239 Hi.out Hz1.out _ _ _ _ _ _ rfl rfl w2.heap.size ((p + 1) * 2) _ 167 hB6.out (entsC (es.drop (p))) (by rw [ht2.out]; congr 1; exact (Nat.min_eq_left (by omega)).symm) (fun hp => ⟨rfl, by have h := hrd6.out.cut (i := p) (m := n - (p)) (by omega); rw [entsC_drop, List.take_of_length_le (by rw [ht2.out]; omega)] at h; exact h hp⟩) (by rw [ht2.out, Array.size_setIfInBounds, Array.size_setIfInBounds, List.size_toArray, length_splice _ _ _ (by rw [ht1.out, Array.length_toList, hL0.out]; omega), Array.length_toList, hL0.out]; omega) (entsC_one _) w0.heap.size w0 hb6.out hbs ?_; intro w7 hw71 hw72; have HW71 := Lib.hid hw71; clear hw71)
      go_ret
      exact hfin.out _ HW71.out hw72
    · have hpn : p = n := by omega
      subst hpn
      have hcs := Lib.hid (show (entsC (es.drop p)).length = 0 by rw [ht2.out]; omega)
      have hsub : p - p = 0 := Nat.sub_self p
      by_cases hcp : c = p
      all_goals
        go_still_tail 7, (by kernel_rfl)
        change wpList _ _ _ _ _ w5.drew
        generalize w5.drew = w6 at *
        go_wp2_with (with_reducible refine wpList_copy_multi rfl (.tmp 41) (.tmp 44) 239 239 rfl 167 i0 2 Try.underlying239 Hi.out Hz1.out _ _ _ _ _ _ rfl rfl w2.heap.size ((p + 1) * 2) _ 167 hB6.out (entsC (es.drop (p))) (by rw [hcs.out]; simp) (fun hp => absurd hp (by rw [hcs.out]; omega)) (by rw [ht2.out, Array.size_setIfInBounds, Array.size_setIfInBounds, List.size_toArray, length_splice _ _ _ (by rw [ht1.out, Array.length_toList, hL0.out]; omega), Array.length_toList, hL0.out]; omega) (entsC_one _) w0.heap.size w0 hb6.out hbs ?_; intro w7 hw71 hw72; have HW71 := Lib.hid hw71; clear hw71)
        go_ret
        exact hfin.out _ HW71.out hw72
  | true =>
    obtain ⟨hlt, he⟩ := hy rfl
    have hpn0 : p < n := by rw [Hlen.out] at hlt; exact hlt
    have hput := Lib.hid (hp.put_yes hs hlt he v)
    clear hy hn hp hlt he
    have hmk := hmkN.out (n) ((p : Int) + 1 + n - (p + 1)) (by omega) (by omega)
    have hB3 := Lib.hid (Blk.new w2 167 (madeCells #[Value.string ByteArray.empty, Value.int IntKind.i64 0] ((n) * 2)))
    have hb3 := Lib.hid (hb02.alloc hbs (.cells (madeCells #[Value.string ByteArray.empty, Value.int IntKind.i64 0] ((n) * 2)) 167))
    have hrd3 := Lib.hid (hrd2.out.alloc (.cells (madeCells #[Value.string ByteArray.empty, Value.int IntKind.i64 0] ((n) * 2)) 167))
    have hL0 := Lib.hid (show (madeCells #[Value.string ByteArray.empty, Value.int IntKind.i64 0] ((n) * 2)).size = (n) * 2 from size_madeCells _ _)
    generalize madeCells #[Value.string ByteArray.empty, Value.int IntKind.i64 0] ((n) * 2) = L0 at *
    have hta := Lib.hid (show (es.take p).length = p by rw [List.length_take, Hlen.out]; omega)
    have htb := Lib.hid (show (es.drop (p + 1)).length = n - (p + 1) by rw [List.length_drop, Hlen.out])
    have ht1 := Lib.hid (show (entsC (es.take p)).length = p * 2 by rw [entsC_length, hta.out])
    have ht2 := Lib.hid (show (entsC (es.drop (p + 1))).length = (n - (p + 1)) * 2 by rw [entsC_length, htb.out])
    have hL0' := Lib.hid (show L0.toList.length = ((es.take p).length + 1 + (es.drop (p + 1)).length) * 2 by rw [hta.out, htb.out, Array.length_toList, hL0.out]; omega)
    have hplen := Lib.hid (show (putL es key v).length = n by rw [hput.out, List.length_append, List.length_cons, hta.out, htb.out]; omega)
    have hins := Lib.hid (ins_cells L0.toList (es.take p) (es.drop (p + 1)) key v hL0'.out)
    have hfin : Hid (∀ w' : World, Blk w' w2.heap.size 167 (splice (((splice L0.toList 0 (entsC (es.take p))).toArray.setIfInBounds (p * 2) (.string key)).setIfInBounds (p * 2 + 1) (.int .i64 v)).toList ((p + 1) * 2) (entsC (es.drop (p + 1)))).toArray → Below w0.heap.size w0 w' →
        OwnPost 167 (putL es key v) w (.returned (.slice (some ⟨w2.heap.size, 0, none⟩) (n) (n))) w') := fun w' hblk hbw => by
      have h1 := hins.out
      rw [hta.out] at h1
      rw [Array.toList_setIfInBounds, Array.toList_setIfInBounds, List.toList_toArray, h1, ← hput.out] at hblk
      have hbq : Below w.heap.size w w' := by rw [Hq.out]; exact HB0.out.trans (hbw.mono (Nat.le_of_lt Hpq.out))
      have h2 : (entsC (putL es key v)).length = (n) * 2 := by rw [entsC_length, hplen.out]
      refine ⟨_, rfl, ?_, hbq⟩
      rw [hplen.out]
      exact hblk.own (by have := Hpq.out; have := Hq.out; omega) (Nat.le_refl _) (by unfold maxLen; omega) (by simpa using h2) (by rw [List.toList_toArray, List.take_of_length_le (by omega)])
    go_wp2_with (with_reducible refine wpList_copy_multi rfl (.tmp 29) (.tmp 32) 239 239 rfl 167 i0 2 Try.underlying239 Hi.out Hz1.out _ _ _ _ _ _ rfl rfl w2.heap.size 0 _ 167 hB3.out (entsC (es.take p)) (by rw [ht1.out]; congr 1; exact (Nat.min_eq_left (by omega)).symm) (fun hp => ⟨rfl, by have h := hrd3.out.front (m := p) (by omega); rw [entsC_take] at h; exact h hp⟩) (by rw [ht1.out, hL0.out]; omega) (entsC_one _) w0.heap.size w0 hb3.out hbs ?_; intro w4 hw1 hw2; have hy0 := cellS hw2 hpl hx0; have hy1 := cellS hw2 hpl hx1; obtain ⟨z0, z1, hz0, hz1, hf0, hf1⟩ := hw1.two (k := p) (by rw [List.size_toArray, length_splice _ _ _ (by rw [ht1.out, Array.length_toList, hL0.out]; omega), Array.length_toList, hL0.out]; omega); have HW1 := Lib.hid hw1; clear hw1)
    have hB5 := Lib.hid ((HW1.out.set_ (p * 2) (.string key)).set_ (p * 2 + 1) (.int .i64 v))
    have hb5 : Below w0.heap.size w0 ((w4.setCell ⟨w2.heap.size, p * 2, none⟩ (.string key)).setCell ⟨w2.heap.size, p * 2 + 1, none⟩ (.int .i64 v)) := (hw2.setCell (p := ⟨w2.heap.size, p * 2, none⟩) hbs _).setCell (p := ⟨w2.heap.size, p * 2 + 1, none⟩) hbs _
    clear hy0 hy1 hz0 hz1 hf0 hf1 hx0 hx1 hrd0 hmk
    generalize (w4.setCell ⟨w2.heap.size, p * 2, none⟩ (.string key)).setCell ⟨w2.heap.size, p * 2 + 1, none⟩ (.int .i64 v) = w5 at *
    have hB6 := Lib.hid (hB5.out.drew)
    have hb6 := Lib.hid (hb5.drew)
    have hrd6 := Lib.hid ((HRD0.out.below hb5 (Nat.le_refl _)).drew)
    have hq0 : (0 : Int) ≤ (p : Int) + 1 := by omega
    have hq1 : ((p : Int) + 1).toNat = p + 1 := by omega
    have hq2 : ¬ n < p + 1 := by omega
    have hq4 : p + 1 ≤ n := by omega
    have hq5 : (p : Int) + 1 ≤ (n : Int) := by omega
    have hq6 : p < n := by omega
    have hq3 : IntKind.i64.wrap ((p : Int) + 1) = (p : Int) + 1 := IntWalk.i64_in _ (by omega)
    by_cases hrn : p + 1 < n
    · have hne1 : ¬ n = p + 1 := by omega
      have hne2 : ¬ c = p + 1 := by omega
      go_still_tail 7, (by kernel_rfl)
      change wpList _ _ _ _ _ w5.drew
      generalize w5.drew = w6 at *
      go_wp2_with (with_reducible refine wpList_copy_multi rfl (.tmp 41) (.tmp 44) 239 239 rfl 167 i0 2 Try.underlying239 Hi.out Hz1.out _ _ _ _ _ _ rfl rfl w2.heap.size ((p + 1) * 2) _ 167 hB6.out (entsC (es.drop (p + 1))) (by rw [ht2.out]; congr 1; exact (Nat.min_eq_left (by omega)).symm) (fun hp => ⟨rfl, by have h := hrd6.out.cut (i := p + 1) (m := n - (p + 1)) (by omega); rw [entsC_drop, List.take_of_length_le (by rw [ht2.out]; omega)] at h; exact h hp⟩) (by rw [ht2.out, Array.size_setIfInBounds, Array.size_setIfInBounds, List.size_toArray, length_splice _ _ _ (by rw [ht1.out, Array.length_toList, hL0.out]; omega), Array.length_toList, hL0.out]; omega) (entsC_one _) w0.heap.size w0 hb6.out hbs ?_; intro w7 hw71 hw72; have HW71 := Lib.hid hw71; clear hw71)
      go_ret
      exact hfin.out _ HW71.out hw72
    · have hpn : n = p + 1 := by omega
      subst hpn
      have hcs := Lib.hid (show (entsC (es.drop (p + 1))).length = 0 by rw [ht2.out]; omega)
      have hsub : p + 1 - (p + 1) = 0 := Nat.sub_self _
      by_cases hcp : c = p + 1
      all_goals
        go_still_tail 7, (by kernel_rfl)
        change wpList _ _ _ _ _ w5.drew
        generalize w5.drew = w6 at *
        go_wp2_with (with_reducible refine wpList_copy_multi rfl (.tmp 41) (.tmp 44) 239 239 rfl 167 i0 2 Try.underlying239 Hi.out Hz1.out _ _ _ _ _ _ rfl rfl w2.heap.size ((p + 1) * 2) _ 167 hB6.out (entsC (es.drop (p + 1))) (by rw [hcs.out]; simp) (fun hp => absurd hp (by rw [hcs.out]; omega)) (by rw [ht2.out, Array.size_setIfInBounds, Array.size_setIfInBounds, List.size_toArray, length_splice _ _ _ (by rw [ht1.out, Array.length_toList, hL0.out]; omega), Array.length_toList, hL0.out]; omega) (entsC_one _) w0.heap.size w0 hb6.out hbs ?_; intro w7 hw71 hw72; have HW71 := Lib.hid hw71; clear hw71)
        go_ret
        exact hfin.out _ HW71.out hw72

end Go.Proofs.Ytjhimcddgkoghaa
/- The program's without: an entry taken out, into new memory. -/
namespace Go.Proofs.Ytjhimcddgkoghaa
open Go.RowKit

theorem del_cells (L0 : List Value) (a b : List Ent) (h : L0.length = (a.length + b.length) * 2) :
    splice (splice L0 0 (entsC a)) (a.length * 2) (entsC b) = entsC (a ++ b) := by
  have hla := entsC_length a
  have hlb := entsC_length b
  have e1 : splice L0 0 (entsC a) = entsC a ++ L0.drop (a.length * 2) := by rw [splice, List.take_zero, List.nil_append, Nat.zero_add, hla]
  have hd : (L0.drop (a.length * 2)).length = b.length * 2 := by rw [List.length_drop, h]; omega
  rw [e1, splice, hlb]
  have e3 : (entsC a ++ L0.drop (a.length * 2)).take (a.length * 2) = entsC a := by rw [← hla]; exact List.take_left
  have e4 : (entsC a ++ L0.drop (a.length * 2)).drop (a.length * 2 + b.length * 2) = [] := List.drop_eq_nil_of_le (by simp [hla]; omega)
  rw [e3, e4, List.append_nil, entsC_append]

set_option maxHeartbeats 2000000 in
set_option maxRecDepth 100000 in
theorem without_any (A : Option Addr) (n c : Nat) (es : List Ent) (key : ByteArray) (w : World) (hr : Rd w 2 A n (entsC es)) (hs : Srt es) (hnc : n ≤ c) (hc : c ≤ maxLen) (hm : n ≤ 4096) :
    Calls Try.prog 240 #[.slice A n c, .string key] w (OwnPost 167 (delL es key) w) := by
  have hlen := hr.len
  have Hlen := Lib.hid hlen; clear hlen
  have hm' : n ≤ maxLen := by unfold maxLen; omega
  obtain ⟨i0, hi, hz0, hz1, hz2⟩ := info_parts info_Entry
  have hmkN : Hid (∀ (N : Nat) (x : Int), x = N → N ≤ 100000 → ∀ W : World, (Instr.makeSlice 239 (.int .i64 x) (.int .i64 x)).run Try.prog W = .ok (.slice (some ⟨W.heap.size, 0, none⟩) N N) (W.alloc (.cells (madeCells #[Value.string ByteArray.empty, Value.int IntKind.i64 0] (N * 2)) 167))) := fun N x hx hN W => by
    subst hx
    have h := run_make_rowN (P := Try.prog) 239 167 i0 _ Try.underlying239 hi hz0 .i64 .i64 N N (Nat.le_refl _) (by rw [hz2]; omega) (by omega) W
    rw [hz1] at h; exact h
  have Hi := Lib.hid hi; clear hi
  have Hz1 := Lib.hid hz1; clear hz1
  clear hz0 hz2
  go_enter Try.func240, Try.ntmps240
  go_wp2_with fail
  refine (find_any A n c es key _ hr hm').mono ?_
  rintro e w2 ⟨p, f, rfl, hp, hy, hn, hb2⟩
  have hrd2 := hr.below hb2 (Nat.le_refl _)
  have hple : p ≤ n := by have := hp.1; rw [Hlen.out] at this; exact this
  have hbs := hb2.size
  cases f with
  | false =>
    have hdel := Lib.hid (del_no (hp.fnd_no hs (hn rfl)))
    have htk := Lib.hid (show (es.drop 0).take (n - 0) = es by rw [List.drop_zero, List.take_of_length_le (by rw [Hlen.out]; omega)])
    clear hy hn hp
    go_wp2_with (go_at_call 239; refine (part_any A n c es 0 n _ hrd2 (by omega) (by omega) hnc hc hm).mono ?_; rintro e w3 ⟨v3, rfl, ho3, hb3⟩; rw [htk.out] at ho3; have HO3 := Lib.hid ho3; clear ho3)
    go_ret
    exact ⟨_, rfl, by rw [hdel.out]; exact ownsRow_base HO3.out hbs, keepS hb2 hb3⟩
  | true =>
    obtain ⟨hlt, he⟩ := hy rfl
    have hpn0 : p < n := by rw [Hlen.out] at hlt; exact hlt
    have hdel := Lib.hid (hp.del_yes hs hlt he)
    clear hy hn hp hlt he
    have hmk := hmkN.out (n - 1) ((n : Int) - 1) (by omega) (by omega)
    have hB3 := Lib.hid (Blk.new w2 167 (madeCells #[Value.string ByteArray.empty, Value.int IntKind.i64 0] ((n - 1) * 2)))
    have hb3 := Lib.hid (hb2.alloc hbs (.cells (madeCells #[Value.string ByteArray.empty, Value.int IntKind.i64 0] ((n - 1) * 2)) 167))
    have hrd3 := Lib.hid (hrd2.alloc (.cells (madeCells #[Value.string ByteArray.empty, Value.int IntKind.i64 0] ((n - 1) * 2)) 167))
    have hL0 := Lib.hid (show (madeCells #[Value.string ByteArray.empty, Value.int IntKind.i64 0] ((n - 1) * 2)).size = (n - 1) * 2 from size_madeCells _ _)
    generalize madeCells #[Value.string ByteArray.empty, Value.int IntKind.i64 0] ((n - 1) * 2) = L0 at *
    have hta := Lib.hid (show (es.take p).length = p by rw [List.length_take, Hlen.out]; omega)
    have htb := Lib.hid (show (es.drop (p + 1)).length = n - (p + 1) by rw [List.length_drop, Hlen.out])
    have ht1 := Lib.hid (show (entsC (es.take p)).length = p * 2 by rw [entsC_length, hta.out])
    have ht2 := Lib.hid (show (entsC (es.drop (p + 1))).length = (n - (p + 1)) * 2 by rw [entsC_length, htb.out])
    have hL0' := Lib.hid (show L0.toList.length = ((es.take p).length + (es.drop (p + 1)).length) * 2 by rw [hta.out, htb.out, Array.length_toList, hL0.out]; omega)
    have hplen := Lib.hid (show (delL es key).length = n - 1 by rw [hdel.out, List.length_append, hta.out, htb.out]; omega)
    have hins := Lib.hid (del_cells L0.toList (es.take p) (es.drop (p + 1)) hL0'.out)
    have hfin : Hid (∀ w' : World, Blk w' w2.heap.size 167 (splice (splice L0.toList 0 (entsC (es.take p))).toArray.toList (p * 2) (entsC (es.drop (p + 1)))).toArray → Below w.heap.size w w' →
        OwnPost 167 (delL es key) w (.returned (.slice (some ⟨w2.heap.size, 0, none⟩) (n - 1) (n - 1))) w') := fun w' hblk hbw => by
      have h1 := hins.out
      rw [hta.out] at h1
      rw [List.toList_toArray, h1, ← hdel.out] at hblk
      have h2 : (entsC (delL es key)).length = (n - 1) * 2 := by rw [entsC_length, hplen.out]
      refine ⟨_, rfl, ?_, hbw⟩
      rw [hplen.out]
      exact hblk.own hbs (Nat.le_refl _) (by unfold maxLen; omega) (by simpa using h2) (by rw [List.toList_toArray, List.take_of_length_le (by omega)])
    unfold maxLen at hc
    go_wp2_with (with_reducible refine wpList_copy_multi rfl (.tmp 24) (.tmp 27) 239 239 rfl 167 i0 2 Try.underlying239 Hi.out Hz1.out _ _ _ _ _ _ rfl rfl w2.heap.size 0 _ 167 hB3.out (entsC (es.take p)) (by rw [ht1.out]; congr 1; exact (Nat.min_eq_left (by omega)).symm) (fun hp => ⟨rfl, by have h := hrd3.out.front (m := p) (by omega); rw [entsC_take] at h; exact h hp⟩) (by rw [ht1.out, hL0.out]; omega) (entsC_one _) w.heap.size w hb3.out hbs ?_; intro w4 hw1 hw2; have HW1 := Lib.hid hw1; clear hw1)
    have hB6 := Lib.hid (HW1.out.drew)
    have hb6 := Lib.hid (hw2.drew)
    have hrd6 := Lib.hid ((hr.below hw2 (Nat.le_refl _)).drew)
    have hq0 : (0 : Int) ≤ (p : Int) + 1 := by omega
    have hq1 : ((p : Int) + 1).toNat = p + 1 := by omega
    have hq3 : IntKind.i64.wrap ((p : Int) + 1) = (p : Int) + 1 := IntWalk.i64_in _ (by omega)
    have hq2 : ¬ n < p + 1 := by omega
    have hq4 : p + 1 ≤ n := by omega
    have hq5 : (p : Int) + 1 ≤ (n : Int) := by omega
    have hq7 : ¬ n - 1 < p := by omega
    have hq8 : p ≤ n - 1 := by omega
    have hn1 : n - 1 - p = n - (p + 1) := by omega
    by_cases hrn : p + 1 < n
    · have hne1 : ¬ n - 1 = p := by omega
      have hne2 : ¬ c = p + 1 := by omega
      go_still_tail 7, (by kernel_rfl)
      change wpList _ _ _ _ _ w4.drew
      generalize w4.drew = w6 at *
      go_wp2_with (with_reducible refine wpList_copy_multi rfl (.tmp 31) (.tmp 35) 239 239 rfl 167 i0 2 Try.underlying239 Hi.out Hz1.out _ _ _ _ _ _ rfl rfl w2.heap.size (p * 2) _ 167 hB6.out (entsC (es.drop (p + 1))) (by rw [ht2.out]; congr 1; exact (Nat.min_eq_left (by omega)).symm) (fun hp => ⟨rfl, by have h := hrd6.out.cut (i := p + 1) (m := n - (p + 1)) (by omega); rw [entsC_drop, List.take_of_length_le (by rw [ht2.out]; omega)] at h; exact h hp⟩) (by rw [ht2.out, List.size_toArray, length_splice _ _ _ (by rw [ht1.out, Array.length_toList, hL0.out]; omega), Array.length_toList, hL0.out]; omega) (entsC_one _) w.heap.size w hb6.out hbs ?_; intro w7 hw71 hw72; have HW71 := Lib.hid hw71; clear hw71)
      go_ret
      exact hfin.out _ HW71.out hw72
    · have hpn : n = p + 1 := by omega
      subst hpn
      have hcs := Lib.hid (show (entsC (es.drop (p + 1))).length = 0 by rw [ht2.out]; omega)
      have hsub : p + 1 - (p + 1) = 0 := Nat.sub_self _
      by_cases hcp : c = p + 1
      all_goals
        go_still_tail 7, (by kernel_rfl)
        change wpList _ _ _ _ _ w4.drew
        generalize w4.drew = w6 at *
        go_wp2_with (with_reducible refine wpList_copy_multi rfl (.tmp 31) (.tmp 35) 239 239 rfl 167 i0 2 Try.underlying239 Hi.out Hz1.out _ _ _ _ _ _ rfl rfl w2.heap.size (p * 2) _ 167 hB6.out (entsC (es.drop (p + 1))) (by rw [hcs.out]; simp) (fun hp => absurd hp (by rw [hcs.out]; omega)) (by rw [ht2.out, List.size_toArray, length_splice _ _ _ (by rw [ht1.out, Array.length_toList, hL0.out]; omega), Array.length_toList, hL0.out]; omega) (entsC_one _) w.heap.size w hb6.out hbs ?_; intro w7 hw71 hw72; have HW71 := Lib.hid hw71; clear hw71)
        go_ret
        exact hfin.out _ HW71.out hw72

end Go.Proofs.Ytjhimcddgkoghaa
namespace Go.Proofs.Ytjhimcddgkoghaa
open Go.RowKit

instance edt_dec : DecidableEq Edt := fun a b => decidable_of_iff (a.key = b.key ∧ a.val = b.val ∧ a.gone = b.gone) ⟨fun ⟨h1, h2, h3⟩ => by cases a; cases b; simp at *; exact ⟨h1, h2, h3⟩, fun h => by subst h; exact ⟨rfl, rfl, rfl⟩⟩
theorem info_Edit : (Try.prog.info? 117).map (fun i => (i.zero, i.size, i.bytes)) = some (some (.agg #[.string ByteArray.empty, .int .i64 0, .bool false]), 3, 32) := by kernel_rfl

end Go.Proofs.Ytjhimcddgkoghaa
namespace Go.Proofs.Ytjhimcddgkoghaa
open Go.RowKit

def digs : Nat → Int → ByteArray → ByteArray
  | 0, _, t => t
  | f + 1, j, t => if 0 < j then digs f (j / 10) (strOfNums [48 + j % 10] ++ t) else t
def markB (k : Int) : ByteArray := if 0 < k then ⟨#[109]⟩ ++ digs k.toNat k ⟨#[]⟩ else ⟨#[109, 48]⟩
/-- what a row of entries holds behind its marking, from mark k on -/
def marked : Nat → Int → List Ent
  | 0, _ => []
  | n + 1, k => (markB k, k + 1) :: marked n (k + 2)
end Go.Proofs.Ytjhimcddgkoghaa
namespace Go.Proofs.Ytjhimcddgkoghaa
open Go.RowKit

end Go.Proofs.Ytjhimcddgkoghaa
namespace Go.Proofs.Ytjhimcddgkoghaa
open Go.RowKit

def diffL : Nat → List Ent → List Ent → List Edt
  | 0, _, _ => []
  | _ + 1, [], [] => []
  | f + 1, x :: a, [] => ⟨x.1, 0, true⟩ :: diffL f a []
  | f + 1, [], y :: b => ⟨y.1, y.2, false⟩ :: diffL f [] b
  | f + 1, x :: a, y :: b => if klt x.1 y.1 then ⟨x.1, 0, true⟩ :: diffL f a (y :: b) else if klt y.1 x.1 then ⟨y.1, y.2, false⟩ :: diffL f (x :: a) b else (if x.2 = y.2 then [] else [⟨y.1, y.2, false⟩]) ++ diffL f a b
def diffM (a b : List Ent) : List Edt := diffL (a.length + b.length) a b
theorem diffL_end (f : Nat) (a b : List Ent) (ha : a = []) (hb : b = []) : diffL f a b = [] := by subst ha; subst hb; cases f <;> rfl
theorem diffL_gone {f : Nat} {a b : List Ent} {p q : Nat} (hp : p < a.length) (h : b.length ≤ q ∨ ∃ hq : q < b.length, klt a[p].1 b[q].1 = true) : diffL (f + 1) (a.drop p) (b.drop q) = ⟨a[p].1, 0, true⟩ :: diffL f (a.drop (p + 1)) (b.drop q) := by
  rw [List.drop_eq_getElem_cons hp]
  rcases h with h | ⟨hq, h⟩
  · rw [List.drop_eq_nil_of_le h]; rfl
  · rw [List.drop_eq_getElem_cons hq, diffL, if_pos h]
theorem diffL_set {f : Nat} {a b : List Ent} {p q : Nat} (hq : q < b.length) (h : a.length ≤ p ∨ ∃ hp : p < a.length, klt b[q].1 a[p].1 = true) : diffL (f + 1) (a.drop p) (b.drop q) = ⟨b[q].1, b[q].2, false⟩ :: diffL f (a.drop p) (b.drop (q + 1)) := by
  rw [List.drop_eq_getElem_cons hq]
  rcases h with h | ⟨hp, h⟩
  · rw [List.drop_eq_nil_of_le h]; rfl
  · rw [List.drop_eq_getElem_cons hp, diffL, if_neg (by rw [klt_asymm h]; simp), if_pos h]
theorem diffL_both {f : Nat} {a b : List Ent} {p q : Nat} (hp : p < a.length) (hq : q < b.length) (h1 : klt a[p].1 b[q].1 = false) (h2 : klt b[q].1 a[p].1 = false) : diffL (f + 1) (a.drop p) (b.drop q) = (if a[p].2 = b[q].2 then [] else [⟨b[q].1, b[q].2, false⟩]) ++ diffL f (a.drop (p + 1)) (b.drop (q + 1)) := by
  rw [List.drop_eq_getElem_cons hp, List.drop_eq_getElem_cons hq, diffL, if_neg (by rw [h1]; simp), if_neg (by rw [h2]; simp)]

def EdtPost (e : TypeId) (l : List Edt) (w : World) (e' : Ending) (w' : World) : Prop := ∃ v, e' = .returned v ∧ w'.ownsRow w.heap.size e 3 v l.length (edtsC l) ∧ Below w.heap.size w w'
theorem edtsC_snoc (es : List Edt) (k : ByteArray) (v : Int) (g : Bool) : edtsC (es ++ [⟨k, v, g⟩]) = edtsC es ++ #[Value.string k, Value.int .i64 v, Value.bool g].toList := by rw [edtsC_append]; rfl
theorem edt_cells (k : ByteArray) (v : Int) (g : Bool) : ∀ u ∈ #[Value.string k, Value.int .i64 v, Value.bool g].toList, u.oneCell' = true := by
  intro u hu
  simp at hu
  rcases hu with rfl | rfl | rfl <;> rfl

set_option maxHeartbeats 4000000 in
set_option maxRecDepth 100000 in
theorem l01Diff_any (A : Option Addr) (n c : Nat) (es : List Ent) (A' : Option Addr) (n' c' : Nat) (es' : List Ent) (w : World) (hr : Rd w 2 A n (entsC es)) (hr' : Rd w 2 A' n' (entsC es')) (hm : n ≤ 4096) (hm' : n' ≤ 4096) :
    Calls Try.prog 169 #[.slice A n c, .slice A' n' c'] w (EdtPost 117 (diffM es es') w) := by
  have hlen := hr.len
  have hlen' := hr'.len
  have Hlen := Lib.hid hlen; clear hlen
  have Hlen' := Lib.hid hlen'; clear hlen'
  obtain ⟨i0, hi, hz0, hz1, hz2⟩ := info_parts info_Edit
  have Hi := Lib.hid hi; clear hi
  have Hz0 := Lib.hid hz0; clear hz0
  have Hz1 := Lib.hid hz1; clear hz1
  have Hz2 := Lib.hid hz2; clear hz2
  go_enter Try.func169, Try.ntmps169
  go_wp2
  have hst : Hid ((w.alloc (Obj.cells #[] 117)).ownsRow w.heap.size 117 3 (.slice (some ⟨w.heap.size, 0, none⟩) 0 0) 0 []) := World.ownsRow_made w #[] 0 (Nat.le_refl _) (by simp) (by simp)
  have hbst : Hid (Below w.heap.size w (w.alloc (Obj.cells #[] 117))) := (Below.refl _ _).alloc (Nat.le_refl _) _
  go_loopw [5, 6, 7] (fun out i j wr => ∃ (p q f : Nat) (acc : List Edt), p ≤ n ∧ q ≤ n' ∧ i = .int .i64 p ∧ j = .int .i64 q ∧ (n - p) + (n' - q) ≤ f ∧ acc.length ≤ p + q ∧ acc ++ diffL f (es.drop p) (es'.drop q) = diffM es es' ∧ wr.ownsRow w.heap.size 117 3 out acc.length (edtsC acc) ∧ Below w.heap.size w wr) (fun _ i j _ => (n - (intOf i).toNat) + (n' - (intOf j).toNat))
  case atStart => exact ⟨0, 0, es.length + es'.length, [], Nat.zero_le _, Nat.zero_le _, rfl, rfl, by rw [Hlen.out, Hlen'.out]; omega, Nat.le_refl _, by simp [diffM], hst.out, hbst.out⟩
  case round =>
    obtain ⟨p, q, f, acc, hp, hq, rfl, rfl, hf, hal, hacc, hown, hb⟩ := hrel
    have Hacc := Lib.hid hacc; clear hacc
    have Hown := Lib.hid hown; clear hown
    have hbs := hb.size
    by_cases hlt : p < n
    · have hpe : p < es.length := by rw [Hlen.out]; exact hlt
      obtain ⟨b1, o1, rfl, hl1, hl1x, hc1, hc2⟩ := hr.ent hb hpe
      have hWc1 := cellW hb hl1 hc1
      have hWc2 := cellW hb hl1 hc2
      obtain ⟨f', hf'⟩ : ∃ f', f = f' + 1 := ⟨f - 1, by omega⟩
      subst hf'
      by_cases hlq : q < n'
      case neg =>
        have hqn : q = n' := by omega
        have hte : ((q : Int) == (n' : Int)) = true := beq_iff_eq.2 (by omega)
        have hnew := Lib.hid (show (acc ++ [⟨es[p].1, 0, true⟩]) ++ diffL f' (es.drop (p + 1)) (es'.drop q) = diffM es es' by rw [← Hacc.out, diffL_gone hpe (.inl (by rw [Hlen'.out]; omega))]; simp)
        clear hqn Hacc
        generalize es[p] = ek at *
        obtain ⟨k1, v1⟩ := ek
        go_wp2
        have hA_c1 := fun y : Aft wr => y.cell hl1x hc1
        have hA_c2 := fun y : Aft wr => y.cell hl1x hc2
        refine wp_region_after (by kernel_rfl) (by kernel_rfl) ?_
        repeat (go_big_quiet_step (fail))
        refine wpQuiet_nil ?_
        rintro _ ⟨y, rfl⟩
        clear hA_c1 hA_c2
        replace hb := keepS hb y.below
        replace Hown := Lib.hid (ownsRow_below Hown.out y.below (Nat.le_refl _))
        replace hbs := hb.size
        replace hc1 := cellS hb hl1 hWc1
        replace hc2 := cellS hb hl1 hWc2
        replace hl1x := Nat.lt_of_lt_of_le hl1 hbs
        generalize y.at_ = w3 at *
        go_wp2_with (at_builtin; refine wpList_append_new w3 rfl _ _ 27 rfl w.heap.size 117 i0 _ 3 32 Try.underlying27 Hi.out Hz0.out Hz1.out Hz2.out rfl (by decide) u5 acc.length (edtsC acc) rfl Hown.out #[.string k1, .int .i64 0, .bool true] 1 1 rfl rfl (edt_cells _ _ _) (by omega) (by decide) hbs ?_; intro v' w9 hown' hgrow; have Hown' := Lib.hid hown'; clear hown')
        go_roundw
        case rel => exact ⟨p + 1, q, f', acc ++ [⟨k1, 0, true⟩], by omega, hq, by go_num, rfl, by omega, by rw [List.length_append, List.length_singleton]; omega, hnew.out, by rw [List.length_append, edtsC_snoc]; exact Hown'.out, below_grown hb hgrow Hown.out hbs (Nat.le_refl _)⟩
        case measure => simp [intOf]; omega
      have hqe : q < es'.length := by rw [Hlen'.out]; exact hlq
      obtain ⟨b2, o2, rfl, hl2, hl2x, hc3, hc4⟩ := hr'.ent hb hqe
      have hWc3 := cellW hb hl2 hc3
      have hWc4 := cellW hb hl2 hc4
      have hte : ((q : Int) == (n' : Int)) = false := beq_eq_false_iff_ne.2 (by omega)
      have htp : ((p : Int) == (n : Int)) = false := beq_eq_false_iff_ne.2 (by omega)
      have hpi : (p : Int) < (n : Int) := by omega
      cases hk1 : klt es[p].1 es'[q].1 with
      | true =>
        have ht1 : Op.bytesLess es[p].1.toList es'[q].1.toList = true := hk1
        have hnew := Lib.hid (show (acc ++ [⟨es[p].1, 0, true⟩]) ++ diffL f' (es.drop (p + 1)) (es'.drop q) = diffM es es' by rw [← Hacc.out, diffL_gone hpe (.inr ⟨hqe, hk1⟩)]; simp)
        clear Hacc hk1
        generalize es[p] = ek at *
        generalize es'[q] = ek2 at *
        obtain ⟨k1, v1⟩ := ek
        obtain ⟨k2, v2⟩ := ek2
        go_wp2
        have hA_c1 := fun y : Aft wr => y.cell hl1x hc1
        have hA_c2 := fun y : Aft wr => y.cell hl1x hc2
        have hA_c3 := fun y : Aft wr => y.cell hl2x hc3
        have hA_c4 := fun y : Aft wr => y.cell hl2x hc4
        refine wp_region_after (by kernel_rfl) (by kernel_rfl) ?_
        repeat (go_big_quiet_step (fail))
        refine wpQuiet_nil ?_
        rintro _ ⟨y, rfl⟩
        clear hA_c1 hA_c2 hA_c3 hA_c4
        replace hb := keepS hb y.below
        replace Hown := Lib.hid (ownsRow_below Hown.out y.below (Nat.le_refl _))
        replace hbs := hb.size
        replace hc1 := cellS hb hl1 hWc1
        replace hc2 := cellS hb hl1 hWc2
        replace hc3 := cellS hb hl2 hWc3
        replace hc4 := cellS hb hl2 hWc4
        replace hl1x := Nat.lt_of_lt_of_le hl1 hbs
        replace hl2x := Nat.lt_of_lt_of_le hl2 hbs
        generalize y.at_ = w3 at *
        go_wp2_with (at_builtin; refine wpList_append_new w3 rfl _ _ 27 rfl w.heap.size 117 i0 _ 3 32 Try.underlying27 Hi.out Hz0.out Hz1.out Hz2.out rfl (by decide) u5 acc.length (edtsC acc) rfl Hown.out #[.string k1, .int .i64 0, .bool true] 1 1 rfl rfl (edt_cells _ _ _) (by omega) (by decide) hbs ?_; intro v' w9 hown' hgrow; have Hown' := Lib.hid hown'; clear hown')
        go_roundw
        case rel => exact ⟨p + 1, q, f', acc ++ [⟨k1, 0, true⟩], by omega, hq, by go_num, rfl, by omega, by rw [List.length_append, List.length_singleton]; omega, hnew.out, by rw [List.length_append, edtsC_snoc]; exact Hown'.out, below_grown hb hgrow Hown.out hbs (Nat.le_refl _)⟩
        case measure => simp [intOf]; omega
      | false =>
        cases hk2 : klt es'[q].1 es[p].1 with
        | true =>
        have ht1 : Op.bytesLess es[p].1.toList es'[q].1.toList = false := hk1
        have ht2 : Op.bytesLess es'[q].1.toList es[p].1.toList = true := hk2
        have hnew := Lib.hid (show (acc ++ [⟨es'[q].1, es'[q].2, false⟩]) ++ diffL f' (es.drop p) (es'.drop (q + 1)) = diffM es es' by rw [← Hacc.out, diffL_set hqe (.inr ⟨hpe, hk2⟩)]; simp)
        clear Hacc hk1 hk2
        generalize es[p] = ek at *
        generalize es'[q] = ek2 at *
        obtain ⟨k1, v1⟩ := ek
        obtain ⟨k2, v2⟩ := ek2
        go_wp2
        have hA_c1 := fun y : Aft wr => y.cell hl1x hc1
        have hA_c2 := fun y : Aft wr => y.cell hl1x hc2
        have hA_c3 := fun y : Aft wr => y.cell hl2x hc3
        have hA_c4 := fun y : Aft wr => y.cell hl2x hc4
        refine wp_region_after (by kernel_rfl) (by kernel_rfl) ?_
        repeat (go_big_quiet_step (fail))
        refine wpQuiet_nil ?_
        rintro _ ⟨y, rfl⟩
        clear hA_c1 hA_c2 hA_c3 hA_c4
        replace hb := keepS hb y.below
        replace Hown := Lib.hid (ownsRow_below Hown.out y.below (Nat.le_refl _))
        replace hbs := hb.size
        replace hc1 := cellS hb hl1 hWc1
        replace hc2 := cellS hb hl1 hWc2
        replace hc3 := cellS hb hl2 hWc3
        replace hc4 := cellS hb hl2 hWc4
        replace hl1x := Nat.lt_of_lt_of_le hl1 hbs
        replace hl2x := Nat.lt_of_lt_of_le hl2 hbs
        generalize y.at_ = w3 at *
        go_wp2
        have hA_c1 := fun y : Aft w3 => y.cell hl1x hc1
        have hA_c2 := fun y : Aft w3 => y.cell hl1x hc2
        have hA_c3 := fun y : Aft w3 => y.cell hl2x hc3
        have hA_c4 := fun y : Aft w3 => y.cell hl2x hc4
        refine wp_region_after (by kernel_rfl) (by kernel_rfl) ?_
        repeat (go_big_quiet_step (fail))
        refine wpQuiet_nil ?_
        rintro _ ⟨y, rfl⟩
        clear hA_c1 hA_c2 hA_c3 hA_c4
        replace hb := keepS hb y.below
        replace Hown := Lib.hid (ownsRow_below Hown.out y.below (Nat.le_refl _))
        replace hbs := hb.size
        replace hc1 := cellS hb hl1 hWc1
        replace hc2 := cellS hb hl1 hWc2
        replace hc3 := cellS hb hl2 hWc3
        replace hc4 := cellS hb hl2 hWc4
        replace hl1x := Nat.lt_of_lt_of_le hl1 hbs
        replace hl2x := Nat.lt_of_lt_of_le hl2 hbs
        generalize y.at_ = w4 at *
        go_wp2
        have hc1x := hl1x
        have hq0 : (0 : Int) ≤ (q : Int) := by omega
        have hq1 : (q : Int) < (n' : Int) := by omega
        clear ht1 ht2 hc1 hc2
        go_region_held3 (fun w' => w'.cell? ⟨b2, o2 + q * 2, none⟩ = some (.string k2) ∧ w'.cell? ⟨b2, o2 + q * 2 + 1, none⟩ = some (.int .i64 v2))
        (first | go_keep | (go_split_ands; refine ⟨?_, ?_⟩ <;> (rw [hgrow.cell_far _ (by simp; omega) (fun h => by have h2 : w.heap.size ≤ b2 := (Hown.out.lt _ h.symm).1; omega)]; assumption)))
        ((refine step_append_lies _ (by rfl) _ _ _ (by rfl) w.heap.size 117 i0 _ 3 32 Try.underlying27 Hi.out Hz0.out Hz1.out Hz2.out rfl (by omega) u5 acc.length (edtsC acc) (by rfl) ((Hown.out.alloc _).drew) ⟨w4.heap.size, 0, none⟩ 1 1 [.string k2, .int .i64 v2, .bool false] (by rfl) (by rfl) (World.news_of_block (cs := #[.string k2, .int .i64 v2, .bool false]) (t := 117) (fr := (0, 0)) (heap_alloc_new w4 _)) (by simp [Value.oneCell']) (by omega) (by unfold maxLen; omega) (by omega) (by simp; omega) (w4.heap.size + 1) (by simp) ?_; intro gg cap w9 hown' hgrow hat hlt9))
        have hb9 : Below w.heap.size w w9 := below_grown (hb.alloc hbs _).drew hgrow ((Hown.out.alloc _).drew) (by simp; omega) (Nat.le_refl _)
        have Hown' := Lib.hid hown'
        clear hown' hgrow hat hlt9 hc1x
        go_wp2
        go_roundw
        case rel => exact ⟨p, q + 1, f', acc ++ [⟨k2, v2, false⟩], by omega, by omega, rfl, by go_num, by omega, by rw [List.length_append, List.length_singleton]; omega, hnew.out, by rw [List.length_append, edtsC_snoc]; exact Hown'.out, hb9⟩
        case measure => simp [intOf]; omega
        | false =>
        have ht1 : Op.bytesLess es[p].1.toList es'[q].1.toList = false := hk1
        have ht2 : Op.bytesLess es'[q].1.toList es[p].1.toList = false := hk2
        have hdb := diffL_both (f := f') hpe hqe hk1 hk2
        by_cases hvv : es[p].2 = es'[q].2
        · have hnew := Lib.hid (show acc ++ diffL f' (es.drop (p + 1)) (es'.drop (q + 1)) = diffM es es' by rw [← Hacc.out, hdb, if_pos hvv]; simp)
          have htv : (es[p].2 != es'[q].2) = false := by rw [hvv]; simp
          clear Hacc hk1 hk2 hdb hvv
          generalize es[p] = ek at *
          generalize es'[q] = ek2 at *
          obtain ⟨k1, v1⟩ := ek
          obtain ⟨k2, v2⟩ := ek2
          go_wp2
          have hA_c1 := fun y : Aft wr => y.cell hl1x hc1
          have hA_c2 := fun y : Aft wr => y.cell hl1x hc2
          have hA_c3 := fun y : Aft wr => y.cell hl2x hc3
          have hA_c4 := fun y : Aft wr => y.cell hl2x hc4
          refine wp_region_after (by kernel_rfl) (by kernel_rfl) ?_
          repeat (go_big_quiet_step (fail))
          refine wpQuiet_nil ?_
          rintro _ ⟨y, rfl⟩
          clear hA_c1 hA_c2 hA_c3 hA_c4
          replace hb := keepS hb y.below
          replace Hown := Lib.hid (ownsRow_below Hown.out y.below (Nat.le_refl _))
          replace hbs := hb.size
          replace hc1 := cellS hb hl1 hWc1
          replace hc2 := cellS hb hl1 hWc2
          replace hc3 := cellS hb hl2 hWc3
          replace hc4 := cellS hb hl2 hWc4
          replace hl1x := Nat.lt_of_lt_of_le hl1 hbs
          replace hl2x := Nat.lt_of_lt_of_le hl2 hbs
          generalize y.at_ = w3 at *
          go_wp2
          have hA_c1 := fun y : Aft w3 => y.cell hl1x hc1
          have hA_c2 := fun y : Aft w3 => y.cell hl1x hc2
          have hA_c3 := fun y : Aft w3 => y.cell hl2x hc3
          have hA_c4 := fun y : Aft w3 => y.cell hl2x hc4
          refine wp_region_after (by kernel_rfl) (by kernel_rfl) ?_
          repeat (go_big_quiet_step (fail))
          refine wpQuiet_nil ?_
          rintro _ ⟨y, rfl⟩
          clear hA_c1 hA_c2 hA_c3 hA_c4
          replace hb := keepS hb y.below
          replace Hown := Lib.hid (ownsRow_below Hown.out y.below (Nat.le_refl _))
          replace hbs := hb.size
          replace hc1 := cellS hb hl1 hWc1
          replace hc2 := cellS hb hl1 hWc2
          replace hc3 := cellS hb hl2 hWc3
          replace hc4 := cellS hb hl2 hWc4
          replace hl1x := Nat.lt_of_lt_of_le hl1 hbs
          replace hl2x := Nat.lt_of_lt_of_le hl2 hbs
          generalize y.at_ = w4 at *
          go_wp2
          have hA_c1 := fun y : Aft w4 => y.cell hl1x hc1
          have hA_c2 := fun y : Aft w4 => y.cell hl1x hc2
          have hA_c3 := fun y : Aft w4 => y.cell hl2x hc3
          have hA_c4 := fun y : Aft w4 => y.cell hl2x hc4
          refine wp_region_after (by kernel_rfl) (by kernel_rfl) ?_
          repeat (go_big_quiet_step (fail))
          refine wpQuiet_nil ?_
          rintro _ ⟨y, rfl⟩
          clear hA_c1 hA_c2 hA_c3 hA_c4
          replace hb := keepS hb y.below
          replace Hown := Lib.hid (ownsRow_below Hown.out y.below (Nat.le_refl _))
          replace hbs := hb.size
          replace hc1 := cellS hb hl1 hWc1
          replace hc2 := cellS hb hl1 hWc2
          replace hc3 := cellS hb hl2 hWc3
          replace hc4 := cellS hb hl2 hWc4
          replace hl1x := Nat.lt_of_lt_of_le hl1 hbs
          replace hl2x := Nat.lt_of_lt_of_le hl2 hbs
          generalize y.at_ = w5 at *
          go_wp2
          go_roundw
          case rel => exact ⟨p + 1, q + 1, f', acc, by omega, by omega, by go_num, by go_num, by omega, by omega, hnew.out, Hown.out, hb⟩
          case measure => simp [intOf]; omega
        · have hnew := Lib.hid (show (acc ++ [⟨es'[q].1, es'[q].2, false⟩]) ++ diffL f' (es.drop (p + 1)) (es'.drop (q + 1)) = diffM es es' by rw [← Hacc.out, hdb, if_neg hvv]; simp)
          have htv : (es[p].2 != es'[q].2) = true := bne_iff_ne.2 hvv
          clear Hacc hk1 hk2 hdb hvv
          generalize es[p] = ek at *
          generalize es'[q] = ek2 at *
          obtain ⟨k1, v1⟩ := ek
          obtain ⟨k2, v2⟩ := ek2
          go_wp2
          have hA_c1 := fun y : Aft wr => y.cell hl1x hc1
          have hA_c2 := fun y : Aft wr => y.cell hl1x hc2
          have hA_c3 := fun y : Aft wr => y.cell hl2x hc3
          have hA_c4 := fun y : Aft wr => y.cell hl2x hc4
          refine wp_region_after (by kernel_rfl) (by kernel_rfl) ?_
          repeat (go_big_quiet_step (fail))
          refine wpQuiet_nil ?_
          rintro _ ⟨y, rfl⟩
          clear hA_c1 hA_c2 hA_c3 hA_c4
          replace hb := keepS hb y.below
          replace Hown := Lib.hid (ownsRow_below Hown.out y.below (Nat.le_refl _))
          replace hbs := hb.size
          replace hc1 := cellS hb hl1 hWc1
          replace hc2 := cellS hb hl1 hWc2
          replace hc3 := cellS hb hl2 hWc3
          replace hc4 := cellS hb hl2 hWc4
          replace hl1x := Nat.lt_of_lt_of_le hl1 hbs
          replace hl2x := Nat.lt_of_lt_of_le hl2 hbs
          generalize y.at_ = w3 at *
          go_wp2
          have hA_c1 := fun y : Aft w3 => y.cell hl1x hc1
          have hA_c2 := fun y : Aft w3 => y.cell hl1x hc2
          have hA_c3 := fun y : Aft w3 => y.cell hl2x hc3
          have hA_c4 := fun y : Aft w3 => y.cell hl2x hc4
          refine wp_region_after (by kernel_rfl) (by kernel_rfl) ?_
          repeat (go_big_quiet_step (fail))
          refine wpQuiet_nil ?_
          rintro _ ⟨y, rfl⟩
          clear hA_c1 hA_c2 hA_c3 hA_c4
          replace hb := keepS hb y.below
          replace Hown := Lib.hid (ownsRow_below Hown.out y.below (Nat.le_refl _))
          replace hbs := hb.size
          replace hc1 := cellS hb hl1 hWc1
          replace hc2 := cellS hb hl1 hWc2
          replace hc3 := cellS hb hl2 hWc3
          replace hc4 := cellS hb hl2 hWc4
          replace hl1x := Nat.lt_of_lt_of_le hl1 hbs
          replace hl2x := Nat.lt_of_lt_of_le hl2 hbs
          generalize y.at_ = w4 at *
          go_wp2
          have hA_c1 := fun y : Aft w4 => y.cell hl1x hc1
          have hA_c2 := fun y : Aft w4 => y.cell hl1x hc2
          have hA_c3 := fun y : Aft w4 => y.cell hl2x hc3
          have hA_c4 := fun y : Aft w4 => y.cell hl2x hc4
          refine wp_region_after (by kernel_rfl) (by kernel_rfl) ?_
          repeat (go_big_quiet_step (fail))
          refine wpQuiet_nil ?_
          rintro _ ⟨y, rfl⟩
          clear hA_c1 hA_c2 hA_c3 hA_c4
          replace hb := keepS hb y.below
          replace Hown := Lib.hid (ownsRow_below Hown.out y.below (Nat.le_refl _))
          replace hbs := hb.size
          replace hc1 := cellS hb hl1 hWc1
          replace hc2 := cellS hb hl1 hWc2
          replace hc3 := cellS hb hl2 hWc3
          replace hc4 := cellS hb hl2 hWc4
          replace hl1x := Nat.lt_of_lt_of_le hl1 hbs
          replace hl2x := Nat.lt_of_lt_of_le hl2 hbs
          generalize y.at_ = w5 at *
          go_wp2
          have hc1x := hl1x
          have hq0 : (0 : Int) ≤ (q : Int) := by omega
          have hq1 : (q : Int) < (n' : Int) := by omega
          clear ht1 ht2 htv hc1 hc2
          go_region_held3 (fun w' => w'.cell? ⟨b2, o2 + q * 2, none⟩ = some (.string k2) ∧ w'.cell? ⟨b2, o2 + q * 2 + 1, none⟩ = some (.int .i64 v2))
          (first | go_keep | (go_split_ands; refine ⟨?_, ?_⟩ <;> (rw [hgrow.cell_far _ (by simp; omega) (fun h => by have h2 : w.heap.size ≤ b2 := (Hown.out.lt _ h.symm).1; omega)]; assumption)))
          ((refine step_append_lies _ (by rfl) _ _ _ (by rfl) w.heap.size 117 i0 _ 3 32 Try.underlying27 Hi.out Hz0.out Hz1.out Hz2.out rfl (by omega) u5 acc.length (edtsC acc) (by rfl) ((Hown.out.alloc _).drew) ⟨w5.heap.size, 0, none⟩ 1 1 [.string k2, .int .i64 v2, .bool false] (by rfl) (by rfl) (World.news_of_block (cs := #[.string k2, .int .i64 v2, .bool false]) (t := 117) (fr := (0, 0)) (heap_alloc_new w5 _)) (by simp [Value.oneCell']) (by omega) (by unfold maxLen; omega) (by omega) (by simp; omega) (w5.heap.size + 1) (by simp) ?_; intro gg cap w9 hown' hgrow hat hlt9))
          have hb9 : Below w.heap.size w w9 := below_grown (hb.alloc hbs _).drew hgrow ((Hown.out.alloc _).drew) (by simp; omega) (Nat.le_refl _)
          have Hown' := Lib.hid hown'
          clear hown' hgrow hat hlt9 hc1x
          go_wp2
          go_roundw
          case rel => exact ⟨p + 1, q + 1, f', acc ++ [⟨k2, v2, false⟩], by omega, by omega, by go_num, by go_num, by omega, by rw [List.length_append, List.length_singleton]; omega, hnew.out, by rw [List.length_append, edtsC_snoc]; exact Hown'.out, hb9⟩
          case measure => simp [intOf]; omega
    · have hpn : p = n := by omega
      have htp : ((p : Int) == (n : Int)) = true := beq_iff_eq.2 (by omega)
      by_cases hlq : q < n'
      · have hqe : q < es'.length := by rw [Hlen'.out]; exact hlq
        obtain ⟨b2, o2, rfl, hl2, hl2x, hc3, hc4⟩ := hr'.ent hb hqe
        have hWc3 := cellW hb hl2 hc3
        have hWc4 := cellW hb hl2 hc4
        obtain ⟨f', hf'⟩ : ∃ f', f = f' + 1 := ⟨f - 1, by omega⟩
        subst hf'
        have hte : ((q : Int) == (n' : Int)) = false := beq_eq_false_iff_ne.2 (by omega)
        have hpi : ¬ (p : Int) < (n : Int) := by omega
        have hnew := Lib.hid (show (acc ++ [⟨es'[q].1, es'[q].2, false⟩]) ++ diffL f' (es.drop p) (es'.drop (q + 1)) = diffM es es' by rw [← Hacc.out, diffL_set hqe (.inl (by rw [Hlen.out]; omega))]; simp)
        clear Hacc hpn
        generalize es'[q] = ek2 at *
        obtain ⟨k2, v2⟩ := ek2
        have hdp : decide ((p : Int) < (n : Int)) = false := decide_eq_false hpi
        go_wp2
        have hA_c3 := fun y : Aft wr => y.cell hl2x hc3
        have hA_c4 := fun y : Aft wr => y.cell hl2x hc4
        refine wp_region_after (by kernel_rfl) (by kernel_rfl) ?_
        repeat (go_big_quiet_step (fail))
        refine wpQuiet_nil ?_
        rintro _ ⟨y, rfl⟩
        clear hA_c3 hA_c4
        replace hb := keepS hb y.below
        replace Hown := Lib.hid (ownsRow_below Hown.out y.below (Nat.le_refl _))
        replace hbs := hb.size
        replace hc3 := cellS hb hl2 hWc3
        replace hc4 := cellS hb hl2 hWc4
        replace hl2x := Nat.lt_of_lt_of_le hl2 hbs
        generalize y.at_ = w3 at *
        go_wp2
        have hA_c3 := fun y : Aft w3 => y.cell hl2x hc3
        have hA_c4 := fun y : Aft w3 => y.cell hl2x hc4
        refine wp_region_after (by kernel_rfl) (by kernel_rfl) ?_
        repeat (go_big_quiet_step (fail))
        refine wpQuiet_nil ?_
        rintro _ ⟨y, rfl⟩
        clear hA_c3 hA_c4
        replace hb := keepS hb y.below
        replace Hown := Lib.hid (ownsRow_below Hown.out y.below (Nat.le_refl _))
        replace hbs := hb.size
        replace hc3 := cellS hb hl2 hWc3
        replace hc4 := cellS hb hl2 hWc4
        replace hl2x := Nat.lt_of_lt_of_le hl2 hbs
        generalize y.at_ = w4 at *
        go_wp2
        have hc1x := hl2x
        have hq0 : (0 : Int) ≤ (q : Int) := by omega
        have hq1 : (q : Int) < (n' : Int) := by omega
        go_region_held3 (fun w' => w'.cell? ⟨b2, o2 + q * 2, none⟩ = some (.string k2) ∧ w'.cell? ⟨b2, o2 + q * 2 + 1, none⟩ = some (.int .i64 v2))
        (first | go_keep | (go_split_ands; refine ⟨?_, ?_⟩ <;> (rw [hgrow.cell_far _ (by simp; omega) (fun h => by have h2 : w.heap.size ≤ b2 := (Hown.out.lt _ h.symm).1; omega)]; assumption)))
        ((refine step_append_lies _ (by rfl) _ _ _ (by rfl) w.heap.size 117 i0 _ 3 32 Try.underlying27 Hi.out Hz0.out Hz1.out Hz2.out rfl (by omega) u5 acc.length (edtsC acc) (by rfl) ((Hown.out.alloc _).drew) ⟨w4.heap.size, 0, none⟩ 1 1 [.string k2, .int .i64 v2, .bool false] (by rfl) (by rfl) (World.news_of_block (cs := #[.string k2, .int .i64 v2, .bool false]) (t := 117) (fr := (0, 0)) (heap_alloc_new w4 _)) (by simp [Value.oneCell']) (by omega) (by unfold maxLen; omega) (by omega) (by simp; omega) (w4.heap.size + 1) (by simp) ?_; intro gg cap w9 hown' hgrow hat hlt9))
        have hb9 : Below w.heap.size w w9 := below_grown (hb.alloc hbs _).drew hgrow ((Hown.out.alloc _).drew) (by simp; omega) (Nat.le_refl _)
        have Hown' := Lib.hid hown'
        clear hown' hgrow hat hlt9 hc1x
        go_wp2
        go_roundw
        case rel => exact ⟨p, q + 1, f', acc ++ [⟨k2, v2, false⟩], by omega, by omega, rfl, by go_num, by omega, by rw [List.length_append, List.length_singleton]; omega, hnew.out, by rw [List.length_append, edtsC_snoc]; exact Hown'.out, hb9⟩
        case measure => simp [intOf]; omega
      · have hfin := Lib.hid (show acc = diffM es es' by rw [← Hacc.out, diffL_end _ _ _ (List.drop_eq_nil_of_le (by rw [Hlen.out]; omega)) (List.drop_eq_nil_of_le (by rw [Hlen'.out]; omega)), List.append_nil])
        clear hpn
        go_wp2
        go_ret
        exact ⟨_, rfl, by rw [← hfin.out]; exact Hown.out, hb⟩

end Go.Proofs.Ytjhimcddgkoghaa
