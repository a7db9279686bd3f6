/- The law FnMaps, walked: for every two slices of bytes it answers true and writes nothing that was there. -/
import Derived.Test.YtbdippplmcdgaaaD4
import Derived.Test.YtbdippplmcdgaaaI6
import Derived.Test.YtbdippplmcdgaaaS6
namespace Go.Proofs.Ytbdippplmcdgaaa
open Go.RowKit

theorem Good.scan {es : List Ent} (h : Good es) (a b : ByteArray) : Good (scanL es a b) := ⟨List.Pairwise.filter _ h.1, fun e he => h.2 e (List.mem_filter.1 he).1⟩
theorem scanL_length (es : List Ent) (a b : ByteArray) : (scanL es a b).length ≤ es.length := List.length_filter_le _ _
theorem sameM_self {es : List Ent} (h : mapOK es = true) : sameM es es = true := by rw [sameM, h, decide_eq_true rfl]; rfl

set_option maxHeartbeats 4000000 in
set_option maxRecDepth 100000 in
theorem lawMaps_any (A : Option Addr) (n c : Nat) (bs : List UInt8) (A' : Option Addr) (n' c' : Nat) (bs' : List UInt8) (w : World) (hr : Rd w 1 A n (bs.map fun b => .int .u8 b.toNat)) (hm : n ≤ maxLen) (hr' : Rd w 1 A' n' (bs'.map fun b => .int .u8 b.toNat)) (hm' : n' ≤ maxLen) :
    Calls Try.prog 3 #[.slice A n c, .slice A' n' c'] w fun e w' => e = .returned (.bool true) ∧ Below w.heap.size w w' := by
  by_cases hbig : 1048576 < n ∨ 1048576 < n'
  · rcases hbig with h | h
    all_goals
      go_enter Try.func3, Try.ntmps3
      go_wp2
      all_goals
        go_ret
        exact ⟨rfl, Below.refl _ _⟩
  have hb1 : n ≤ 1048576 := by omega
  have hb2 : n' ≤ 1048576 := by omega
  clear hbig
  go_enter Try.func3, Try.ntmps3
  go_wp2_with fail
  refine (EntriesDrawn_any A n c bs w hr hm).mono ?_
  rintro e w1 ⟨v1, es, rfl, hd, hl, ho1, hb01⟩
  have hg := hd.good
  obtain ⟨A1, c1, rfl, hnc1, hc1, hrd1⟩ := Rd.of_own ho1
  clear ho1 hd
  go_wp2_with fail
  refine (KeyDrawn_any A' n' c' bs' w1 (hr'.below hb01 (Nat.le_refl _)) hm').mono ?_
  rintro e w2 ⟨k, hk, rfl, hb2⟩
  have hb02 := keepS hb01 hb2
  go_wp2_with fail
  refine (at_any A' n' c' bs' 0 1000 w2 (hr'.below hb02 (Nat.le_refl _)) hm' (by omega) (by omega) (by omega)).mono ?_
  rintro e w3 ⟨x, rfl, hx, hb3⟩
  have hb03 := keepS hb02 hb3
  have hk12 := (keys8_ok hk).2
  have hkm : k.size ≤ maxLen := by unfold maxLen; omega
  have hcode := hg.code (by omega) hk
  have hpl := putL_length es k (x : Int)
  have hgp := hg.put hk (v := (x : Int)) (by omega) (by omega)
  have hgd := hgp.del k
  have hdl := delL_length (putL es k (x : Int)) k
  have hput := Lib.hid (putM_good hcode (by omega) (show (0 : Int) ≤ x by omega) (by omega))
  have hget := Lib.hid (getM_mem (hgp.code (by omega) hk) hgp.1 (mem_put_self es k (x : Int)))
  have hdel := Lib.hid (delM_mem (hgp.code (by omega) hk) hgp.1 (mem_put_self es k (x : Int)))
  have hgone := Lib.hid (getM_gone (hgd.code (by omega) hk))
  have hsm1 := Lib.hid (sameM_self (hgp.ok (by omega)))
  have hsm2 := Lib.hid (sameM_self (hgd.ok (by omega)))
  have hmok := Lib.hid (hg.ok (by omega))
  have hoth1 : Hid (∀ e ∈ es, e.1 ≠ k → getM (putL es k (x : Int)) e.1 = (e.2, 0)) := fun e he hne => getM_mem (hgp.code (by omega) (hg.2 e he).1) hgp.1 (mem_put_other he hne)
  have hoth2 : Hid (∀ e ∈ es, e.1 ≠ k → getM (delL (putL es k (x : Int)) k) e.1 = (e.2, 0)) := fun e he hne => getM_mem (hgd.code (by omega) (hg.2 e he).1) hgd.1 (mem_del_other (mem_put_other he hne) hne)
  have hsmall := Lib.hid hg.small
  have hsmallP := Lib.hid hgp.small
  have hsmallR := Lib.hid hgd.small
  have hkeys : Hid (∀ e ∈ es, e.1.size ≤ 12) := fun e he => (keys8_ok (hg.2 e he).1).2
  clear hcode
  generalize hPq : putL es k (x : Int) = P at *
  generalize hRq : delL P k = R at *
  have HGE := Lib.hid hg
  clear hPq hRq hgp hgd hg hk
  have hmE : es.length ≤ maxLen := by unfold maxLen; omega
  have hmP : P.length ≤ maxLen := by unfold maxLen; omega
  have hmR : R.length ≤ maxLen := by unfold maxLen; omega
  have Hrd1 : Hid (∀ W : World, Below w1.heap.size w1 W → Rd W 2 A1 es.length (entsC es)) := fun W h => hrd1.below h (Nat.le_refl _)
  have hb13 := keepS hb2 hb3
  clear hb2 hb3
  go_wp2_with fail
  refine (implPut_any A1 es.length c1 es k x w3 (Hrd1.out _ hb13) hnc1 hc1 hsmall.out hkm).mono ?_
  rw [hput.out]
  rintro e w4 ⟨vp, rfl, hop, hb4⟩
  have hb04 := keepS hb03 hb4
  have hb14 := keepS hb13 hb4
  simp only at hop ⊢
  obtain ⟨AP, cP, rfl, hncP, hcP, hrdP⟩ := Rd.of_own hop
  clear hop
  go_wp2_with fail
  refine (specPut_any A1 es.length c1 es k x w4 (Hrd1.out _ hb14) hmE hsmall.out hkm).mono ?_
  rw [hput.out]
  rintro e w5 ⟨vq, rfl, hoq, hb5⟩
  have hb05 := keepS hb04 hb5
  have hb15 := keepS hb14 hb5
  have hrdP5 := hrdP.below hb5 (Nat.le_refl _)
  simp only at hoq ⊢
  obtain ⟨AQ, cQ, rfl, hncQ, hcQ, hrdQ⟩ := Rd.of_own hoq
  clear hoq
  go_wp2_with fail
  refine (implGet_any AP P.length cP P k w5 hrdP5 hmP hsmallP.out hkm).mono ?_
  rw [hget.out]
  rintro e w6 ⟨rfl, hb6⟩
  have hb06 := keepS hb05 hb6
  have hb16 := keepS hb15 hb6
  have hrdP6 := hrdP5.below hb6 (Nat.le_refl _)
  have hrdQ6 := hrdQ.below hb6 (Nat.le_refl _)
  simp only
  go_wp2_with fail
  refine (implRemove_any AP P.length cP P k w6 hrdP6 hncP hcP hsmallP.out hkm).mono ?_
  rw [hdel.out]
  rintro e w7 ⟨vr, rfl, hor, hb7⟩
  have hb07 := keepS hb06 hb7
  have hb17 := keepS hb16 hb7
  have hrdP7 := hrdP6.below hb7 (Nat.le_refl _)
  have hrdQ7 := hrdQ6.below hb7 (Nat.le_refl _)
  simp only at hor ⊢
  obtain ⟨AR, cR, rfl, hncR, hcR, hrdR⟩ := Rd.of_own hor
  clear hor
  go_wp2_with fail
  refine (specRemove_any AQ P.length cQ P k w7 hrdQ7 hmP hsmallP.out hkm).mono ?_
  rw [hdel.out]
  rintro e w8 ⟨vs, rfl, hos, hb8⟩
  have hb08 := keepS hb07 hb8
  have hb18 := keepS hb17 hb8
  have hrdP8 := hrdP7.below hb8 (Nat.le_refl _)
  have hrdQ8 := hrdQ7.below hb8 (Nat.le_refl _)
  have hrdR8 := hrdR.below hb8 (Nat.le_refl _)
  simp only at hos ⊢
  obtain ⟨AS, cS, rfl, hncS, hcS, hrdS⟩ := Rd.of_own hos
  clear hos
  go_wp2_with fail
  refine (implGet_any AR R.length cR R k w8 hrdR8 hmR hsmallR.out hkm).mono ?_
  rw [hgone.out]
  rintro e w9 ⟨rfl, hb9⟩
  have hb09 := keepS hb08 hb9
  have hb19 := keepS hb18 hb9
  have hrdP9 := hrdP8.below hb9 (Nat.le_refl _)
  have hrdQ9 := hrdQ8.below hb9 (Nat.le_refl _)
  have hrdR9 := hrdR8.below hb9 (Nat.le_refl _)
  have hrdS9 := hrdS.below hb9 (Nat.le_refl _)
  clear hb4 hb5 hb6 hb7 hb8 hb9 hrdP hrdP5 hrdP6 hrdP7 hrdP8 hrdQ hrdQ6 hrdQ7 hrdQ8 hrdR hrdR8 hrdS
  simp only
  go_wp2_with fail
  refine (implSameMap_any AP P.length cP P AQ P.length cQ P w9 hrdP9 hrdQ9 hmP hmP hsmallP.out hsmallP.out).mono ?_
  rw [hsm1.out]
  rintro e w10 ⟨rfl, hb10⟩
  have hb010 := keepS hb09 hb10
  have hb110 := keepS hb19 hb10
  have hrdP10 := hrdP9.below hb10 (Nat.le_refl _)
  have hrdR10 := hrdR9.below hb10 (Nat.le_refl _)
  have hrdS10 := hrdS9.below hb10 (Nat.le_refl _)
  clear hb10 hrdP9 hrdQ9 hrdR9 hrdS9
  go_wp2_with fail
  refine (implSameMap_any AR R.length cR R AS R.length cS R w10 hrdR10 hrdS10 hmR hmR hsmallR.out hsmallR.out).mono ?_
  rw [hsm2.out]
  rintro e w11 ⟨rfl, hb11⟩
  have hb011 := keepS hb010 hb11
  have hb111 := keepS hb110 hb11
  have hrdP11 := hrdP10.below hb11 (Nat.le_refl _)
  have hrdR11 := hrdR10.below hb11 (Nat.le_refl _)
  clear hb11 hrdP10 hrdR10 hrdS10
  go_wp2_with fail
  refine (implMapOK_any A1 es.length c1 es w11 (Hrd1.out _ hb111) hmE hsmall.out).mono ?_
  rw [hmok.out]
  rintro e w12 ⟨rfl, hb12⟩
  have hb012 := keepS hb011 hb12
  have hb112 := keepS hb111 hb12
  have hrdP12 := hrdP11.below hb12 (Nat.le_refl _)
  have hrdR12 := hrdR11.below hb12 (Nat.le_refl _)
  clear hb12 hrdP11 hrdR11
  have hrdM12 := Hrd1.out _ hb112
  clear Hrd1 hrd1 hput hget hdel hgone hsm1 hsm2
  go_wp2
  go_loopw [20] (fun i wr => ∃ j : Nat, j ≤ es.length ∧ i = .int .i64 j ∧ Below w12.heap.size w12 wr) (fun i _ => es.length - (intOf i).toNat)
  case atStart => exact ⟨0, Nat.zero_le _, rfl, Below.refl _ _⟩
  case round =>
    obtain ⟨j, hj, rfl, hbw⟩ := hrel
    by_cases hlt : j < es.length
    · obtain ⟨b, off, rfl, hbl, hbl2, hc1', hc2'⟩ := hrdM12.ent hbw hlt
      have hmem : es[j] ∈ es := List.getElem_mem hlt
      have ho1 := hoth1.out _ hmem
      have ho2 := hoth2.out _ hmem
      have hsz := hkeys.out _ hmem
      have hcW2 := cellW hbw hbl hc2'
      clear hmem
      generalize es[j] = ej at *
      obtain ⟨ek, ev⟩ := ej
      simp only at ho1 ho2 hc1' hcW2 hsz
      have hszm : ek.size ≤ maxLen := by unfold maxLen; omega
      have ht := toList_beq ek k
      by_cases he : ek = k
      · rw [decide_eq_true he] at ht
        clear ho1 ho2 he
        go_wp2
        go_roundw
        case rel => exact ⟨j + 1, by omega, by go_num, hbw⟩
        case measure => simp [intOf]; omega
      · rw [decide_eq_false he] at ht
        have Ho1 := Lib.hid (ho1 he)
        have Ho2 := Lib.hid (ho2 he)
        clear ho1 ho2 he
        go_wp2_with fail
        refine (implGet_any AP P.length cP P ek wr (hrdP12.below hbw (Nat.le_refl _)) hmP hsmallP.out hszm).mono ?_
        rw [Ho1.out]
        rintro e w13 ⟨rfl, hb13'⟩
        have hbw2 := keepS hbw hb13'
        have hc1w := cellS hbw2 hbl (cellW hbw hbl hc1')
        have hc2w := cellS hbw2 hbl hcW2
        clear hc1' hc2'
        simp only
        go_wp2_with fail
        refine (implGet_any AR R.length cR R ek w13 (hrdR12.below hbw2 (Nat.le_refl _)) hmR hsmallR.out hszm).mono ?_
        rw [Ho2.out]
        rintro e w14 ⟨rfl, hb14'⟩
        have hbw3 := keepS hbw2 hb14'
        have hc2w3 := cellS hbw3 hbl hcW2
        clear hc1w hc2w
        simp only
        go_wp2
        go_roundw
        case rel => exact ⟨j + 1, by omega, by go_num, hbw3⟩
        case measure => simp [intOf]; omega
    · have hb0w := keepS hb012 hbw
      have hrdMw := hrdM12.below hbw (Nat.le_refl _)
      clear hrdM12 hrdP12 hrdR12 hoth1 hoth2
      have hbx := hb0w.alloc hb0w.size (.cells #[.string ⟨#[]⟩, .string ⟨#[98]⟩, .string ⟨#[107]⟩] 9)
      have hrdMx := hrdMw.alloc (.cells #[.string ⟨#[]⟩, .string ⟨#[98]⟩, .string ⟨#[107]⟩] 9)
      have hcx := fun j => cell_of_row _ _ j _ _ (0, 0) (heap_alloc_new wr (.cells #[.string ⟨#[]⟩, .string ⟨#[98]⟩, .string ⟨#[107]⟩] 9))
      have hltx : wr.heap.size < (wr.alloc (.cells #[.string ⟨#[]⟩, .string ⟨#[98]⟩, .string ⟨#[107]⟩] 9)).heap.size := by simp
      have hat1 := Lib.hid (at_any A' n' c' bs' 1 3 _ (hr'.below hbx (Nat.le_refl _)) hm' (by omega) (by omega) (by omega))
      go_wp2_with fail
      refine hat1.out.mono ?_
      rintro e w13 ⟨r, rfl, hr3, hb13'⟩
      obtain ⟨f, hf, hcf⟩ : ∃ f : ByteArray, f.size ≤ 2 ∧ w13.cell? ⟨wr.heap.size, r, none⟩ = some (.string f) := by
        have h3 : r = 0 ∨ r = 1 ∨ r = 2 := by omega
        rcases h3 with rfl | rfl | rfl
        · exact ⟨⟨#[]⟩, by decide, cellS hb13' hltx (hcx 0)⟩
        · exact ⟨⟨#[98]⟩, by decide, cellS hb13' hltx (hcx 1)⟩
        · exact ⟨⟨#[107]⟩, by decide, cellS hb13' hltx (hcx 2)⟩
      have hb013 := keepS hbx hb13'
      have hrdM13 := hrdMx.below hb13' (Nat.le_refl _)
      clear hat1 hcx hltx hrdMx hrdMw hbx
      generalize wr.heap.size = px at *
      have hby := hb013.alloc hb013.size (.cells #[.string ⟨#[]⟩, .string ⟨#[99]⟩, .string ⟨#[107, 50]⟩] 9)
      have hrdMy := hrdM13.alloc (.cells #[.string ⟨#[]⟩, .string ⟨#[99]⟩, .string ⟨#[107, 50]⟩] 9)
      have hcy := fun j => cell_of_row _ _ j _ _ (0, 0) (heap_alloc_new w13 (.cells #[.string ⟨#[]⟩, .string ⟨#[99]⟩, .string ⟨#[107, 50]⟩] 9))
      have hlty : w13.heap.size < (w13.alloc (.cells #[.string ⟨#[]⟩, .string ⟨#[99]⟩, .string ⟨#[107, 50]⟩] 9)).heap.size := by simp
      have hat2 := Lib.hid (at_any A' n' c' bs' 2 3 _ (hr'.below hby (Nat.le_refl _)) hm' (by omega) (by omega) (by omega))
      go_wp2_with fail
      refine hat2.out.mono ?_
      rintro e w14 ⟨r2, rfl, hr4, hb14'⟩
      obtain ⟨g, hg, hcg⟩ : ∃ g : ByteArray, g.size ≤ 2 ∧ w14.cell? ⟨w13.heap.size, r2, none⟩ = some (.string g) := by
        have h3 : r2 = 0 ∨ r2 = 1 ∨ r2 = 2 := by omega
        rcases h3 with rfl | rfl | rfl
        · exact ⟨⟨#[]⟩, by decide, cellS hb14' hlty (hcy 0)⟩
        · exact ⟨⟨#[99]⟩, by decide, cellS hb14' hlty (hcy 1)⟩
        · exact ⟨⟨#[107, 50]⟩, by decide, cellS hb14' hlty (hcy 2)⟩
      have hb014 := keepS hby hb14'
      have hrdM14 := hrdMy.below hb14' (Nat.le_refl _)
      clear hat2 hcy hlty hrdMy hrdM13 hby
      generalize w13.heap.size = py at *
      have hscan := Lib.hid (scanM_ok (es := es) (a := f) (b := g) (by omega) hmok.out)
      have hgS := HGE.out.scan f g
      have hlS := scanL_length es f g
      have hsmS := Lib.hid (sameM_self (hgS.ok (by omega)))
      have hsmallS := Lib.hid hgS.small
      have hmS : (scanL es f g).length ≤ maxLen := by unfold maxLen; omega
      clear hgS
      go_wp2_with fail
      refine (implScan_any A1 es.length c1 es f g w14 hrdM14 hnc1 hc1 hsmall.out).mono ?_
      rw [hscan.out]
      rintro e w15 ⟨v15, rfl, ho15, hb15'⟩
      have hb015 := keepS hb014 hb15'
      have hrdM15 := hrdM14.below hb15' (Nat.le_refl _)
      simp only at ho15 ⊢
      obtain ⟨AL, cL, rfl, _, _, hrdL⟩ := Rd.of_own ho15
      clear ho15 hrdM14
      go_wp2_with fail
      refine (specScan_any A1 es.length c1 es f g w15 hrdM15 hmE hsmall.out).mono ?_
      rw [hscan.out]
      rintro e w16 ⟨v16, rfl, ho16, hb16'⟩
      have hb016 := keepS hb015 hb16'
      have hrdM16 := hrdM15.below hb16' (Nat.le_refl _)
      have hrdL16 := hrdL.below hb16' (Nat.le_refl _)
      simp only at ho16 ⊢
      obtain ⟨AT, cT, rfl, _, _, hrdT⟩ := Rd.of_own ho16
      clear ho16 hrdM15 hrdL
      clear hscan hcf hcg hf hg hr3 hr4
      go_wp2
      go_loopw [31, 32] (fun cnt i wr2 => ∃ q : Nat, q ≤ es.length ∧ i = .int .i64 q ∧ cnt = .int .i64 ((es.take q).filter (inR f g)).length ∧ Below w16.heap.size w16 wr2) (fun _ i _ => es.length - (intOf i).toNat)
      case atStart => exact ⟨0, Nat.zero_le _, rfl, by simp, Below.refl _ _⟩
      case round =>
        obtain ⟨q, hq, rfl, rfl, hbq⟩ := hrel
        have hql := filter_take_len (inR f g) es q
        by_cases hlt2 : q < es.length
        · obtain ⟨b, off, rfl, hbl, hbl2, hc1', hc2'⟩ := hrdM16.ent hbq hlt2
          have hsn := Lib.hid (filter_snoc (inR f g) es q hlt2)
          have hir : Hid (inR f g es[q] = (!klt es[q].1 f && (decide (g.size = 0) || klt es[q].1 g))) := rfl
          cases hkf : klt es[q].1 f with
          | true =>
            have ht : Op.bytesLess es[q].1.toList f.toList = true := hkf
            have hf2 := Lib.hid (show ((es.take (q + 1)).filter (inR f g)).length = ((es.take q).filter (inR f g)).length by rw [hsn.out, hir.out, hkf]; simp)
            clear hkf
            go_wp2
            go_roundw
            case rel => exact ⟨q + 1, by omega, by go_num, by rw [hf2.out], hbq⟩
            case measure => simp [intOf]; omega
          | false =>
            have ht : Op.bytesLess es[q].1.toList f.toList = false := hkf
            by_cases hbe : g.size = 0
            · have hbt := (toList_nil_iff g).2 hbe
              have hf2 := Lib.hid (show ((es.take (q + 1)).filter (inR f g)).length = ((es.take q).filter (inR f g)).length + 1 by rw [hsn.out, hir.out, hkf, decide_eq_true hbe]; simp)
              clear hkf hbe
              go_wp2
              go_roundw
              case rel => exact ⟨q + 1, by omega, by go_num, by rw [hf2.out]; simp, hbq⟩
              case measure => simp [intOf]; omega
            · have hbt : g.toList.isEmpty = false := by
                cases h : g.toList with
                | nil => exact absurd ((toList_nil_iff g).1 h) hbe
                | cons x r => rfl
              cases hkg : klt es[q].1 g with
              | false =>
                have ht2 : Op.bytesLess es[q].1.toList g.toList = false := hkg
                have hf2 := Lib.hid (show ((es.take (q + 1)).filter (inR f g)).length = ((es.take q).filter (inR f g)).length by rw [hsn.out, hir.out, hkf, hkg, decide_eq_false hbe]; simp)
                clear hkf hkg hbe
                go_wp2
                go_roundw
                case rel => exact ⟨q + 1, by omega, by go_num, by rw [hf2.out], hbq⟩
                case measure => simp [intOf]; omega
              | true =>
                have ht2 : Op.bytesLess es[q].1.toList g.toList = true := hkg
                have hf2 := Lib.hid (show ((es.take (q + 1)).filter (inR f g)).length = ((es.take q).filter (inR f g)).length + 1 by rw [hsn.out, hir.out, hkf, hkg]; simp)
                clear hkf hkg hbe
                go_wp2
                go_roundw
                case rel => exact ⟨q + 1, by omega, by go_num, by rw [hf2.out]; simp, hbq⟩
                case measure => simp [intOf]; omega
        · have hqe : es.take q = es := List.take_of_length_le (by omega)
          rw [hqe]
          have hcnt : Hid ((es.filter (inR f g)).length = (scanL es f g).length) := rfl
          have hbend := keepS hb016 hbq
          rw [hcnt.out]
          go_wp2_with fail
          refine (implSameMap_any AL _ cL (scanL es f g) AT _ cT (scanL es f g) _ (hrdL16.below hbq (Nat.le_refl _)) (hrdT.below hbq (Nat.le_refl _)) hmS hmS hsmallS.out hsmallS.out).mono ?_
          rw [hsmS.out]
          rintro e w17 ⟨rfl, hb17'⟩
          go_wp2
          go_ret
          exact ⟨rfl, keepS hbend hb17'⟩

end Go.Proofs.Ytbdippplmcdgaaa
