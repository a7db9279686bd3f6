/- Texts of the machine over data, folded. -/
import Derived.Test.YtmfmclnklpbiaaaGreatKp6
import Derived.Test.YtmfmclnklpbiaaaGreatKp16
import Derived.Test.YtmfmclnklpbiaaaGreatKp9
import Derived.Test.YtmfmclnklpbiaaaGreatKp14
namespace Go.Proofs.YtmfmclnklpbiaaaGreat.AM
open Go Go.RowKit
set_option linter.unusedVariables false
set_option linter.unusedSimpArgs false
set_option maxRecDepth 100000
theorem szGC_tot2 : ∀ {es : List Cmt} {l : Int}, 0 ≤ szG szC es l → szG szC es l ≤ l - totC es
  | [], l, h => by simp [szG, totC]
  | c :: cs, l, h => by
    unfold szG at h ⊢
    split at h
    · omega
    · rename_i hn
      rw [if_neg hn]
      have h1 := szGC_tot2 h
      have h2 := szC_tot (by omega : 0 ≤ szC c l)
      simp only [totC]; omega
theorem szCS_tot2 {cs : List Cmt} {l : Int} (h : 0 ≤ szCS cs l) : szCS cs l ≤ l - cs.length - totC cs := by
  unfold szCS at h ⊢
  split at h
  · omega
  · rename_i hn
    rw [if_neg hn]
    have := szGC_tot2 h; omega
theorem szL_tot2 {α : Type} {g : α → Nat} {es : List α} {l : Int} (h : 0 ≤ szL g es l) : szL g es l ≤ l - es.length := by
  unfold szL at h ⊢
  split at h
  · omega
  · rename_i hn
    rw [if_neg hn]
    have := (szF_le h).1; omega
theorem szB_tot2 {B : Bas} {l : Int} (h : 0 ≤ szB B l) : szB B l ≤ l - B.store.length - totC B.store - B.refs.length := by
  unfold szB at h ⊢
  by_cases ha : szCS B.store l < 0
  · rw [if_pos ha] at h; omega
  rw [if_neg ha] at h ⊢
  have z1 := szCS_tot2 (by omega : 0 ≤ szCS B.store l)
  by_cases hn : szL rSz B.refs (szCS B.store l) < 0
  · rw [if_pos hn] at h; omega
  rw [if_neg hn] at h ⊢
  have z2 := szL_tot2 (by omega : 0 ≤ szL rSz B.refs (szCS B.store l))
  omega
theorem sG_mk : ∀ (l : List (List Wsh)), sG mkN l ≤ 4 * sG wsN l
  | [] => by simp [sG]
  | c :: l => by have := sG_mk l; simp only [sG, mkN, wsN] at this ⊢; omega
theorem sG_nC : ∀ (l : List (List Wsh)), sG nC l = sG mkN l + 7 * l.length
  | [] => by simp [sG]
  | c :: l => by
    have := sG_nC l
    simp only [sG, List.length_cons, this]
    unfold nC; omega
theorem okN_size {x : ByteArray} (h : okN x = true) : x.size ≤ 12 := by
  have : x.data.toList.length ≤ 12 := by
    rcases Nat.lt_or_ge 12 x.data.toList.length with h' | h'
    · have e := Nm.nameOK_long _ h'
      unfold okN at h
      rw [e] at h; cases h
    · exact h'
  have e : x.size = x.data.toList.length := by rw [Array.length_toList]; rfl
  omega
theorem askF_of {B : Bas} (hb : basB B = true) {x : ByteArray} (h : okN x = true) : askF B.refs x = 0 := by
  unfold basB at hb
  simp only [Bool.and_eq_true] at hb
  have h1 := (refsB_of hb.2.1).1
  have h2 := okN_size h
  exact askF_ok (by omega) hb.2.1
theorem flat_w4 {tc tr tk tw : Nat} {a b c d : List AV} (hb : flatL b) (hd : flatL d) : ∀ ob ∈ [(⟨.d tc, 2, a⟩ : OB), ⟨.s tr, 4, b⟩, ⟨.d tk, 9, c⟩, ⟨.s tw, 3, d⟩], flatO ob := fun ob h => by
  simp only [List.mem_cons, List.not_mem_nil, or_false] at h
  rcases h with rfl | rfl | rfl | rfl
  · trivial
  · exact hb
  · trivial
  · exact hd
theorem flat_wts {l : List Rf} : ∀ (xs : List ByteArray), flatL ((xs.map (wtOf l)).map watA)
  | [] => by simp [flatL]
  | x :: xs => by
    simp only [List.map_cons, flatL]
    exact ⟨by simp [watA, wtOf, flatA, flatL], flat_wts xs⟩
attribute [local irreducible] ACode AOps AOps2 RetG RetM Pre ACG
theorem ac_toBaseM {B : Bas} (hm : B.store.length ≤ 1048576) (hc : ∀ c ∈ B.store, c.1.length ≤ 1048576 ∧ c.2.length ≤ 1048576) (hr : B.refs.length ≤ 1048576) : AC Tryz.prog 8 [basA B] ⟨.mix [.own 0, .own 1], [⟨.d 123, 2, B.store.map comA⟩, ⟨105, 4, B.refs.map refA⟩]⟩ := by
  have h1 := ac_toCommitSD hm hc
  have h2 := ac_toRefS hr
  refine r_of Th_ok (by kernel_rfl) Tryz.func8 rfl Tryz.ntmps8 Tryz.results8 (by kernel_rfl) rfl ?_; conv => whnf
  repeat (first | ((first | refine qb rfl rfl ?_ | refine qi (by assumption) rfl rfl ?_ | refine ql rfl ?_ | refine qo rfl rfl ?_ | refine qs rfl rfl ?_ | refine qn rfl rfl ?_); conv => whnf) | (refine qc (h1) rfl ?_; conv => whnf) | (refine qc (h2) rfl ?_; conv => whnf) | (refine r_step (p_ostoreo rfl rfl rfl rfl rfl rfl) rfl rfl (fun e => by first | exact .inl rfl | contradiction | exact .inr (.inl (by kernel_rfl))) ?_; conv => whnf))
  exact r_cellM rfl rfl rfl rfl rfl rfl rfl rfl
set_option maxHeartbeats 4000000 in
theorem law_NewW_o {B : Bas} {css : List (List Wsh)} {xs : List ByteArray} (hB : B.ok maxLen) (hcm : css.length ≤ maxLen) (hcl : ∀ ws ∈ css, ws.length ≤ maxLen ∧ ∀ c ∈ ws, c.ok maxLen) (hxm : xs.length ≤ maxLen) (hxs : ∀ x ∈ xs, x.size ≤ maxLen)
    (hz1 : 0 ≤ szB B 1048576) (hz2 : 0 ≤ szHW css (szB B 1048576)) (hz3 : 0 ≤ szL sSz xs (szHW css (szB B 1048576))) (h5 : css.length ≤ 5) (h3 : xs.length ≤ 3)
    (h1 : AC Tryz.prog 7 [basA B, .lst 1 (css.map wssA), .lst 1 (xs.map strA)] ⟨.tup [wldZ B css (xs.map (wtOf B.refs)) (.lst 13 []), .v (.int .i64 0)], []⟩)
    (h2 : AC Tryz.prog 11 [basA B, .lst 1 (css.map wssA), .lst 1 (xs.map strA)] ⟨.tup [.mix (wldO 0 1 2 3), .v (.int .i64 0)], [⟨.d 123, 2, B.store.map comA⟩, ⟨105, 4, B.refs.map refA⟩, ⟨.d 70, 9, css.map cA⟩, ⟨75, 3, (xs.map (wtOf B.refs)).map watA⟩]⟩) :
    AC Tryz.prog 3 [basA B, .lst 1 (css.map wssA), .lst 1 (xs.map strA)] ⟨.v (.bool true), []⟩ := by
  obtain ⟨_, q1, q2, q3⟩ := szB_le hz1 (by omega)
  have t1 := szB_tot2 hz1
  have t2 := szHW_tot hz2
  have t3 := szL_tot2 hz3
  have s1 := ac_szBase (l := 1048576) hB (by omega) (by omega)
  have s2 := ac_szWishSS (l := szB B 1048576) hcm hcl hz1 (by omega)
  have s3 := ac_szStringS (l := szHW css (szB B 1048576)) hxm hxs hz2 (by omega)
  have hws : ∀ ws ∈ css, wsN ws ≤ 1048576 := fun ws h => by have := wsN_at h; omega
  have b0 := ac_toBase (b := B) q1 q2 q3
  have b1 := ac_toBaseM (B := B) q1 (fun c h => ⟨(q2 c h).1, (q2 c h).2.1⟩) q3
  have w0 := ac_toWishSSD (l := css) (by omega) hws
  have x0 := ac_toStringS (l := xs) (by omega)
  have e1 := ac_eqBase hB
  have e2 := ac_eqWishSS (l := css) hcm (fun ws h => ⟨(hcl ws h).1, fun c hc => ((hcl ws h).2 c hc).2.2.2.1⟩)
  have e3 := ac_eqStringS (l := xs) hxm
  have eW := ac_eqWorldN (B := B) (css := css) (wts := xs.map (wtOf B.refs)) hB hcm (fun ws h => ⟨(hcl ws h).1, fun c hc => ((hcl ws h).2 c hc).2.2.2.1⟩) (by rw [List.length_map]; exact hxm) (fun w h => by obtain ⟨x, _, rfl⟩ := List.mem_map.1 h; simp [wtOf])
  have kb := kA_le B.store 1
  obtain ⟨K1, hK1⟩ : ∃ K, kA B.store 1 = K := ⟨_, rfl⟩
  obtain ⟨K2, hK2⟩ : ∃ K, K1 + 4 * (B.refs.length : Int) = K := ⟨_, rfl⟩
  have kw := kG_sum (n := mkN) kW_st css K2
  have kc := kG_sum (n := nC) stC_st css K2
  have n1 := sG_mk css
  have n2 := sG_nC css
  obtain ⟨K3, hK3⟩ : ∃ K, kG stC css K2 = K := ⟨_, rfl⟩
  have kt := kG_sum (n := fun _ => 2) stT_st (xs.map (wtOf B.refs)) K3
  rw [sG_const, List.length_map] at kt
  obtain ⟨K4, hK4⟩ : ∃ K, kG stT (xs.map (wtOf B.refs)) K3 = K := ⟨_, rfl⟩
  rw [hK1] at kb
  rw [hK3] at kc
  rw [hK4] at kt
  have m1 := ac_markBaseM (L := B.store) (R := B.refs) (k0 := 1) (by omega) (by omega) (by omega) (by omega) (by omega) (by omega) (by omega)
  rw [hK1, hK2] at m1
  have m2 := ac_markWishSS (l := css) (k0 := K2) (by omega) hws (by omega) (by omega)
  obtain ⟨J2, hJ2⟩ : ∃ K, kG kW css K2 = K := ⟨_, rfl⟩
  rw [hJ2] at m2 kw
  have m3 := ac_markStringS (l := xs) (k0 := J2) (by omega) (by omega) (by omega)
  have m4 := ac_markWorld (B := B) (css := css) (wts := xs.map (wtOf B.refs)) (k0 := 1) hK1 hK2 hK3 hK4 (by omega) (by omega) (by omega) (by omega) hws (by rw [List.length_map]; omega) (fun w h => by obtain ⟨x, _, rfl⟩ := List.mem_map.1 h; rfl) (by omega) (by omega) (by omega) (by omega) (by omega) (by omega) (by omega) (by rw [List.length_map]; omega)
  have d4 := ac_heldWorld (B := B) (css := css) (wts := xs.map (wtOf B.refs)) (k0 := 1) hK1 hK2 hK3 hK4 (by omega) (by omega) (by omega) (by omega) hws (by rw [List.length_map]; omega) (by omega) (by omega) (by omega) (by omega) (by omega) (by omega) (by omega) (by rw [List.length_map]; omega) (by omega)
  have hfl := flat_w4 (tc := 123) (tr := 105) (tk := 70) (tw := 75) (a := B.store.map comA) (c := css.map cA) (flat_map flat_ref B.refs) (flat_wts (l := B.refs) xs)
  have pJ : 0 ≤ J2 + xs.length := by omega
  have p4 : 0 ≤ K4 := by omega
  clear hK1 hK2 hK3 hK4 hJ2 kb kw kc kt n1 n2 t1 t2 t3
  refine r_of Th_ok (by kernel_rfl) Tryz.func3 rfl Tryz.ntmps3 Tryz.results3 (by kernel_rfl) rfl ?_; conv => whnf
  repeat (first | ((first | refine qb rfl rfl ?_ | refine qi (by assumption) rfl rfl ?_ | refine ql rfl ?_ | refine qo rfl rfl ?_ | refine qs rfl rfl ?_ | refine qn rfl rfl ?_); conv => whnf) | (refine qc (s1) rfl ?_; conv => whnf) | (refine qc (s2) rfl ?_; conv => whnf) | (refine qc (s3) rfl ?_; conv => whnf))
  (refine qc (b0) rfl ?_; conv => whnf)
  repeat (first | ((first | refine qb rfl rfl ?_ | refine qi (by assumption) rfl rfl ?_ | refine ql rfl ?_ | refine qo rfl rfl ?_ | refine qs rfl rfl ?_ | refine qn rfl rfl ?_); conv => whnf) | (refine qc (w0) rfl ?_; conv => whnf) | (refine qc (x0) rfl ?_; conv => whnf) | (refine qf (h1) rfl ?_; conv => whnf) | (refine r_step (p_ostore rfl rfl rfl rfl rfl (by conv => lhs; whnf) rfl) rfl rfl (fun e => by first | exact .inl rfl | contradiction | exact .inr (.inl (by kernel_rfl))) ?_; conv => whnf))
  (refine qc (b1) rfl ?_; conv => whnf)
  repeat (first | ((first | refine qb rfl rfl ?_ | refine qi (by assumption) rfl rfl ?_ | refine ql rfl ?_ | refine qo rfl rfl ?_ | refine qs rfl rfl ?_ | refine qn rfl rfl ?_); conv => whnf) | (refine qc (w0) rfl ?_; conv => whnf) | (refine qc (x0) rfl ?_; conv => whnf) | (refine r_step (p_call h2 rfl (.inr ⟨by simp [flatA, flatL, wldO], hfl⟩) ⟨⟨rfl, rfl, rfl⟩, ⟨rfl, rfl, rfl⟩, ⟨rfl, rfl, rfl⟩, ⟨rfl, rfl, rfl⟩, trivial⟩ rfl rfl) rfl rfl (fun e => by first | exact .inl rfl | contradiction | exact .inr (.inl (by kernel_rfl))) ?_; conv => whnf) | (refine r_step (p_ostoreo rfl rfl rfl rfl rfl rfl) rfl rfl (fun e => by first | exact .inl rfl | contradiction | exact .inr (.inl (by kernel_rfl))) ?_; conv => whnf))
  repeat (first | ((first | refine qb rfl rfl ?_ | refine qi (by assumption) rfl rfl ?_ | refine ql rfl ?_ | refine qo rfl rfl ?_ | refine qs rfl rfl ?_ | refine qn rfl rfl ?_); conv => whnf) | (refine .inl (And.intro (by kernel_rfl) ?_); conv => whnf) | (refine qc (eW) rfl ?_; conv => whnf) | (refine qc (b0) rfl ?_; conv => whnf) | (refine qc (e1) rfl ?_; conv => whnf) | (refine qc (w0) rfl ?_; conv => whnf) | (refine qc (e2) rfl ?_; conv => whnf) | (refine qc (x0) rfl ?_; conv => whnf) | (refine qc (e3) rfl ?_; conv => whnf))
  refine r_step (p_callg [47, 1047] m1 rfl rfl ⟨rfl, rfl, trivial⟩ rfl rfl trivial rfl rfl rfl (.inl rfl) rfl) rfl rfl (fun e => by first | exact .inl rfl | contradiction | exact .inr (.inl (by kernel_rfl))) ?_
  conv => whnf
  repeat (first | ((first | refine qb rfl rfl ?_ | refine qi (by assumption) rfl rfl ?_ | refine ql rfl ?_ | refine qo rfl rfl ?_ | refine qs rfl rfl ?_ | refine qn rfl rfl ?_); conv => whnf) | (refine .inl (And.intro (by kernel_rfl) ?_); conv => whnf) | (refine r_step (p_callm (m2) rfl rfl rfl rfl rfl rfl rfl) rfl rfl (fun e => by first | exact .inl rfl | contradiction | exact .inr (.inl (by kernel_rfl))) ?_; conv => whnf) | (refine r_step (p_callm (m3) rfl rfl rfl rfl rfl rfl rfl) rfl rfl (fun e => by first | exact .inl rfl | contradiction | exact .inr (.inl (by kernel_rfl))) ?_; conv => whnf) | (refine qc (eW) rfl ?_; conv => whnf))
  refine r_step (p_callg [56, 1056, 2056, 3056] m4 rfl rfl ⟨rfl, rfl, rfl, rfl, trivial⟩ rfl rfl trivial rfl rfl rfl (.inl rfl) rfl) rfl rfl (fun e => by first | exact .inl rfl | contradiction | exact .inr (.inl (by kernel_rfl))) ?_
  conv => whnf
  repeat (first | ((first | refine qb rfl rfl ?_ | refine qi (by assumption) rfl rfl ?_ | refine ql rfl ?_ | refine qo rfl rfl ?_ | refine qs rfl rfl ?_ | refine qn rfl rfl ?_); conv => whnf) | (refine .inl (And.intro (by kernel_rfl) ?_); conv => whnf) | (refine qc (d4) rfl ?_; conv => whnf) | (refine qc (b0) rfl ?_; conv => whnf) | (refine qc (w0) rfl ?_; conv => whnf) | (refine qc (x0) rfl ?_; conv => whnf) | (refine r_step (p_call h2 rfl (.inr ⟨by simp [flatA, flatL, wldO], hfl⟩) ⟨⟨rfl, rfl, rfl⟩, ⟨rfl, rfl, rfl⟩, ⟨rfl, rfl, rfl⟩, ⟨rfl, rfl, rfl⟩, trivial⟩ rfl rfl) rfl rfl (fun e => by first | exact .inl rfl | contradiction | exact .inr (.inl (by kernel_rfl))) ?_; conv => whnf) | (refine r_step (p_ostoreo rfl rfl rfl rfl rfl rfl) rfl rfl (fun e => by first | exact .inl rfl | contradiction | exact .inr (.inl (by kernel_rfl))) ?_; conv => whnf) | (refine qc (eW) rfl ?_; conv => whnf))
  exact r_ret1 rfl trivial
set_option maxHeartbeats 4000000 in
theorem law_NewW_b {B : Bas} {css : List (List Wsh)} {xs : List ByteArray} (hB : B.ok maxLen) (hcm : css.length ≤ maxLen) (hcl : ∀ ws ∈ css, ws.length ≤ maxLen ∧ ∀ c ∈ ws, c.ok maxLen) (hxm : xs.length ≤ maxLen) (hxs : ∀ x ∈ xs, x.size ≤ maxLen)
    (hz1 : 0 ≤ szB B 1048576) (hz2 : 0 ≤ szHW css (szB B 1048576)) (hz3 : 0 ≤ szL sSz xs (szHW css (szB B 1048576))) {code : Int} (hc0 : 0 ≤ code) (hc1 : code ≤ 1000)
    (h1 : AC Tryz.prog 7 [basA B, .lst 1 (css.map wssA), .lst 1 (xs.map strA)] ⟨.tup [wld0, .v (.int .i64 code)], []⟩)
    (h2 : AC Tryz.prog 11 [basA B, .lst 1 (css.map wssA), .lst 1 (xs.map strA)] ⟨.tup [wld0, .v (.int .i64 code)], []⟩) :
    AC Tryz.prog 3 [basA B, .lst 1 (css.map wssA), .lst 1 (xs.map strA)] ⟨.v (.bool true), []⟩ := by
  obtain ⟨_, q1, q2, q3⟩ := szB_le hz1 (by omega)
  have t1 := szB_tot2 hz1
  have t2 := szHW_tot hz2
  have t3 := szL_tot2 hz3
  have s1 := ac_szBase (l := 1048576) hB (by omega) (by omega)
  have s2 := ac_szWishSS (l := szB B 1048576) hcm hcl hz1 (by omega)
  have s3 := ac_szStringS (l := szHW css (szB B 1048576)) hxm hxs hz2 (by omega)
  have hws : ∀ ws ∈ css, wsN ws ≤ 1048576 := fun ws h => by have := wsN_at h; omega
  have b0 := ac_toBase (b := B) q1 q2 q3
  have b1 := ac_toBaseM (B := B) q1 (fun c h => ⟨(q2 c h).1, (q2 c h).2.1⟩) q3
  have w0 := ac_toWishSSD (l := css) (by omega) hws
  have x0 := ac_toStringS (l := xs) (by omega)
  have e1 := ac_eqBase hB
  have e2 := ac_eqWishSS (l := css) hcm (fun ws h => ⟨(hcl ws h).1, fun c hc => ((hcl ws h).2 c hc).2.2.2.1⟩)
  have e3 := ac_eqStringS (l := xs) hxm
  have eW := ac_eqWorld0
  have kb := kA_le B.store 1
  obtain ⟨K1, hK1⟩ : ∃ K, kA B.store 1 = K := ⟨_, rfl⟩
  obtain ⟨K2, hK2⟩ : ∃ K, K1 + 4 * (B.refs.length : Int) = K := ⟨_, rfl⟩
  have kw := kG_sum (n := mkN) kW_st css K2
  have n1 := sG_mk css
  rw [hK1] at kb
  have m1 := ac_markBaseM (L := B.store) (R := B.refs) (k0 := 1) (by omega) (by omega) (by omega) (by omega) (by omega) (by omega) (by omega)
  rw [hK1, hK2] at m1
  have m2 := ac_markWishSS (l := css) (k0 := K2) (by omega) hws (by omega) (by omega)
  obtain ⟨J2, hJ2⟩ : ∃ K, kG kW css K2 = K := ⟨_, rfl⟩
  rw [hJ2] at m2 kw
  have m3 := ac_markStringS (l := xs) (k0 := J2) (by omega) (by omega) (by omega)
  have pJ : 0 ≤ J2 + xs.length := by omega
  have m4 := ac_markWorld0 (k0 := 1)
  have d4 := ac_heldWorld0 (k0 := 1) (by omega) (by omega)
  clear hK1 hK2 hJ2 kb kw n1 t1 t2 t3
  refine r_of Th_ok (by kernel_rfl) Tryz.func3 rfl Tryz.ntmps3 Tryz.results3 (by kernel_rfl) rfl ?_; conv => whnf
  repeat (first | ((first | refine qb rfl rfl ?_ | refine qi (by assumption) rfl rfl ?_ | refine ql rfl ?_ | refine qo rfl rfl ?_ | refine qs rfl rfl ?_ | refine qn rfl rfl ?_); conv => whnf) | (refine qc (s1) rfl ?_; conv => whnf) | (refine qc (s2) rfl ?_; conv => whnf) | (refine qc (s3) rfl ?_; conv => whnf))
  (refine qc (b0) rfl ?_; conv => whnf)
  repeat (first | ((first | refine qb rfl rfl ?_ | refine qi (by assumption) rfl rfl ?_ | refine ql rfl ?_ | refine qo rfl rfl ?_ | refine qs rfl rfl ?_ | refine qn rfl rfl ?_); conv => whnf) | (refine qc (w0) rfl ?_; conv => whnf) | (refine qc (x0) rfl ?_; conv => whnf) | (refine qf (h1) rfl ?_; conv => whnf) | (refine r_step (p_ostore rfl rfl rfl rfl rfl (by conv => lhs; whnf) rfl) rfl rfl (fun e => by first | exact .inl rfl | contradiction | exact .inr (.inl (by kernel_rfl))) ?_; conv => whnf))
  (refine qc (b1) rfl ?_; conv => whnf)
  repeat (first | ((first | refine qb rfl rfl ?_ | refine qi (by assumption) rfl rfl ?_ | refine ql rfl ?_ | refine qo rfl rfl ?_ | refine qs rfl rfl ?_ | refine qn rfl rfl ?_); conv => whnf) | (refine qc (w0) rfl ?_; conv => whnf) | (refine qc (x0) rfl ?_; conv => whnf) | (refine r_step (p_call h2 rfl (.inr ⟨by simp [flatA, flatL, wldZ, basA], flat_o0⟩) (by first | exact trivial | exact ⟨⟨rfl, rfl, rfl⟩, trivial⟩ | exact ⟨⟨rfl, rfl, rfl⟩, ⟨rfl, rfl, rfl⟩, trivial⟩ | exact ⟨⟨rfl, rfl, rfl⟩, ⟨rfl, rfl, rfl⟩, ⟨rfl, rfl, rfl⟩, trivial⟩) rfl rfl) rfl rfl (fun e => by first | exact .inl rfl | contradiction | exact .inr (.inl (by kernel_rfl))) ?_; conv => whnf) | (refine r_step (p_ostore rfl rfl rfl rfl rfl (by conv => lhs; whnf) rfl) rfl rfl (fun e => by first | exact .inl rfl | contradiction | exact .inr (.inl (by kernel_rfl))) ?_; conv => whnf) | (refine r_step (p_ostoreo rfl rfl rfl rfl rfl rfl) rfl rfl (fun e => by first | exact .inl rfl | contradiction | exact .inr (.inl (by kernel_rfl))) ?_; conv => whnf))
  repeat (first | ((first | refine qb rfl rfl ?_ | refine qi (by assumption) rfl rfl ?_ | refine ql rfl ?_ | refine qo rfl rfl ?_ | refine qs rfl rfl ?_ | refine qn rfl rfl ?_); conv => whnf) | (refine .inl (And.intro (by kernel_rfl) ?_); conv => whnf) | (refine qc (eW) rfl ?_; conv => whnf) | (refine qc (b0) rfl ?_; conv => whnf) | (refine qc (e1) rfl ?_; conv => whnf) | (refine qc (w0) rfl ?_; conv => whnf) | (refine qc (e2) rfl ?_; conv => whnf) | (refine qc (x0) rfl ?_; conv => whnf) | (refine qc (e3) rfl ?_; conv => whnf))
  refine r_step (p_callg [47, 1047] m1 rfl rfl ⟨rfl, rfl, trivial⟩ rfl rfl trivial rfl rfl rfl (.inl rfl) rfl) rfl rfl (fun e => by first | exact .inl rfl | contradiction | exact .inr (.inl (by kernel_rfl))) ?_
  conv => whnf
  repeat (first | ((first | refine qb rfl rfl ?_ | refine qi (by assumption) rfl rfl ?_ | refine ql rfl ?_ | refine qo rfl rfl ?_ | refine qs rfl rfl ?_ | refine qn rfl rfl ?_); conv => whnf) | (refine .inl (And.intro (by kernel_rfl) ?_); conv => whnf) | (refine r_step (p_callm (m2) rfl rfl rfl rfl rfl rfl rfl) rfl rfl (fun e => by first | exact .inl rfl | contradiction | exact .inr (.inl (by kernel_rfl))) ?_; conv => whnf) | (refine r_step (p_callm (m3) rfl rfl rfl rfl rfl rfl rfl) rfl rfl (fun e => by first | exact .inl rfl | contradiction | exact .inr (.inl (by kernel_rfl))) ?_; conv => whnf) | (refine qc (eW) rfl ?_; conv => whnf) | (refine qc (m4) rfl ?_; conv => whnf))
  repeat (first | ((first | refine qb rfl rfl ?_ | refine qi (by assumption) rfl rfl ?_ | refine ql rfl ?_ | refine qo rfl rfl ?_ | refine qs rfl rfl ?_ | refine qn rfl rfl ?_); conv => whnf) | (refine .inl (And.intro (by kernel_rfl) ?_); conv => whnf) | (refine qc (d4) rfl ?_; conv => whnf) | (refine qc (b0) rfl ?_; conv => whnf) | (refine qc (w0) rfl ?_; conv => whnf) | (refine qc (x0) rfl ?_; conv => whnf) | (refine r_step (p_call h2 rfl (.inr ⟨by simp [flatA, flatL, wldZ, basA], flat_o0⟩) (by first | exact trivial | exact ⟨⟨rfl, rfl, rfl⟩, trivial⟩ | exact ⟨⟨rfl, rfl, rfl⟩, ⟨rfl, rfl, rfl⟩, trivial⟩ | exact ⟨⟨rfl, rfl, rfl⟩, ⟨rfl, rfl, rfl⟩, ⟨rfl, rfl, rfl⟩, trivial⟩) rfl rfl) rfl rfl (fun e => by first | exact .inl rfl | contradiction | exact .inr (.inl (by kernel_rfl))) ?_; conv => whnf) | (refine r_step (p_ostore rfl rfl rfl rfl rfl (by conv => lhs; whnf) rfl) rfl rfl (fun e => by first | exact .inl rfl | contradiction | exact .inr (.inl (by kernel_rfl))) ?_; conv => whnf) | (refine r_step (p_ostoreo rfl rfl rfl rfl rfl rfl) rfl rfl (fun e => by first | exact .inl rfl | contradiction | exact .inr (.inl (by kernel_rfl))) ?_; conv => whnf) | (refine qc (eW) rfl ?_; conv => whnf))
  exact r_ret1 rfl trivial
theorem law_NewWorld {B : Bas} {css : List (List Wsh)} {xs : List ByteArray} (hB : B.ok maxLen) (hcm : css.length ≤ maxLen) (hcl : ∀ ws ∈ css, ws.length ≤ maxLen ∧ ∀ c ∈ ws, c.ok maxLen) (hxm : xs.length ≤ maxLen) (hxs : ∀ x ∈ xs, x.size ≤ maxLen) :
    AC Tryz.prog 3 [basA B, .lst 1 (css.map wssA), .lst 1 (xs.map strA)] ⟨.v (.bool true), []⟩ := by
  have s1 := ac_szBase (l := 1048576) hB (by omega) (by omega)
  by_cases z1 : szB B 1048576 < 0
  · refine r_of Th_ok (by kernel_rfl) Tryz.func3 rfl Tryz.ntmps3 Tryz.results3 (by kernel_rfl) rfl ?_; conv => whnf
    repeat (first | ((first | refine qb rfl rfl ?_ | refine qi (by assumption) rfl rfl ?_ | refine ql rfl ?_ | refine qo rfl rfl ?_ | refine qs rfl rfl ?_ | refine qn rfl rfl ?_); conv => whnf) | (refine qc (s1) rfl ?_; conv => whnf))
    exact r_ret1 rfl trivial
  obtain ⟨y1, q1, q2, q3⟩ := szB_le (by omega : 0 ≤ szB B 1048576) (by omega)
  have t1 := szB_tot2 (by omega : 0 ≤ szB B 1048576)
  have s2 := ac_szWishSS (l := szB B 1048576) hcm hcl (by omega) (by omega)
  by_cases z2 : szHW css (szB B 1048576) < 0
  · refine r_of Th_ok (by kernel_rfl) Tryz.func3 rfl Tryz.ntmps3 Tryz.results3 (by kernel_rfl) rfl ?_; conv => whnf
    repeat (first | ((first | refine qb rfl rfl ?_ | refine qi (by assumption) rfl rfl ?_ | refine ql rfl ?_ | refine qo rfl rfl ?_ | refine qs rfl rfl ?_ | refine qn rfl rfl ?_); conv => whnf) | (refine qc (s1) rfl ?_; conv => whnf) | (refine qc (s2) rfl ?_; conv => whnf))
    exact r_ret1 rfl trivial
  have t2 := szHW_tot (by omega : 0 ≤ szHW css (szB B 1048576))
  have s3 := ac_szStringS (l := szHW css (szB B 1048576)) hxm hxs (by omega) (by omega)
  by_cases z3 : szL sSz xs (szHW css (szB B 1048576)) < 0
  · refine r_of Th_ok (by kernel_rfl) Tryz.func3 rfl Tryz.ntmps3 Tryz.results3 (by kernel_rfl) rfl ?_; conv => whnf
    repeat (first | ((first | refine qb rfl rfl ?_ | refine qi (by assumption) rfl rfl ?_ | refine ql rfl ?_ | refine qo rfl rfl ?_ | refine qs rfl rfl ?_ | refine qn rfl rfl ?_); conv => whnf) | (refine qc (s1) rfl ?_; conv => whnf) | (refine qc (s2) rfl ?_; conv => whnf) | (refine qc (s3) rfl ?_; conv => whnf))
    exact r_ret1 rfl trivial
  have hsc : ∀ c ∈ B.store, c.1.length ≤ 1048576 ∧ c.2.length ≤ 1048576 := fun c h => ⟨(q2 c h).1, (q2 c h).2.1⟩
  have hcs : ∀ ws ∈ css, ∀ c ∈ ws, c.ok maxLen := fun ws h => (hcl ws h).2
  have he : ∀ ws ∈ css, ∀ c ∈ ws, c.edits.length ≤ 1048576 := fun ws h c hc => by
    have := wsN_at h; have := wsN_ed hc; omega
  have fb : ∀ {code : Int}, 0 ≤ code → code ≤ 1000 → AC Tryz.prog 7 [basA B, .lst 1 (css.map wssA), .lst 1 (xs.map strA)] ⟨.tup [wld0, .v (.int .i64 code)], []⟩ → AC Tryz.prog 11 [basA B, .lst 1 (css.map wssA), .lst 1 (xs.map strA)] ⟨.tup [wld0, .v (.int .i64 code)], []⟩ → _ := fun c0 c1 f1 f2 => law_NewW_b hB hcm hcl hxm hxs (by omega) (by omega) (by omega) c0 c1 f1 f2
  by_cases a1 : 4096 < css.length ∨ 4096 < xs.length
  · exact fb (code := 2) (by omega) (by omega) (ac_sNewW_pre hB hcm hxm (.inl ⟨a1, rfl⟩)) (ac_iNewW_pre hB hcm hxm (.inl ⟨a1, rfl⟩))
  cases hb : basB B with
  | false => exact fb (code := 1) (by omega) (by omega) (ac_sNewW_pre hB hcm hxm (.inr (.inl ⟨a1, hb, rfl⟩))) (ac_iNewW_pre hB hcm hxm (.inr (.inl ⟨a1, hb, rfl⟩)))
  | true =>
    by_cases a2 : 5 < css.length ∨ 3 < xs.length
    · exact fb (code := 6) (by omega) (by omega) (ac_sNewW_pre hB hcm hxm (.inr (.inr ⟨a1, hb, a2, rfl⟩))) (ac_iNewW_pre hB hcm hxm (.inr (.inr ⟨a1, hb, a2, rfl⟩)))
    cases hw : css.all (fun ws => decide (ws.length ≤ 6) && wssB ws) with
    | false => exact fb (code := 1) (by omega) (by omega) (ac_sNewW_w hB (fun ws h => (hcl ws h).1) hcs hxs q1 hsc q3 he hb (by omega) (by omega) hw) (ac_iNewW_w hB (fun ws h => (hcl ws h).1) hcs hxs q1 hsc q3 he hb (by omega) (by omega) hw)
    | true =>
      have hw' : ∀ ws ∈ css, ws.length ≤ 6 ∧ wssB ws = true := fun ws h => cliK_0 (List.all_eq_true.1 hw ws h)
      cases hn : xs.all okN with
      | false => exact fb (code := 10) (by omega) (by omega) (ac_sNewW_n hB (fun ws h => (hcl ws h).1) hcs hxs q1 hsc q3 he hb (by omega) (by omega) hw' hn) (ac_iNewW_n hB (fun ws h => (hcl ws h).1) hcs hxs q1 hsc q3 he hb (by omega) (by omega) hw' hn (fun x h => askF_of hb h))
      | true =>
        have hn' : ∀ x ∈ xs, okN x = true := fun x h => List.all_eq_true.1 hn x h
        exact law_NewW_o hB hcm hcl hxm hxs (by omega) (by omega) (by omega) (by omega) (by omega) (ac_sNewW hB hcs hxs q1 hsc q3 he hb (by omega) (by omega) hw' hn') (ac_iNewW hB hcs hxs q1 hsc q3 he hb (by omega) (by omega) hw' hn' (fun x h => askF_of hb (hn' x h)))
end Go.Proofs.YtmfmclnklpbiaaaGreat.AM
namespace Go.Proofs.YtmfmclnklpbiaaaGreat.AM
open Go Go.RowKit Go.ChangeShapes Go.WideShapes Go.Deep
set_option linter.unusedVariables false
set_option linter.unusedSimpArgs false
section
variable {H : Type} {enc : TypeId × Value → H} {P : Program} {w : World} {base : Nat} {held : Bool}
theorem open_wshs {ts t : TypeId} {f0 f1 f2 f3 f4 g0 g1 g2 : Field} {ee : TypeId} {A : Option Addr} {n c : Nat} {d : DataW H} {p : List MemPlace} (hs : P.underlying ts = some (.slice t)) (ht : P.underlying t = some (.struct #[f0, f1, f2, f3, f4])) (hone : oneCellFields P #[f0, f1, f2, f3, f4] = true) (hC : P.cellsOf t = 5)
    (h0 : P.underlying f0.type = some (.int .i64)) (h1 : P.underlying f1.type = some .string) (h2 : P.underlying f2.type = some .string) (h3 : P.underlying f3.type = some .string) (h4 : P.underlying f4.type = some (.slice ee))
    (he : P.underlying ee = some (.struct #[g0, g1, g2])) (hone1 : oneCellFields P #[g0, g1, g2] = true) (hC1 : P.cellsOf ee = 3) (k0 : P.underlying g0.type = some .string) (k1 : P.underlying g1.type = some (.int .i64)) (k2 : P.underlying g2.type = some .bool)
    (h : DataW.Trod enc P w base (fun _ => true) held ts (.slice A n c) d p) : ∃ ws : List Wsh, (∀ hp B V, RV (InW w) w hp B V (.lst 5 (ws.map wshA)) (.slice A n c)) ∧ ws.length ≤ maxLen ∧ ∀ x ∈ ws, x.ok maxLen := by
  obtain ⟨k, hk⟩ := h
  obtain ⟨l, hra, hm, hok⟩ := open_lst (enc := enc) (w := w) (base := base) (held := held) wshA (fun x => x.ok maxLen) (k := k) hs hC (by omega) (fun _ => rfl) (fun cs k y hc => by
    obtain ⟨o, ho, hk⟩ := open_wsh (cs := cs.toArray) ht hone hC h0 h1 h2 h3 h4 he hone1 hC1 k0 k1 k2 (trod_agg hc)
    exact ⟨o, ra_of_agg (xs := [_, _, _, _, _]) ho, hk⟩) (by simpa [Value.cells] using hk)
  exact ⟨l, fun hp B V => by unfold RV; exact hra, hm, hok⟩
end
end Go.Proofs.YtmfmclnklpbiaaaGreat.AM
namespace Go.Proofs.YtmfmclnklpbiaaaGreat.AM
open Go Go.RowKit Go.ChangeShapes Go.WideShapes Go.Deep
set_option linter.unusedVariables false
set_option linter.unusedSimpArgs false
section
variable {H : Type} {enc : TypeId × Value → H} {P : Program} {w : World} {base : Nat} {held : Bool}
theorem open_wssS {tt ts t : TypeId} {f0 f1 f2 f3 f4 g0 g1 g2 : Field} {ee : TypeId} {A : Option Addr} {n c : Nat} {d : DataW H} {p : List MemPlace} (hss : P.underlying tt = some (.slice ts)) (hCs : P.cellsOf ts = 1) (hs : P.underlying ts = some (.slice t)) (ht : P.underlying t = some (.struct #[f0, f1, f2, f3, f4])) (hone : oneCellFields P #[f0, f1, f2, f3, f4] = true) (hC : P.cellsOf t = 5)
    (h0 : P.underlying f0.type = some (.int .i64)) (h1 : P.underlying f1.type = some .string) (h2 : P.underlying f2.type = some .string) (h3 : P.underlying f3.type = some .string) (h4 : P.underlying f4.type = some (.slice ee))
    (he : P.underlying ee = some (.struct #[g0, g1, g2])) (hone1 : oneCellFields P #[g0, g1, g2] = true) (hC1 : P.cellsOf ee = 3) (k0 : P.underlying g0.type = some .string) (k1 : P.underlying g1.type = some (.int .i64)) (k2 : P.underlying g2.type = some .bool)
    (h : DataW.Trod enc P w base (fun _ => true) held tt (.slice A n c) d p) : ∃ css : List (List Wsh), (∀ hp B V, RV (InW w) w hp B V (.lst 1 (css.map wssA)) (.slice A n c)) ∧ css.length ≤ maxLen ∧ ∀ ws ∈ css, ws.length ≤ maxLen ∧ ∀ x ∈ ws, x.ok maxLen := by
  obtain ⟨k, hk⟩ := h
  obtain ⟨l, hra, hm, hok⟩ := open_lst (enc := enc) (w := w) (base := base) (held := held) wssA (fun ws => ws.length ≤ maxLen ∧ ∀ x ∈ ws, x.ok maxLen) (k := k) hss hCs (by omega) (fun _ => rfl) (fun cs k y hc => by
    have hsl : ∃ A n c, cs = [.slice A n c] := by
      rcases open_slice hs hc with ⟨h, _⟩ | ⟨a, len, cap, _, _, _, _, h, _⟩
      · exact ⟨_, _, _, h⟩
      · exact ⟨_, _, _, h⟩
    obtain ⟨A, n, c, rfl⟩ := hsl
    obtain ⟨ws, hr, h1', h2'⟩ := open_wshs hs ht hone hC h0 h1 h2 h3 h4 he hone1 hC1 k0 k1 k2 (trod_of rfl hc)
    have := hr (fun _ => none) (fun _ => 0) (fun _ => undef)
    unfold RV at this
    exact ⟨ws, this, h1', h2'⟩) (by simpa [Value.cells] using hk)
  exact ⟨l, fun hp B V => by unfold RV; exact hra, hm, hok⟩
theorem open_strsS {t e : TypeId} {A : Option Addr} {n c : Nat} {d : DataW H} {p : List MemPlace} (ht : P.underlying t = some (.slice e)) (he : P.underlying e = some .string) (hC : P.cellsOf e = 1) (h : DataW.Trod enc P w base (fun _ => true) held t (.slice A n c) d p) :
    ∃ l : List ByteArray, (∀ hp B V, RV (InW w) w hp B V (.lst 1 (l.map strA)) (.slice A n c)) ∧ l.length ≤ maxLen ∧ ∀ s ∈ l, s.size ≤ maxLen := by
  obtain ⟨k, hk⟩ := h
  obtain ⟨l, hra, hm, hok⟩ := open_strs (enc := enc) (w := w) (base := base) (held := held) (k := k) ht he hC (by simpa [Value.cells] using hk)
  exact ⟨l, fun hp B V => by unfold RV; exact hra, hm, hok⟩
end
end Go.Proofs.YtmfmclnklpbiaaaGreat.AM
