/- Texts of the machine over data, folded. -/
import Derived.Test.YtodckioppgjbdaaGreatDoorKc5
import Derived.Test.YtodckioppgjbdaaGreatDoorKc8
import Derived.Test.YtodckioppgjbdaaGreatDoorKc9
set_option linter.unusedVariables false
set_option linter.unusedSimpArgs false
set_option maxRecDepth 100000
namespace Go.Proofs.YtodckioppgjbdaaGreatDoor.AM
open Go Go.RowKit
theorem aIg {ps : List ByteArray} {k : Nat} (h : k < ps.length) (hp : ¬ ps[k].size = 0) : (ps.take k).filter neB ++ [ps[k]] = (ps.take (k + 1)).filter neB := by
 rw [List.take_succ_eq_append_getElem h, List.filter_append, List.filter_cons_of_pos (aEq hp)]; rfl
theorem aIf {ps : List ByteArray} {k : Nat} (h : k < ps.length) (hp : ps[k].size = 0) : (ps.take (k + 1)).filter neB = (ps.take k).filter neB := by
 rw [List.take_succ_eq_append_getElem h, List.filter_append, List.filter_cons_of_neg (by rw [aGy hp]; decide), List.filter_nil, List.append_nil]
theorem aIw {p : ByteArray} (h : p.size = 0) : p = ⟨#[]⟩ := by
 obtain ⟨a⟩ := p
 have : a = #[] := Array.eq_empty_of_size_eq_zero h
 rw [this]
theorem aIx {p : ByteArray} (h : ¬ p.size = 0) : ¬ p = ⟨#[]⟩ := fun e => h (by rw [e]; rfl)
attribute [local irreducible] xM xR xh y9 zF Pre ACG
theorem vz {ps : List ByteArray} (hm : ps.length ≤ 4096) (hk : ∀ p ∈ ps, p.size ≤ 1000000) : AC Tryz.prog 44 [.lst 1 (ps.map vL)] ⟨.v (.string (vv ps)), []⟩ := by
 have hfl := List.length_filter_le neB ps
 have hj := aDt (sep := ⟨#[32]⟩) (xs := ps.filter neB) (by omega) (by
  have h1 := aHj hk
  have h2 : ps.length * (1 + 1000000) ≤ 4096 * (1 + 1000000) := Nat.mul_le_mul_right _ hm
  unfold vv jl at h1; omega)
 unfold vv jl
 generalize jn ⟨#[32]⟩ (fun i => ((ps.filter neB)[i]?).getD ⟨#[]⟩) (ps.filter neB).length = R at *
 refine qrf Tryz.func44 Tryz.ntmps44 Tryz.results44 ?_; conv => whnf
 repeat ((refine qz ?_; conv => whnf))
 refine aBb (ι := { k : Nat // k ≤ ps.length }) (fun k => ⟨[(3, .own 4), (6, .lst 1 (ps.map vL)), (7, .v (.int .i64 (ps.length : Int))), (8, .v (.int .i64 (k.1 : Int)))], [(4, ⟨9, 1, ((ps.take k.1).filter neB).map vL⟩)]⟩) (fun k => ps.length - k.1) ⟨0, Nat.zero_le _⟩ (by exact qle) ?_
 rintro ⟨k, hk'⟩
 dsimp only
 conv => whnf
 by_cases hlt : k < ps.length
 · have hle := List.length_filter_le neB (ps.take k)
   rw [List.length_take] at hle
   by_cases hp : ps[k].size = 0
   · have he := aIw hp
     repeat ((first | refine qp (xA (y5 he) rfl rfl rfl) ?_ | refine qz ?_ | refine qst ?_); conv => whnf)
     exact ⟨⟨k + 1, hlt⟩, ⟨⟨(show some (OB.mk _ _ (List.map vL ((ps.take k).filter neB))) = some (OB.mk _ _ (List.map vL ((ps.take (k + 1)).filter neB))) by rw [aIf hlt hp]), trivial⟩, .inl ⟨rfl, rfl⟩, .inl ⟨rfl, rfl⟩, .inl ⟨rfl, rfl⟩, .inl ⟨rfl, rfl⟩, trivial⟩, by simp; omega⟩
   · have he := aIx hp
     repeat ((first | refine qp (xA (yw he) rfl rfl rfl) ?_ | refine qz ?_ | refine qst ?_ | refine qr (aH8 _ _ (aIg hlt hp) (by omega) rfl rfl rfl rfl rfl rfl rfl) ?_); conv => whnf)
     exact ⟨⟨k + 1, hlt⟩, by exact qle, by simp; omega⟩
 · have hkk : k = ps.length := by omega
   subst hkk
   rw [List.take_length]
   repeat ((first | refine qz ?_ | refine qc (hj) ?_); conv => whnf)
   exact xI rfl trivial
end Go.Proofs.YtodckioppgjbdaaGreatDoor.AM
namespace Go.Proofs.YtodckioppgjbdaaGreatDoor.AM
open Go Go.RowKit
theorem aGQ {w : Wsh} (h : xQ w = true) : ¬ w.name.size = 0 ∧ (w.kind = 1 ∨ w.kind = 4 → ¬ w.source.size = 0) ∧ (w.kind = 5 → ¬ w.key.size = 0) ∧ (w.kind = 3 → xP w.edits = true) := by
 obtain ⟨k, nm, src, key, es⟩ := w
 unfold xQ opB at h
 dsimp only at h ⊢
 by_cases h14 : k = 1 ∨ k = 4
 · rw [if_pos h14] at h
   simp only [Bool.and_eq_true] at h
   have h1 := qZ h.1
   have h2 := qZ h.2.1
   exact ⟨by omega, fun _ => by omega, fun e => by omega, fun e => by omega⟩
 · rw [if_neg h14] at h
   simp only [Bool.and_eq_true] at h
   have h2 := qZ h.2.1
   refine ⟨by omega, fun e => absurd e h14, fun e => ?_, fun e => ?_⟩
   · subst e
     have h3 := h.2.2
     rw [if_neg (by omega), if_neg (by omega), if_pos rfl] at h3
     simp only [Bool.and_eq_true] at h3
     have := qZ h3.2.1
     omega
   · subst e
     have h3 := h.2.2
     rw [if_neg (by omega), if_pos rfl] at h3
     simp only [Bool.and_eq_true] at h3
     exact h3.2.2
theorem aF6 {e : Edt} : 0 < (zG e).size := by
 unfold zG
 split
 · rw [ByteArray.size_append, kY]; omega
 · unfold aBq
   rw [ByteArray.size_append, ByteArray.size_append, kY]; omega
theorem aEC {sep : ByteArray} {g : Nat → ByteArray} (h0 : 0 < (g 0).size) : ∀ {n : Nat}, 0 < n → 0 < (jn sep g n).size
 | 0, h => by omega
 | i + 1, _ => by
  rw [jn, ByteArray.size_append]
  by_cases hi : i = 0
  · subst hi; omega
  · rw [if_neg hi, ByteArray.size_append]
    have := aEC (sep := sep) h0 (n := i) (by omega)
    omega
theorem aHW {es : List Edt} : ¬ (wK es).size = 0 := by
 unfold wK
 by_cases h : es.length = 0
 · rw [if_pos h]; decide
 · rw [if_neg h]
   have := aEC (sep := ⟨#[44]⟩) (g := fun i => zG ((es[i]?).getD zEd)) aF6 (n := es.length) (by omega)
   omega
theorem aBu {k : Int} (h : 1 ≤ k ∧ k ≤ 6) : ¬ (yu k).size = 0 := by
 obtain ⟨h1, h2⟩ := h
 rcases (show k = 1 ∨ k = 2 ∨ k = 3 ∨ k = 4 ∨ k = 5 ∨ k = 6 by omega) with e | e | e | e | e | e <;> rw [e] <;> decide
theorem aBh {a b c : ByteArray} (ha : ¬ a.size = 0) (hb : ¬ b.size = 0) (hc : ¬ c.size = 0) : vv [a, b, c] = (((a ++ ⟨#[32]⟩) ++ b) ++ ⟨#[32]⟩) ++ c := by
 rw [aGL ha, aCi hb, aCi hc, aCG]
theorem aGK {a b : ByteArray} (ha : ¬ a.size = 0) (hb : ¬ b.size = 0) : vv [a, b] = (a ++ ⟨#[32]⟩) ++ b := by
 rw [aGL ha, aCi hb, aCG]
attribute [local irreducible] xM xR xh y9 zF Pre ACG
theorem aCm {w : Wsh} (ho : w.ok maxLen) : AC Tryz.prog 10 [uY w] ⟨.tup [.v (.string (qo w).1), .v (.int .i64 (qo w).2)], []⟩ := by
 have c0 := aE5 ho
 unfold qo
 by_cases h : xQ w = true
 case neg =>
  rw [if_neg h]
  rw [show xQ w = false by simpa using h] at c0
  change AC Tryz.prog 42 [.agg [.v (.int .i64 w.kind), .v (.string w.name), .v (.string w.source), .v (.string w.key), .lst 3 (w.edits.map xS)]] _ at c0
  change AC Tryz.prog 10 [.agg [.v (.int .i64 w.kind), .v (.string w.name), .v (.string w.source), .v (.string w.key), .lst 3 (w.edits.map xS)]] _
  refine qrf Tryz.func10 Tryz.ntmps10 Tryz.results10 ?_; conv => whnf
  repeat ((first | refine qz ?_ | refine qc (c0) ?_); conv => whnf)
  exact vP rfl rfl
 rw [if_pos h]
 rw [h] at c0
 obtain ⟨hn, hk⟩ := aC7 h
 obtain ⟨m1, m2, m3, m4⟩ := aGQ h
 obtain ⟨k, nm, src, key, es⟩ := w
 clear h ho
 dsimp only at hn hk m1 m2 m3 m4
 unfold aFI
 dsimp only
 rcases hk with ⟨rfl, hs⟩ | rfl | ⟨rfl, hs⟩ | ⟨rfl, hs⟩ | ⟨rfl, hs⟩ | rfl
 · rw [if_pos (.inl rfl)]
   have t1 := aDr (w := ⟨1, nm, src, key, es⟩)
   have k6 := u6 1
   rw [← aBh (aBu (by omega)) m1 (m2 (.inl rfl))]
   have c3 := vz (ps := [yu 1, nm, src]) (by simp) (by
    intro p hp; simp only [List.mem_cons, List.not_mem_nil, or_false] at hp; rcases hp with rfl | rfl | rfl <;> omega)
   generalize vv [yu 1, nm, src] = R at *
   rw [show yu 1 = (⟨#[99, 114, 101, 97, 116, 101]⟩ : ByteArray) from rfl] at c3
   have d1 := aAE
   change AC _ _ [.agg [.v (.int .i64 1), .v (.string nm), .v (.string src), .v (.string key), .lst 3 (es.map xS)]] _ at t1
   change AC _ _ [.agg [.v (.int .i64 1), .v (.string nm), .v (.string src), .v (.string key), .lst 3 (es.map xS)]] _ at c0
   change AC Tryz.prog 10 [.agg [.v (.int .i64 1), .v (.string nm), .v (.string src), .v (.string key), .lst 3 (es.map xS)]] _
   refine qrf Tryz.func10 Tryz.ntmps10 Tryz.results10 ?_; conv => whnf
   repeat (first | (refine qz ?_; conv => whnf) | (refine qc (c0) ?_; conv => whnf) | (refine qp (kV (j := 1) (xs := owL.map fun s => .v (.string s)) (y := .v (.string ⟨#[99, 114, 101, 97, 116, 101]⟩)) rfl (by omega) rfl rfl rfl (fun x hx => by obtain ⟨e, _, rfl⟩ := List.mem_map.1 hx; rfl)) ?_; conv => whnf) | (refine qc (d1) ?_; conv => whnf) | (refine qst ?_; conv => whnf) | (refine qr (zQ rfl rfl rfl rfl rfl rfl) ?_; conv => whnf) | (refine qp (zh rfl rfl rfl rfl rfl rfl rfl rfl) ?_; conv => whnf))
   refine .inr ⟨by kernel_rfl, zw (by kernel_rfl), ?_⟩
   repeat (first
    | refine xN (aAT (by conv => lhs; whnf)) rfl rfl rfl (.inl rfl) (by kernel_rfl) ?_
    | refine xN (uL rfl rfl rfl) rfl rfl rfl (.inl rfl) (by kernel_rfl) ?_
    | refine xN (vO rfl rfl rfl rfl rfl rfl rfl) rfl rfl rfl (.inr rfl) (by kernel_rfl) ?_
    | refine xN (zh rfl rfl rfl rfl rfl rfl rfl rfl) rfl rfl rfl (.inr rfl) (by kernel_rfl) ?_
    | refine xX (kQ t1 rfl rfl rfl rfl rfl rfl) y7 rfl rfl (by kernel_rfl) ?_
    | refine xX (qj [.tmp 20, .tmp 22, .tmp 26] [.string ⟨#[99, 114, 101, 97, 116, 101]⟩, .string nm, .string src] rfl rfl rfl rfl rfl rfl rfl (by intro c hc; simp only [List.mem_cons, List.not_mem_nil, or_false] at hc; rcases hc with rfl | rfl | rfl <;> rfl)) aBU rfl rfl (by kernel_rfl) ?_
    | refine xX (jX c3 rfl ⟨by simp [yB, yX], kT⟩ trivial rfl rfl rfl) vF rfl rfl (by kernel_rfl) ?_
    | refine xX (uO rfl) y7 rfl rfl (by kernel_rfl) ?_
    | refine xX (qi rfl) y7 rfl rfl (by kernel_rfl) ?_)
   refine vJ ?_
   conv => whnf
   repeat ((refine qz ?_; conv => whnf))
   exact vP rfl rfl
 · rw [if_neg (by omega), if_neg (by omega), if_neg (by omega)]
   have k6 := u6 2
   rw [← aGK (aBu (by omega)) m1]
   have c3 := vz (ps := [yu 2, nm]) (by simp) (by
    intro p hp; simp only [List.mem_cons, List.not_mem_nil, or_false] at hp; rcases hp with rfl | rfl <;> omega)
   generalize vv [yu 2, nm] = R at *
   rw [show yu 2 = (⟨#[100, 101, 108, 101, 116, 101]⟩ : ByteArray) from rfl] at c3
   have d1 := jg (t := ⟨#[100, 101, 108, 101, 116, 101]⟩) (by decide) (by decide) (by decide) (by decide)
   change AC _ _ [.agg [.v (.int .i64 2), .v (.string nm), .v (.string src), .v (.string key), .lst 3 (es.map xS)]] _ at c0
   change AC Tryz.prog 10 [.agg [.v (.int .i64 2), .v (.string nm), .v (.string src), .v (.string key), .lst 3 (es.map xS)]] _
   refine qrf Tryz.func10 Tryz.ntmps10 Tryz.results10 ?_; conv => whnf
   repeat (first | (refine qz ?_; conv => whnf) | (refine qc (c0) ?_; conv => whnf) | (refine qp (kV (j := 2) (xs := owL.map fun s => .v (.string s)) (y := .v (.string ⟨#[100, 101, 108, 101, 116, 101]⟩)) rfl (by omega) rfl rfl rfl (fun x hx => by obtain ⟨e, _, rfl⟩ := List.mem_map.1 hx; rfl)) ?_; conv => whnf) | (refine qc (d1) ?_; conv => whnf) | (refine qst ?_; conv => whnf) | (refine qr (zQ rfl rfl rfl rfl rfl rfl) ?_; conv => whnf) | (refine qp (zh rfl rfl rfl rfl rfl rfl rfl rfl) ?_; conv => whnf) | (refine qdr ?_; conv => whnf) | (refine qr (aDW [.tmp 29, .tmp 31] [.string ⟨#[100, 101, 108, 101, 116, 101]⟩, .string nm] rfl rfl rfl rfl rfl rfl rfl (by intro c hc; simp only [List.mem_cons, List.not_mem_nil, or_false] at hc; rcases hc with rfl | rfl <;> rfl)) ?_; conv => whnf) | (refine qc (c3) ?_; conv => whnf))
   exact vP rfl rfl
 · rw [if_neg (by omega), if_pos rfl]
   have hez := aEA (jR hs)
   have hel := jb hs
   have t1 := aHK (w := ⟨3, nm, src, key, es⟩) (by dsimp only; omega) (jR hs)
   have k6 := u6 3
   rw [← aBh (aBu (by omega)) m1 aHW]
   have c3 := vz (ps := [yu 3, nm, (wK es)]) (by simp) (by
    intro p hp; simp only [List.mem_cons, List.not_mem_nil, or_false] at hp; rcases hp with rfl | rfl | rfl <;> omega)
   generalize vv [yu 3, nm, (wK es)] = R at *
   rw [show yu 3 = (⟨#[99, 111, 109, 109, 105, 116]⟩ : ByteArray) from rfl] at c3
   have d1 := aAD
   change AC _ _ [.agg [.v (.int .i64 3), .v (.string nm), .v (.string src), .v (.string key), .lst 3 (es.map xS)]] _ at t1
   generalize wK es = X at t1 c3
   change AC _ _ [.agg [.v (.int .i64 3), .v (.string nm), .v (.string src), .v (.string key), .lst 3 (es.map xS)]] _ at c0
   change AC Tryz.prog 10 [.agg [.v (.int .i64 3), .v (.string nm), .v (.string src), .v (.string key), .lst 3 (es.map xS)]] _
   refine qrf Tryz.func10 Tryz.ntmps10 Tryz.results10 ?_; conv => whnf
   repeat (first | (refine qz ?_; conv => whnf) | (refine qc (c0) ?_; conv => whnf) | (refine qp (kV (j := 3) (xs := owL.map fun s => .v (.string s)) (y := .v (.string ⟨#[99, 111, 109, 109, 105, 116]⟩)) rfl (by omega) rfl rfl rfl (fun x hx => by obtain ⟨e, _, rfl⟩ := List.mem_map.1 hx; rfl)) ?_; conv => whnf) | (refine qc (d1) ?_; conv => whnf) | (refine qst ?_; conv => whnf) | (refine qr (zQ rfl rfl rfl rfl rfl rfl) ?_; conv => whnf) | (refine qp (zh rfl rfl rfl rfl rfl rfl rfl rfl) ?_; conv => whnf))
   refine .inr ⟨by kernel_rfl, zw (by kernel_rfl), ?_⟩
   repeat (first
    | refine xN (aAT (by conv => lhs; whnf)) rfl rfl rfl (.inl rfl) (by kernel_rfl) ?_
    | refine xN (uL rfl rfl rfl) rfl rfl rfl (.inl rfl) (by kernel_rfl) ?_
    | refine xN (vO rfl rfl rfl rfl rfl rfl rfl) rfl rfl rfl (.inr rfl) (by kernel_rfl) ?_
    | refine xN (zh rfl rfl rfl rfl rfl rfl rfl rfl) rfl rfl rfl (.inr rfl) (by kernel_rfl) ?_
    | refine xX (kQ t1 rfl rfl rfl rfl rfl rfl) y7 rfl rfl (by kernel_rfl) ?_
    | refine xX (qj [.tmp 20, .tmp 22, .tmp 26] [.string ⟨#[99, 111, 109, 109, 105, 116]⟩, .string nm, .string X] rfl rfl rfl rfl rfl rfl rfl (by intro c hc; simp only [List.mem_cons, List.not_mem_nil, or_false] at hc; rcases hc with rfl | rfl | rfl <;> rfl)) aBU rfl rfl (by kernel_rfl) ?_
    | refine xX (jX c3 rfl ⟨by simp [yB, yX], kT⟩ trivial rfl rfl rfl) vF rfl rfl (by kernel_rfl) ?_
    | refine xX (uO rfl) y7 rfl rfl (by kernel_rfl) ?_
    | refine xX (qi rfl) y7 rfl rfl (by kernel_rfl) ?_)
   refine vJ ?_
   conv => whnf
   repeat ((refine qz ?_; conv => whnf))
   exact vP rfl rfl
 · rw [if_pos (.inr rfl)]
   have t1 := aDr (w := ⟨4, nm, src, key, es⟩)
   have k6 := u6 4
   rw [← aBh (aBu (by omega)) m1 (m2 (.inr rfl))]
   have c3 := vz (ps := [yu 4, nm, src]) (by simp) (by
    intro p hp; simp only [List.mem_cons, List.not_mem_nil, or_false] at hp; rcases hp with rfl | rfl | rfl <;> omega)
   generalize vv [yu 4, nm, src] = R at *
   rw [show yu 4 = (⟨#[109, 101, 114, 103, 101]⟩ : ByteArray) from rfl] at c3
   have d1 := aAf
   change AC _ _ [.agg [.v (.int .i64 4), .v (.string nm), .v (.string src), .v (.string key), .lst 3 (es.map xS)]] _ at t1
   change AC _ _ [.agg [.v (.int .i64 4), .v (.string nm), .v (.string src), .v (.string key), .lst 3 (es.map xS)]] _ at c0
   change AC Tryz.prog 10 [.agg [.v (.int .i64 4), .v (.string nm), .v (.string src), .v (.string key), .lst 3 (es.map xS)]] _
   refine qrf Tryz.func10 Tryz.ntmps10 Tryz.results10 ?_; conv => whnf
   repeat (first | (refine qz ?_; conv => whnf) | (refine qc (c0) ?_; conv => whnf) | (refine qp (kV (j := 4) (xs := owL.map fun s => .v (.string s)) (y := .v (.string ⟨#[109, 101, 114, 103, 101]⟩)) rfl (by omega) rfl rfl rfl (fun x hx => by obtain ⟨e, _, rfl⟩ := List.mem_map.1 hx; rfl)) ?_; conv => whnf) | (refine qc (d1) ?_; conv => whnf) | (refine qst ?_; conv => whnf) | (refine qr (zQ rfl rfl rfl rfl rfl rfl) ?_; conv => whnf) | (refine qp (zh rfl rfl rfl rfl rfl rfl rfl rfl) ?_; conv => whnf))
   refine .inr ⟨by kernel_rfl, zw (by kernel_rfl), ?_⟩
   repeat (first
    | refine xN (aAT (by conv => lhs; whnf)) rfl rfl rfl (.inl rfl) (by kernel_rfl) ?_
    | refine xN (uL rfl rfl rfl) rfl rfl rfl (.inl rfl) (by kernel_rfl) ?_
    | refine xN (vO rfl rfl rfl rfl rfl rfl rfl) rfl rfl rfl (.inr rfl) (by kernel_rfl) ?_
    | refine xN (zh rfl rfl rfl rfl rfl rfl rfl rfl) rfl rfl rfl (.inr rfl) (by kernel_rfl) ?_
    | refine xX (kQ t1 rfl rfl rfl rfl rfl rfl) y7 rfl rfl (by kernel_rfl) ?_
    | refine xX (qj [.tmp 20, .tmp 22, .tmp 26] [.string ⟨#[109, 101, 114, 103, 101]⟩, .string nm, .string src] rfl rfl rfl rfl rfl rfl rfl (by intro c hc; simp only [List.mem_cons, List.not_mem_nil, or_false] at hc; rcases hc with rfl | rfl | rfl <;> rfl)) aBU rfl rfl (by kernel_rfl) ?_
    | refine xX (jX c3 rfl ⟨by simp [yB, yX], kT⟩ trivial rfl rfl rfl) vF rfl rfl (by kernel_rfl) ?_
    | refine xX (uO rfl) y7 rfl rfl (by kernel_rfl) ?_
    | refine xX (qi rfl) y7 rfl rfl (by kernel_rfl) ?_)
   refine vJ ?_
   conv => whnf
   repeat ((refine qz ?_; conv => whnf))
   exact vP rfl rfl
 · rw [if_neg (by omega), if_neg (by omega), if_pos rfl]
   have t1 := aHJ (w := ⟨5, nm, src, key, es⟩)
   have k6 := u6 5
   rw [← aBh (aBu (by omega)) m1 (m3 rfl)]
   have c3 := vz (ps := [yu 5, nm, key]) (by simp) (by
    intro p hp; simp only [List.mem_cons, List.not_mem_nil, or_false] at hp; rcases hp with rfl | rfl | rfl <;> omega)
   generalize vv [yu 5, nm, key] = R at *
   rw [show yu 5 = (⟨#[103, 101, 116]⟩ : ByteArray) from rfl] at c3
   have d1 := aBA
   change AC _ _ [.agg [.v (.int .i64 5), .v (.string nm), .v (.string src), .v (.string key), .lst 3 (es.map xS)]] _ at t1
   change AC _ _ [.agg [.v (.int .i64 5), .v (.string nm), .v (.string src), .v (.string key), .lst 3 (es.map xS)]] _ at c0
   change AC Tryz.prog 10 [.agg [.v (.int .i64 5), .v (.string nm), .v (.string src), .v (.string key), .lst 3 (es.map xS)]] _
   refine qrf Tryz.func10 Tryz.ntmps10 Tryz.results10 ?_; conv => whnf
   repeat (first | (refine qz ?_; conv => whnf) | (refine qc (c0) ?_; conv => whnf) | (refine qp (kV (j := 5) (xs := owL.map fun s => .v (.string s)) (y := .v (.string ⟨#[103, 101, 116]⟩)) rfl (by omega) rfl rfl rfl (fun x hx => by obtain ⟨e, _, rfl⟩ := List.mem_map.1 hx; rfl)) ?_; conv => whnf) | (refine qc (d1) ?_; conv => whnf) | (refine qst ?_; conv => whnf) | (refine qr (zQ rfl rfl rfl rfl rfl rfl) ?_; conv => whnf) | (refine qp (zh rfl rfl rfl rfl rfl rfl rfl rfl) ?_; conv => whnf))
   refine .inr ⟨by kernel_rfl, zw (by kernel_rfl), ?_⟩
   repeat (first
    | refine xN (aAT (by conv => lhs; whnf)) rfl rfl rfl (.inl rfl) (by kernel_rfl) ?_
    | refine xN (uL rfl rfl rfl) rfl rfl rfl (.inl rfl) (by kernel_rfl) ?_
    | refine xN (vO rfl rfl rfl rfl rfl rfl rfl) rfl rfl rfl (.inr rfl) (by kernel_rfl) ?_
    | refine xN (zh rfl rfl rfl rfl rfl rfl rfl rfl) rfl rfl rfl (.inr rfl) (by kernel_rfl) ?_
    | refine xX (kQ t1 rfl rfl rfl rfl rfl rfl) y7 rfl rfl (by kernel_rfl) ?_
    | refine xX (qj [.tmp 20, .tmp 22, .tmp 26] [.string ⟨#[103, 101, 116]⟩, .string nm, .string key] rfl rfl rfl rfl rfl rfl rfl (by intro c hc; simp only [List.mem_cons, List.not_mem_nil, or_false] at hc; rcases hc with rfl | rfl | rfl <;> rfl)) aBU rfl rfl (by kernel_rfl) ?_
    | refine xX (jX c3 rfl ⟨by simp [yB, yX], kT⟩ trivial rfl rfl rfl) vF rfl rfl (by kernel_rfl) ?_
    | refine xX (uO rfl) y7 rfl rfl (by kernel_rfl) ?_
    | refine xX (qi rfl) y7 rfl rfl (by kernel_rfl) ?_)
   refine vJ ?_
   conv => whnf
   repeat ((refine qz ?_; conv => whnf))
   exact vP rfl rfl
 · rw [if_neg (by omega), if_neg (by omega), if_neg (by omega)]
   have k6 := u6 6
   rw [← aGK (aBu (by omega)) m1]
   have c3 := vz (ps := [yu 6, nm]) (by simp) (by
    intro p hp; simp only [List.mem_cons, List.not_mem_nil, or_false] at hp; rcases hp with rfl | rfl <;> omega)
   generalize vv [yu 6, nm] = R at *
   rw [show yu 6 = (⟨#[115, 99, 97, 110]⟩ : ByteArray) from rfl] at c3
   have d1 := jg (t := ⟨#[115, 99, 97, 110]⟩) (by decide) (by decide) (by decide) (by decide)
   change AC _ _ [.agg [.v (.int .i64 6), .v (.string nm), .v (.string src), .v (.string key), .lst 3 (es.map xS)]] _ at c0
   change AC Tryz.prog 10 [.agg [.v (.int .i64 6), .v (.string nm), .v (.string src), .v (.string key), .lst 3 (es.map xS)]] _
   refine qrf Tryz.func10 Tryz.ntmps10 Tryz.results10 ?_; conv => whnf
   repeat (first | (refine qz ?_; conv => whnf) | (refine qc (c0) ?_; conv => whnf) | (refine qp (kV (j := 6) (xs := owL.map fun s => .v (.string s)) (y := .v (.string ⟨#[115, 99, 97, 110]⟩)) rfl (by omega) rfl rfl rfl (fun x hx => by obtain ⟨e, _, rfl⟩ := List.mem_map.1 hx; rfl)) ?_; conv => whnf) | (refine qc (d1) ?_; conv => whnf) | (refine qst ?_; conv => whnf) | (refine qr (zQ rfl rfl rfl rfl rfl rfl) ?_; conv => whnf) | (refine qp (zh rfl rfl rfl rfl rfl rfl rfl rfl) ?_; conv => whnf) | (refine qdr ?_; conv => whnf) | (refine qr (aDW [.tmp 29, .tmp 31] [.string ⟨#[115, 99, 97, 110]⟩, .string nm] rfl rfl rfl rfl rfl rfl rfl (by intro c hc; simp only [List.mem_cons, List.not_mem_nil, or_false] at hc; rcases hc with rfl | rfl <;> rfl)) ?_; conv => whnf) | (refine qc (c3) ?_; conv => whnf))
   exact vP rfl rfl
theorem law_WishTextP {w : Wsh} (ho : w.ok maxLen) : AC Tryz.prog 3 [uY w] ⟨.v (.bool true), []⟩ := aDL ho (aCm ho)
end Go.Proofs.YtodckioppgjbdaaGreatDoor.AM
