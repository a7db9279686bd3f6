/- Texts of the machine over data, folded. -/
import Derived.Test.YtodckioppgjbdaaDoorKb9
import Derived.Test.YtodckioppgjbdaaDoorKb5
import Derived.Test.YtodckioppgjbdaaDoorKb6
import Derived.Test.YtodckioppgjbdaaDoorKb7
import Derived.WalkSpells
import Derived.Test.YtodckioppgjbdaaDoorKb8
set_option linter.unusedVariables false
set_option linter.unusedSimpArgs false
set_option maxRecDepth 100000
namespace Go.Proofs.YtodckioppgjbdaaDoor.AM
open Go Go.RowKit Go.Shelf
attribute [local go_sem] Oper.semAt_some
set_option maxRecDepth 100000 in
theorem aAL (t sep : ByteArray) (w : World) : Calls Tryd.prog 106 #[.string t, .string sep] w fun e w' => e = .returned (.func (.func 163) #[] #[.pointer (some ⟨w.heap.size + 1, 0, none⟩), .pointer (some ⟨w.heap.size, 0, none⟩), .pointer (some ⟨w.heap.size + 2, 0, none⟩)]) ∧ w' = ((w.alloc (.cells #[.string t] 9)).alloc (.cells #[.string sep] 9)).alloc (.cells #[.int .i64 0] 3) := by
 have c1 : ∀ w, Calls Tryd.prog 141 #[.string t, .string sep, .int .i64 0] w fun e w' => e = .returned (.func (.func 163) #[] #[.pointer (some ⟨w.heap.size + 1, 0, none⟩), .pointer (some ⟨w.heap.size, 0, none⟩), .pointer (some ⟨w.heap.size + 2, 0, none⟩)]) ∧ w' = ((w.alloc (.cells #[.string t] 9)).alloc (.cells #[.string sep] 9)).alloc (.cells #[.int .i64 0] 3) := fun w => by
  go_enter Tryd.func141, Tryd.ntmps141
  go_wp2
  go_ret
  exact ⟨by simp, rfl⟩
 go_enter Tryd.func106, Tryd.ntmps106
 go_wp2_with (go_at_call 141; refine (c1 _).mono ?_; rintro e w' ⟨rfl, rfl⟩)
 go_ret
 exact ⟨rfl, rfl⟩
theorem aFh {w : World} {c0 c1 c2 c3 c4 c5 c6 : Value} {t0 t1 t2 t3 t4 t5 t6 : TypeId} {W0 : World}
 (h : ((((((w.alloc (.cells #[c0] t0)).alloc (.cells #[c1] t1)).alloc (.cells #[c2] t2)).alloc (.cells #[c3] t3)).alloc (.cells #[c4] t4)).alloc (.cells #[c5] t5)).alloc (.cells #[c6] t6) = W0) :
 W0.heap.size = w.heap.size + 7 ∧ Below w.heap.size w W0 ∧ Boxed W0 w.heap.size t0 c0 ∧ Boxed W0 (w.heap.size + 1) t1 c1 ∧ Boxed W0 (w.heap.size + 1 + 1) t2 c2 ∧ Boxed W0 (w.heap.size + 1 + 1 + 1) t3 c3 ∧ Boxed W0 (w.heap.size + 1 + 1 + 1 + 1) t4 c4 ∧ Boxed W0 (w.heap.size + 1 + 1 + 1 + 1 + 1) t5 c5 ∧ Boxed W0 (w.heap.size + 1 + 1 + 1 + 1 + 2) t6 c6 := by
 subst h
 have s1 : ∀ (A : World) (o : Obj), (A.alloc o).heap.size = A.heap.size + 1 := fun A o => World.size_alloc A o
 refine ⟨by simp only [s1], ?_, ?_, ?_, ?_, ?_, ?_, ?_, ?_⟩
 · exact (((((((Below.refl _ w).alloc (Nat.le_refl _) _).alloc (by simp only [s1]; omega) _).alloc (by simp only [s1]; omega) _).alloc (by simp only [s1]; omega) _).alloc (by simp only [s1]; omega) _).alloc (by simp only [s1]; omega) _).alloc (by simp only [s1]; omega) _
 · exact ((((((Boxed.new w t0 c0).alloc _).alloc _).alloc _).alloc _).alloc _).alloc _
 · have h := Boxed.new (w.alloc (.cells #[c0] t0)) t1 c1
   simp only [s1] at h
   exact ((((h.alloc _).alloc _).alloc _).alloc _).alloc _
 · have h := Boxed.new ((w.alloc (.cells #[c0] t0)).alloc (.cells #[c1] t1)) t2 c2
   simp only [s1] at h
   exact (((h.alloc _).alloc _).alloc _).alloc _
 · have h := Boxed.new (((w.alloc (.cells #[c0] t0)).alloc (.cells #[c1] t1)).alloc (.cells #[c2] t2)) t3 c3
   simp only [s1] at h
   exact ((h.alloc _).alloc _).alloc _
 · have h := Boxed.new ((((w.alloc (.cells #[c0] t0)).alloc (.cells #[c1] t1)).alloc (.cells #[c2] t2)).alloc (.cells #[c3] t3)) t4 c4
   simp only [s1] at h
   exact (h.alloc _).alloc _
 · have h := Boxed.new (((((w.alloc (.cells #[c0] t0)).alloc (.cells #[c1] t1)).alloc (.cells #[c2] t2)).alloc (.cells #[c3] t3)).alloc (.cells #[c4] t4)) t5 c5
   simp only [s1] at h
   exact h.alloc _
 · have h := Boxed.new ((((((w.alloc (.cells #[c0] t0)).alloc (.cells #[c1] t1)).alloc (.cells #[c2] t2)).alloc (.cells #[c3] t3)).alloc (.cells #[c4] t4)).alloc (.cells #[c5] t5)) t6 c6
   simp only [s1] at h
   exact h
theorem jP : ∀ (l : List ByteArray) (x : ByteArray) (a : List Ent), yU (l ++ [x]) a = if (yU l a).2 = true then (if (yB x).2.2 = true then ((yU l a).1 ++ [((yB x).1, (yB x).2.1)], true) else ((yU l a).1, false)) else ((yU l a).1, false)
 | [], x, a => by
  simp only [List.nil_append, yU, if_true]
 | w :: l, x, a => by
  rw [List.cons_append, yU, yU]
  by_cases h : (yB w).2.2 = true
  · rw [if_pos h, if_pos h, jP l x]
  · rw [if_neg h, if_neg h, if_neg (by simp)]
theorem aC5 : ∀ (r l : List ByteArray), (yU l []).2 = false → (yU (l ++ r) []).2 = false
 | [], l, h => by rw [List.append_nil]; exact h
 | x :: r, l, h => by
  rw [show l ++ x :: r = (l ++ [x]) ++ r by simp]
  exact aC5 r (l ++ [x]) (by rw [jP, if_neg (by rw [h]; simp)])
theorem aGu {l m : List ByteArray} (h : l <+: m) (hf : (yU l []).2 = false) : (yU m []).2 = false := by
 obtain ⟨r, rfl⟩ := h
 exact aC5 r l hf
theorem jL {W : World} {base e sz n : Nat} {v : Value} {xs : List Value} (h : W.ownsRow base e sz v n xs) : ∃ A cap, v = .slice A n cap := by
 rcases h.2 with ⟨rfl, rfl⟩ | ⟨g, cap, cur, rfl, _⟩
 · exact ⟨_, _, rfl⟩
 · exact ⟨_, _, rfl⟩
theorem aI0 {W : World} {base e sz n : Nat} {v : Value} {xs : List Value} (h : W.ownsRow base e sz v n xs) {g : Nat} (hg : v.ownBlock = some g) : base ≤ g := by
 rcases h.2 with ⟨rfl, _⟩ | ⟨g', cap, cur, rfl, hb, _⟩
 · cases hg
 · obtain rfl : g' = g := by simpa [Value.ownBlock] using hg
   exact hb
theorem aDn {W : World} {base b2 e sz n : Nat} {v : Value} {xs : List Value} (h : W.ownsRow base e sz v n xs) (hb : b2 ≤ base) : W.ownsRow b2 e sz v n xs := by
 refine ⟨h.1, ?_⟩
 rcases h.2 with h2 | ⟨g, cap, cur, rfl, h3, h4⟩
 · exact .inl h2
 · exact .inr ⟨g, cap, cur, rfl, by omega, h4⟩
theorem aA2 {A B : World} {M : Nat → Prop} {base e sz n : Nat} {v : Value} {xs : List Value} (h : A.ownsRow base e sz v n xs) (hg : Grown A B M) (hge : ∀ g, base ≤ g → ¬ M g) : B.ownsRow base e sz v n xs := by
 refine ⟨h.1, ?_⟩
 rcases h.2 with h2 | ⟨g, cap, cur, rfl, hb, hh, hc, hm, hs, ht⟩
 · exact .inl h2
 · exact .inr ⟨g, cap, cur, rfl, hb, (hg.block g (Array.getElem?_eq_some_iff.1 hh).1 (hge g hb)).trans hh, hc, hm, hs, ht⟩
theorem yK {A B : World} {M : Nat → Prop} {b : Nat} {t : TypeId} {v : Value} (h : Boxed A b t v) (hg : Grown A B M) (hM : ¬ M b) : Boxed B b t v :=
 (hg.block b h.lt hM).trans h
theorem wP {w A B : World} {M : Nat → Prop} (h : Below w.heap.size w A) (hg : Grown A B M) (hM : ∀ k, k < w.heap.size → ¬ M k) : Below w.heap.size w B :=
 ⟨hg.os.trans h.os, hg.tape.trans h.tape, hg.output.trans h.output, Nat.le_trans h.size hg.size, fun k hk => (hg.block k (Nat.lt_of_lt_of_le hk h.size) (hM k hk)).trans (h.block k hk)⟩
theorem aCx {A B : World} {M : Nat → Prop} {c d : Nat} (hg : Grown A B M) (hc : c < A.heap.size) (hd : d + 1 < A.heap.size) (h1 : ¬ M c) (h2 : ¬ M d) (h3 : ¬ M (d + 1)) : Std c d A B :=
 ⟨hg.size, hg.block c hc h1, hg.block d (by omega) h2, hg.block (d + 1) hd h3⟩
theorem zG {A B : World} (h : Below A.heap.size A B) (M : Nat → Prop) : Grown A B M := ⟨h.os, h.tape, h.output, h.size, fun k hk _ => h.block k hk⟩
theorem zM {A : World} {M : Nat → Prop} (b : Nat) (v : Value) (h : M b) : Grown A (A.setCell ⟨b, 0, none⟩ v) M :=
 ⟨rfl, rfl, rfl, (KeepsWalks.setCell A _ v).size, fun k _ hk => Below.heap_setCell _ _ _ k (fun e => hk (e ▸ h))⟩
theorem vT {A : World} (o : Obj) (M : Nat → Prop) : Grown A (A.alloc o) M := zG ((Below.refl _ A).alloc (Nat.le_refl _) o) M
theorem y9 {A B C : World} {M : Nat → Prop} (h : Grown A B M) (k : Grown B C M) : Grown A C M :=
 ⟨k.os.trans h.os, k.tape.trans h.tape, k.output.trans h.output, Nat.le_trans h.size k.size, fun j hj hm => (k.block j (Nat.lt_of_lt_of_le hj h.size) hm).trans (h.block j hj hm)⟩
theorem aDH {A w2 : World} {n0 B : Nat} {t e : TypeId} {sz k m : Nat} {v v' : Value} {xs ys : List Value} {tmp : Obj} (hv : Boxed A B t v) (hte : t ≠ e) (hrow : A.ownsRow n0 e sz v k xs) (hown' : w2.ownsRow n0 e sz v' m ys) (hgrow : (A.alloc tmp).grownBy w2 v.ownBlock) :
 Boxed w2 B t v ∧ Boxed (w2.setCell ⟨B, 0, none⟩ v') B t v' ∧ (w2.setCell ⟨B, 0, none⟩ v').ownsRow n0 e sz v' m ys ∧ Grown A (w2.setCell ⟨B, 0, none⟩ v') (fun j => j = B ∨ n0 ≤ j) := by
 have hv1 : Boxed w2 B t v := (hv.alloc tmp).kept hgrow (hv.not_row hte hrow)
 refine ⟨hv1, hv1.set v', hown'.kept (grownBy_setCell' w2 B v') (.inr (hv1.not_row hte hown').symm), ?_⟩
 refine y9 (vT tmp _) (y9 ?_ (zM B v' (.inl rfl)))
 obtain ⟨g1, g2, g3, g4, g5⟩ := hgrow
 exact ⟨g1, g2, g3, g4, fun j hj hm => g5 j hj (fun e => hm (.inr (aI0 hrow (by first | exact e | exact e.symm))))⟩
theorem zD {A B : World} {b c d : Nat} {t : TypeId} {v : Value} (h : Boxed A b t v) (hg : Grown A B (Odd c d)) (h1 : b ≠ c) (h2 : b < d) : Boxed B b t v :=
 (hg.block b h.lt (by unfold Odd; omega)).trans h
theorem aAQ {w A B : World} {c d : Nat} (h : Below w.heap.size w A) (hg : Grown A B (Odd c d)) (h1 : w.heap.size ≤ c) (h2 : w.heap.size ≤ d) : Below w.heap.size w B :=
 ⟨hg.os.trans h.os, hg.tape.trans h.tape, hg.output.trans h.output, Nat.le_trans h.size hg.size, fun k hk => (hg.block k (Nat.lt_of_lt_of_le hk h.size) (by unfold Odd; omega)).trans (h.block k hk)⟩
theorem aEM (W : World) (x y : Value) (t : TypeId) {k : Nat} (hk : W.heap.size = k) : ∀ j u, [x, y][j]? = some u → (W.alloc (.cells #[x, y] t)).cell? ((⟨k, 0, none⟩ : Addr).add j) = some u := by
 subst hk
 intro j u hj
 match j, hj with
 | 0, hj => simp at hj; subst hj; simp [Addr.add]
 | 1, hj => simp at hj; subst hj; simp [Addr.add]
def aHh (w : World) (pre : List ByteArray) (W : World) : Prop := Below w.heap.size w W ∧ Boxed W w.heap.size 95 (.func (.func 56) #[] #[]) ∧ Boxed W (w.heap.size + 1) 26 (.slice none 0 0) ∧ Boxed W (w.heap.size + 1 + 1) 4 (.bool false) ∧ Boxed W (w.heap.size + 1 + 1 + 1 + 1 + 1) 9 (.string ⟨#[44]⟩) ∧ Boxed W (w.heap.size + 1 + 1 + 1 + 1 + 2) 3 (.int .i64 0) ∧
 ∃ acc v, yU pre [] = (acc, true) ∧ acc.length = pre.length ∧ Boxed W (w.heap.size + 1 + 1 + 1) 26 v ∧ W.ownsRow (w.heap.size + 9) 89 2 v acc.length (xu acc)
def aHj (w : World) (pre : List ByteArray) (W : World) : Prop := Below w.heap.size w W ∧ Boxed W (w.heap.size + 1) 26 (.slice none 0 0) ∧ Boxed W (w.heap.size + 1 + 1) 4 (.bool false) ∧ (yU pre []).2 = false
theorem jZ (tmps : Array Value) (W : World) {a b : Addr} {x y : Value} (h4 : tmps.getD 4 undef = .pointer (some a)) (h5 : tmps.getD 5 undef = .pointer (some b)) (c1 : W.cell? a = some x) (c2 : W.cell? b = some y) : (results Tryd.f55 tmps).run Tryd.prog W = .ok (.tuple #[x, y]) W := by
 have hr : (Tryd.f55).results = #[.cell 4 26, .cell 5 4] := rfl
 have h4' : tmps[4]?.getD undef = .pointer (some a) := by simpa using h4
 have h5' : tmps[5]?.getD undef = .pointer (some b) := by simpa using h5
 simp [results, hr, h4', h5', asAddr, go_sem, c1, c2]
set_option maxRecDepth 100000 in
set_option maxHeartbeats 4000000 in
theorem aEV {t : ByteArray} (ht : t.size ≤ 1000000) (hne : ¬ t = ⟨#[45]⟩) (w : World)
 (hread : ∀ p W', p.size ≤ 1000000 → Below w.heap.size w W' → Calls Tryd.prog 56 #[.string p] W' fun e W'' => e = .returned (.tuple #[.agg #[.string (uL p).1, .int .i64 (uL p).2.1], .bool (uL p).2.2]) ∧ Below W'.heap.size W' W'') :
 Calls Tryd.prog 55 #[.string t, .func (.func 56) #[] #[]] w fun e w' => ∃ v b, e = .returned (.tuple #[v, .bool b]) ∧ b = (yU (xY t 44) []).2 ∧ w'.ownsRow w.heap.size 89 2 v (if b = true then (yU (xY t 44) []).1 else []).length (xu (if b = true then (yU (xY t 44) []).1 else [])) ∧ Below w.heap.size w w' := by
 have hcmp : (t.toList == ([45] : List UInt8)) = false := by
  rw [beq_eq_false_iff_ne]
  exact fun e => hne (toList_inj (e.trans (show [45] = (⟨#[45]⟩ : ByteArray).toList from by rw [ByteArray.toList_eq])))
 refine (callsIn_wide (n := 3)).1 ?_
 refine callsIn_of_wp_marks Tryd.func55 rfl trivial ?_ rfl
 simp only [Tryd.ntmps55, List.size_toArray, List.length_cons, List.length_nil, Nat.reduceAdd, Nat.reduceSub, Array.replicate_succ, Array.replicate_zero, List.push_toArray, List.append_toArray, List.nil_append, List.cons_append]
 gi_wp2_with (refine ⟨trivial, ?_⟩; gi_at_call 106; refine (callsIn_wide.2 (aAL t _ _)).mono ?_; rintro e w' ⟨rfl, rfl⟩)
 obtain ⟨W0, hW0⟩ : ∃ W0, ((((((w.alloc (.cells #[.func (.func 56) #[] #[]] 95)).alloc (.cells #[.slice none 0 0] 26)).alloc (.cells #[.bool false] 4)).alloc (.cells #[.slice none 0 0] 26)).alloc (.cells #[.string t] 9)).alloc (.cells #[.string ⟨#[44]⟩] 9)).alloc (.cells #[.int .i64 0] 3) = W0 := ⟨_, rfl⟩
 rw [hW0]
 obtain ⟨hsz, hbel, b0, b1, b2, b3, b4, b5, b6⟩ := aFh hW0
 clear hW0
 refine aAj (α := ByteArray) (encs := fun x => #[.string x]) (S := fun xs => xs = xY t 44) (Sp := fun pre => pre <+: xY t 44) (N := t.size + 2) rfl (by omega) (gf := 163) (lb := #[.pointer (some ⟨w.heap.size + 1 + 1 + 1 + 1 + 1, 0, none⟩), .pointer (some ⟨w.heap.size + 1 + 1 + 1 + 1, 0, none⟩), .pointer (some ⟨w.heap.size + 1 + 1 + 1 + 1 + 2, 0, none⟩)]) rfl trivial (enters_of Tryd.func163 (by kernel_rfl) rfl) (fun x => x.size ≤ t.size) (fun _ => rfl) (w.heap.size + 1 + 1 + 1 + 1) (by omega) (aHh w) (aHj w) ?hit ?hI ?hIx ?h0
  (fun x => { tmps := #[.string t, .func (.func 56) #[] #[], undef, .pointer (some ⟨w.heap.size, 0, none⟩), .pointer (some ⟨w.heap.size + 1, 0, none⟩), .pointer (some ⟨w.heap.size + 1 + 1, 0, none⟩), .pointer (some ⟨w.heap.size + 1 + 1 + 1, 0, none⟩), .string x, undef, undef, .string t, .bool false, .string t, .func (.func 163) #[] #[.pointer (some ⟨w.heap.size + 1 + 1 + 1 + 1 + 1, 0, none⟩), .pointer (some ⟨w.heap.size + 1 + 1 + 1 + 1, 0, none⟩), .pointer (some ⟨w.heap.size + 1 + 1 + 1 + 1 + 2, 0, none⟩)], .string x, undef, undef, undef, undef, undef, undef, undef, undef, undef, undef, undef, undef, undef], defers := [] }) ?assign ?body ?done ?stop
 case hit =>
  intro l J Jx W hg hJI hJ hJx hY h0
  exact aBh (c := 44) J Jx W ht (fun xs A hA => ⟨(hJI xs A hA).2.2.2.2.1.cell, (hJI xs A hA).2.2.2.2.2.1.cell⟩) hJ ((hg.block _ b4.lt (fun h => h)).trans b4) hY h0
 case hI =>
  rintro xs A B ⟨q, q0, q1, q2, q5, q6, acc, v, h1, h2, q3, h4⟩ hg
  rw [hsz] at hg
  exact ⟨aAQ q hg (by omega) (by omega), zD q0 hg (by omega) (by omega), zD q1 hg (by omega) (by omega), zD q2 hg (by omega) (by omega), zD q5 hg (by omega) (by omega), zD q6 hg (by omega) (by omega), acc, v, h1, h2, zD q3 hg (by omega) (by omega), aA2 h4 hg (fun g e => by unfold Odd; omega)⟩
 case hIx =>
  rintro xs A B ⟨q, q1, q2, h1⟩ hg
  rw [hsz] at hg
  exact ⟨aAQ q hg (by omega) (by omega), zD q1 hg (by omega) (by omega), zD q2 hg (by omega) (by omega), h1⟩
 case h0 => exact ⟨hbel, b0, b1, b2, b5, b6, [], _, rfl, rfl, b3, World.ownsRow_nil _ _ _ _⟩
 case assign =>
  intro l x W K hK
  gi_wp2
  exact hK
 case body =>
  rintro l pre x W hs2 hx ⟨q, q0, q1, q2, q5, q6, acc, v, h1, h2, q3, h4⟩ hlen
  rw [hsz] at hs2
  obtain ⟨A, cap, rfl⟩ := jL h4
  obtain ⟨p1, p2⟩ := aCK (t := x)
  have hc0 := q0.cell
  have hcall := hread x W (by omega) q
  obtain ⟨i0, hi, hz0, hz1, hz2⟩ := info_parts (show (Tryd.prog.info? 89).map (fun i => (i.zero, i.size, i.bytes)) = some (some (.agg #[.string ByteArray.empty, .int .i64 0]), 2, 24) from by kernel_rfl)
  obtain ⟨e1, he1⟩ : ∃ e1, (uL x).1 = e1 := ⟨_, rfl⟩
  obtain ⟨e2, he2⟩ : ∃ e2, (uL x).2.1 = e2 := ⟨_, rfl⟩
  rw [h2] at h4 q3
  by_cases hok : (uL x).2.2 = true
  · rw [hok, he1, he2] at hcall
    gi_wp2_with (first | (refine ⟨trivial, ?_⟩; gi_at_call 56; refine (CallsIn.inRound l (callsIn_wide.2 hcall)).mono ?_; rintro e w1 ⟨rfl, hb1⟩; have g0 : Grown W (w1.alloc (.cells #[.string e1, .int .i64 e2] 89)) (fun j => j = w.heap.size + 1 + 1 + 1 ∨ w.heap.size + 9 ≤ j) := y9 (zG hb1 _) (vT _ _); have r3 := (yK q3 (zG hb1 (fun _ => False)) (fun h => h)).alloc (.cells #[.string e1, .int .i64 e2] 89); have h4c := aA2 h4 ((y9 (zG hb1 (fun _ => False)) (vT (.cells #[.string e1, .int .i64 e2] 89) _))) (fun _ _ h => h); have hsw := hb1.size; have rc3 := r3.cell; have rf3 := r3.frozen) | (gi_at_builtin; refine wpListIn_append_own _ rfl _ _ 26 rfl (w.heap.size + 9) 89 i0 (.agg #[.string ByteArray.empty, .int .i64 0]) 2 24 Tryd.underlying26 hi hz0 hz1 hz2 rfl (by decide) (.slice A pre.length cap) _ _ rfl (h4c.alloc _) ⟨w1.heap.size + 1, 0, none⟩ 1 1 [.string e1, .int .i64 e2] rfl rfl (aEM _ _ _ _ (World.size_alloc _ _)) (by simp [Value.oneCell']) (by unfold maxLen; omega) (by omega) (by simp; omega) ?_; intro v' w2 hown' hgrow _; obtain ⟨g', cap', rfl⟩ := ownsRow_succ hown'; obtain ⟨k1, k2, k3, k4⟩ := aDH r3 (by decide) h4c hown' hgrow; have kc := k1.cell; have kf := k1.frozen))
    have gg := y9 g0 k4
    show Std _ W0.heap.size W _ ∧ aHh w (pre ++ [x]) _
    rw [hsz]
    refine ⟨aCx gg (by omega) (by omega) (fun h => by rcases h with h | h <;> omega) (fun h => by rcases h with h | h <;> omega) (fun h => by rcases h with h | h <;> omega), wP q gg (fun k hk h => by rcases h with h | h <;> omega), yK q0 gg (fun h => by rcases h with h | h <;> omega), yK q1 gg (fun h => by rcases h with h | h <;> omega), yK q2 gg (fun h => by rcases h with h | h <;> omega), yK q5 gg (fun h => by rcases h with h | h <;> omega), yK q6 gg (fun h => by rcases h with h | h <;> omega), acc ++ [(e1, e2)], _, ?_, by simp [h2], k2, ?_⟩
    · rw [jP, h1, if_pos rfl, if_pos (p1 ▸ hok), ← p2 hok, he1, he2]
    · rw [show (acc ++ [(e1, e2)]).length = pre.length + 1 by simp [h2], show xu (acc ++ [(e1, e2)]) = xu acc ++ [.string e1, .int .i64 e2] by simp [xu, aIF]]
      exact k3
  · have hok' : (uL x).2.2 = false := by simpa using hok
    rw [hok', he1, he2] at hcall
    gi_wp2_with (first | (refine ⟨trivial, ?_⟩; gi_at_call 56; refine (CallsIn.inRound l (callsIn_wide.2 hcall)).mono ?_; rintro e w1 ⟨rfl, hb1⟩; have g1 : Grown W (w1.alloc (.cells #[.string e1, .int .i64 e2] 89)) (fun j => j = w.heap.size + 1 ∨ j = w.heap.size + 1 + 1) := y9 (zG hb1 _) (vT _ _); have r1 := (yK q1 (zG hb1 (fun _ => False)) (fun h => h)).alloc (.cells #[.string e1, .int .i64 e2] 89); have r2 := (yK q2 (zG hb1 (fun _ => False)) (fun h => h)).alloc (.cells #[.string e1, .int .i64 e2] 89); have rc1 := r1.cell; have rf1 := r1.frozen; have rc2 := r2.cell; have rf2 := r2.frozen))
    have gg := y9 g1 (y9 (zM (w.heap.size + 1) (.slice none 0 0) (.inl rfl)) (zM (w.heap.size + 1 + 1) (.bool false) (.inr rfl)))
    show Std _ W0.heap.size W _ ∧ aHj w (pre ++ [x]) _
    rw [hsz]
    refine ⟨aCx gg (by omega) (by omega) (fun h => by rcases h with h | h <;> omega) (fun h => by rcases h with h | h <;> omega) (fun h => by rcases h with h | h <;> omega), wP q gg (fun k hk h => by rcases h with h | h <;> omega), yK (r1.set _) (zM (M := fun j => j = w.heap.size + 1 + 1) _ _ rfl) (fun h => by omega), (yK r2 (zM (M := fun j => j = w.heap.size + 1) _ _ rfl) (fun h => by omega)).set _, ?_⟩
    rw [jP, h1, if_pos rfl, if_neg (p1 ▸ hok)]
 case done =>
  rintro D xs W hD hD2 rfl ⟨q, q0, q1, q2, q5, q6, acc, v, h1, h2, q3, h4⟩ hK
  obtain ⟨A, cap, rfl⟩ := jL h4
  have hc1 := q1.cell
  have hc2 := q2.cell
  have hc3 := q3.cell
  have hf1 := q1.frozen
  have hf2 := q2.frozen
  gi_wp2
  rw [hsz] at hD
  have gD := y9 (zM (A := W) (M := fun j => j = w.heap.size + 1 ∨ j = w.heap.size + 1 + 1) (w.heap.size + 1) (.slice A acc.length cap) (.inl rfl)) (zM (w.heap.size + 1 + 1) (.bool true) (.inr rfl))
  have hK2 := (gD.block D hD2 (fun h => by rcases h with h | h <;> omega)).trans hK
  have z1 := yK (yK (q1.set (.slice A acc.length cap)) (zM (M := fun j => j = w.heap.size + 1 + 1) (w.heap.size + 1 + 1) (.bool true) rfl) (fun h => by omega)) (yL (M := fun j => j = D) (l := D) (.deferred none) rfl) (fun h => by omega)
  have z2 := yK ((yK q2 (zM (M := fun j => j = w.heap.size + 1) (w.heap.size + 1) (.slice A acc.length cap) rfl) (fun h => by omega)).set (.bool true)) (yL (M := fun j => j = D) (l := D) (.deferred none) rfl) (fun h => by omega)
  have z3 := aDn (ownsRow_putObj (aA2 h4 gD (fun g hg h => by rcases h with h | h <;> omega)) (.deferred none) hK2 rfl) (show w.heap.size ≤ w.heap.size + 9 by omega)
  have z4 := wP (wP q gD (fun k hk h => by rcases h with h | h <;> omega)) (yL (M := fun j => j = D) (l := D) (.deferred none) rfl) (fun k hk h => by omega)
  rw [h2] at hK2 z1 z2 z3 z4
  refine ⟨by simp, .inl ⟨_, _, rfl, run_takeDeferred hK2, ?_⟩⟩
  refine ⟨_, jZ _ _ rfl rfl z1.cell z2.cell, _, true, rfl, by rw [h1], ?_, z4⟩
  rw [if_pos rfl, h1, h2]
  exact z3
 case stop =>
  rintro D pre W hD hD2 hp ⟨q, q1, q2, h1⟩ hK
  have hc1 := q1.cell
  have hc2 := q2.cell
  gi_wp2
  refine ⟨by simp, .inl ⟨_, _, rfl, run_takeDeferred hK, ?_⟩⟩
  rw [hsz] at hD
  have z1 := yK q1 (yL (M := fun j => j = D) (l := D) (.deferred none) rfl) (fun h => by omega)
  have z2 := yK q2 (yL (M := fun j => j = D) (l := D) (.deferred none) rfl) (fun h => by omega)
  refine ⟨_, jZ _ _ rfl rfl z1.cell z2.cell, _, false, rfl, (aGu hp h1).symm, ?_, wP q (yL (M := fun j => j = D) (l := D) (.deferred none) rfl) (fun k hk h => by omega)⟩
  rw [if_neg (by simp)]
  exact World.ownsRow_nil _ _ _ _
end Go.Proofs.YtodckioppgjbdaaDoor.AM
namespace Go.Proofs.YtodckioppgjbdaaDoor.AM
open Go Go.RowKit
def uI (t : ByteArray) : Edt × Bool :=
 if Lib.hasPrefix t.data.toList [33] = true then (⟨⟨(Lib.trimPrefix t.data.toList [33]).toArray⟩, 0, true⟩, true) else (⟨(uL t).1, (uL t).2.1, false⟩, (uL t).2.2)
theorem aGm : yP ⟨#[]⟩ = (0, false) := by decide
section
variable {P : Program} {f : FuncId} {args : List AV}
theorem aDF {e : TypeId} {sz : Nat} {xs : List AV} {cs : List Value} {r : Value} (hent : ∀ vs w, (callFunc f vs).run P w = .ok (.enter f vs) w) (ha : ∀ x ∈ xs, asz x = sz) (h0 : 0 < sz) (hr : ∀ S w, RL S w xs cs) (h1 : r.oneCell' = true)
 (h : ∀ (w : World) (S0 : Nat → Prop) (vs : List Value), (∀ b, S0 b → b < w.heap.size) → (∀ g y, GT g = some y → RG S0 w g y) → RVs S0 w (fun _ => none) (fun _ => 0) (fun _ => undef) args vs → Calls P f vs.toArray w fun en w' => ∃ v, en = .returned (.tuple #[v, r]) ∧ w'.ownsRow w.heap.size e sz v xs.length cs ∧ Below w.heap.size w w') : AC P f args ⟨.tup [.own 0, .v r], [⟨.s e, sz, xs⟩]⟩ :=
 ⟨hent, fun w S0 B0 V0 T0 vs hS hG _ hv => (h w S0 vs hS hG (jD (fun _ => rfl) hv)).mono fun en w' ⟨v, he, ho, hb⟩ => by
  refine ⟨_, S0, fun _ => (v.ownBlock).getD 0, fun _ => v, fun _ => Fa, fun _ => Fa, he, Grown.of hb _, fun _ h => h, fun b hb' => ⟨Nat.lt_of_lt_of_le (hS b hb') hb.size, .inl hb'⟩, ?_, aGx (fun g hg => .inl hg) hS ho ha h0 (hr _ _), zf (fun _ => rfl), fun l l' ob ob' g _ e => by cases e⟩
  unfold RV
  refine ⟨[v, r], rfl, ?_⟩
  unfold RVs
  refine ⟨v, [r], rfl, by unfold RV; exact ⟨⟨_, rfl⟩, rfl⟩, ?_⟩
  unfold RVs
  exact ⟨r, [], rfl, by unfold RV; exact ⟨rfl, h1⟩, by unfold RVs; rfl⟩⟩
theorem aHD {xs : List AV} {cs : List Value} {b : Bool} {p : ByteArray} (h : AC P f [.v (.string p)] ⟨.tup [.agg xs, .v (.bool b)], []⟩) (hr : ∀ S w us, RL S w xs us → us = cs) {w W' : World} {S0 : Nat → Prop} (hS : ∀ b, S0 b → b < w.heap.size) (hG : ∀ g y, GT g = some y → RG S0 w g y) (hB : Below w.heap.size w W') :
 Calls P f #[.string p] W' fun e W'' => e = .returned (.tuple #[.agg cs.toArray, .bool b]) ∧ Below W'.heap.size W' W'' :=
 (h.2 W' S0 (fun _ => 0) (fun _ => undef) (fun _ => Fa) [.string p] (fun b hb => Nat.lt_of_lt_of_le (hS b hb) hB.size) (fun g y e => RG.mono (fun _ h => h) (fun b hb => hB.block b (hS b hb)) (hG g y e)) (zf (fun _ => rfl)) (by unfold RVs; exact ⟨_, [], rfl, by unfold RV; exact ⟨rfl, rfl⟩, by unfold RVs; rfl⟩)).mono fun e w' ⟨v, S, B, V, T, T1, h1, h2, _, _, h5, _⟩ => by
  unfold RV at h5
  obtain ⟨us, rfl, h5⟩ := h5
  unfold RVs at h5
  obtain ⟨u1, us1, rfl, h6, h5⟩ := h5
  unfold RVs at h5
  obtain ⟨u2, us2, rfl, h7, h5⟩ := h5
  unfold RVs at h5
  subst h5
  unfold RV at h6 h7
  obtain ⟨cs', rfl, h6⟩ := h6
  obtain ⟨rfl, _⟩ := h7
  rw [hr _ _ _ h6] at h1
  exact ⟨h1, h2.below (fun g ⟨l, ob, e, _⟩ => by cases e)⟩
end
theorem aH9 {S : Nat → Prop} {w : World} {a : ByteArray} {n : Int} {us : List Value} (h : RL S w [.v (.string a), .v (.int .i64 n)] us) : us = [.string a, .int .i64 n] := by
 unfold RL at h
 obtain ⟨c1, c2, rfl, h1, h⟩ := h
 unfold RL at h
 obtain ⟨c3, c4, rfl, h2, h⟩ := h
 unfold RL at h
 unfold RA at h1 h2
 rw [h1.1, h2.1, h]; rfl
theorem aH8 {S : Nat → Prop} {w : World} {a : ByteArray} {n : Int} {g : Bool} {us : List Value} (h : RL S w [.v (.string a), .v (.int .i64 n), .v (.bool g)] us) : us = [.string a, .int .i64 n, .bool g] := by
 unfold RL at h
 obtain ⟨c1, c2, rfl, h1, h⟩ := h
 unfold RL at h
 obtain ⟨c3, c4, rfl, h2, h⟩ := h
 unfold RL at h
 obtain ⟨c5, c6, rfl, h3, h⟩ := h
 unfold RL at h
 unfold RA at h1 h2 h3
 rw [h1.1, h2.1, h3.1, h]; rfl
attribute [local irreducible] xN xO xV yX yh Pre ACG
theorem aBE {t : ByteArray} (ht : t.size ≤ 1000000) : AC Tryd.prog 56 [.v (.string t)] ⟨.tup [.agg [.v (.string (uL t).1), .v (.int .i64 (uL t).2.1)], .v (.bool (uL t).2.2)], []⟩ := by
 have c1 := aG4 ht
 unfold uL
 by_cases hi : Lib.indexByte t.data.toList 61 = -1
 · rw [if_pos hi, if_pos hi, decide_eq_true hi] at c1
   rw [if_pos hi]
   have c2 := qf (t := ⟨#[]⟩) (Nat.zero_le _)
   rw [aGm] at c2
   have c3 := aAo ht
   refine qrf Tryd.func56 Tryd.ntmps56 Tryd.results56 ?_; conv => whnf
   repeat (first | (refine qz ?_; conv => whnf) | (refine qc (c1) ?_; conv => whnf) | (refine qc (c2) ?_; conv => whnf) | (refine qc (c3) ?_; conv => whnf) | (refine qst ?_; conv => whnf) | (refine qdr ?_; conv => whnf) | (refine jC (jA rfl rfl rfl rfl rfl (by conv => lhs; whnf) rfl) rfl rfl (fun _ => .inr (.inr (qV (by kernel_rfl) (by kernel_rfl)))) ?_; conv => whnf))
   exact aA5 rfl rfl rfl rfl trivial rfl
 · rw [if_neg hi, if_neg hi, decide_eq_false hi] at c1
   rw [if_neg hi]
   obtain ⟨i, hi'⟩ : ∃ i : Nat, i = (Lib.indexByte t.data.toList 61).toNat := ⟨_, rfl⟩
   rw [← hi'] at c1 ⊢
   have c2 := qf (t := t.extract (i + 1) t.size) (by simp only [ByteArray.size_extract]; omega)
   have c3 := aAo (t := t.extract 0 i) (by simp only [ByteArray.size_extract]; omega)
   generalize yP (t.extract (i + 1) t.size) = R at c2 ⊢
   generalize t.extract (i + 1) t.size = u at c1 c2
   generalize t.extract 0 i = k at c1 c3 ⊢
   refine qrf Tryd.func56 Tryd.ntmps56 Tryd.results56 ?_; conv => whnf
   repeat (first | (refine qz ?_; conv => whnf) | (refine qc (c1) ?_; conv => whnf) | (refine qc (c2) ?_; conv => whnf) | (refine qc (c3) ?_; conv => whnf) | (refine qst ?_; conv => whnf) | (refine qdr ?_; conv => whnf) | (refine jC (jA rfl rfl rfl rfl rfl (by conv => lhs; whnf) rfl) rfl rfl (fun _ => .inr (.inr (qV (by kernel_rfl) (by kernel_rfl)))) ?_; conv => whnf))
   exact aA5 rfl rfl rfl rfl trivial rfl
theorem aFd {t : ByteArray} (ht : t.size ≤ 1000000) : AC Tryd.prog 68 [.v (.string t)] ⟨.tup [.agg [.v (.string (uI t).1.key), .v (.int .i64 (uI t).1.val), .v (.bool (uI t).1.gone)], .v (.bool (uI t).2)], []⟩ := by
 have c1 := aCz (t := t) (p := ⟨#[33]⟩)
 have e33 : (⟨#[33]⟩ : ByteArray).data.toList = [33] := rfl
 rw [e33] at c1
 unfold uI
 cases hp : Lib.hasPrefix t.data.toList [33]
 · rw [hp] at c1
   rw [if_neg (by simp)]
   have c2 := aBE ht
   generalize (⟨(Lib.trimPrefix t.data.toList [33]).toArray⟩ : ByteArray) = k at c1
   generalize uL t = R at c2 ⊢
   refine qrf Tryd.func68 Tryd.ntmps68 Tryd.results68 ?_; conv => whnf
   repeat (first | (refine qz ?_; conv => whnf) | (refine qc (c1) ?_; conv => whnf) | (refine qc (c2) ?_; conv => whnf) | (refine qst ?_; conv => whnf) | (refine qdr ?_; conv => whnf) | (refine jC (jA rfl rfl rfl rfl rfl (by conv => lhs; whnf) rfl) rfl rfl (fun _ => .inr (.inr (qV (by kernel_rfl) (by kernel_rfl)))) ?_; conv => whnf))
   exact aA5 rfl rfl rfl rfl trivial rfl
 · rw [hp] at c1
   rw [if_pos rfl]
   have hk : (⟨(Lib.trimPrefix t.data.toList [33]).toArray⟩ : ByteArray).size ≤ t.size := by
    show (Lib.trimPrefix t.data.toList [33]).toArray.size ≤ t.data.size
    rw [List.size_toArray, ← Array.length_toList]
    unfold Lib.trimPrefix
    split <;> simp
   have c2 := aAo (t := ⟨(Lib.trimPrefix t.data.toList [33]).toArray⟩) (by omega)
   generalize (⟨(Lib.trimPrefix t.data.toList [33]).toArray⟩ : ByteArray) = k at c1 c2 ⊢
   refine qrf Tryd.func68 Tryd.ntmps68 Tryd.results68 ?_; conv => whnf
   repeat (first | (refine qz ?_; conv => whnf) | (refine qc (c1) ?_; conv => whnf) | (refine qc (c2) ?_; conv => whnf) | (refine qst ?_; conv => whnf) | (refine qdr ?_; conv => whnf) | (refine jC (jA rfl rfl rfl rfl rfl (by conv => lhs; whnf) rfl) rfl rfl (fun _ => .inr (.inr (qV (by kernel_rfl) (by kernel_rfl)))) ?_; conv => whnf))
   exact aA5 rfl rfl rfl rfl trivial rfl
end Go.Proofs.YtodckioppgjbdaaDoor.AM
namespace Go.Proofs.YtodckioppgjbdaaDoor.AM
open Go Go.RowKit Go.Shelf
attribute [local go_sem] Oper.semAt_some
theorem aHS {t : ByteArray} : Lib.hasPrefix t.data.toList [33] = exT t ∧ (exT t = true → (⟨(Lib.trimPrefix t.data.toList [33]).toArray⟩ : ByteArray) = t.extract 1 t.size) := by
 obtain ⟨⟨l⟩⟩ := t
 cases l with
 | nil => exact ⟨rfl, fun h => by cases h⟩
 | cons a l =>
  have hs : (⟨⟨a :: l⟩⟩ : ByteArray).size = l.length + 1 := rfl
  have h1 : exT ⟨⟨a :: l⟩⟩ = decide (a.toNat = 33) := by
   unfold exT
   rw [dif_pos (by rw [hs]; omega)]
   rfl
  have h2 : Lib.hasPrefix (a :: l) [33] = decide (a.toNat = 33) := by
   by_cases h : a = 33
   · subst h; simp [Lib.hasPrefix, List.isPrefixOf]
   · have : ¬ a.toNat = 33 := fun e => h (UInt8.toNat_inj.1 e)
     have hn : ((33 : UInt8) == a) = false := by rw [beq_eq_false_iff_ne]; exact Ne.symm h
     simp [Lib.hasPrefix, List.isPrefixOf, hn, this]
  refine ⟨by rw [h1]; exact h2, fun h => ?_⟩
  rw [h1, ← h2] at h
  show (⟨(Lib.trimPrefix (a :: l) [33]).toArray⟩ : ByteArray) = _
  unfold Lib.trimPrefix
  rw [if_pos h]
  apply ByteArray.ext
  rw [ByteArray.data_extract]
  apply Array.toList_inj.1
  simp [hs]
theorem aAG (w : ByteArray) (L : List ByteArray) (acc : List Edt) : yF (w :: L) acc = if (uI w).2 = true then yF L (acc ++ [(uI w).1]) else (acc, false) := by
 obtain ⟨h1, h2⟩ := aHS (t := w)
 obtain ⟨p1, p2⟩ := aCK (t := w)
 rw [yF]
 unfold uI
 rw [h1]
 by_cases h : exT w = true
 · rw [if_pos h, if_pos h, if_pos rfl, h2 h]
 · rw [if_neg h, if_neg h]
   show _ = if (uL w).2.2 = true then _ else _
   by_cases hk : (yB w).2.2 = true
   · rw [if_pos hk, if_pos (p1.trans hk), p2 (p1.trans hk)]
   · rw [if_neg hk, if_neg (by rw [p1]; exact hk)]
theorem jO : ∀ (l : List ByteArray) (x : ByteArray) (a : List Edt), yF (l ++ [x]) a = if (yF l a).2 = true then (if (uI x).2 = true then ((yF l a).1 ++ [(uI x).1], true) else ((yF l a).1, false)) else ((yF l a).1, false)
 | [], x, a => by
  rw [List.nil_append, aAG]
  simp only [yF, if_true]
 | w :: l, x, a => by
  rw [List.cons_append, aAG, aAG w l]
  by_cases h : (uI w).2 = true
  · rw [if_pos h, if_pos h, jO l x]
  · rw [if_neg h, if_neg h, if_neg (by simp)]
theorem aC4 : ∀ (r l : List ByteArray), (yF l []).2 = false → (yF (l ++ r) []).2 = false
 | [], l, h => by rw [List.append_nil]; exact h
 | x :: r, l, h => by
  rw [show l ++ x :: r = (l ++ [x]) ++ r by simp]
  exact aC4 r (l ++ [x]) (by rw [jO, if_neg (by rw [h]; simp)])
theorem aGr {l m : List ByteArray} (h : l <+: m) (hf : (yF l []).2 = false) : (yF m []).2 = false := by
 obtain ⟨r, rfl⟩ := h
 exact aC4 r l hf
theorem aCi (W : World) (x y z : Value) (t : TypeId) {k : Nat} (hk : W.heap.size = k) : ∀ j u, [x, y, z][j]? = some u → (W.alloc (.cells #[x, y, z] t)).cell? ((⟨k, 0, none⟩ : Addr).add j) = some u := by
 subst hk
 intro j u hj
 match j, hj with
 | 0, hj => simp at hj; subst hj; simp [Addr.add]
 | 1, hj => simp at hj; subst hj; simp [Addr.add]
 | 2, hj => simp at hj; subst hj; simp [Addr.add]
def aHg (w : World) (pre : List ByteArray) (W : World) : Prop := Below w.heap.size w W ∧ Boxed W w.heap.size 110 (.func (.func 68) #[] #[]) ∧ Boxed W (w.heap.size + 1) 37 (.slice none 0 0) ∧ Boxed W (w.heap.size + 1 + 1) 4 (.bool false) ∧ Boxed W (w.heap.size + 1 + 1 + 1 + 1 + 1) 9 (.string ⟨#[44]⟩) ∧ Boxed W (w.heap.size + 1 + 1 + 1 + 1 + 2) 3 (.int .i64 0) ∧
 ∃ acc v, yF pre [] = (acc, true) ∧ acc.length = pre.length ∧ Boxed W (w.heap.size + 1 + 1 + 1) 37 v ∧ W.ownsRow (w.heap.size + 9) 102 3 v acc.length (xk acc)
def aHi (w : World) (pre : List ByteArray) (W : World) : Prop := Below w.heap.size w W ∧ Boxed W (w.heap.size + 1) 37 (.slice none 0 0) ∧ Boxed W (w.heap.size + 1 + 1) 4 (.bool false) ∧ (yF pre []).2 = false
theorem jY (tmps : Array Value) (W : World) {a b : Addr} {x y : Value} (h4 : tmps.getD 4 undef = .pointer (some a)) (h5 : tmps.getD 5 undef = .pointer (some b)) (c1 : W.cell? a = some x) (c2 : W.cell? b = some y) : (results Tryd.f67 tmps).run Tryd.prog W = .ok (.tuple #[x, y]) W := by
 have hr : (Tryd.f67).results = #[.cell 4 37, .cell 5 4] := rfl
 have h4' : tmps[4]?.getD undef = .pointer (some a) := by simpa using h4
 have h5' : tmps[5]?.getD undef = .pointer (some b) := by simpa using h5
 simp [results, hr, h4', h5', asAddr, go_sem, c1, c2]
set_option maxRecDepth 100000 in
set_option maxHeartbeats 4000000 in
theorem aEU {t : ByteArray} (ht : t.size ≤ 1000000) (hne : ¬ t = ⟨#[45]⟩) (w : World)
 (hread : ∀ p W', p.size ≤ 1000000 → Below w.heap.size w W' → Calls Tryd.prog 68 #[.string p] W' fun e W'' => e = .returned (.tuple #[.agg #[.string (uI p).1.key, .int .i64 (uI p).1.val, .bool (uI p).1.gone], .bool (uI p).2]) ∧ Below W'.heap.size W' W'') :
 Calls Tryd.prog 67 #[.string t, .func (.func 68) #[] #[]] w fun e w' => ∃ v b, e = .returned (.tuple #[v, .bool b]) ∧ b = (yF (xY t 44) []).2 ∧ w'.ownsRow w.heap.size 102 3 v (if b = true then (yF (xY t 44) []).1 else []).length (xk (if b = true then (yF (xY t 44) []).1 else [])) ∧ Below w.heap.size w w' := by
 have hcmp : (t.toList == ([45] : List UInt8)) = false := by
  rw [beq_eq_false_iff_ne]
  exact fun e => hne (toList_inj (e.trans (show [45] = (⟨#[45]⟩ : ByteArray).toList from by rw [ByteArray.toList_eq])))
 refine (callsIn_wide (n := 3)).1 ?_
 refine callsIn_of_wp_marks Tryd.func67 rfl trivial ?_ rfl
 simp only [Tryd.ntmps67, List.size_toArray, List.length_cons, List.length_nil, Nat.reduceAdd, Nat.reduceSub, Array.replicate_succ, Array.replicate_zero, List.push_toArray, List.append_toArray, List.nil_append, List.cons_append]
 gi_wp2_with (refine ⟨trivial, ?_⟩; gi_at_call 106; refine (callsIn_wide.2 (aAL t _ _)).mono ?_; rintro e w' ⟨rfl, rfl⟩)
 obtain ⟨W0, hW0⟩ : ∃ W0, ((((((w.alloc (.cells #[.func (.func 68) #[] #[]] 110)).alloc (.cells #[.slice none 0 0] 37)).alloc (.cells #[.bool false] 4)).alloc (.cells #[.slice none 0 0] 37)).alloc (.cells #[.string t] 9)).alloc (.cells #[.string ⟨#[44]⟩] 9)).alloc (.cells #[.int .i64 0] 3) = W0 := ⟨_, rfl⟩
 rw [hW0]
 obtain ⟨hsz, hbel, b0, b1, b2, b3, b4, b5, b6⟩ := aFh hW0
 clear hW0
 refine aAj (α := ByteArray) (encs := fun x => #[.string x]) (S := fun xs => xs = xY t 44) (Sp := fun pre => pre <+: xY t 44) (N := t.size + 2) rfl (by omega) (gf := 163) (lb := #[.pointer (some ⟨w.heap.size + 1 + 1 + 1 + 1 + 1, 0, none⟩), .pointer (some ⟨w.heap.size + 1 + 1 + 1 + 1, 0, none⟩), .pointer (some ⟨w.heap.size + 1 + 1 + 1 + 1 + 2, 0, none⟩)]) rfl trivial (enters_of Tryd.func163 (by kernel_rfl) rfl) (fun x => x.size ≤ t.size) (fun _ => rfl) (w.heap.size + 1 + 1 + 1 + 1) (by omega) (aHg w) (aHi w) ?hit ?hI ?hIx ?h0
  (fun x => { tmps := #[.string t, .func (.func 68) #[] #[], undef, .pointer (some ⟨w.heap.size, 0, none⟩), .pointer (some ⟨w.heap.size + 1, 0, none⟩), .pointer (some ⟨w.heap.size + 1 + 1, 0, none⟩), .pointer (some ⟨w.heap.size + 1 + 1 + 1, 0, none⟩), .string x, undef, undef, .string t, .bool false, .string t, .func (.func 163) #[] #[.pointer (some ⟨w.heap.size + 1 + 1 + 1 + 1 + 1, 0, none⟩), .pointer (some ⟨w.heap.size + 1 + 1 + 1 + 1, 0, none⟩), .pointer (some ⟨w.heap.size + 1 + 1 + 1 + 1 + 2, 0, none⟩)], .string x, undef, undef, undef, undef, undef, undef, undef, undef, undef, undef, undef, undef, undef], defers := [] }) ?assign ?body ?done ?stop
 case hit =>
  intro l J Jx W hg hJI hJ hJx hY h0
  exact aBh (c := 44) J Jx W ht (fun xs A hA => ⟨(hJI xs A hA).2.2.2.2.1.cell, (hJI xs A hA).2.2.2.2.2.1.cell⟩) hJ ((hg.block _ b4.lt (fun h => h)).trans b4) hY h0
 case hI =>
  rintro xs A B ⟨q, q0, q1, q2, q5, q6, acc, v, h1, h2, q3, h4⟩ hg
  rw [hsz] at hg
  exact ⟨aAQ q hg (by omega) (by omega), zD q0 hg (by omega) (by omega), zD q1 hg (by omega) (by omega), zD q2 hg (by omega) (by omega), zD q5 hg (by omega) (by omega), zD q6 hg (by omega) (by omega), acc, v, h1, h2, zD q3 hg (by omega) (by omega), aA2 h4 hg (fun g e => by unfold Odd; omega)⟩
 case hIx =>
  rintro xs A B ⟨q, q1, q2, h1⟩ hg
  rw [hsz] at hg
  exact ⟨aAQ q hg (by omega) (by omega), zD q1 hg (by omega) (by omega), zD q2 hg (by omega) (by omega), h1⟩
 case h0 => exact ⟨hbel, b0, b1, b2, b5, b6, [], _, rfl, rfl, b3, World.ownsRow_nil _ _ _ _⟩
 case assign =>
  intro l x W K hK
  gi_wp2
  exact hK
 case body =>
  rintro l pre x W hs2 hx ⟨q, q0, q1, q2, q5, q6, acc, v, h1, h2, q3, h4⟩ hlen
  rw [hsz] at hs2
  obtain ⟨A, cap, rfl⟩ := jL h4
  have hc0 := q0.cell
  have hcall := hread x W (by omega) q
  obtain ⟨i0, hi, hz0, hz1, hz2⟩ := info_parts (show (Tryd.prog.info? 102).map (fun i => (i.zero, i.size, i.bytes)) = some (some (.agg #[.string ByteArray.empty, .int .i64 0, .bool false]), 3, 32) from by kernel_rfl)
  obtain ⟨e1, he1⟩ : ∃ e1, (uI x).1.key = e1 := ⟨_, rfl⟩
  obtain ⟨e2, he2⟩ : ∃ e2, (uI x).1.val = e2 := ⟨_, rfl⟩
  obtain ⟨e3, he3⟩ : ∃ e3, (uI x).1.gone = e3 := ⟨_, rfl⟩
  rw [h2] at h4 q3
  by_cases hok : (uI x).2 = true
  · rw [hok, he1, he2, he3] at hcall
    gi_wp2_with (first | (refine ⟨trivial, ?_⟩; gi_at_call 68; refine (CallsIn.inRound l (callsIn_wide.2 hcall)).mono ?_; rintro e w1 ⟨rfl, hb1⟩; have g0 : Grown W (w1.alloc (.cells #[.string e1, .int .i64 e2, .bool e3] 102)) (fun j => j = w.heap.size + 1 + 1 + 1 ∨ w.heap.size + 9 ≤ j) := y9 (zG hb1 _) (vT _ _); have r3 := (yK q3 (zG hb1 (fun _ => False)) (fun h => h)).alloc (.cells #[.string e1, .int .i64 e2, .bool e3] 102); have h4c := aA2 h4 ((y9 (zG hb1 (fun _ => False)) (vT (.cells #[.string e1, .int .i64 e2, .bool e3] 102) _))) (fun _ _ h => h); have hsw := hb1.size; have rc3 := r3.cell; have rf3 := r3.frozen) | (gi_at_builtin; refine wpListIn_append_own _ rfl _ _ 37 rfl (w.heap.size + 9) 102 i0 (.agg #[.string ByteArray.empty, .int .i64 0, .bool false]) 3 32 Tryd.underlying37 hi hz0 hz1 hz2 rfl (by decide) (.slice A pre.length cap) _ _ rfl (h4c.alloc _) ⟨w1.heap.size + 1, 0, none⟩ 1 1 [.string e1, .int .i64 e2, .bool e3] rfl rfl (aCi _ _ _ _ _ (World.size_alloc _ _)) (by simp [Value.oneCell']) (by unfold maxLen; omega) (by omega) (by simp; omega) ?_; intro v' w2 hown' hgrow _; obtain ⟨g', cap', rfl⟩ := ownsRow_succ hown'; obtain ⟨k1, k2, k3, k4⟩ := aDH r3 (by decide) h4c hown' hgrow; have kc := k1.cell; have kf := k1.frozen))
    have gg := y9 g0 k4
    show Std _ W0.heap.size W _ ∧ aHg w (pre ++ [x]) _
    rw [hsz]
    refine ⟨aCx gg (by omega) (by omega) (fun h => by rcases h with h | h <;> omega) (fun h => by rcases h with h | h <;> omega) (fun h => by rcases h with h | h <;> omega), wP q gg (fun k hk h => by rcases h with h | h <;> omega), yK q0 gg (fun h => by rcases h with h | h <;> omega), yK q1 gg (fun h => by rcases h with h | h <;> omega), yK q2 gg (fun h => by rcases h with h | h <;> omega), yK q5 gg (fun h => by rcases h with h | h <;> omega), yK q6 gg (fun h => by rcases h with h | h <;> omega), acc ++ [(⟨e1, e2, e3⟩ : Edt)], _, ?_, by simp [h2], k2, ?_⟩
    · rw [jO, h1, if_pos rfl, if_pos hok, show (uI x).1 = ⟨e1, e2, e3⟩ from by rw [← he1, ← he2, ← he3]]
    · rw [show (acc ++ [(⟨e1, e2, e3⟩ : Edt)]).length = pre.length + 1 by simp [h2], show xk (acc ++ [(⟨e1, e2, e3⟩ : Edt)]) = xk acc ++ [.string e1, .int .i64 e2, .bool e3] by simp [xk, aIE]]
      exact k3
  · have hok' : (uI x).2 = false := by simpa using hok
    rw [hok', he1, he2, he3] at hcall
    gi_wp2_with (first | (refine ⟨trivial, ?_⟩; gi_at_call 68; refine (CallsIn.inRound l (callsIn_wide.2 hcall)).mono ?_; rintro e w1 ⟨rfl, hb1⟩; have g1 : Grown W (w1.alloc (.cells #[.string e1, .int .i64 e2, .bool e3] 102)) (fun j => j = w.heap.size + 1 ∨ j = w.heap.size + 1 + 1) := y9 (zG hb1 _) (vT _ _); have r1 := (yK q1 (zG hb1 (fun _ => False)) (fun h => h)).alloc (.cells #[.string e1, .int .i64 e2, .bool e3] 102); have r2 := (yK q2 (zG hb1 (fun _ => False)) (fun h => h)).alloc (.cells #[.string e1, .int .i64 e2, .bool e3] 102); have rc1 := r1.cell; have rf1 := r1.frozen; have rc2 := r2.cell; have rf2 := r2.frozen))
    have gg := y9 g1 (y9 (zM (w.heap.size + 1) (.slice none 0 0) (.inl rfl)) (zM (w.heap.size + 1 + 1) (.bool false) (.inr rfl)))
    show Std _ W0.heap.size W _ ∧ aHi w (pre ++ [x]) _
    rw [hsz]
    refine ⟨aCx gg (by omega) (by omega) (fun h => by rcases h with h | h <;> omega) (fun h => by rcases h with h | h <;> omega) (fun h => by rcases h with h | h <;> omega), wP q gg (fun k hk h => by rcases h with h | h <;> omega), yK (r1.set _) (zM (M := fun j => j = w.heap.size + 1 + 1) _ _ rfl) (fun h => by omega), (yK r2 (zM (M := fun j => j = w.heap.size + 1) _ _ rfl) (fun h => by omega)).set _, ?_⟩
    rw [jO, h1, if_pos rfl, if_neg hok]
 case done =>
  rintro D xs W hD hD2 rfl ⟨q, q0, q1, q2, q5, q6, acc, v, h1, h2, q3, h4⟩ hK
  obtain ⟨A, cap, rfl⟩ := jL h4
  have hc1 := q1.cell
  have hc2 := q2.cell
  have hc3 := q3.cell
  have hf1 := q1.frozen
  have hf2 := q2.frozen
  gi_wp2
  rw [hsz] at hD
  have gD := y9 (zM (A := W) (M := fun j => j = w.heap.size + 1 ∨ j = w.heap.size + 1 + 1) (w.heap.size + 1) (.slice A acc.length cap) (.inl rfl)) (zM (w.heap.size + 1 + 1) (.bool true) (.inr rfl))
  have hK2 := (gD.block D hD2 (fun h => by rcases h with h | h <;> omega)).trans hK
  have z1 := yK (yK (q1.set (.slice A acc.length cap)) (zM (M := fun j => j = w.heap.size + 1 + 1) (w.heap.size + 1 + 1) (.bool true) rfl) (fun h => by omega)) (yL (M := fun j => j = D) (l := D) (.deferred none) rfl) (fun h => by omega)
  have z2 := yK ((yK q2 (zM (M := fun j => j = w.heap.size + 1) (w.heap.size + 1) (.slice A acc.length cap) rfl) (fun h => by omega)).set (.bool true)) (yL (M := fun j => j = D) (l := D) (.deferred none) rfl) (fun h => by omega)
  have z3 := aDn (ownsRow_putObj (aA2 h4 gD (fun g hg h => by rcases h with h | h <;> omega)) (.deferred none) hK2 rfl) (show w.heap.size ≤ w.heap.size + 9 by omega)
  have z4 := wP (wP q gD (fun k hk h => by rcases h with h | h <;> omega)) (yL (M := fun j => j = D) (l := D) (.deferred none) rfl) (fun k hk h => by omega)
  rw [h2] at hK2 z1 z2 z3 z4
  refine ⟨by simp, .inl ⟨_, _, rfl, run_takeDeferred hK2, ?_⟩⟩
  refine ⟨_, jY _ _ rfl rfl z1.cell z2.cell, _, true, rfl, by rw [h1], ?_, z4⟩
  rw [if_pos rfl, h1, h2]
  exact z3
 case stop =>
  rintro D pre W hD hD2 hp ⟨q, q1, q2, h1⟩ hK
  have hc1 := q1.cell
  have hc2 := q2.cell
  gi_wp2
  refine ⟨by simp, .inl ⟨_, _, rfl, run_takeDeferred hK, ?_⟩⟩
  rw [hsz] at hD
  have z1 := yK q1 (yL (M := fun j => j = D) (l := D) (.deferred none) rfl) (fun h => by omega)
  have z2 := yK q2 (yL (M := fun j => j = D) (l := D) (.deferred none) rfl) (fun h => by omega)
  refine ⟨_, jY _ _ rfl rfl z1.cell z2.cell, _, false, rfl, (aGr hp h1).symm, ?_, wP q (yL (M := fun j => j = D) (l := D) (.deferred none) rfl) (fun k hk h => by omega)⟩
  rw [if_neg (by simp)]
  exact World.ownsRow_nil _ _ _ _
end Go.Proofs.YtodckioppgjbdaaDoor.AM
namespace Go.Proofs.YtodckioppgjbdaaDoor
open Go.RowKit
end Go.Proofs.YtodckioppgjbdaaDoor
namespace Go.Proofs.YtodckioppgjbdaaDoor
open Go Go.RowKit
end Go.Proofs.YtodckioppgjbdaaDoor
namespace Go.Proofs.YtodckioppgjbdaaDoor.AM
open Go Go.RowKit
section
variable {w : World}
end
end Go.Proofs.YtodckioppgjbdaaDoor.AM
namespace Go.Proofs.YtodckioppgjbdaaDoor.AM
open Go Go.RowKit Go.Shelf
attribute [local go_sem] Oper.semAt_some
set_option maxRecDepth 100000 in
theorem aD7 (w : World) : Calls Tryd.prog 55 #[.string ⟨#[45]⟩, .func (.func 56) #[] #[]] w fun e w' => e = .returned (.tuple #[.slice none 0 0, .bool true]) ∧ Below w.heap.size w w' := by
 have hcmp : ((⟨#[45]⟩ : ByteArray).toList == ([45] : List UInt8)) = true := by
  rw [beq_iff_eq]; exact (show [45] = (⟨#[45]⟩ : ByteArray).toList from by rw [ByteArray.toList_eq]).symm
 refine (callsIn_wide (n := 3)).1 ?_
 refine callsIn_of_wp_marks Tryd.func55 rfl trivial ?_ rfl
 simp only [Tryd.ntmps55, List.size_toArray, List.length_cons, List.length_nil, Nat.reduceAdd, Nat.reduceSub, Array.replicate_succ, Array.replicate_zero, List.push_toArray, List.append_toArray, List.nil_append, List.cons_append]
 gi_wp2
 have hB : Below w.heap.size w (((w.alloc (.cells #[.func (.func 56) #[] #[]] 95)).alloc (.cells #[.slice none 0 0] 26)).alloc (.cells #[.bool true] 4)) :=
  (((Below.refl _ w).alloc (Nat.le_refl _) _).alloc (by simp) _).alloc (by simp; omega) _
 have b1 := (Boxed.new (w.alloc (.cells #[.func (.func 56) #[] #[]] 95)) 26 (.slice none 0 0)).alloc (.cells #[.bool true] 4)
 have b2 := Boxed.new ((w.alloc (.cells #[.func (.func 56) #[] #[]] 95)).alloc (.cells #[.slice none 0 0] 26)) 4 (.bool true)
 simp only [World.size_alloc] at b1 b2
 exact ⟨_, jZ _ _ rfl rfl b1.cell b2.cell, rfl, hB⟩
def wz (t : ByteArray) : List Ent × Bool := if t = ⟨#[45]⟩ then ([], true) else (if (yU (xY t 44) []).2 = true then (yU (xY t 44) []).1 else [], (yU (xY t 44) []).2)
theorem aIN : ∀ vs w, (callFunc 55 vs).run Tryd.prog w = .ok (.enter 55 vs) w := zY Tryd.func55 (by kernel_rfl) (by kernel_rfl)
theorem aEx {t : ByteArray} (ht : t.size ≤ 1000000) : AC Tryd.prog 55 [.v (.string t), .fn 56 [] []] ⟨.tup [.own 0, .v (.bool (wz t).2)], [⟨89, 2, (wz t).1.map uJ⟩]⟩ := by
 refine aDF (cs := xu (wz t).1) aIN (aE4 _) (by omega) (fun S w => jo.2 rfl) rfl fun w S0 vs hS hG hv => ?_
 unfold RVs at hv
 obtain ⟨u, us, rfl, h1, hv⟩ := hv
 obtain ⟨u2, rfl, h2⟩ := vI hv
 unfold RV at h1 h2
 obtain ⟨rfl, _⟩ := h1
 obtain ⟨us, vs, rfl, h3, h4⟩ := h2
 unfold RVs at h3 h4
 subst h3 h4
 rw [List.length_map]
 unfold wz
 by_cases h0 : t = ⟨#[45]⟩
 · subst h0
   rw [if_pos rfl]
   refine (aD7 w).mono ?_
   rintro e w' ⟨rfl, hb⟩
   exact ⟨_, rfl, World.ownsRow_nil _ _ _ _, hb⟩
 · rw [if_neg h0]
   refine (aEV ht h0 w fun p W' hp hB => aHD (aBE hp) (fun S w us => aH9) hS hG hB).mono ?_
   rintro e w' ⟨v, b, rfl, rfl, ho, hb⟩
   exact ⟨v, rfl, ho, hb⟩
set_option maxRecDepth 100000 in
theorem aD6 (w : World) : Calls Tryd.prog 67 #[.string ⟨#[45]⟩, .func (.func 68) #[] #[]] w fun e w' => e = .returned (.tuple #[.slice none 0 0, .bool true]) ∧ Below w.heap.size w w' := by
 have hcmp : ((⟨#[45]⟩ : ByteArray).toList == ([45] : List UInt8)) = true := by
  rw [beq_iff_eq]; exact (show [45] = (⟨#[45]⟩ : ByteArray).toList from by rw [ByteArray.toList_eq]).symm
 refine (callsIn_wide (n := 3)).1 ?_
 refine callsIn_of_wp_marks Tryd.func67 rfl trivial ?_ rfl
 simp only [Tryd.ntmps67, List.size_toArray, List.length_cons, List.length_nil, Nat.reduceAdd, Nat.reduceSub, Array.replicate_succ, Array.replicate_zero, List.push_toArray, List.append_toArray, List.nil_append, List.cons_append]
 gi_wp2
 have hB : Below w.heap.size w (((w.alloc (.cells #[.func (.func 68) #[] #[]] 110)).alloc (.cells #[.slice none 0 0] 37)).alloc (.cells #[.bool true] 4)) :=
  (((Below.refl _ w).alloc (Nat.le_refl _) _).alloc (by simp) _).alloc (by simp; omega) _
 have b1 := (Boxed.new (w.alloc (.cells #[.func (.func 68) #[] #[]] 110)) 37 (.slice none 0 0)).alloc (.cells #[.bool true] 4)
 have b2 := Boxed.new ((w.alloc (.cells #[.func (.func 68) #[] #[]] 110)).alloc (.cells #[.slice none 0 0] 37)) 4 (.bool true)
 simp only [World.size_alloc] at b1 b2
 exact ⟨_, jY _ _ rfl rfl b1.cell b2.cell, rfl, hB⟩
def wu (t : ByteArray) : List Edt × Bool := if t = ⟨#[45]⟩ then ([], true) else (if (yF (xY t 44) []).2 = true then (yF (xY t 44) []).1 else [], (yF (xY t 44) []).2)
theorem aIQ : ∀ vs w, (callFunc 67 vs).run Tryd.prog w = .ok (.enter 67 vs) w := zY Tryd.func67 (by kernel_rfl) (by kernel_rfl)
theorem aEw {t : ByteArray} (ht : t.size ≤ 1000000) : AC Tryd.prog 67 [.v (.string t), .fn 68 [] []] ⟨.tup [.own 0, .v (.bool (wu t).2)], [⟨102, 3, (wu t).1.map zu⟩]⟩ := by
 refine aDF (cs := xk (wu t).1) aIQ (aE3 _) (by omega) (fun S w => jm.2 rfl) rfl fun w S0 vs hS hG hv => ?_
 unfold RVs at hv
 obtain ⟨u, us, rfl, h1, hv⟩ := hv
 obtain ⟨u2, rfl, h2⟩ := vI hv
 unfold RV at h1 h2
 obtain ⟨rfl, _⟩ := h1
 obtain ⟨us, vs, rfl, h3, h4⟩ := h2
 unfold RVs at h3 h4
 subst h3 h4
 rw [List.length_map]
 unfold wu
 by_cases h0 : t = ⟨#[45]⟩
 · subst h0
   rw [if_pos rfl]
   refine (aD6 w).mono ?_
   rintro e w' ⟨rfl, hb⟩
   exact ⟨_, rfl, World.ownsRow_nil _ _ _ _, hb⟩
 · rw [if_neg h0]
   refine (aEU ht h0 w fun p W' hp hB => aHD (aFd hp) (fun S w us => aH8) hS hG hB).mono ?_
   rintro e w' ⟨v, b, rfl, rfl, ho, hb⟩
   exact ⟨v, rfl, ho, hb⟩
end Go.Proofs.YtodckioppgjbdaaDoor.AM
namespace Go.Proofs.YtodckioppgjbdaaDoor.AM
open Go Go.RowKit
theorem aGv (t : ByteArray) : (wK t).1.length ≤ 12 := by
 unfold wK
 split
 · simp
 · split
   · rename_i h
     unfold aAI at h ⊢
     split
     · simp
     · rename_i h0
       rw [if_neg h0] at h
       simp only [Bool.and_eq_true] at h
       exact aGA h.2
   · simp
theorem aGs (t : ByteArray) : (wJ t).1.length ≤ 6 := by
 unfold wJ
 split
 · simp
 · split
   · rename_i h
     unfold aAH at h ⊢
     split
     · simp
     · rename_i h0
       rw [if_neg h0] at h
       simp only [Bool.and_eq_true] at h
       exact aEO h.2
   · simp
attribute [local irreducible] xN xO xV yX yh Pre ACG
theorem aET {t : ByteArray} (ht : t.size ≤ maxLen) (h2 : AC Tryd.prog 16 [.v (.string t)] ⟨.tup [.own 0, .v (.int .i64 (wK t).2)], [⟨89, 2, (wK t).1.map uJ⟩]⟩) : AC Tryd.prog 4 [.v (.string t)] ⟨.v (.bool true), []⟩ := by
 have ht' := ht
 unfold maxLen at ht'
 by_cases hl : 1048576 < t.size
 · refine qrf Tryd.func4 Tryd.ntmps4 Tryd.results4 ?_; conv => whnf
   repeat ((refine qz ?_; conv => whnf))
   exact aAF rfl trivial
 have h1 := aEJ ht
 have hR := aGv t
 generalize wK t = X at h1 h2 hR
 obtain ⟨R, code⟩ := X
 dsimp only at h1 h2 hR
 have hRm : R.length ≤ maxLen := by unfold maxLen; omega
 have e1 := aEG (es := R) (es' := R) hRm hRm
 rw [decide_eq_true rfl] at e1
 have m0 := aCg (xs := R.map uJ) (n := R.length) (k := 1) (by simp) (by omega) (by omega) (by omega)
 have d0 := aCb (n := R.length) (k := 1) (by omega) (by omega) (by omega)
 refine qrf Tryd.func4 Tryd.ntmps4 Tryd.results4 ?_; conv => whnf
 repeat ((first | refine qz ?_ | refine qdr ?_ | refine qc (h1) ?_ | refine qc (h2) ?_ | refine qc (e1) ?_ | refine qr (aEl (m0) rfl rfl rfl rfl rfl rfl rfl) ?_ | refine qc (d0) ?_); conv => whnf)
 exact aAF rfl trivial
theorem aCm {t : ByteArray} (ht : t.size ≤ maxLen) (h2 : AC Tryd.prog 25 [.v (.string t)] ⟨.tup [.own 0, .v (.int .i64 (wJ t).2)], [⟨102, 3, (wJ t).1.map zu⟩]⟩) : AC Tryd.prog 6 [.v (.string t)] ⟨.v (.bool true), []⟩ := by
 have ht' := ht
 unfold maxLen at ht'
 by_cases hl : 1048576 < t.size
 · refine qrf Tryd.func6 Tryd.ntmps6 Tryd.results6 ?_; conv => whnf
   repeat ((refine qz ?_; conv => whnf))
   exact aAF rfl trivial
 have h1 := aCh ht
 have hR := aGs t
 generalize wJ t = X at h1 h2 hR
 obtain ⟨R, code⟩ := X
 dsimp only at h1 h2 hR
 have hRm : R.length ≤ maxLen := by unfold maxLen; omega
 have e1 := aEv (es := R) hRm
 have m0 := aDD (xs := R.map zu) (n := R.length) (k := 1) (by simp) (by omega) (by omega) (by omega)
 have d0 := aDA (n := R.length) (k := 1) (by omega) (by omega) (by omega)
 refine qrf Tryd.func6 Tryd.ntmps6 Tryd.results6 ?_; conv => whnf
 repeat ((first | refine qz ?_ | refine qdr ?_ | refine qc (h1) ?_ | refine qc (h2) ?_ | refine qc (e1) ?_ | refine qr (aEl (m0) rfl rfl rfl rfl rfl rfl rfl) ?_ | refine qc (d0) ?_); conv => whnf)
 exact aAF rfl trivial
end Go.Proofs.YtodckioppgjbdaaDoor.AM
namespace Go.Proofs.YtodckioppgjbdaaDoor.AM
open Go Go.RowKit
theorem aDs {N : Nat} : ∀ (L : List ByteArray) (acc : List Ent), (∀ w ∈ L, w.size ≤ N) → (∀ e ∈ acc, e.1.size ≤ N) → (yU L acc).1.length ≤ acc.length + L.length ∧ ∀ e ∈ (yU L acc).1, e.1.size ≤ N
 | [], acc, _, h => ⟨by simp [yU], by simpa [yU] using h⟩
 | w :: L, acc, hL, h => by
  rw [yU]
  split
  · obtain ⟨h1, h2⟩ := aDs L (acc ++ [((yB w).1, (yB w).2.1)]) (fun x hx => hL x (List.mem_cons_of_mem _ hx)) (fun e he => by
     simp only [List.mem_append, List.mem_singleton] at he
     rcases he with he | rfl
     · exact h e he
     · exact Nat.le_trans qP (hL w List.mem_cons_self))
    refine ⟨?_, h2⟩
    simp only [List.length_append, List.length_cons, List.length_nil] at h1 ⊢
    omega
  · exact ⟨by dsimp only; omega, h⟩
theorem aDr {N : Nat} : ∀ (L : List ByteArray) (acc : List Edt), (∀ w ∈ L, w.size ≤ N) → (∀ e ∈ acc, e.key.size ≤ N) → (yF L acc).1.length ≤ acc.length + L.length ∧ ∀ e ∈ (yF L acc).1, e.key.size ≤ N
 | [], acc, _, h => ⟨by simp [yF], by simpa [yF] using h⟩
 | w :: L, acc, hL, h => by
  have hw := hL w List.mem_cons_self
  have step : ∀ e : Edt, e.key.size ≤ N → (yF L (acc ++ [e])).1.length ≤ acc.length + (w :: L).length ∧ ∀ e' ∈ (yF L (acc ++ [e])).1, e'.key.size ≤ N := fun e he0 => by
   obtain ⟨h1, h2⟩ := aDr L (acc ++ [e]) (fun x hx => hL x (List.mem_cons_of_mem _ hx)) (fun e' he => by
    simp only [List.mem_append, List.mem_singleton] at he
    rcases he with he | rfl
    · exact h e' he
    · exact he0)
   refine ⟨?_, h2⟩
   simp only [List.length_append, List.length_cons, List.length_nil] at h1 ⊢
   omega
  rw [yF]
  split
  · exact step _ (by simp only [ByteArray.size_extract]; omega)
  · split
    · exact step _ (Nat.le_trans qP hw)
    · exact ⟨by dsimp only; omega, h⟩
attribute [local irreducible] xN xO xV yX yh Pre ACG
theorem aGi {t : ByteArray} (ht : t.size ≤ 65536) : (wz t).1.length ≤ 100000 ∧ ∀ e ∈ (wz t).1, e.1.size ≤ 65536 := by
 unfold wz
 split
 · exact ⟨by simp, fun e he => by cases he⟩
 · obtain ⟨_, hl1, hl2⟩ := kL (t := t) (c := 44)
   obtain ⟨h1, h2⟩ := aDs (N := 65536) (xY t 44) [] (fun w hw => by have := hl2 w hw; omega) (fun e he => by cases he)
   simp only [List.length_nil] at h1
   dsimp only
   split
   · exact ⟨by omega, h2⟩
   · exact ⟨by simp, fun e he => by cases he⟩
theorem aGw {t : ByteArray} (h : ¬ 65536 < t.size) : wK t = if (wz t).2 = true then (if yQ (wz t).1 = true then ((wz t).1, 0) else ([], 3)) else ([], 3) := by
 unfold wK aAI wz
 rw [if_neg h]
 by_cases h0 : t = ⟨#[45]⟩
 · rw [if_pos h0, if_pos h0]; rfl
 · rw [if_neg h0, if_neg h0]
   dsimp only
   cases h1 : (yU (xY t 44) []).2
   · simp
   · simp
theorem aEH {t : ByteArray} (ht : t.size ≤ maxLen) : AC Tryd.prog 16 [.v (.string t)] ⟨.tup [.own 0, .v (.int .i64 (wK t).2)], [⟨89, 2, (wK t).1.map uJ⟩]⟩ := by
 unfold maxLen at ht
 by_cases h0 : 65536 < t.size
 · rw [show wK t = ([], 2) from if_pos h0]
   refine qrf Tryd.func16 Tryd.ntmps16 Tryd.results16 ?_; conv => whnf
   repeat ((refine qz ?_; conv => whnf))
   exact y7 rfl rfl rfl
 rw [aGw h0]
 have c1 := aEx (t := t) (by omega)
 obtain ⟨hb1, hb2⟩ := aGi (t := t) (by omega)
 generalize wz t = R at c1 hb1 hb2 ⊢
 obtain ⟨es, ok⟩ := R
 dsimp only at c1 hb1 hb2 ⊢
 cases ok
 · rw [if_neg (by simp)]
   refine qrf Tryd.func16 Tryd.ntmps16 Tryd.results16 ?_; conv => whnf
   repeat ((first | refine qz ?_ | refine qc (c1) ?_); conv => whnf)
   exact y7 rfl rfl rfl
 · rw [if_pos rfl]
   by_cases hb : yQ es = true
   · rw [if_pos hb]
     have c2 := qX hb (by unfold maxLen; omega) (fun e he => by have := hb2 e he; unfold maxLen; omega)
     refine qrf Tryd.func16 Tryd.ntmps16 Tryd.results16 ?_; conv => whnf
     repeat ((first | refine qz ?_ | refine qc (c1) ?_ | refine qc (c2) ?_); conv => whnf)
     exact y7 rfl rfl rfl
   · rw [if_neg hb]
     have c2 := qX (Bool.eq_false_iff.2 hb) (by unfold maxLen; omega) (fun e he => by have := hb2 e he; unfold maxLen; omega)
     refine qrf Tryd.func16 Tryd.ntmps16 Tryd.results16 ?_; conv => whnf
     repeat ((first | refine qz ?_ | refine qc (c1) ?_ | refine qc (c2) ?_); conv => whnf)
     exact y7 rfl rfl rfl
theorem aGh {t : ByteArray} (ht : t.size ≤ 65536) : (wu t).1.length ≤ 100000 ∧ ∀ e ∈ (wu t).1, e.key.size ≤ 65536 := by
 unfold wu
 split
 · exact ⟨by simp, fun e he => by cases he⟩
 · obtain ⟨_, hl1, hl2⟩ := kL (t := t) (c := 44)
   obtain ⟨h1, h2⟩ := aDr (N := 65536) (xY t 44) [] (fun w hw => by have := hl2 w hw; omega) (fun e he => by cases he)
   simp only [List.length_nil] at h1
   dsimp only
   split
   · exact ⟨by omega, h2⟩
   · exact ⟨by simp, fun e he => by cases he⟩
theorem aGt {t : ByteArray} (h : ¬ 65536 < t.size) : wJ t = if (wu t).2 = true then (if xU (wu t).1 = true then ((wu t).1, 0) else ([], 3)) else ([], 3) := by
 unfold wJ aAH wu
 rw [if_neg h]
 by_cases h0 : t = ⟨#[45]⟩
 · rw [if_pos h0, if_pos h0]; rfl
 · rw [if_neg h0, if_neg h0]
   dsimp only
   cases h1 : (yF (xY t 44) []).2
   · simp
   · simp
theorem aCc {t : ByteArray} (ht : t.size ≤ maxLen) : AC Tryd.prog 25 [.v (.string t)] ⟨.tup [.own 0, .v (.int .i64 (wJ t).2)], [⟨102, 3, (wJ t).1.map zu⟩]⟩ := by
 unfold maxLen at ht
 by_cases h0 : 65536 < t.size
 · rw [show wJ t = ([], 2) from if_pos h0]
   refine qrf Tryd.func25 Tryd.ntmps25 Tryd.results25 ?_; conv => whnf
   repeat ((refine qz ?_; conv => whnf))
   exact y7 rfl rfl rfl
 rw [aGt h0]
 have c1 := aEw (t := t) (by omega)
 obtain ⟨hb1, hb2⟩ := aGh (t := t) (by omega)
 generalize wu t = R at c1 hb1 hb2 ⊢
 obtain ⟨es, ok⟩ := R
 dsimp only at c1 hb1 hb2 ⊢
 cases ok
 · rw [if_neg (by simp)]
   refine qrf Tryd.func25 Tryd.ntmps25 Tryd.results25 ?_; conv => whnf
   repeat ((first | refine qz ?_ | refine qc (c1) ?_); conv => whnf)
   exact y7 rfl rfl rfl
 · rw [if_pos rfl]
   by_cases hb : xU es = true
   · rw [if_pos hb]
     have c2 := j5 hb (by unfold maxLen; omega) (fun e he => by have := hb2 e he; unfold maxLen; omega)
     refine qrf Tryd.func25 Tryd.ntmps25 Tryd.results25 ?_; conv => whnf
     repeat ((first | refine qz ?_ | refine qc (c1) ?_ | refine qc (c2) ?_); conv => whnf)
     exact y7 rfl rfl rfl
   · rw [if_neg hb]
     have c2 := j5 (Bool.eq_false_iff.2 hb) (by unfold maxLen; omega) (fun e he => by have := hb2 e he; unfold maxLen; omega)
     refine qrf Tryd.func25 Tryd.ntmps25 Tryd.results25 ?_; conv => whnf
     repeat ((first | refine qz ?_ | refine qc (c1) ?_ | refine qc (c2) ?_); conv => whnf)
     exact y7 rfl rfl rfl
theorem law_ReadMapP {t : ByteArray} (ht : t.size ≤ maxLen) : AC Tryd.prog 4 [.v (.string t)] ⟨.v (.bool true), []⟩ := aET ht (aEH ht)
theorem law_ReadEditsP {t : ByteArray} (ht : t.size ≤ maxLen) : AC Tryd.prog 6 [.v (.string t)] ⟨.v (.bool true), []⟩ := aCm ht (aCc ht)
end Go.Proofs.YtodckioppgjbdaaDoor.AM
