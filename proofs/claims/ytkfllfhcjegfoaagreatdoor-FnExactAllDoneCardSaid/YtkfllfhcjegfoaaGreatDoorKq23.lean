/- Texts of the machine over data, folded. -/
import Derived.Test.YtkfllfhcjegfoaaGreatDoorKq6
import Derived.Test.YtkfllfhcjegfoaaGreatDoorKq22
import Derived.Test.YtkfllfhcjegfoaaGreatDoorKq12
import Derived.Test.YtkfllfhcjegfoaaGreatDoorKq19
import Derived.Test.YtkfllfhcjegfoaaGreatDoorKq14
import Derived.Test.YtkfllfhcjegfoaaGreatDoorKq11
import Derived.Test.YtkfllfhcjegfoaaGreatDoorKq10
import Derived.Test.YtkfllfhcjegfoaaGreatDoorKq15
import Derived.Test.YtkfllfhcjegfoaaGreatDoorKq21
set_option linter.unusedVariables false
set_option linter.unusedSimpArgs false
set_option maxRecDepth 100000
namespace Go.Proofs.YtkfllfhcjegfoaaGreatDoor.AM
open Go Go.RowKit
theorem aK6 {cs : List Cmt} (hb : yx cs = true) : ∀ (n b : Nat), b ≤ n → 1 ≤ b → b ≤ cs.length → Anc cs b 1 := by
 intro n
 induction n with
 | zero => intro b h1 h2; omega
 | succ n ih =>
  intro b h1 h2 h3
  by_cases hb1 : b = 1
  · subst hb1; exact .refl
  · have hi : b - 1 < cs.length := by omega
    obtain ⟨_, q2, q3⟩ := aAG hb hi
    have hl : 0 < (cs[b - 1]).1.length := by
     rcases Nat.eq_zero_or_pos (cs[b - 1]).1.length with h | h
     · have := q2.1 h; omega
     · exact h
    obtain ⟨_, g1, g2, _⟩ := q3 0 hl
    have hpar : Par cs b ((cs[b - 1]).1[0]).toNat := ⟨hi, h2, by rw [Int.toNat_of_nonneg (by omega)]; exact List.getElem_mem hl⟩
    obtain ⟨k1, k2, _⟩ := hpar.lt hb
    exact hpar.anc.trans (ih _ (by omega) k1 (by omega))
def bsF (F : Nat → Bool) : Nat → Nat
 | 0 => 0
 | k + 1 => if F (k + 1) = true then k + 1 else bsF F k
theorem aMu {F : Nat → Bool} : ∀ k, bsF F k ≤ k
 | 0 => Nat.le_refl _
 | k + 1 => by unfold bsF; split; exact Nat.le_refl _; exact Nat.le_succ_of_le (aMu k)
noncomputable def jZ (cs : List Cmt) (a b : Nat) : Nat → Bool := fun k => uS cs a k && uS cs b k
noncomputable def wH (cs : List Cmt) (a b : Nat) : Nat := bsF (jZ cs a b) (min a b)
theorem aEX {cs : List Cmt} (hb : yx cs = true) {a b : Nat} (h1 : 1 ≤ a) (h2 : a ≤ cs.length) (h3 : 1 ≤ b) (h4 : b ≤ cs.length) : jZ cs a b 1 = true := by
 unfold jZ
 rw [aFD.2 (aK6 hb a a (Nat.le_refl _) h1 h2), aFD.2 (aK6 hb b b (Nat.le_refl _) h3 h4)]; rfl
theorem aPG {P : Program} {Θ : Tab} {s : St} {d : Option Tmp} {ty : TypeId} {pos : String} {after : Array Edge} {g : Option (Nat × Bool)} {x y : Operand} {ts : Array TypeId} {a b : Nat} (hx : s.ev x = .v (.int .i64 (a : Int))) (hy : s.ev y = .v (.int .i64 (b : Int))) : Pre P Θ ⟨d, .call ⟨.builtin .min, #[x, y], ts⟩, ty, pos, after, g⟩ s ⟨.v (.int .i64 ((min a b : Nat) : Int)), none⟩ := by
 refine ⟨[.int .i64 (a : Int), .int .i64 (b : Int)], .int .i64 ((min a b : Nat) : Int), by simp [hx, hy, yw], fun w => ?_, rfl, rfl⟩
 rcases Nat.lt_or_ge b a with h | h
 · rw [Nat.min_eq_right (by omega)]
   have h' : (b : Int) < a := by omega
   simp [builtin, Builtin.min_, Builtin.min2, Result.andThen, h', h]
 · rw [Nat.min_eq_left h]
   have h' : ¬ (b : Int) < a := by omega
   simp [builtin, Builtin.min_, Builtin.min2, Result.andThen, h', Nat.not_lt.2 h]
attribute [local irreducible] rng
attribute [local irreducible] xM xN xW yF yL Pre ACG
theorem aLx {cs : List Cmt} {a b : Nat} (hb : yx cs = true) (h1 : 1 ≤ a) (h2 : a ≤ cs.length) (h3 : 1 ≤ b) (h4 : b ≤ cs.length) : AC Tryz.prog 148 [.lst 2 (cs.map yI), .v (.int .i64 (a : Int)), .v (.int .i64 (b : Int))] ⟨.v (.int .i64 (wH cs a b : Int)), []⟩ := by
 obtain ⟨hl1, hl2⟩ := vX hb
 have r1 := aDr hb h1 h2
 have r2 := aDr hb h3 h4
 have hmn : min a b ≤ a := Nat.min_le_left _ _
 have hm1 : 1 ≤ min a b := by omega
 refine qrf Tryz.func148 Tryz.ntmps148 Tryz.results148 ?_; conv => whnf
 repeat ((first | refine qz ?_ | refine qdr ?_ | refine qc (r1) ?_ | refine qc (r2) ?_ | refine qp (aPG rfl rfl) ?_); conv => whnf)
 refine xX (ι := { k : Nat // 1 ≤ k ∧ k ≤ min a b ∧ bsF (jZ cs a b) k = wH cs a b }) (fun k => ⟨[(7, .own 13), (8, .own 16), (9, .v (.int .i64 (k.1 : Int)))], [(13, ⟨4, 1, rng (cs.length + 1) (uS cs a)⟩), (16, ⟨4, 1, rng (cs.length + 1) (uS cs b)⟩)]⟩) (fun k => k.1) ⟨min a b, hm1, Nat.le_refl _, rfl⟩ (by exact qle) ?_
 rintro ⟨k, k1, k2, k3⟩
 dsimp only at k1 k2 k3 ⊢
 obtain ⟨k, rfl⟩ : ∃ k', k = k' + 1 := ⟨k - 1, by omega⟩
 conv => whnf
 have hlt : k + 1 < cs.length + 1 := by omega
 have nxt : jZ cs a b (k + 1) = false → 1 ≤ k ∧ bsF (jZ cs a b) k = wH cs a b := fun h => by
  refine ⟨?_, ?_⟩
  · rcases Nat.eq_zero_or_pos k with h0 | h0
    · subst h0; rw [aEX hb h1 h2 h3 h4] at h; cases h
    · exact h0
  · rw [← k3]; simp [bsF, h]
 cases ha : uS cs a (k + 1) with
 | false =>
  have hget : (rng (cs.length + 1) (uS cs a))[k + 1]? = some (AV.v (.bool false)) := by rw [jP hlt, ha]; rfl
  obtain ⟨n1, n2⟩ := nxt (by unfold jZ; rw [ha]; rfl)
  repeat (first | (refine qp (xB (xZ (c := (k : Int)) (by omega) (by omega) (by omega)) rfl rfl rfl) ?_; conv => whnf) | (refine qz ?_; conv => whnf) | (refine qdr ?_; conv => whnf) | (refine qP (uK (j := k + 1) (by rw [aAM]; exact hlt) rfl rfl rfl rfl rfl) ?_) | (refine qp (zi rfl rfl hget rfl rfl rfl rfl) ?_; conv => whnf))
  exact ⟨⟨k, n1, by omega, n2⟩, by exact qle, by simp⟩
 | true =>
  have hget : (rng (cs.length + 1) (uS cs a))[k + 1]? = some (AV.v (.bool true)) := by rw [jP hlt, ha]; rfl
  cases hbk : uS cs b (k + 1) with
  | false =>
   have hget2 : (rng (cs.length + 1) (uS cs b))[k + 1]? = some (AV.v (.bool false)) := by rw [jP hlt, hbk]; rfl
   obtain ⟨n1, n2⟩ := nxt (by unfold jZ; rw [ha, hbk]; rfl)
   repeat (first | (refine qp (xB (xZ (c := (k : Int)) (by omega) (by omega) (by omega)) rfl rfl rfl) ?_; conv => whnf) | (refine qz ?_; conv => whnf) | (refine qdr ?_; conv => whnf) | (refine qP (uK (j := k + 1) (by rw [aAM]; exact hlt) rfl rfl rfl rfl rfl) ?_) | (refine qp (zi rfl rfl hget rfl rfl rfl rfl) ?_; conv => whnf) | (refine qp (zi rfl rfl hget2 rfl rfl rfl rfl) ?_; conv => whnf))
   exact ⟨⟨k, n1, by omega, n2⟩, by exact qle, by simp⟩
  | true =>
   have hget2 : (rng (cs.length + 1) (uS cs b))[k + 1]? = some (AV.v (.bool true)) := by rw [jP hlt, hbk]; rfl
   have hf : wH cs a b = k + 1 := by rw [← k3]; simp [bsF, jZ, ha, hbk]
   rw [hf]
   repeat (first | (refine qz ?_; conv => whnf) | (refine qdr ?_; conv => whnf) | (refine qP (uK (j := k + 1) (by rw [aAM]; exact hlt) rfl rfl rfl rfl rfl) ?_) | (refine qp (zi rfl rfl hget rfl rfl rfl rfl) ?_; conv => whnf) | (refine qp (zi rfl rfl hget2 rfl rfl rfl rfl) ?_; conv => whnf))
   exact xA rfl trivial
theorem aNk {cs : List Cmt} {a b : Nat} (hb : yx cs = true) (h1 : 1 ≤ a) (h2 : a ≤ cs.length) (h3 : 1 ≤ b) (h4 : b ≤ cs.length) : AC Tryz.prog 203 [.lst 2 (cs.map yI), .v (.int .i64 (a : Int)), .v (.int .i64 (b : Int))] ⟨.v (.int .i64 (wH cs a b : Int)), []⟩ := by
 obtain ⟨hl1, hl2⟩ := vX hb
 have n1 := aG4 hb h1 h2
 have n2 := aG4 hb h3 h4
 have r1 := aCx hb h1 h2
 have r2 := aCx hb h3 h4
 have hmn : min a b ≤ a := Nat.min_le_left _ _
 have hm1 : 1 ≤ min a b := by omega
 refine aCv aDY (by kernel_rfl) Tryz.func203 rfl Tryz.ntmps203 (rs := [.tmp 6]) (by rw [Tryz.results203]) (by kernel_rfl) (Nat.le_of_ble_eq_true rfl) rfl rfl ?_
 refine vZ (aA0 (zN (aHY rfl) rfl rfl (qR (wz ?_))))
 refine vZ (aA0 ?_)
 refine zN (kZ rfl) rfl rfl (zN (kZ rfl) rfl rfl ?_)
 refine qC (n1) ?_
 refine qC (r1) ?_
 refine zN (kZ rfl) rfl rfl (zN (kZ rfl) rfl rfl ?_)
 refine qC (n2) ?_
 refine qC (r2) ?_
 refine yA rfl rfl (aFB rfl) (fun e => by cases e) (yA rfl rfl (aFB rfl) (fun e => by cases e) ?_)
 refine yA rfl rfl (aLn rfl rfl rfl) (fun e => by cases e) (yA rfl rfl (aLn rfl rfl rfl) (fun e => by cases e) (qR (wz ?_)))
 refine xI _ _ _ ?_
 conv => whnf
 repeat ((first | refine qz ?_ | refine qdr ?_ | refine qp (aPG rfl rfl) ?_); conv => whnf)
 refine xX (ι := { k : Nat // 1 ≤ k ∧ k ≤ min a b ∧ bsF (jZ cs a b) k = wH cs a b }) (fun k => ⟨[(7, .optr 8 0 [] 0), (8, .optr 9 0 [] 0), (9, .v (.int .i64 (k.1 : Int)))], [(8, ⟨.s 283, 61, [.agg (rng 61 (uS cs a))]⟩), (9, ⟨.s 283, 61, [.agg (rng 61 (uS cs b))]⟩)]⟩) (fun k => k.1) ⟨min a b, hm1, Nat.le_refl _, rfl⟩ (by exact qle) ?_
 rintro ⟨k, k1, k2, k3⟩
 dsimp only at k1 k2 k3 ⊢
 obtain ⟨k, rfl⟩ : ∃ k', k = k' + 1 := ⟨k - 1, by omega⟩
 conv => whnf
 have h61 : k + 1 < 61 := by omega
 have nxt : jZ cs a b (k + 1) = false → 1 ≤ k ∧ bsF (jZ cs a b) k = wH cs a b := fun h => by
  refine ⟨?_, ?_⟩
  · rcases Nat.eq_zero_or_pos k with h0 | h0
    · subst h0; rw [aEX hb h1 h2 h3 h4] at h; cases h
    · exact h0
  · rw [← k3]; simp [bsF, h]
 cases ha : uS cs a (k + 1) with
 | false =>
  have hget : xq (.agg (rng 61 (uS cs a))) [k + 1] 0 = some (AV.v (.bool false), 0 + (k + 1) * 1) := by rw [aAU h61, ha]; rfl
  obtain ⟨n1, n2⟩ := nxt (by unfold jZ; rw [ha]; rfl)
  repeat (first | (refine qp (xB (xZ (c := (k : Int)) (by omega) (by omega) (by omega)) rfl rfl rfl) ?_; conv => whnf) | (refine qz ?_; conv => whnf) | (refine qdr ?_; conv => whnf) | (refine qP (aCr h61 rfl rfl rfl) ?_) | (refine qp (zi rfl rfl rfl hget rfl rfl rfl) ?_; conv => whnf))
  exact ⟨⟨k, n1, by omega, n2⟩, by exact qle, by simp⟩
 | true =>
  have hget : xq (.agg (rng 61 (uS cs a))) [k + 1] 0 = some (AV.v (.bool true), 0 + (k + 1) * 1) := by rw [aAU h61, ha]; rfl
  cases hbk : uS cs b (k + 1) with
  | false =>
   have hget2 : xq (.agg (rng 61 (uS cs b))) [k + 1] 0 = some (AV.v (.bool false), 0 + (k + 1) * 1) := by rw [aAU h61, hbk]; rfl
   obtain ⟨n1, n2⟩ := nxt (by unfold jZ; rw [ha, hbk]; rfl)
   repeat (first | (refine qp (xB (xZ (c := (k : Int)) (by omega) (by omega) (by omega)) rfl rfl rfl) ?_; conv => whnf) | (refine qz ?_; conv => whnf) | (refine qdr ?_; conv => whnf) | (refine qP (aCr h61 rfl rfl rfl) ?_) | (refine qp (zi rfl rfl rfl hget rfl rfl rfl) ?_; conv => whnf) | (refine qp (zi rfl rfl rfl hget2 rfl rfl rfl) ?_; conv => whnf))
   exact ⟨⟨k, n1, by omega, n2⟩, by exact qle, by simp⟩
  | true =>
   have hget2 : xq (.agg (rng 61 (uS cs b))) [k + 1] 0 = some (AV.v (.bool true), 0 + (k + 1) * 1) := by rw [aAU h61, hbk]; rfl
   have hf : wH cs a b = k + 1 := by rw [← k3]; simp [bsF, jZ, ha, hbk]
   rw [hf]
   repeat (first | (refine qz ?_; conv => whnf) | (refine qdr ?_; conv => whnf) | (refine qP (aCr h61 rfl rfl rfl) ?_) | (refine qp (zi rfl rfl rfl hget rfl rfl rfl) ?_; conv => whnf) | (refine qp (zi rfl rfl rfl hget2 rfl rfl rfl) ?_; conv => whnf))
   exact xA rfl trivial
end Go.Proofs.YtkfllfhcjegfoaaGreatDoor.AM
namespace Go.Proofs.YtkfllfhcjegfoaaGreatDoor
def vw (m : List Ent) (e : Edt) : List Ent := if e.gone then kM m e.key else za m e.key e.val
def yT (es : List Ent) (xs : List Edt) : List Ent := xs.foldl vw es
theorem aDn (es : List Ent) (xs : List Edt) (k : Nat) (h : k < xs.length) : yT es (xs.take (k + 1)) = vw (yT es (xs.take k)) xs[k] := by
 rw [yT, List.take_succ_eq_append_getElem h, List.foldl_append]; rfl
theorem aDq (es : List Ent) (xs : List Edt) (k : Nat) (h : k < xs.length) (hg : xs[k].gone = true) : yT es (xs.take (k + 1)) = kM (yT es (xs.take k)) xs[k].key := by
 rw [aDn es xs k h, vw, hg]; rfl
theorem aFH (es : List Ent) (xs : List Edt) (k : Nat) (h : k < xs.length) (hg : xs[k].gone = false) : yT es (xs.take (k + 1)) = za (yT es (xs.take k)) xs[k].key xs[k].val := by
 rw [aDn es xs k h, vw, hg]; rfl
theorem aJc (es : List Ent) (k : ByteArray) (v : Int) : (za es k v).length ≤ es.length + 1 := by
 have h1 : es.length = (es.takeWhile fun e => klt e.1 k).length + (es.dropWhile fun e => klt e.1 k).length := by
  rw [← List.length_append, List.takeWhile_append_dropWhile]
 rw [za, List.length_append, List.length_cons]
 exact Nat.le_trans (Nat.add_le_add_left (Nat.succ_le_succ (List.length_filter_le _ _)) _) (by omega)
theorem aJk (es : List Ent) (k : ByteArray) : (kM es k).length ≤ es.length := List.length_filter_le _ _
theorem wm (es : List Ent) (xs : List Edt) : (yT es xs).length ≤ es.length + xs.length := by
 induction xs generalizing es with
 | nil => exact Nat.le_refl _
 | cons x r ih =>
  have h := ih (vw es x)
  have h1 : (vw es x).length ≤ es.length + 1 := by
   unfold vw
   split
   · have := aJk es x.key; omega
   · exact aJc _ _ _
  show (yT (vw es x) r).length ≤ es.length + (r.length + 1)
  omega
theorem aH1 (e : Ent) (r : List Ent) (k : ByteArray) (v : Int) (h : klt e.1 k = true) : za (e :: r) k v = e :: za r k v := by simp [za, h]
theorem aHe (e : Ent) (r : List Ent) (k : ByteArray) (v : Int) (h : klt e.1 k = false) : za (e :: r) k v = (k, v) :: (e :: r).filter (fun e => decide (e.1 ≠ k)) := by
 rw [za, List.takeWhile_cons_of_neg (by simp [h]), List.dropWhile_cons_of_neg (by simp [h])]; rfl
theorem aOm {es : List Ent} {k : ByteArray} {v : Int} {x : Ent} (h : x ∈ za es k v) : x = (k, v) ∨ x ∈ es := by
 rw [za, List.mem_append, List.mem_cons] at h
 rcases h with h | h | h
 · exact .inr ((List.takeWhile_sublist _).mem h)
 · exact .inl h
 · exact .inr ((List.dropWhile_sublist _).mem (List.mem_filter.1 h).1)
theorem aOi {es : List Ent} (h : Srt es) (k : ByteArray) (v : Int) : Srt (za es k v) := by
 induction es with
 | nil => simp [za, Srt]
 | cons e r ih =>
  rw [Srt, List.pairwise_cons] at h
  cases hk : klt e.1 k with
  | true =>
   rw [aH1 e r k v hk, Srt, List.pairwise_cons]
   refine ⟨fun x hx => ?_, ih h.2⟩
   rcases aOm hx with rfl | hx
   · exact hk
   · exact h.1 x hx
  | false =>
   rw [aHe e r k v hk, Srt, List.pairwise_cons]
   refine ⟨fun x hx => ?_, (List.pairwise_cons.2 h).filter _⟩
   rw [List.mem_filter, List.mem_cons] at hx
   obtain ⟨hx, hne⟩ := hx
   rcases hx with rfl | hx
   · exact aBD hk (by simpa using hne)
   · exact aNq hk (h.1 x hx)
theorem aOd {es : List Ent} (h : Srt es) (k : ByteArray) : Srt (kM es k) := List.Pairwise.filter _ h
theorem aFg {es : List Ent} (h : Srt es) (xs : List Edt) : Srt (yT es xs) := by
 induction xs generalizing es with
 | nil => exact h
 | cons x r ih =>
  refine ih (es := vw es x) ?_
  unfold vw
  split
  · exact aOd h _
  · exact aOi h _ _
theorem mapOK_le {es : List Ent} (h : zC es = true) : es.length ≤ 12 := by
 rcases Nat.lt_or_ge 12 es.length with h2 | h2
 · rw [aAo h2] at h; cases h
 · exact h2
theorem editsOK_le {es : List Edt} (h : xw es = true) : es.length ≤ 6 := by
 rcases Nat.lt_or_ge 6 es.length with h2 | h2
 · rw [aBJ h2] at h; cases h
 · exact h2
end Go.Proofs.YtkfllfhcjegfoaaGreatDoor
namespace Go.Proofs.YtkfllfhcjegfoaaGreatDoor.AM
open Go Go.RowKit
attribute [local irreducible] xM xN xW yF yL Pre ACG
theorem aBk {es : List Ent} {xs : List Edt} (hm : es.length + xs.length ≤ 4000) : AC Tryz.prog 152 [.lst 2 (es.map xP), .lst 3 (xs.map xg)] ⟨.own 0, [⟨167, 2, (yT es xs).map xP⟩]⟩ := by
 refine qrf Tryz.func152 Tryz.ntmps152 Tryz.results152 ?_; conv => whnf
 refine qr (aQN (f := xP) (xs := ([] : List Ent)) (ys := es) (by simp; omega) rfl rfl rfl rfl rfl rfl) ?_
 conv => whnf
 refine xX (ι := { k : Nat // k ≤ xs.length }) (fun k => ⟨[(0, .own 7), (1, .lst 3 (xs.map xg)), (5, .v (.int .i64 (k.1 : Int)))], [(7, ⟨167, 2, (yT es (xs.take k.1)).map xP⟩)]⟩) (fun k => xs.length - k.1) ⟨0, Nat.zero_le _⟩ (by exact qle) ?_
 rintro ⟨k, hk⟩
 dsimp only
 conv => whnf
 have hlL := wm es (xs.take k)
 rw [List.length_take] at hlL
 by_cases hlt : k < xs.length
 · have hg1 := aDq es xs k hlt
   have hg2 := aFH es xs k hlt
   cases hg : xs[k].gone with
   | true =>
    repeat ((refine qz ?_; conv => whnf))
    rw [hg]
    conv => whnf
    repeat ((refine qz ?_; conv => whnf))
    refine qC (aIo (es := yT es (xs.take k)) (k := xs[k].key) (by omega)) ?_
    refine qr (aHT 7 rfl rfl rfl) ?_; conv => whnf
    rw [← hg1 hg]
    repeat ((refine qz ?_; conv => whnf))
    exact ⟨⟨k + 1, hlt⟩, by exact qle, by simp; omega⟩
   | false =>
    repeat ((refine qz ?_; conv => whnf))
    rw [hg]
    conv => whnf
    refine .inl ⟨by kernel_rfl, ?_⟩
    conv => whnf
    repeat ((refine qz ?_; conv => whnf))
    refine qC (aNT (es := yT es (xs.take k)) (k := xs[k].key) (v := xs[k].val) (by omega)) ?_
    refine qr (aHT 7 rfl rfl rfl) ?_; conv => whnf
    rw [← hg2 hg]
    repeat ((refine qz ?_; conv => whnf))
    exact ⟨⟨k + 1, hlt⟩, by exact qle, by simp; omega⟩
 · have hkk : k = xs.length := by omega
   subst hkk
   repeat ((refine qz ?_; conv => whnf))
   exact kD rfl (by show some (OB.mk _ _ _) = _; rw [List.take_length])
def vM (es : List Edt) (k : ByteArray) : Option Edt := es.find? fun e => decide (e.key = k)
def zE : Edt := ⟨ByteArray.empty, 0, false⟩
theorem aCU {es : List Edt} {k : ByteArray} {o : Option Edt} (ho : vM es k = o) (hm : es.length ≤ 1048576) : AC Tryz.prog 165 [.lst 3 (es.map xg), .v (.string k)] ⟨.tup [xg (o.getD zE), .v (.bool o.isSome)], []⟩ := by
 refine qrf Tryz.func165 Tryz.ntmps165 Tryz.results165 ?_; conv => whnf
 refine xX (ι := { i : Nat // i ≤ es.length ∧ vM (es.drop i) k = o }) (fun i => ⟨[(0, .lst 3 (es.map xg)), (1, .v (.string k)), (4, .optr 5 0 [] 0), (6, .v (.int .i64 (i.1 : Int)))], [(5, ⟨191, 3, [xg zE]⟩)]⟩) (fun i => es.length - i.1) ⟨0, Nat.zero_le _, ho⟩ (by exact qle) ?_
 rintro ⟨i, hi, hf⟩
 dsimp only
 conv => whnf
 by_cases hlt : i < es.length
 · rw [List.drop_eq_getElem_cons hlt, vM, List.find?_cons] at hf
   by_cases hk : es[i].key = k
   · simp only [hk, decide_true] at hf
     subst hf
     repeat (first | (refine qz ?_; conv => whnf) | (refine qp (xB (yJ hk) rfl rfl rfl) ?_; conv => whnf) | (refine qr (xS rfl rfl rfl rfl rfl (by conv => lhs; whnf) rfl) ?_; conv => whnf))
     trace_state
     exact aKQ rfl rfl rfl rfl trivial rfl
   · simp only [hk, decide_false] at hf
     repeat ((first | refine qz ?_ | refine qp (xB (yo hk) rfl rfl rfl) ?_); conv => whnf)
     exact ⟨⟨i + 1, hlt, hf⟩, by exact qle, by simp; omega⟩
 · have hkk : i = es.length := by omega
   subst hkk
   rw [List.drop_length] at hf
   have hf' : o = none := hf.symm
   subst hf'
   repeat (first | (refine qz ?_; conv => whnf) | (refine qr (xS rfl rfl rfl rfl rfl (by conv => lhs; whnf) rfl) ?_; conv => whnf))
   exact aKQ rfl rfl rfl rfl trivial rfl
def kE (l : List Edt) (e : Edt) : Bool := (vM l e.key).isNone
def uJ (l : List Edt) (e : Edt) : Bool := match vM l e.key with | none => false | some x => decide (x ≠ e)
def zW (l r : List Edt) : List Edt := r.filter (kE l)
def uV (l r : List Edt) : List ByteArray := aDZ (r.filter (uJ l))
theorem aF3 (l r : List Edt) (k : Nat) (h : k < r.length) : zW l (r.take (k + 1)) = if kE l r[k] then zW l (r.take k) ++ [r[k]] else zW l (r.take k) := by
 unfold zW
 rw [List.take_succ_eq_append_getElem h, List.filter_append]
 by_cases c : kE l r[k] <;> simp [List.filter_cons, c]
theorem aEL (l r : List Edt) (k : Nat) (h : k < r.length) : uV l (r.take (k + 1)) = if uJ l r[k] then uV l (r.take k) ++ [r[k].key] else uV l (r.take k) := by
 unfold uV
 rw [List.take_succ_eq_append_getElem h, List.filter_append]
 by_cases c : uJ l r[k] <;> simp [List.filter_cons, c, aDZ]
theorem ko (l r : List Edt) : (zW l r).length ≤ r.length := List.length_filter_le _ _
theorem aAi (l r : List Edt) : (uV l r).length ≤ r.length := by unfold uV; rw [aIr]; exact List.length_filter_le _ _
def jD (base a b : List Ent) : List Ent := yT a (zW (yM base a) (yM base b))
def kY (base a b : List Ent) : List ByteArray := uV (yM base a) (yM base b)
theorem aEH {base a b : List Ent} (h0 : base.length ≤ 500) (h1 : a.length ≤ 500) (h2 : b.length ≤ 500) : AC Tryz.prog 151 [.lst 2 (base.map xP), .lst 2 (a.map xP), .lst 2 (b.map xP)] ⟨.tup [.own 0, .own 1], [⟨167, 2, (jD base a b).map xP⟩, ⟨9, 1, (kY base a b).map strA⟩]⟩ := by
 have d1 := jw base a
 have d2 := jw base b
 unfold jD kY
 refine qrf Tryz.func151 Tryz.ntmps151 Tryz.results151 ?_; conv => whnf
 repeat ((first | refine qz ?_ | refine qc (aF0 (es := base) (es' := a) (by omega) (by omega)) ?_ | refine qc (aF0 (es := base) (es' := b) (by omega) (by omega)) ?_); conv => whnf)
 generalize yM base a = L at *
 generalize yM base b = R at *
 refine xX (ι := { k : Nat // k ≤ R.length }) (fun k => ⟨[(1, .lst 2 (a.map xP)), (8, .lst 3 (L.map xg)), (9, .lst 3 (R.map xg)), (10, .own 22), (11, .own 23), (12, .v (.int .i64 (k.1 : Int)))], [(22, ⟨9, 1, (uV L (R.take k.1)).map strA⟩), (23, ⟨191, 3, (zW L (R.take k.1)).map xg⟩)]⟩) (fun k => R.length - k.1) ⟨0, Nat.zero_le _⟩ (by exact qle) ?_
 rintro ⟨k, hk⟩
 dsimp only
 conv => whnf
 by_cases hlt : k < R.length
 · have ht := aF3 L R k hlt
   have hc := aEL L R k hlt
   have lt := ko L (R.take k)
   have lc := aAi L (R.take k)
   rw [List.length_take] at lt lc
   cases hf : vM L R[k].key with
   | none =>
    have t1 : kE L R[k] = true := by unfold kE; rw [hf]; rfl
    have c1 : uJ L R[k] = false := by unfold uJ; rw [hf]
    rw [if_pos t1] at ht
    rw [c1, if_neg (by simp)] at hc
    repeat (first | (refine qz ?_; conv => whnf) | (refine qc (aCU hf (by omega)) ?_; conv => whnf) | (refine qr (xS rfl rfl rfl rfl rfl (by conv => lhs; whnf) rfl) ?_; conv => whnf) | (refine qr (aBu _ _ ht.symm (by omega) rfl rfl rfl rfl rfl rfl rfl) ?_; conv => whnf))
    rw [← hc]
    exact ⟨⟨k + 1, hlt⟩, by exact qle, by simp; omega⟩
   | some x =>
    have t1 : kE L R[k] = false := by unfold kE; rw [hf]; rfl
    rw [t1, if_neg (by simp)] at ht
    by_cases hx : x = R[k]
    · have c1 : uJ L R[k] = false := by unfold uJ; rw [hf]; simp [hx]
      rw [c1, if_neg (by simp)] at hc
      have hb := @aAE x R[k]
      repeat (first | (refine qz ?_; conv => whnf) | (refine qc (aCU hf (by omega)) ?_; conv => whnf) | (refine qr (xS rfl rfl rfl rfl rfl (by conv => lhs; whnf) rfl) ?_; conv => whnf) | (refine .inl ⟨by kernel_rfl, ?_⟩; conv => whnf) | (refine qp (aCD (aAE (a := x) (b := R[k]) (r := false) (by simp [hx])) rfl rfl rfl) ?_; conv => whnf))
      rw [← ht, ← hc]
      exact ⟨⟨k + 1, hlt⟩, by exact qle, by simp; omega⟩
    · have c1 : uJ L R[k] = true := by unfold uJ; rw [hf]; simp [hx]
      rw [if_pos c1] at hc
      repeat (first | (refine qz ?_; conv => whnf) | (refine qc (aCU hf (by omega)) ?_; conv => whnf) | (refine qr (xS rfl rfl rfl rfl rfl (by conv => lhs; whnf) rfl) ?_; conv => whnf) | (refine .inl ⟨by kernel_rfl, ?_⟩; conv => whnf) | (refine qp (aCD (aAE (a := x) (b := R[k]) (r := true) (by simp [hx])) rfl rfl rfl) ?_; conv => whnf) | (refine qr (aBu _ _ hc.symm (by omega) rfl rfl rfl rfl rfl rfl rfl) ?_; conv => whnf))
      rw [← ht]
      exact ⟨⟨k + 1, hlt⟩, by exact qle, by simp; omega⟩
 · have hkk : k = R.length := by omega
   subst hkk
   rw [List.take_length]
   have lt := ko L R
   repeat ((first | refine qz ?_ | refine qc (aBk (es := a) (xs := zW L R) (by omega)) ?_); conv => whnf)
   exact aKB rfl rfl rfl rfl rfl
end Go.Proofs.YtkfllfhcjegfoaaGreatDoor.AM
namespace Go.Proofs.YtkfllfhcjegfoaaGreatDoor.AM
open Go Go.RowKit
def jX (es : List Edt) : Prop := es.Pairwise fun a b => klt a.key b.key = true
theorem aBT (k : ByteArray) : ∀ (f : Nat) (a b : List Ent), (∀ x ∈ a, klt k x.1 = true) → (∀ y ∈ b, klt k y.1 = true) → ∀ e ∈ yR f a b, klt k e.key = true := by
 intro f
 induction f with
 | zero => intro a b _ _ e he; simp [yR] at he
 | succ f ih =>
  intro a b ha hb e he
  match a, b with
  | [], [] => simp [yR] at he
  | x :: a, [] =>
   rw [yR] at he
   rcases List.mem_cons.1 he with rfl | he
   · exact ha x (by simp)
   · exact ih a [] (fun y hy => ha y (by simp [hy])) hb e he
  | [], y :: b =>
   rw [yR] at he
   rcases List.mem_cons.1 he with rfl | he
   · exact hb y (by simp)
   · exact ih [] b ha (fun z hz => hb z (by simp [hz])) e he
  | x :: a, y :: b =>
   rw [yR] at he
   have ha' : ∀ z ∈ a, klt k z.1 = true := fun z hz => ha z (by simp [hz])
   have hb' : ∀ z ∈ b, klt k z.1 = true := fun z hz => hb z (by simp [hz])
   split at he
   · rcases List.mem_cons.1 he with rfl | he
     · exact ha x (by simp)
     · exact ih a (y :: b) ha' hb e he
   · split at he
     · rcases List.mem_cons.1 he with rfl | he
       · exact hb y (by simp)
       · exact ih (x :: a) b ha hb' e he
     · rcases List.mem_append.1 he with he | he
       · split at he
         · cases he
         · rcases List.mem_singleton.1 he with rfl
           exact hb y (by simp)
       · exact ih a b ha' hb' e he
theorem aMZ : ∀ (f : Nat) (a b : List Ent), Srt a → Srt b → jX (yR f a b) := by
 intro f
 induction f with
 | zero => intro a b _ _; exact List.Pairwise.nil
 | succ f ih =>
  intro a b ha hb
  match a, b with
  | [], [] => exact List.Pairwise.nil
  | x :: a, [] =>
   rw [yR]
   have h := List.pairwise_cons.1 ha
   exact List.pairwise_cons.2 ⟨aBT _ _ _ _ h.1 (by simp), ih a [] h.2 hb⟩
  | [], y :: b =>
   rw [yR]
   have h := List.pairwise_cons.1 hb
   exact List.pairwise_cons.2 ⟨aBT _ _ _ _ (by simp) h.1, ih [] b ha h.2⟩
  | x :: a, y :: b =>
   rw [yR]
   have h := List.pairwise_cons.1 ha
   have h' := List.pairwise_cons.1 hb
   split
   · rename_i hxy
     refine List.pairwise_cons.2 ⟨aBT _ _ _ _ h.1 (fun z hz => ?_), ih a (y :: b) h.2 hb⟩
     rcases List.mem_cons.1 hz with rfl | hz
     · exact hxy
     · exact jE hxy (h'.1 z hz)
   · split
     · rename_i hyx
       refine List.pairwise_cons.2 ⟨aBT _ _ _ _ (fun z hz => ?_) h'.1, ih (x :: a) b ha h'.2⟩
       rcases List.mem_cons.1 hz with rfl | hz
       · exact hyx
       · exact jE hyx (h.1 z hz)
     · rename_i hxy hyx
       have he : x.1 = y.1 := Classical.byContradiction fun hne => by
        have := aBD (by simpa using hxy) hne
        exact hyx this
       split
       · exact ih a b h.2 h'.2
       · refine List.pairwise_cons.2 ⟨aBT _ _ _ _ (fun z hz => ?_) h'.1, ih a b h.2 h'.2⟩
         show klt y.1 z.1 = true
         rw [← he]; exact h.1 z hz
theorem aHB {a b : List Ent} (ha : Srt a) (hb : Srt b) : jX (yM a b) := aMZ _ _ _ ha hb
theorem aG5 : ∀ (l1 l2 : List ByteArray), l1.Pairwise (fun a b => klt a b = true) → l2.Pairwise (fun a b => klt a b = true) → (∀ x, x ∈ l1 ↔ x ∈ l2) → l1 = l2
 | [], [], _, _, _ => rfl
 | [], b :: l2, _, _, h => by have := (h b).2 (by simp); cases this
 | a :: l1, [], _, _, h => by have := (h a).1 (by simp); cases this
 | a :: l1, b :: l2, h1, h2, h => by
  obtain ⟨p1, q1⟩ := List.pairwise_cons.1 h1
  obtain ⟨p2, q2⟩ := List.pairwise_cons.1 h2
  have hab : a = b := by
   rcases List.mem_cons.1 ((h a).1 (by simp)) with e | e
   · exact e
   · rcases List.mem_cons.1 ((h b).2 (by simp)) with e' | e'
     · exact e'.symm
     · have := aCy (p2 a e); rw [p1 b e'] at this; cases this
  subst hab
  refine congrArg _ (aG5 l1 l2 q1 q2 fun x => ⟨fun hx => ?_, fun hx => ?_⟩)
  · rcases List.mem_cons.1 ((h x).1 (by simp [hx])) with rfl | e
    · have := p1 x hx; rw [wW] at this; cases this
    · exact e
  · rcases List.mem_cons.1 ((h x).2 (by simp [hx])) with rfl | e
    · have := p2 x hx; rw [wW] at this; cases this
    · exact e
theorem aE3 {es : List Edt} {k : ByteArray} {x : Edt} (h : vM es k = some x) : x ∈ es ∧ x.key = k := by
 refine ⟨List.mem_of_find?_eq_some h, ?_⟩
 have := List.find?_some h
 simpa using this
theorem aCF {es : List Edt} (hs : jX es) {x : Edt} (h : x ∈ es) : vM es x.key = some x := by
 induction es with
 | nil => cases h
 | cons e es ih =>
  obtain ⟨p, q⟩ := List.pairwise_cons.1 hs
  rcases List.mem_cons.1 h with rfl | h
  · simp [vM]
  · have hne : ¬ e.key = x.key := jB (p x h)
    rw [vM, List.find?_cons]
    simp only [hne, decide_false]
    exact ih q h
theorem aG6 {es : List Edt} {k : ByteArray} (h : vM es k = none) : ∀ e ∈ es, e.key ≠ k := fun e he hk => by
 have := List.find?_eq_none.1 h e he
 simp [hk] at this
theorem aGc {l r : List Edt} (hl : jX l) {k : ByteArray} : k ∈ uV l r ↔ ∃ e ∈ r, ∃ x ∈ l, e.key = k ∧ x.key = k ∧ x ≠ e := by
 unfold uV aDZ
 simp only [List.mem_map, List.mem_filter]
 constructor
 · rintro ⟨e, ⟨he, hc⟩, rfl⟩
   unfold uJ at hc
   split at hc
   · cases hc
   · rename_i x hx
     obtain ⟨h1, h2⟩ := aE3 hx
     exact ⟨e, he, x, h1, rfl, h2, by simpa using hc⟩
 · rintro ⟨e, he, x, hx, rfl, hk, hne⟩
   refine ⟨e, ⟨he, ?_⟩, rfl⟩
   unfold uJ
   rw [← hk, aCF hl hx]
   simpa using hne
theorem aG7 {l r : List Edt} (hr : jX r) : (uV l r).Pairwise (fun a b => klt a b = true) := by
 unfold uV aDZ
 rw [List.pairwise_map]
 exact List.Pairwise.filter _ hr
theorem aLm {l r : List Edt} (hl : jX l) (hr : jX r) : uV l r = uV r l :=
 aG5 _ _ (aG7 hr) (aG7 hl) fun k => by
  rw [aGc hl, aGc hr]
  constructor
  · rintro ⟨e, he, x, hx, h1, h2, h3⟩; exact ⟨x, hx, e, he, h2, h1, fun h => h3 h.symm⟩
  · rintro ⟨e, he, x, hx, h1, h2, h3⟩; exact ⟨x, hx, e, he, h2, h1, fun h => h3 h.symm⟩
attribute [local irreducible] xM xN xW yF yL Pre ACG
def kP (m : List Ent) (c : List ByteArray) : List Ent × List ByteArray × Int :=
 if 0 < c.length then ([], c, 11) else if 12 < m.length then ([], [], 7) else (m, [], 0)
theorem aEv {m : List Ent} {c : List ByteArray} (h0 : m.length ≤ 4000) (h1 : c.length ≤ 4000) : AC Tryz.prog 150 [.lst 2 (m.map xP), .lst 1 (c.map strA)] ⟨.tup [.lst 2 ((kP m c).1.map xP), .lst 1 ((kP m c).2.1.map strA), .v (.int .i64 (kP m c).2.2)], []⟩ := by
 unfold kP
 refine qrf Tryz.func150 Tryz.ntmps150 Tryz.results150 ?_; conv => whnf
 by_cases hc : 0 < c.length
 · rw [if_pos hc]
   repeat ((refine qz ?_; conv => whnf))
   exact aIU (aDB rfl rfl) (aFz rfl trivial) (aFz rfl trivial)
 · rw [if_neg hc]
   by_cases hm : 12 < m.length
   · rw [if_pos hm]
     repeat ((refine qz ?_; conv => whnf))
     exact aIU (aDB rfl rfl) (aDB rfl rfl) (aFz rfl trivial)
   · rw [if_neg hm]
     repeat ((refine qz ?_; conv => whnf))
     exact aIU (aFz rfl trivial) (aDB rfl rfl) (aFz rfl trivial)
theorem mapOK_le {es : List Ent} (h : zC es = true) : es.length ≤ 12 := by
 rcases Nat.lt_or_ge 12 es.length with h' | h'
 · rw [aAo h'] at h; cases h
 · exact h'
theorem aDu (base a b : List Ent) : (jD base a b).length ≤ a.length + (base.length + b.length) := by
 have h1 := wm a (zW (yM base a) (yM base b))
 have h2 := ko (yM base a) (yM base b)
 have h3 := jw base b
 unfold jD; omega
theorem aBt (base a b : List Ent) : (kY base a b).length ≤ base.length + b.length := by
 have h2 := aAi (yM base a) (yM base b)
 have h3 := jw base b
 unfold kY; omega
theorem editsOK_le {es : List Edt} (h : xw es = true) : es.length ≤ 6 := by
 unfold xw at h
 simp only [Bool.and_eq_true, decide_eq_true_eq] at h
 exact h.1
def aQd : Prop := ∀ l r : List Edt, jX l → jX r → l.length ≤ 4000 → r.length ≤ 4000 → AC Tryz.prog 198 [.lst 3 (l.map xg), .lst 3 (r.map xg)] ⟨.tup [.own 0, .own 1], [⟨191, 3, (zW l r).map xg⟩, ⟨9, 1, (uV l r).map strA⟩]⟩
theorem aDJ {es : List Ent} {xs : List Edt} (hs : Srt es) (hm : es.length + xs.length ≤ 4000) : AC Tryz.prog 193 [.lst 2 (es.map xP), .lst 3 (xs.map xg)] ⟨.own 0, [⟨167, 2, (yT es xs).map xP⟩]⟩ := by
 have h0 : ((es.drop 0).take (es.length - 0)).map xP = (yT es (xs.take 0)).map xP := by
  show _ = es.map xP
  rw [List.drop_zero, Nat.sub_zero, List.take_length]
 refine qrf Tryz.func193 Tryz.ntmps193 Tryz.results193 ?_; conv => whnf
 repeat ((first | refine qz ?_ | refine qc (aPx (es := es) (a := 0) (b := es.length) (by omega) (by omega) (by omega)) ?_); conv => whnf)
 refine xX (ι := { k : Nat // k ≤ xs.length }) (fun k => ⟨[(5, .own 12), (12, .lst 3 (xs.map xg)), (13, .v (.int .i64 (xs.length : Int))), (14, .v (.int .i64 (k.1 : Int)))], [(12, ⟨167, 2, (yT es (xs.take k.1)).map xP⟩)]⟩) (fun k => xs.length - k.1) ⟨0, Nat.zero_le _⟩ ⟨⟨congrArg (fun x => some (OB.mk _ _ x)) h0, trivial⟩, .inl ⟨rfl, rfl⟩, .inl ⟨rfl, rfl⟩, .inl ⟨rfl, rfl⟩, .inl ⟨rfl, rfl⟩, trivial⟩ ?_
 rintro ⟨k, hk⟩
 dsimp only
 conv => whnf
 have hlL := wm es (xs.take k)
 have hsrt := aFg hs (xs.take k)
 rw [List.length_take] at hlL
 by_cases hlt : k < xs.length
 · have hg1 := aDq es xs k hlt
   have hg2 := aFH es xs k hlt
   repeat (first | (refine qz ?_; conv => whnf) | (refine qr (xS rfl rfl rfl rfl rfl (by conv => lhs; whnf) rfl) ?_; conv => whnf))
   cases hg : xs[k].gone with
   | true =>
    conv => whnf
    refine qC (aLA (es := yT es (xs.take k)) (k := xs[k].key) hsrt (by omega)) ?_
    refine qr (aHT 12 rfl rfl rfl) ?_; conv => whnf
    rw [← hg1 hg]
    repeat ((refine qz ?_; conv => whnf))
    exact ⟨⟨k + 1, hlt⟩, by exact qle, by simp; omega⟩
   | false =>
    conv => whnf
    refine qC (aQE (es := yT es (xs.take k)) (k := xs[k].key) (v := xs[k].val) hsrt (by omega)) ?_
    refine qr (aHT 12 rfl rfl rfl) ?_; conv => whnf
    rw [← hg2 hg]
    repeat ((refine qz ?_; conv => whnf))
    exact ⟨⟨k + 1, hlt⟩, by exact qle, by simp; omega⟩
 · have hkk : k = xs.length := by omega
   subst hkk
   repeat ((refine qz ?_; conv => whnf))
   exact kD rfl (by show some (OB.mk _ _ _) = _; rw [List.take_length])
theorem aMr (hcc : aQd) {base a b : List Ent} (s0 : Srt base) (s1 : Srt a) (s2 : Srt b) (h0 : base.length ≤ 500) (h1 : a.length ≤ 500) (h2 : b.length ≤ 500) : AC Tryz.prog 194 [.lst 2 (base.map xP), .lst 2 (a.map xP), .lst 2 (b.map xP)] ⟨.tup [.own 0, .own 1, .v (.int .i64 (kP (jD base a b) (kY base a b)).2.2)], [⟨167, 2, (kP (jD base a b) (kY base a b)).1.map xP⟩, ⟨9, 1, (kP (jD base a b) (kY base a b)).2.1.map strA⟩]⟩ := by
 have d1 := jw base a
 have d2 := jw base b
 have e1 := ko (yM base a) (yM base b)
 have hC := hcc (yM base a) (yM base b) (aHB s0 s1) (aHB s0 s2) (by omega) (by omega)
 have hE := aDJ (es := a) (xs := zW (yM base a) (yM base b)) s1 (by omega)
 have hm : jD base a b = yT a (zW (yM base a) (yM base b)) := rfl
 have hc : kY base a b = uV (yM base a) (yM base b) := rfl
 rw [← hm] at hE
 rw [← hc] at hC
 unfold kP
 refine qrf Tryz.func194 Tryz.ntmps194 Tryz.results194 ?_; conv => whnf
 by_cases c0 : 0 < (kY base a b).length
 · rw [if_pos c0]
   repeat ((first | refine qz ?_ | refine qc (vJ (es := base) (es' := a) (by omega) (by omega)) ?_ | refine qc (vJ (es := base) (es' := b) (by omega) (by omega)) ?_ | refine qc (hC) ?_); conv => whnf)
   exact aE1 rfl rfl rfl rfl rfl rfl
 · rw [if_neg c0]
   by_cases c1 : 12 < (jD base a b).length
   · rw [if_pos c1]
     repeat ((first | refine qz ?_ | refine qc (vJ (es := base) (es' := a) (by omega) (by omega)) ?_ | refine qc (vJ (es := base) (es' := b) (by omega) (by omega)) ?_ | refine qc (hC) ?_ | refine qc (hE) ?_); conv => whnf)
     exact aE1 rfl rfl rfl rfl rfl rfl
   · rw [if_neg c1]
     repeat ((first | refine qz ?_ | refine qc (vJ (es := base) (es' := a) (by omega) (by omega)) ?_ | refine qc (vJ (es := base) (es' := b) (by omega) (by omega)) ?_ | refine qc (hC) ?_ | refine qc (hE) ?_); conv => whnf)
     exact aE1 rfl rfl rfl rfl rfl rfl
theorem aBv {es : List Edt} {b : Bool} (hb : xw es = b) (hm : es.length ≤ maxLen) (hk : ∀ e ∈ es, e.key.size ≤ maxLen) : AC Tryz.prog 142 [.lst 3 (es.map xg)] ⟨.v (.bool b), []⟩ :=
 hb ▸ kV aGG rfl fun w S0 vs hS hv => by
  obtain ⟨u, rfl, h1⟩ := wL hv
  obtain ⟨A, c, rfl, _, _, hr⟩ := aAC hS h1
  exact aB5 A es.length c es w hr hm hk
end Go.Proofs.YtkfllfhcjegfoaaGreatDoor.AM
namespace Go.Proofs.YtkfllfhcjegfoaaGreatDoor.AM
open Go Go.RowKit
theorem aE4 (m : List Ent) {c : List ByteArray} (h : c.length ≤ 100) : (kP m c).1.length ≤ 12 ∧ (kP m c).2.1.length ≤ 100 := by
 unfold kP
 split
 · exact ⟨by simp, h⟩
 · split
   · exact ⟨by simp, by simp⟩
   · rename_i h2; exact ⟨by show m.length ≤ 12; omega, by simp⟩
attribute [local irreducible] xM xN xW yF yL Pre ACG
def mapOf (es : List Edt) : List (ByteArray × AV) := es.map fun e => (e.key, xg e)
theorem jH (q : ByteArray) : ∀ es : List Edt, uP (mapOf es) q = (vM es q).map xg
 | [] => rfl
 | e :: es => by
  show (if q = e.key then some (xg e) else uP (mapOf es) q) = _
  rw [vM, List.find?_cons]
  by_cases h : q = e.key
  · subst h; simp
  · have h' : ¬ e.key = q := fun x => h x.symm
    simp only [if_neg h, h', decide_false]
    exact jH q es
theorem aIu {q : ByteArray} {v : AV} : ∀ {m : List (ByteArray × AV)}, uP m q = none → qg m q v = m ++ [(q, v)]
 | [], _ => rfl
 | (k, y) :: m, h => by
  by_cases hk : q = k
  · simp [uP, hk] at h
  · simp only [uP, if_neg hk] at h
    simp only [qg, if_neg hk, List.cons_append, aIu h]
theorem aFU {q : ByteArray} : ∀ {es : List Edt}, jX es → aAB (mapOf es) q = mapOf (es.filter fun e => decide (e.key ≠ q))
 | [], _ => rfl
 | e :: es, h => by
  obtain ⟨p, hq⟩ := List.pairwise_cons.1 h
  show (if q = e.key then mapOf es else (e.key, xg e) :: aAB (mapOf es) q) = _
  by_cases hk : q = e.key
  · subst hk
    rw [if_pos rfl, List.filter_cons_of_neg (by simp)]
    congr 1
    symm
    rw [List.filter_eq_self]
    intro x hx
    have := jB (p x hx)
    simpa using fun e => this e.symm
  · rw [if_neg hk, List.filter_cons_of_pos (by simpa using fun e => hk e.symm), aFU hq]
    rfl
theorem aE8 {l r : List Edt} (hr : jX r) : jX (zW l r) := List.Pairwise.filter _ hr
theorem aC9 {l : List Edt} {e : Edt} : kE l e = true ↔ ∀ x ∈ l, x.key ≠ e.key := by
 unfold kE
 rw [Option.isNone_iff_eq_none]
 constructor
 · exact aG6
 · intro h; rw [vM, List.find?_eq_none]; intro x hx; simpa using h x hx
theorem aNl {l r : List Edt} {k : Nat} (hk : k < l.length) : zW (l.take (k + 1)) r = (zW (l.take k) r).filter fun e => decide (e.key ≠ l[k].key) := by
 unfold zW
 rw [List.filter_filter]
 congr 1
 funext e
 rw [Bool.eq_iff_iff, Bool.and_eq_true, aC9, aC9, List.take_succ_eq_append_getElem hk]
 simp only [List.mem_append, List.mem_singleton, decide_eq_true_eq]
 constructor
 · intro h; exact ⟨fun e' => h _ (.inr rfl) e'.symm, fun x hx => h x (.inl hx)⟩
 · rintro ⟨h1, h2⟩ x (hx | rfl)
   · exact h2 x hx
   · exact fun e' => h1 e'.symm
theorem aGa {l : List Edt} (hl : jX l) {k : Nat} (hk : k < l.length) : ∀ x ∈ l.take k, x.key ≠ l[k].key := fun x hx => by
 obtain ⟨i, hi, rfl⟩ := List.mem_iff_getElem.1 hx
 rw [List.length_take] at hi
 rw [List.getElem_take]
 exact jB (List.pairwise_iff_getElem.1 hl i k (by omega) hk (by omega))
theorem aOP {l r : List Edt} (hr : jX r) {q : ByteArray} (hq : ∀ x ∈ l, x.key ≠ q) : vM (zW l r) q = vM r q := by
 cases h : vM r q with
 | none =>
  rw [vM, List.find?_eq_none]
  intro x hx
  have := aG6 h x (List.mem_filter.1 hx).1
  simpa using this
 | some x =>
  obtain ⟨h1, h2⟩ := aE3 h
  have hm : x ∈ zW l r := List.mem_filter.2 ⟨h1, aC9.2 (fun y hy => by rw [h2]; exact hq y hy)⟩
  rw [← h2]; exact aCF (aE8 hr) hm
theorem aNO {l r : List Edt} (hr : jX r) {k : Nat} (hk : k < r.length) : (uP (mapOf (zW l r)) r[k].key).isSome = kE l r[k] := by
 rw [jH, Option.isSome_map]
 cases h : kE l r[k] with
 | true =>
  have hm : r[k] ∈ zW l r := List.mem_filter.2 ⟨List.getElem_mem hk, h⟩
  rw [aCF (aE8 hr) hm]; rfl
 | false =>
  cases hf : vM (zW l r) r[k].key with
  | none => rfl
  | some x =>
   obtain ⟨h1, h2⟩ := aE3 hf
   obtain ⟨h3, h4⟩ := List.mem_filter.1 h1
   have e1 := aCF hr h3
   have e2 := aCF hr (List.getElem_mem hk)
   rw [h2, e2] at e1
   cases e1
   rw [h] at h4; cases h4
theorem aKw {r : List Edt} (hr : jX r) {k : Nat} (hk : k < r.length) : qg (mapOf (r.take k)) r[k].key (xg r[k]) = mapOf (r.take (k + 1)) := by
 rw [aIu]
 · unfold mapOf; rw [List.take_succ_eq_append_getElem hk, List.map_append]; rfl
 · rw [jH]
   have : vM (r.take k) r[k].key = none := by
    rw [vM, List.find?_eq_none]; intro x hx; simpa using aGa hr hk x hx
   rw [this]; rfl
set_option maxHeartbeats 4000000 in
theorem aRI : aQd := by
 intro l r hl hr h1 h2
 rw [aLm hl hr]
 refine qrf Tryz.func198 Tryz.ntmps198 Tryz.results198 ?_; conv => whnf
 repeat ((first | refine qz ?_ | refine qr (aPN rfl rfl rfl) ?_); conv => whnf)
 refine aFu (ι := { k : Nat // k ≤ r.length }) (fun k => ⟨[(0, .lst 3 (l.map xg)), (1, .lst 3 (r.map xg)), (6, .mapv 22), (22, .lst 3 (r.map xg)), (23, .v (.int .i64 (r.length : Int))), (24, .v (.int .i64 (k.1 : Int)))], [(22, ⟨280, 1, []⟩)], [(22, mapOf (r.take k.1))]⟩) (fun k => r.length - k.1) ⟨0, Nat.zero_le _⟩ ⟨by exact qle, ⟨rfl, rfl⟩, trivial⟩ ?_
 rintro ⟨k, hk⟩
 dsimp only
 conv => whnf
 by_cases hlt : k < r.length
 · have hs := aKw hr hlt
   repeat (first | (refine qz ?_; conv => whnf) | (refine qr (xS rfl rfl rfl rfl rfl (by conv => lhs; whnf) rfl) ?_; conv => whnf) | (refine qr (aOr (v := xg r[k]) rfl rfl rfl rfl rfl rfl rfl hs) ?_; conv => whnf))
   exact ⟨⟨k + 1, hlt⟩, ⟨by exact qle, ⟨rfl, rfl⟩, trivial⟩, by simp; omega⟩
 have hkk : k = r.length := by omega
 subst hkk
 rw [List.take_length]
 repeat ((refine qz ?_; conv => whnf))
 refine aFu (ι := { k : Nat // k ≤ l.length }) (fun k => ⟨[(1, .lst 3 (r.map xg)), (6, .mapv 22), (9, .own 10), (33, .lst 3 (l.map xg)), (34, .v (.int .i64 (l.length : Int))), (35, .v (.int .i64 (k.1 : Int)))], [(22, ⟨280, 1, []⟩), (10, ⟨9, 1, (uV r (l.take k.1)).map strA⟩)], [(22, mapOf (zW (l.take k.1) r))]⟩) (fun k => l.length - k.1) ⟨0, Nat.zero_le _⟩ ⟨by exact qle, ⟨congrArg (fun x => some (mapOf x)) (show r = zW (l.take 0) r from (List.filter_eq_self.2 (fun x _ => rfl)).symm), rfl⟩, trivial⟩ ?_
 rintro ⟨k, hk⟩
 dsimp only
 conv => whnf
 by_cases hlt : k < l.length
 · have hfd := aOP hr (aGa hl hlt)
   have hdel : aAB (mapOf (zW (l.take k) r)) l[k].key = mapOf (zW (l.take (k + 1)) r) := by rw [aFU (aE8 hr), aNl hlt]
   have hcs := aEL r l k hlt
   have lc := aAi r (l.take k)
   rw [List.length_take] at lc
   cases hf : vM r l[k].key with
   | none =>
    rw [hf] at hfd
    have g1 : uP (mapOf (zW (l.take k) r)) l[k].key = none := by rw [jH, hfd]; rfl
    have c1 : uJ r l[k] = false := by unfold uJ; rw [hf]
    rw [c1, if_neg (by simp)] at hcs
    repeat (first | (refine qz ?_; conv => whnf) | (refine qp (aBP (y := xg zE) (f := false) rfl rfl rfl rfl (by rw [g1]; rfl) (by rw [g1]; rfl)) ?_; conv => whnf) | (refine qr (aEY rfl rfl rfl rfl hdel) ?_; conv => whnf) | (refine qr (xS rfl rfl rfl rfl rfl (by conv => lhs; whnf) rfl) ?_; conv => whnf))
    rw [← hcs]
    exact ⟨⟨k + 1, hlt⟩, ⟨by exact qle, ⟨rfl, rfl⟩, trivial⟩, by simp; omega⟩
   | some x =>
    rw [hf] at hfd
    have g1 : uP (mapOf (zW (l.take k) r)) l[k].key = some (xg x) := by rw [jH, hfd]; rfl
    by_cases hx : x = l[k]
    · have c1 : uJ r l[k] = false := by unfold uJ; rw [hf]; simp [hx]
      rw [c1, if_neg (by simp)] at hcs
      repeat (first | (refine qz ?_; conv => whnf) | (refine qp (aBP (y := xg x) (f := true) rfl rfl rfl rfl (by rw [g1]; rfl) (by rw [g1]; rfl)) ?_; conv => whnf) | (refine qr (aEY rfl rfl rfl rfl hdel) ?_; conv => whnf) | (refine qr (xS rfl rfl rfl rfl rfl (by conv => lhs; whnf) rfl) ?_; conv => whnf) | (refine qp (aCD (aAE (a := x) (b := l[k]) (r := false) (by simp [hx])) rfl rfl rfl) ?_; conv => whnf))
      rw [← hcs]
      exact ⟨⟨k + 1, hlt⟩, ⟨by exact qle, ⟨rfl, rfl⟩, trivial⟩, by simp; omega⟩
    · have c1 : uJ r l[k] = true := by unfold uJ; rw [hf]; simp [hx]
      rw [if_pos c1] at hcs
      repeat (first | (refine qz ?_; conv => whnf) | (refine qp (aBP (y := xg x) (f := true) rfl rfl rfl rfl (by rw [g1]; rfl) (by rw [g1]; rfl)) ?_; conv => whnf) | (refine qr (aEY rfl rfl rfl rfl hdel) ?_; conv => whnf) | (refine qr (xS rfl rfl rfl rfl rfl (by conv => lhs; whnf) rfl) ?_; conv => whnf) | (refine qp (aCD (aAE (a := x) (b := l[k]) (r := true) (by simp [hx])) rfl rfl rfl) ?_; conv => whnf) | (refine qr (aBu _ _ hcs.symm (by omega) rfl rfl rfl rfl rfl rfl rfl) ?_; conv => whnf))
      exact ⟨⟨k + 1, hlt⟩, ⟨by exact qle, ⟨rfl, rfl⟩, trivial⟩, by simp; omega⟩
 have hkk : k = l.length := by omega
 subst hkk
 rw [List.take_length]
 repeat ((refine qz ?_; conv => whnf))
 refine aFu (ι := { k : Nat // k ≤ r.length }) (fun k => ⟨[(6, .mapv 22), (9, .own 10), (14, .own 15), (61, .lst 3 (r.map xg)), (62, .v (.int .i64 (r.length : Int))), (63, .v (.int .i64 (k.1 : Int)))], [(22, ⟨280, 1, []⟩), (10, ⟨9, 1, (uV r l).map strA⟩), (15, ⟨191, 3, (zW l (r.take k.1)).map xg⟩)], [(22, mapOf (zW l r))]⟩) (fun k => r.length - k.1) ⟨0, Nat.zero_le _⟩ ⟨by exact qle, ⟨rfl, rfl⟩, trivial⟩ ?_
 rintro ⟨k, hk⟩
 dsimp only
 conv => whnf
 by_cases hlt : k < r.length
 · have hleft := aNO (l := l) hr hlt
   have hts := aF3 l r k hlt
   have lt := ko l (r.take k)
   rw [List.length_take] at lt
   obtain ⟨y, hy⟩ : ∃ y, (uP (mapOf (zW l r)) r[k].key).getD (xg zE) = xg y := by
    rw [jH]
    cases vM (zW l r) r[k].key with
    | none => exact ⟨zE, rfl⟩
    | some x => exact ⟨x, rfl⟩
   cases ht : kE l r[k] with
   | true =>
    rw [ht] at hleft
    rw [if_pos ht] at hts
    repeat (first | (refine qz ?_; conv => whnf) | (refine qp (aBP (y := xg y) (f := true) rfl rfl rfl rfl hy hleft) ?_; conv => whnf) | (refine qr (xS rfl rfl rfl rfl rfl (by conv => lhs; whnf) rfl) ?_; conv => whnf) | (refine qr (aBu _ _ hts.symm (by omega) rfl rfl rfl rfl rfl rfl rfl) ?_; conv => whnf))
    exact ⟨⟨k + 1, hlt⟩, ⟨by exact qle, ⟨rfl, rfl⟩, trivial⟩, by simp; omega⟩
   | false =>
    rw [ht] at hleft
    rw [ht, if_neg (by simp)] at hts
    repeat (first | (refine qz ?_; conv => whnf) | (refine qp (aBP (y := xg y) (f := false) rfl rfl rfl rfl hy hleft) ?_; conv => whnf) | (refine qr (xS rfl rfl rfl rfl rfl (by conv => lhs; whnf) rfl) ?_; conv => whnf))
    rw [← hts]
    exact ⟨⟨k + 1, hlt⟩, ⟨by exact qle, ⟨rfl, rfl⟩, trivial⟩, by simp; omega⟩
 have hkk : k = r.length := by omega
 subst hkk
 rw [List.take_length]
 repeat ((refine qz ?_; conv => whnf))
 exact aKB rfl rfl rfl rfl rfl
end Go.Proofs.YtkfllfhcjegfoaaGreatDoor.AM
namespace Go.Proofs.YtkfllfhcjegfoaaGreatDoor.AM
open Go Go.RowKit
theorem jK {cs : List Cmt} (hb : yx cs = true) {i : Nat} (h : i < cs.length) : zC (cs[i]).2 = true := by
 unfold yx at hb
 simp only [Bool.and_eq_true] at hb
 have := aES hb.2 i h
 unfold aBL at this
 simp only [Bool.and_eq_true] at this
 exact this.1
theorem aNL {F : Nat → Bool} (h : F 1 = true) : ∀ k, 1 ≤ k → 1 ≤ bsF F k
 | 0, h0 => by omega
 | 1, _ => by simp [bsF, h]
 | k + 2, _ => by
  unfold bsF
  split
  · omega
  · exact aNL h (k + 1) (by omega)
theorem aI1 {cs : List Cmt} (hb : yx cs = true) {a b : Nat} (h1 : 1 ≤ a) (h2 : a ≤ cs.length) (h3 : 1 ≤ b) (h4 : b ≤ cs.length) : 1 ≤ wH cs a b ∧ wH cs a b ≤ a ∧ wH cs a b ≤ b := by
 have q1 := aNL (aEX hb h1 h2 h3 h4) (min a b) (by omega)
 have q2 := aMu (F := jZ cs a b) (min a b)
 unfold wH
 omega
attribute [local irreducible] xM xN xW yF yL Pre ACG
section
variable {a base m hd : List Ent} {xs : List Edt}
theorem aPe (ha : zC a = true) (hx : xw xs = true) (ka : ∀ e ∈ a, e.1.size ≤ maxLen) (kx : ∀ e ∈ xs, e.key.size ≤ maxLen) (hl : (yT a xs).length ≤ 12) : AC Tryz.prog 191 [.lst 2 (a.map xP), .lst 3 (xs.map xg)] ⟨.tup [.own 0, .v (.int .i64 0)], [⟨167, 2, (yT a xs).map xP⟩]⟩ := by
 have la := AM.mapOK_le ha
 have lx := AM.editsOK_le hx
 have h1 := aCn ha (by unfold maxLen; omega) ka
 have h2 := aBv hx (by unfold maxLen; omega) kx
 have h3 := aDJ (es := a) (xs := xs) (uZ ha) (by omega)
 refine qrf Tryz.func191 Tryz.ntmps191 Tryz.results191 ?_; conv => whnf
 repeat ((first | refine qz ?_ | refine qc (h1) ?_ | refine qc (h2) ?_ | refine qc (h3) ?_); conv => whnf)
 exact aPs rfl rfl rfl
theorem aMK (ha : zC a = true) (hx : xw xs = true) (ka : ∀ e ∈ a, e.1.size ≤ maxLen) (kx : ∀ e ∈ xs, e.key.size ≤ maxLen) (hl : ¬ (yT a xs).length ≤ 12) : AC Tryz.prog 191 [.lst 2 (a.map xP), .lst 3 (xs.map xg)] ⟨.tup [.lst 2 [], .v (.int .i64 7)], []⟩ := by
 have la := AM.mapOK_le ha
 have lx := AM.editsOK_le hx
 have lap := wm a xs
 have h1 := aCn ha (by unfold maxLen; omega) ka
 have h2 := aBv hx (by unfold maxLen; omega) kx
 have h3 := aDJ (es := a) (xs := xs) (uZ ha) (by omega)
 refine qrf Tryz.func191 Tryz.ntmps191 Tryz.results191 ?_; conv => whnf
 repeat ((first | refine qz ?_ | refine qc (h1) ?_ | refine qc (h2) ?_ | refine qc (h3) ?_); conv => whnf)
 exact aQ1 (aDB rfl rfl) (aFz rfl trivial)
theorem aCE (s0 : Srt base) (s1 : Srt m) (s2 : Srt hd) (l0 : base.length ≤ 12) (l1 : m.length ≤ 12) (l2 : hd.length ≤ 12) (ps : List AV) :
 (∃ (c : Int) (keys : List AV), AC Tryz.prog 192 [.lst 2 (base.map xP), .lst 2 (m.map xP), .lst 2 (hd.map xP), .lst 1 ps] ⟨.tup [nh0, .ifc 272 (.mix [uN c, .own 0])], [⟨9, 1, keys⟩]⟩) ∨
 AC Tryz.prog 192 [.lst 2 (base.map xP), .lst 2 (m.map xP), .lst 2 (hd.map xP), .lst 1 ps] ⟨.tup [nh0, uN 18], []⟩ ∨
 ∃ out : List Ent, out.length ≤ maxLen ∧ AC Tryz.prog 192 [.lst 2 (base.map xP), .lst 2 (m.map xP), .lst 2 (hd.map xP), .lst 1 ps] ⟨.tup [.agg [zI, .agg [.lst 1 ps, .lst 2 (out.map xP)]], .v .nilIface], []⟩ := by
 have hM := aMr aRI s0 s1 s2 (by omega) (by omega) (by omega)
 have hb := aE4 (jD base m hd) (c := kY base m hd) (by have := aBt base m hd; omega)
 generalize kP (jD base m hd) (kY base m hd) = r at hM hb
 by_cases hc : r.2.2 = 0
 · have hE := aCa (es := r.1) (es' := hd) (by unfold maxLen; omega) (by unfold maxLen; omega)
   rw [hc] at hM
   cases hq : decide (r.1 = hd) with
   | true => rw [hq] at hE; exact .inr (.inl (aFl hM hE))
   | false => rw [hq] at hE; exact .inr (.inr ⟨r.1, by unfold maxLen; omega, aGV hM hE⟩)
 · exact .inl ⟨_, _, aFq hM hc⟩
end
theorem ul {st : List Cmt} {k : Nat} (h : k < st.length) : (st.map yI)[k]? = some (.agg [.lst 1 ((st[k]).1.map zx), .lst 2 ((st[k]).2.map xP)]) := by
 rw [List.getElem?_map, List.getElem?_eq_getElem h]; rfl
section
variable {st : List Cmt} {ws : List Wsh} {mp : List Ent} {d h : Nat} {vr tr fa : Int}
theorem jM {kind fr : Int} {nm src key : ByteArray} {es : List AV} (hb : yx st = true) (hw : (ws.map wshA)[d]? = some (.agg [.v (.int .i64 kind), .v (.string nm), .v (.string src), .v (.string key), .lst 3 es])) (hh : h < st.length) (hv : 1 ≤ vr) (hv2 : vr ≤ 1000000) (hm : mp.length ≤ maxLen)
 (hV : (∃ c : Int, AC Tryz.prog 156 [.lst 2 (st.map yI), .agg [.v (.int .i64 kind), .v (.int .i64 fr), .v (.string nm), .v (.string key), .lst 3 es], .v (.int .i64 ((h : Int) + 1))] ⟨.tup [.agg [zI, .lst 2 []], uN c], []⟩) ∨
  (∃ (c : Int) (keys : List AV), AC Tryz.prog 156 [.lst 2 (st.map yI), .agg [.v (.int .i64 kind), .v (.int .i64 fr), .v (.string nm), .v (.string key), .lst 3 es], .v (.int .i64 ((h : Int) + 1))] ⟨.tup [.agg [zI, .lst 2 []], .ifc 272 (.mix [uN c, .own 0])], [⟨9, 1, keys⟩]⟩) ∨
  (∃ out : List Ent, out.length ≤ maxLen ∧ AC Tryz.prog 156 [.lst 2 (st.map yI), .agg [.v (.int .i64 kind), .v (.int .i64 fr), .v (.string nm), .v (.string key), .lst 3 es], .v (.int .i64 ((h : Int) + 1))] ⟨.tup [.agg [zI, .lst 2 (out.map xP)], .v .nilIface], []⟩) ∨
  AC Tryz.prog 156 [.lst 2 (st.map yI), .agg [.v (.int .i64 kind), .v (.int .i64 fr), .v (.string nm), .v (.string key), .lst 3 es], .v (.int .i64 ((h : Int) + 1))] ⟨.tup [.agg [.v (.int .i64 1), .lst 2 []], .v .nilIface], []⟩) :
 ∃ b, AC Tryz.prog 136 [.lst 2 (st.map yI), clA (ws.map wshA) (d : Int) 2 fr ((h : Int) + 1) vr tr fa (mp.map xP)] ⟨.v (.bool b), []⟩ := by
 obtain ⟨_, hl⟩ := vX hb
 have hs : (st.map yI).length ≤ maxLen := by rw [List.length_map]; unfold maxLen; omega
 have hh' : h < (st.map yI).length := by rw [List.length_map]; exact hh
 rcases hV with ⟨c, hV⟩ | ⟨c, keys, hV⟩ | ⟨out, ho, hV⟩ | hV
 · exact ⟨_, aOt hs hw hh' hv hv2 hV⟩
 · exact ⟨_, aO1 hs hw hh' hv hv2 hV⟩
 · by_cases hf : fa = 0
   · exact ⟨_, aND hs hw hh' hv hv2 hf hm ho hV⟩
   · exact ⟨_, aMl hs hw hh' hv hv2 hf hV⟩
 · by_cases hf : fa = 1
   · exact ⟨_, aM4 hs hw hh' hv hv2 hf hm hV⟩
   · exact ⟨_, aNw hs hw hh' hv hv2 hf hV⟩
theorem aHu {fr hd : Int} {w : Wsh} (hb : yx st = true) (hc : wF maxLen st) (hw : ws[d]? = some w) (hwo : w.ok maxLen) (hwb : yC w = true) (hf1 : 1 ≤ fr) (hf2 : fr ≤ (st.length : Int)) (hm : mp.length ≤ maxLen) :
 ∃ b, AC Tryz.prog 136 [.lst 2 (st.map yI), clA (ws.map wshA) (d : Int) 2 fr hd vr tr fa (mp.map xP)] ⟨.v (.bool b), []⟩ := by
 obtain ⟨_, hl⟩ := vX hb
 have hs : (st.map yI).length ≤ maxLen := by rw [List.length_map]; unfold maxLen; omega
 by_cases hh : 1 ≤ hd ∧ hd ≤ (st.length : Int)
 case neg => exact ⟨_, aNW hs (by rw [List.length_map]; exact hh)⟩
 by_cases hv : 1 ≤ vr ∧ vr ≤ 1000000
 case neg => exact ⟨_, aMY hs (by rw [List.length_map]; exact hh) hv⟩
 obtain ⟨h, rfl⟩ : ∃ h : Nat, hd = (h : Int) + 1 := ⟨(hd - 1).toNat, by omega⟩
 obtain ⟨f, rfl⟩ : ∃ f : Nat, fr = (f : Int) + 1 := ⟨(fr - 1).toNat, by omega⟩
 have hfl : f < st.length := by omega
 have hhl : h < st.length := by omega
 obtain ⟨kind, nm, src, key, es⟩ := w
 have hw' : (ws.map wshA)[d]? = some (.agg [.v (.int .i64 kind), .v (.string nm), .v (.string src), .v (.string key), .lst 3 (es.map xg)]) := by
  rw [List.getElem?_map, hw]; rfl
 have mh := jK hb hhl
 have mf := jK hb hfl
 have ch := hc _ (List.getElem_mem hhl)
 have cf := hc _ (List.getElem_mem hfl)
 by_cases k1 : kind = 1
 · subst k1; exact jM hb hw' hhl hv.1 hv.2 hm (.inl ⟨_, aNX⟩)
 by_cases k2 : kind = 2
 · subst k2; exact jM hb hw' hhl hv.1 hv.2 hm (.inl ⟨_, aMM⟩)
 by_cases k5 : kind = 5
 · subst k5; exact jM hb hw' hhl hv.1 hv.2 hm (.inl ⟨_, aNE⟩)
 by_cases k3 : kind = 3
 · subst k3
   have hed : xw es = true := by
    unfold yC opB at hwb
    rw [if_neg (by simp), if_neg (by simp), if_pos rfl] at hwb
    simp only [Bool.and_eq_true] at hwb
    exact hwb.2.2.2.2
   have ka := hwo.2.2.2.2
   by_cases hap : (yT (st[f]).2 es).length ≤ 12
   · have hA := aPe mf hed cf.2.2 ka hap
     rcases aCE (uZ mf) (aFg (uZ mf) es) (uZ mh) (AM.mapOK_le mf) hap (AM.mapOK_le mh) [.v (.int .i64 ((h : Int) + 1))] with ⟨c, keys, hM⟩ | hM | ⟨out, ho, hM⟩
     · exact jM hb hw' hhl hv.1 hv.2 hm (.inr (.inl ⟨c, keys, aN4 (aMC hs (ul hfl) (ul hhl) rfl hA hM)⟩))
     · exact jM hb hw' hhl hv.1 hv.2 hm (.inl ⟨18, aG2 (aLY hs (ul hfl) (ul hhl) rfl hA hM)⟩)
     · exact jM hb hw' hhl hv.1 hv.2 hm (.inr (.inr (.inl ⟨out, ho, aNG (aLX hs (ul hfl) (ul hhl) rfl hA hM)⟩)))
   · exact jM hb hw' hhl hv.1 hv.2 hm (.inl ⟨7, aG2 (aLi hs (ul hfl) (ul hhl) rfl (aMK mf hed cf.2.2 ka hap) (by omega))⟩)
 by_cases k4 : kind = 4
 · subst k4
   have hB := aNk (a := h + 1) (b := f + 1) hb (by omega) (by omega) (by omega) (by omega)
   obtain ⟨n1, n2, n3⟩ := aI1 hb (a := h + 1) (b := f + 1) (by omega) (by omega) (by omega) (by omega)
   obtain ⟨b, hbn⟩ : ∃ b : Nat, wH st (h + 1) (f + 1) = b + 1 := ⟨wH st (h + 1) (f + 1) - 1, by omega⟩
   rw [hbn] at hB n2 n3
   have hbl : b < st.length := by omega
   have mb := jK hb hbl
   have hB' : AC Tryz.prog 203 [.lst 2 (st.map yI), .v (.int .i64 ((h : Int) + 1)), .v (.int .i64 ((f : Int) + 1))] ⟨.v (.int .i64 ((b : Int) + 1)), []⟩ := by simpa using hB
   by_cases hbf : b = f
   · exact jM hb hw' hhl hv.1 hv.2 hm (.inl ⟨18, aGh (aLz hB' hbf)⟩)
   by_cases hbh : b = h
   · exact jM hb hw' hhl hv.1 hv.2 hm (.inr (.inr (.inr (aMf (aLg hB' hbf hbh) (by omega)))))
   rcases aCE (uZ mb) (uZ mf) (uZ mh) (AM.mapOK_le mb) (AM.mapOK_le mf) (AM.mapOK_le mh) [.v (.int .i64 ((h : Int) + 1)), .v (.int .i64 ((f : Int) + 1))] with ⟨c, keys, hM⟩ | hM | ⟨out, ho, hM⟩
   · exact jM hb hw' hhl hv.1 hv.2 hm (.inr (.inl ⟨c, keys, aNz (aLI hs (ul hfl) (ul hhl) (ul hbl) hB' hbf hbh hM)⟩))
   · exact jM hb hw' hhl hv.1 hv.2 hm (.inl ⟨18, aGh (aLd hs (ul hfl) (ul hhl) (ul hbl) hB' hbf hbh hM)⟩)
   · exact jM hb hw' hhl hv.1 hv.2 hm (.inr (.inr (.inl ⟨out, ho, aNc (aLq hs (ul hfl) (ul hhl) (ul hbl) hB' hbf hbh hM)⟩)))
 · exact jM hb hw' hhl hv.1 hv.2 hm (.inl ⟨_, aMX k1 k2 k3 k4 k5⟩)
end
def aH8 (c : Cli) : Bool := decide (c.ws.length ≤ 6) && (aCc c.ws && (decide (c.ph = 0) && (decide (c.fr = 0) && (decide (c.tr = 0) && huB c.hd c.vr c.fa c.mp.length))))
def aA5 (c : Cli) (b : Bool) : Prop := (c.dn = (c.ws.length : Int) → b = aH8 c) ∧ (b = true → 0 ≤ c.dn ∧ c.dn ≤ (c.ws.length : Int) ∧ c.ws.length ≤ 6)
theorem aGB {st : List Cmt} {c : Cli} (hb : yx st = true) (hc : wF maxLen st) (h1 : c.ws.length ≤ maxLen) (h2 : ∀ w ∈ c.ws, w.ok maxLen) (h3 : c.mp.length ≤ maxLen) :
 ∃ b, AC Tryz.prog 78 [.lst 2 (st.map yI), cliA c] ⟨.v (.bool b), []⟩ ∧ aA5 c b := by
 obtain ⟨_, hl⟩ := vX hb
 have hs : (st.map yI).length ≤ maxLen := by rw [List.length_map]; unfold maxLen; omega
 obtain ⟨ws, dn, ph, fr, hd, vr, tr, fa, mp⟩ := c
 have hW := aJ1 (ws := ws) h1 h2
 obtain ⟨b, q1, q2, q3⟩ := aHN (ws := ws.map wshA) (mp := mp.map xP) (st := st.map yI) (dn := dn) (ph := ph) (fr := fr) (hd := hd) (vr := vr) (tr := tr) (fa := fa) hW (fun d0 d1 hwb d6 => by
  rw [List.length_map] at d1
  obtain ⟨d, rfl⟩ : ∃ d : Nat, dn = (d : Int) := ⟨dn.toNat, by omega⟩
  have hd' : d < ws.length := by omega
  have hwd : ws[d]? = some ws[d] := List.getElem?_eq_getElem hd'
  have hmem := List.getElem_mem hd'
  have hwok : yC ws[d] = true := List.all_eq_true.1 hwb _ hmem
  exact aJh (kind := (ws[d]).kind) (nm := (ws[d]).name) (src := (ws[d]).source) (key := (ws[d]).key) (es := (ws[d]).edits.map xg) hs (by rw [List.getElem?_map, hwd]; rfl) (fun f1 f2 e => by
   subst e
   exact aHu hb hc hwd (h2 _ hmem) hwok f1 (by rw [List.length_map] at f2; exact f2) h3))
 rw [List.length_map] at q2 q3
 exact ⟨b, q1, fun e => by rw [q2 e]; simp [aH8], q3⟩
end Go.Proofs.YtkfllfhcjegfoaaGreatDoor.AM
