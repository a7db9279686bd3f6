/- Texts of the machine over data, folded. -/
import Derived.Test.YtoaifonjemlfcaaDoorKa5
import Derived.Test.YtoaifonjemlfcaaDoorKa8
import Derived.Test.YtoaifonjemlfcaaDoorKa9
set_option linter.unusedVariables false
set_option linter.unusedSimpArgs false
set_option maxRecDepth 100000
namespace Go.Proofs.YtoaifonjemlfcaaDoor.AM
open Go Go.RowKit
theorem aFX {s : St} {Θ : Tab} {a t l l1 l2 t2 : Nat} {v : Value} {ob o1 o2 : OB} {t' : Option Nat} (h1 : s.sl a = .optr l 0 [] 0) (ho : s.hp l = some ob) (hop : ob.e.open_ = false) (hoe : xk ob.e ob.xs 0 = some (.o t' 0 (.mix [.own l1, .own l2]))) (ho1 : s.hp l1 = some o1) (ho2 : s.hp l2 = some o2) (hn : Nat.beq l1 l2 = false) (hk : ((Θ.look t).known && (Θ.look t).isAgg && Nat.beq 2 (Θ.look t).size) = true) (hv : s.sl t2 = .v v) (hok1 : okL l1 = true := by rfl) (hok2 : okL l2 = true := by rfl) (hs1 : o1.e.shut = true := by rfl) (hs2 : o2.e.shut = true := by rfl) :
 jd Θ [.cell a t, .tmp t2] ⟨.tup [.mix [.own 0, .own 1], .v v], [o1, o2]⟩ .ret s := by
 have hr : rvA s (.cell a t) = .mix [.own l1, .own l2] := by
  simp only [rvA, h1, ho, hop, hoe, cond_false]; rfl
 simp only [Bool.and_eq_true] at hk
 have hne : l1 ≠ l2 := fun e => by rw [e] at hn; simp at hn
 refine ⟨trivial, [l1, l2], by simp [hne], ⟨⟨ho1, hok1, hs1⟩, ⟨ho2, hok2, hs2⟩, trivial⟩, ⟨⟨hk.1.1, by rw [hr]; exact hk.1.2.symm, by rw [hr]; exact Nat.eq_of_beq_eq_true hk.2, .inl ⟨l, ob, _, h1, ho, .inr ⟨hop, _, _, hoe, rfl⟩⟩⟩, trivial, trivial⟩, ⟨_, rfl⟩, ⟨.inl ⟨?_, rfl⟩, .inl ⟨?_, rfl⟩, trivial⟩⟩
 · rw [hr]; rfl
 · exact hv
theorem aJr {s : St} {Θ : Tab} {r : Nat} {v : Value} {o1 o2 : OB} (h1 : s.sl r = .v v) (h2 : s.hp 0 = some o1) (h3 : s.hp 1000000 = some o2) : yE Θ [.tmp r] [o1, o2] ⟨.v v, []⟩ .ret s := ⟨⟨h2, h3, trivial⟩, [], by simp, trivial, ⟨trivial, trivial⟩, trivial, ⟨.inl ⟨h1, rfl⟩, trivial⟩⟩
attribute [local irreducible] xM xO xg yE y7 Pre ACG
theorem aEh {k0 : Int} : AC Tryd.prog 41 [.lst 4 [], .v (.int .i64 k0)] ⟨.v (.int .i64 k0), []⟩ := by
 refine qrf Tryd.func41 Tryd.ntmps41 Tryd.results41 ?_; conv => whnf
 refine xZ (ι := Unit) (fun _ => ⟨[(0, .lst 4 []), (1, .v (.int .i64 k0)), (5, .v (.int .i64 0))], []⟩) (fun _ => 0) () (by exact qle) ?_
 rintro ⟨⟩
 try dsimp only
 conv => whnf
 repeat ((first | refine qp (xG (wN (by simp)) rfl rfl rfl) ?_ | refine qz ?_); conv => whnf)
 exact xA rfl trivial
theorem aEg {k0 : Int} : AC Tryd.prog 40 [.lst 2 [], .v (.int .i64 k0)] ⟨.v (.int .i64 k0), []⟩ := by
 refine qrf Tryd.func40 Tryd.ntmps40 Tryd.results40 ?_; conv => whnf
 refine xZ (ι := Unit) (fun _ => ⟨[(0, .lst 2 []), (1, .v (.int .i64 k0)), (5, .v (.int .i64 0))], []⟩) (fun _ => 0) () (by exact qle) ?_
 rintro ⟨⟩
 try dsimp only
 conv => whnf
 repeat ((first | refine qp (xG (wN (by simp)) rfl rfl rfl) ?_ | refine qz ?_); conv => whnf)
 exact xA rfl trivial
theorem aEf {k0 : Int} : AC Tryd.prog 16 [vP ⟨[], []⟩, .v (.int .i64 k0)] ⟨.v (.int .i64 k0), []⟩ := by
 have h1 := aEg (k0 := k0)
 have h2 := aEh (k0 := k0)
 refine qrf Tryd.func16 Tryd.ntmps16 Tryd.results16 ?_; conv => whnf
 repeat ((first | refine qz ?_ | refine qc (h1) ?_ | refine qc (h2) ?_); conv => whnf)
 exact xA rfl trivial
theorem aBg {L : List Cmt} {n : Nat} {k0 : Int} (hm : L.length ≤ 1048600) (ht : uo L ≤ 1048600) (hn : n ≤ 1048600) (h0 : 0 ≤ k0) (h1 : k0 ≤ 4194304) (h2 : 0 ≤ kA L k0) (h3 : kA L k0 ≤ 8388608) : AC Tryd.prog 17 [vP ⟨xw L k0, yA n (kA L k0)⟩, .v (.int .i64 k0)] ⟨.v (.int .i64 (kA L k0 + 4 * n)), []⟩ := by
 have h1 := aDK (l := L) (k0 := k0) (by omega) (by omega) (by omega) (by omega)
 have h2 := aFf (n := n) (k0 := kA L k0) (by omega) (by omega) (by omega)
 refine qrf Tryd.func17 Tryd.ntmps17 Tryd.results17 ?_; conv => whnf
 repeat ((first | refine qz ?_ | refine qc (h1) ?_ | refine qc (h2) ?_); conv => whnf)
 exact xA rfl trivial
end Go.Proofs.YtoaifonjemlfcaaDoor.AM
namespace Go.Proofs.YtoaifonjemlfcaaDoor.AM
open Go Go.RowKit
def zo (t : ByteArray) : Nat → Rds → List Int × Rds
 | 0, s => ([], s)
 | n + 1, s => (((rdN t s).1 : Int) :: (zo t n (rdN t s).2).1, (zo t n (rdN t s).2).2)
def uK (t : ByteArray) : Nat → Rds → List Ent × Rds
 | 0, s => ([], s)
 | n + 1, s => (((rdW t s).1, (rdS t (rdW t s).2).1) :: (uK t n (rdS t (rdW t s).2).2).1, (uK t n (rdS t (rdW t s).2).2).2)
def rdM (t : ByteArray) (s : Rds) : Cmt × Rds :=
 (((zo t (rdC t 2 s).1 (rdC t 2 s).2).1, (uK t (rdC t 12 (zo t (rdC t 2 s).1 (rdC t 2 s).2).2).1 (rdC t 12 (zo t (rdC t 2 s).1 (rdC t 2 s).2).2).2).1), (uK t (rdC t 12 (zo t (rdC t 2 s).1 (rdC t 2 s).2).2).1 (rdC t 12 (zo t (rdC t 2 s).1 (rdC t 2 s).2).2).2).2)
theorem aB7 {t : ByteArray} : ∀ {n : Nat} {s : Rds}, yH t s → yH t (zo t n s).2 ∧ (zo t n s).1.length = n
 | 0, s, h => ⟨h, rfl⟩
 | n + 1, s, h => by
  have := aB7 (n := n) (zN h).1
  exact ⟨this.1, by simp [zo, this.2]⟩
theorem aCK {a t l l1 l2 : Nat} {ob o1 o2 o0 : OB} {t' : Option Nat} {Θ : Tab} {s : St} (h0 : s.hp 0 = some o0) (h1 : s.sl a = .optr l 0 [] 0) (ho : s.hp l = some ob) (hop : ob.e.open_ = false) (hoe : xk ob.e ob.xs 0 = some (.o t' 0 (.mix [.own l1, .own l2]))) (ho1 : s.hp l1 = some o1) (ho2 : s.hp l2 = some o2) (hn : Nat.beq l1 l2 = false) (hk : ((Θ.look t).known && (Θ.look t).isAgg && Nat.beq 2 (Θ.look t).size) = true) (hok1 : okL l1 = true := by rfl) (hok2 : okL l2 = true := by rfl) (hs1 : o1.e.shut = true := by rfl) (hs2 : o2.e.shut = true := by rfl) :
 yE Θ [.cell a t] [o0] ⟨.mix [.own 0, .own 1], [o1, o2]⟩ .ret s := by
 obtain ⟨_, h⟩ := aJn (s := s) (Θ := Θ) h1 ho hop hoe ho1 ho2 hn hk hok1 hok2 hs1 hs2
 exact ⟨⟨h0, trivial⟩, h⟩
attribute [local irreducible] xM xO xg yE y7 Pre ACG
set_option maxHeartbeats 4000000 in
theorem aHW {t : ByteArray} {s : Rds} (h : yH t s) : ACG Tryd.prog 20 [.optr 0 0 [] 0] [vQ t s] [vQ t (rdM t s).2] ⟨.mix [.own 0, .own 1], [⟨3, 1, (rdM t s).1.1.map xu⟩, ⟨70, 2, (rdM t s).1.2.map yP⟩]⟩ := by
 have c1 := je (m := 2) h (by omega)
 have hb := yS (m := 2) h
 unfold rdM
 generalize rdC t 2 s = R at c1 hb ⊢
 obtain ⟨n, s1⟩ := R
 dsimp only at c1 hb ⊢
 refine xX (rs := [.cell 2 28]) xJ (by kernel_rfl) Tryd.func20 rfl Tryd.ntmps20 (by rw [Tryd.results20]) (by kernel_rfl) (by simp) rfl rfl (xE _ _ _ ?_)
 conv => whnf
 repeat ((refine qz ?_; conv => whnf))
 refine qr (qE rfl ⟨⟨_, _, rfl, rfl, rfl⟩, ⟨_, _, rfl, rfl, rfl⟩, trivial⟩ rfl) ?_
 conv => whnf
 repeat ((first | refine qz ?_ | refine qr (xW rfl rfl rfl rfl rfl rfl) ?_ | refine qr (xB [0] (c1) rfl rfl (by first | exact ⟨rfl, trivial⟩ | exact ⟨rfl, rfl, trivial⟩ | exact ⟨rfl, rfl, rfl, trivial⟩) rfl rfl (by first | exact trivial | exact ⟨⟨rfl, rfl, rfl⟩, trivial⟩ | exact ⟨⟨rfl, rfl, rfl⟩, ⟨rfl, rfl, rfl⟩, trivial⟩ | exact ⟨⟨rfl, rfl, rfl⟩, ⟨rfl, rfl, rfl⟩, ⟨rfl, rfl, rfl⟩, trivial⟩) rfl rfl rfl (.inl rfl) rfl) ?_); conv => whnf)
 have hpo := aB7 (n := n) hb.1
 obtain ⟨PP, hPP⟩ : ∃ PP, zo t n s1 = PP := ⟨_, rfl⟩
 rw [hPP] at hpo ⊢
 obtain ⟨PL, PS⟩ := PP
 dsimp only at hpo ⊢
 refine xZ (ι := { p : Nat × List Int × Rds // p.1 ≤ 2 ∧ yH t p.2.2 ∧ p.2.1.length + p.1 ≤ 2 ∧ p.2.1 ++ (zo t p.1 p.2.2).1 = PL ∧ (zo t p.1 p.2.2).2 = PS }) (fun p => ⟨[(0, .optr 0 0 [] 0), (2, .optr 3 0 [] 0), (3, .optr 4 0 [] 0), (4, .v (.int .i64 (p.1.1 : Int)))], [(0, vQ t p.1.2.2), (3, ⟨.z 28, 2, [.agg [.lst 1 [], .lst 2 []]]⟩), (4, ⟨.o (some 28) 0 (.mix [.own 8, .own 9]), 2, [.agg [.lst 1 [], .lst 2 []]]⟩), (8, ⟨3, 1, p.1.2.1.map xu⟩), (9, ⟨70, 2, []⟩)]⟩) (fun p => p.1.1) ⟨(n, [], s1), hb.2, hb.1, by simpa using hb.2, by simp [hPP], by simp [hPP]⟩ (by exact qle) ?_
 rintro ⟨⟨k, l, s2⟩, hk, hs2, hl, hp1, hp2⟩
 dsimp only at hk hs2 hl hp1 hp2 ⊢
 conv => whnf
 cases k with
 | succ k =>
  have c2 := jf hs2
  have hb2 := zN hs2
  unfold zo at hp1 hp2
  generalize rdN t s2 = R at c2 hb2 hp1 hp2
  obtain ⟨m, s3⟩ := R
  dsimp only at c2 hb2 hp1 hp2
  repeat ((refine qz ?_; conv => whnf))
  (refine qdr ?_; conv => whnf)
  repeat ((refine qz ?_; conv => whnf))
  refine zW (xB [0] c2 rfl rfl (by first | exact ⟨rfl, trivial⟩ | exact ⟨rfl, rfl, trivial⟩ | exact ⟨rfl, rfl, rfl, trivial⟩) rfl rfl (by first | exact trivial | exact ⟨⟨rfl, rfl, rfl⟩, trivial⟩ | exact ⟨⟨rfl, rfl, rfl⟩, ⟨rfl, rfl, rfl⟩, trivial⟩ | exact ⟨⟨rfl, rfl, rfl⟩, ⟨rfl, rfl, rfl⟩, ⟨rfl, rfl, rfl⟩, trivial⟩) rfl rfl rfl (.inl rfl) rfl) rfl rfl (fun _ => .inr (.inr (uY (l := 0) (by kernel_rfl) (by kernel_rfl)))) ?_
  conv => whnf
  refine zW (aBH rfl rfl rfl rfl rfl rfl) rfl rfl (fun _ => .inr (.inr (uY (by kernel_rfl) (by kernel_rfl)))) ?_
  conv => whnf
  refine zW (ja (f := xu) (xs := l) (m : Int) (l ++ [(m : Int)]) rfl (by omega) rfl rfl rfl rfl rfl rfl rfl) rfl rfl (fun _ => .inr (.inr (qK (by kernel_rfl) (by kernel_rfl)))) ?_
  conv => whnf
  repeat ((first | refine qp (xG (wB (c := (k : Int)) (by omega) (by omega) (by omega)) rfl rfl rfl) ?_ | refine qz ?_ | refine qr (xW rfl rfl rfl rfl rfl rfl) ?_); conv => whnf)
  exact ⟨⟨(k, l ++ [(m : Int)], s3), by dsimp only; omega, hb2.1, by simp; omega, by simpa using hp1, hp2⟩, by exact qle, by dsimp only; omega⟩
 | zero =>
  simp only [zo, List.append_nil] at hp1 hp2
  subst hp1 hp2
  have c3 := je (m := 12) hs2 (by omega)
  have hb3 := yS (m := 12) hs2
  generalize rdC t 12 s2 = R at c3 hb3 ⊢
  obtain ⟨m, s3⟩ := R
  dsimp only at c3 hb3 ⊢
  repeat ((first | refine qz ?_ | refine qr (xB [0] (c3) rfl rfl (by first | exact ⟨rfl, trivial⟩ | exact ⟨rfl, rfl, trivial⟩ | exact ⟨rfl, rfl, rfl, trivial⟩) rfl rfl (by first | exact trivial | exact ⟨⟨rfl, rfl, rfl⟩, trivial⟩ | exact ⟨⟨rfl, rfl, rfl⟩, ⟨rfl, rfl, rfl⟩, trivial⟩ | exact ⟨⟨rfl, rfl, rfl⟩, ⟨rfl, rfl, rfl⟩, ⟨rfl, rfl, rfl⟩, trivial⟩) rfl rfl rfl (.inl rfl) rfl) ?_); conv => whnf)
  obtain ⟨QQ, hQQ⟩ : ∃ QQ, uK t m s3 = QQ := ⟨_, rfl⟩
  rw [hQQ]
  obtain ⟨QL, QS⟩ := QQ
  dsimp only
  refine xZ (ι := { p : Nat × List Ent × Rds // p.1 ≤ 12 ∧ yH t p.2.2 ∧ p.2.1.length + p.1 ≤ 12 ∧ p.2.1 ++ (uK t p.1 p.2.2).1 = QL ∧ (uK t p.1 p.2.2).2 = QS }) (fun p => ⟨[(0, .optr 0 0 [] 0), (2, .optr 3 0 [] 0), (3, .optr 4 0 [] 0), (5, .v (.int .i64 (p.1.1 : Int)))], [(0, vQ t p.1.2.2), (3, ⟨.z 28, 2, [.agg [.lst 1 [], .lst 2 []]]⟩), (4, ⟨.o (some 28) 0 (.mix [.own 8, .own 9]), 2, [.agg [.lst 1 [], .lst 2 []]]⟩), (8, ⟨3, 1, l.map xu⟩), (9, ⟨70, 2, p.1.2.1.map yP⟩)]⟩) (fun p => p.1.1) ⟨(m, [], s3), hb3.2, hb3.1, by simpa using hb3.2, by simp [hQQ], by simp [hQQ]⟩ (by exact qle) ?_
  rintro ⟨⟨k, el, s4⟩, hk', hs4, hl', hp1, hp2⟩
  dsimp only at hk' hs4 hl' hp1 hp2 ⊢
  conv => whnf
  cases k with
  | succ k =>
   have c4 := aEk hs4
   have hb4 := wU hs4
   unfold uK at hp1 hp2
   generalize rdW t s4 = R at c4 hb4 hp1 hp2
   obtain ⟨key, s5⟩ := R
   dsimp only at c4 hb4 hp1 hp2
   have c5 := aHX hb4
   have hb5 := aCz hb4
   generalize rdS t s5 = R at c5 hb5 hp1 hp2
   obtain ⟨v, s6⟩ := R
   dsimp only at c5 hb5 hp1 hp2
   repeat ((first | refine qz ?_ | refine qr (xB [0] (c4) rfl rfl (by first | exact ⟨rfl, trivial⟩ | exact ⟨rfl, rfl, trivial⟩ | exact ⟨rfl, rfl, rfl, trivial⟩) rfl rfl (by first | exact trivial | exact ⟨⟨rfl, rfl, rfl⟩, trivial⟩ | exact ⟨⟨rfl, rfl, rfl⟩, ⟨rfl, rfl, rfl⟩, trivial⟩ | exact ⟨⟨rfl, rfl, rfl⟩, ⟨rfl, rfl, rfl⟩, ⟨rfl, rfl, rfl⟩, trivial⟩) rfl rfl rfl (.inl rfl) rfl) ?_); conv => whnf)
   (refine qdr ?_; conv => whnf)
   repeat ((refine qz ?_; conv => whnf))
   refine zW (xB [0] c5 rfl rfl (by first | exact ⟨rfl, trivial⟩ | exact ⟨rfl, rfl, trivial⟩ | exact ⟨rfl, rfl, rfl, trivial⟩) rfl rfl (by first | exact trivial | exact ⟨⟨rfl, rfl, rfl⟩, trivial⟩ | exact ⟨⟨rfl, rfl, rfl⟩, ⟨rfl, rfl, rfl⟩, trivial⟩ | exact ⟨⟨rfl, rfl, rfl⟩, ⟨rfl, rfl, rfl⟩, ⟨rfl, rfl, rfl⟩, trivial⟩) rfl rfl rfl (.inl rfl) rfl) rfl rfl (fun _ => .inr (.inr (uY (l := 0) (by kernel_rfl) (by kernel_rfl)))) ?_
   conv => whnf
   repeat ((refine qz ?_; conv => whnf))
   refine zW (aBH rfl rfl rfl rfl rfl rfl) rfl rfl (fun _ => .inr (.inr (uY (by kernel_rfl) (by kernel_rfl)))) ?_
   conv => whnf
   refine zW (ja (f := yP) (xs := el) (key, v) (el ++ [(key, v)]) rfl (by omega) rfl rfl rfl rfl rfl rfl rfl) rfl rfl (fun _ => .inr (.inr (qK (by kernel_rfl) (by kernel_rfl)))) ?_
   conv => whnf
   repeat ((first | refine qp (xG (wB (c := (k : Int)) (by omega) (by omega) (by omega)) rfl rfl rfl) ?_ | refine qz ?_ | refine qr (xW rfl rfl rfl rfl rfl rfl) ?_); conv => whnf)
   exact ⟨⟨(k, el ++ [(key, v)], s6), by dsimp only; omega, hb5, by simp; omega, by simpa using hp1, hp2⟩, by exact qle, by dsimp only; omega⟩
  | zero =>
   simp only [uK, List.append_nil] at hp1 hp2
   subst hp1 hp2
   repeat ((first | refine qz ?_ | refine qr (xW rfl rfl rfl rfl rfl rfl) ?_); conv => whnf)
   exact aCK rfl rfl rfl rfl rfl rfl rfl rfl rfl
end Go.Proofs.YtoaifonjemlfcaaDoor.AM
namespace Go.Proofs.YtoaifonjemlfcaaDoor.AM
open Go Go.RowKit
theorem aII {t : ByteArray} {s : Rds} (h : yH t s) : (rdW t s).1.size ≤ 1000000 := by
 unfold rdW
 split
 · show (0 : Nat) ≤ _; omega
 · show (t.extract _ _).size ≤ _
   rw [ByteArray.size_extract]
   have := h.1
   omega
theorem aGT {t : ByteArray} : ∀ {n : Nat} {s : Rds}, yH t s → yH t (uK t n s).2 ∧ (uK t n s).1.length = n ∧ ∀ e ∈ (uK t n s).1, e.1.size ≤ 1000000
 | 0, s, h => ⟨h, rfl, fun e he => by cases he⟩
 | n + 1, s, h => by
  have h1 := wU h
  obtain ⟨k1, k2, k3⟩ := aGT (n := n) (aCz h1)
  refine ⟨k1, by simp [uK, k2], fun e he => ?_⟩
  simp only [uK] at he
  rcases List.mem_cons.1 he with rfl | he
  · exact aII h
  · exact k3 e he
theorem kR {t : ByteArray} {s : Rds} (h : yH t s) : yH t (rdM t s).2 ∧ (rdM t s).1.1.length ≤ 2 ∧ (rdM t s).1.2.length ≤ 12 ∧ ∀ e ∈ (rdM t s).1.2, e.1.size ≤ 1000000 := by
 have h1 := yS (m := 2) h
 have h2 := aB7 (n := (rdC t 2 s).1) h1.1
 have h3 := yS (m := 12) h2.1
 have h4 := aGT (n := (rdC t 12 (zo t (rdC t 2 s).1 (rdC t 2 s).2).2).1) h3.1
 exact ⟨h4.1, by show (zo _ _ _).1.length ≤ 2; rw [h2.2]; exact h1.2, by show (uK _ _ _).1.length ≤ 12; rw [h4.2.1]; exact h3.2, h4.2.2⟩
def jl (t : ByteArray) : Bool := !(rdM t (0, false)).2.2 && (decide ((rdM t (0, false)).2.1 = t.size) && qf (rdM t (0, false)).1)
def aAu (t : ByteArray) : Int := if 65536 < t.size then 2 else 3
attribute [local irreducible] xM xO xg yE y7 Pre ACG
set_option maxHeartbeats 1000000 in
theorem aDh {t : ByteArray} (ht : t.size ≤ maxLen) (h : 65536 < t.size ∨ jl t = false) : AC Tryd.prog 8 [.v (.string t)] ⟨.tup [xP ([], []), .v (.int .i64 (aAu t))], []⟩ := by
 unfold maxLen at ht
 unfold aAu
 by_cases h0 : 65536 < t.size
 · rw [if_pos h0]
   refine qrf Tryd.func8 Tryd.ntmps8 Tryd.results8 ?_; conv => whnf
   repeat ((first | refine qz ?_ | refine qst ?_); conv => whnf)
   exact yu rfl rfl rfl rfl trivial rfl
 rw [if_neg h0]
 have hd : jl t = false := by rcases h with h | h; exact absurd h h0; exact h
 have hok : yH t (0, false) := ⟨by omega, Nat.zero_le _⟩
 have c1 := aHW hok
 obtain ⟨m1, m2, m3, m4⟩ := kR hok
 unfold jl at hd
 generalize rdM t (0, false) = R at c1 m1 m2 m3 m4 hd
 obtain ⟨c, a, bad⟩ := R
 dsimp only at c1 m1 m2 m3 m4 hd
 have c2 := aBi (c := c) (by unfold maxLen; omega) (by unfold maxLen; omega) (fun e he => by have := m4 e he; unfold maxLen; omega)
 have ha := m1.2
 dsimp only at ha
 cases bad
 case true =>
  refine qrf Tryd.func8 Tryd.ntmps8 Tryd.results8 ?_; conv => whnf
  repeat ((first | refine qz ?_ | refine qst ?_ | refine qr (xB [13] (c1) rfl rfl (by first | exact ⟨rfl, trivial⟩ | exact ⟨rfl, rfl, trivial⟩ | exact ⟨rfl, rfl, rfl, trivial⟩) rfl rfl (by first | exact trivial | exact ⟨⟨rfl, rfl, rfl⟩, trivial⟩ | exact ⟨⟨rfl, rfl, rfl⟩, ⟨rfl, rfl, rfl⟩, trivial⟩ | exact ⟨⟨rfl, rfl, rfl⟩, ⟨rfl, rfl, rfl⟩, ⟨rfl, rfl, rfl⟩, trivial⟩) rfl rfl rfl (.inl rfl) rfl) ?_ | refine qr (xW rfl rfl rfl rfl rfl rfl) ?_ | refine qc (c2) ?_); conv => whnf)
  exact yu rfl rfl rfl rfl trivial rfl
 simp only [Bool.not_false, Bool.true_and] at hd
 by_cases hsz : a = t.size
 case neg =>
  refine qrf Tryd.func8 Tryd.ntmps8 Tryd.results8 ?_; conv => whnf
  repeat ((first | refine qz ?_ | refine qst ?_ | refine qr (xB [13] (c1) rfl rfl (by first | exact ⟨rfl, trivial⟩ | exact ⟨rfl, rfl, trivial⟩ | exact ⟨rfl, rfl, rfl, trivial⟩) rfl rfl (by first | exact trivial | exact ⟨⟨rfl, rfl, rfl⟩, trivial⟩ | exact ⟨⟨rfl, rfl, rfl⟩, ⟨rfl, rfl, rfl⟩, trivial⟩ | exact ⟨⟨rfl, rfl, rfl⟩, ⟨rfl, rfl, rfl⟩, ⟨rfl, rfl, rfl⟩, trivial⟩) rfl rfl rfl (.inl rfl) rfl) ?_ | refine qr (xW rfl rfl rfl rfl rfl rfl) ?_ | refine qc (c2) ?_); conv => whnf)
  exact yu rfl rfl rfl rfl trivial rfl
 rw [decide_eq_true hsz, Bool.true_and] at hd
 rw [hd] at c2
 refine qrf Tryd.func8 Tryd.ntmps8 Tryd.results8 ?_; conv => whnf
 repeat ((first | refine qz ?_ | refine qst ?_ | refine qr (xB [13] (c1) rfl rfl (by first | exact ⟨rfl, trivial⟩ | exact ⟨rfl, rfl, trivial⟩ | exact ⟨rfl, rfl, rfl, trivial⟩) rfl rfl (by first | exact trivial | exact ⟨⟨rfl, rfl, rfl⟩, trivial⟩ | exact ⟨⟨rfl, rfl, rfl⟩, ⟨rfl, rfl, rfl⟩, trivial⟩ | exact ⟨⟨rfl, rfl, rfl⟩, ⟨rfl, rfl, rfl⟩, ⟨rfl, rfl, rfl⟩, trivial⟩) rfl rfl rfl (.inl rfl) rfl) ?_ | refine qr (xW rfl rfl rfl rfl rfl rfl) ?_ | refine qc (c2) ?_); conv => whnf)
 exact yu rfl rfl rfl rfl trivial rfl
theorem aHY {t : ByteArray} (h0 : ¬ 65536 < t.size) (h : jl t = true) : AC Tryd.prog 8 [.v (.string t)] ⟨.tup [.mix [.own 0, .own 1], .v (.int .i64 0)], [⟨3, 1, (rdM t (0, false)).1.1.map xu⟩, ⟨70, 2, (rdM t (0, false)).1.2.map yP⟩]⟩ := by
 have hok : yH t (0, false) := ⟨by omega, Nat.zero_le _⟩
 have c1 := aHW hok
 obtain ⟨m1, m2, m3, m4⟩ := kR hok
 unfold jl at h
 generalize rdM t (0, false) = R at c1 m1 m2 m3 m4 h
 obtain ⟨c, a, bad⟩ := R
 dsimp only at c1 m1 m2 m3 m4 h ⊢
 have c2 := aBi (c := c) (by unfold maxLen; omega) (by unfold maxLen; omega) (fun e he => by have := m4 e he; unfold maxLen; omega)
 cases bad
 case true => simp at h
 simp only [Bool.not_false, Bool.true_and, Bool.and_eq_true, decide_eq_true_eq] at h
 obtain ⟨hsz, hl⟩ := h
 rw [hl] at c2
 refine qrf Tryd.func8 Tryd.ntmps8 Tryd.results8 ?_; conv => whnf
 repeat ((first | refine qz ?_ | refine qr (xB [13] (c1) rfl rfl (by first | exact ⟨rfl, trivial⟩ | exact ⟨rfl, rfl, trivial⟩ | exact ⟨rfl, rfl, rfl, trivial⟩) rfl rfl (by first | exact trivial | exact ⟨⟨rfl, rfl, rfl⟩, trivial⟩ | exact ⟨⟨rfl, rfl, rfl⟩, ⟨rfl, rfl, rfl⟩, trivial⟩ | exact ⟨⟨rfl, rfl, rfl⟩, ⟨rfl, rfl, rfl⟩, ⟨rfl, rfl, rfl⟩, trivial⟩) rfl rfl rfl (.inl rfl) rfl) ?_ | refine qr (xW rfl rfl rfl rfl rfl rfl) ?_ | refine qc (c2) ?_ | refine qst ?_); conv => whnf)
 exact aFX rfl rfl rfl rfl rfl rfl rfl rfl rfl
end Go.Proofs.YtoaifonjemlfcaaDoor.AM
namespace Go.Proofs.YtoaifonjemlfcaaDoor.AM
open Go Go.RowKit
theorem aH5 {a t l : Nat} {ob : OB} {t' : Option Nat} {xs : List AV} {s : St} {Θ : Tab} (h1 : s.sl a = .optr l 0 [] 0) (ho : s.hp l = some ob) (hop : ob.e.open_ = false) (hoe : xk ob.e ob.xs 0 = some (.o t' 0 (.mix xs))) (hof : ofO (.mix xs) = some (.mix xs)) (hk : ((Θ.look t).known && (Θ.look t).isAgg && Nat.beq (xD xs) (Θ.look t).size) = true) : rvA s (.cell a t) = .mix xs ∧ aIw Θ s (.cell a t) := by
 have hr : rvA s (.cell a t) = .mix xs := by
  simp only [rvA, h1, ho, hop, hoe, cond_false, hof]; rfl
 simp only [Bool.and_eq_true] at hk
 exact ⟨hr, hk.1.1, by rw [hr]; exact hk.1.2.symm, by rw [hr]; exact Nat.eq_of_beq_eq_true hk.2, .inl ⟨l, ob, _, h1, ho, .inr ⟨hop, _, _, hoe, hof⟩⟩⟩
theorem aIm {a t l : Nat} {ob o0 : OB} {t' : Option Nat} {xs : List AV} {y : AV} {s : St} {Θ : Tab} (h0 : s.hp 0 = some o0) (h1 : s.sl a = .optr l 0 [] 0) (ho : s.hp l = some ob) (hoe : xk ob.e ob.xs 0 = some (.o t' 0 (.mix xs))) (hd : xK s (.mix xs) = true) (hy : s.dat (.mix xs) = y) (hw : ((yJ (.mix xs)).all fun l => okL l && !([] : List Nat).contains l) = true) (hof : ofO (.mix xs) = some (.mix xs) := by rfl) (hk : ((Θ.look t).known && (Θ.look t).isAgg && Nat.beq (xD xs) (Θ.look t).size) = true := by rfl) (hop : ob.e.open_ = false := by rfl) :
 yE Θ [.cell a t] [o0] ⟨y, []⟩ .ret s := by
 obtain ⟨c1, c2⟩ := aH5 (Θ := Θ) (t := t) h1 ho hop hoe hof hk
 exact ⟨⟨h0, trivial⟩, [], by simp, trivial, ⟨c2, trivial⟩, trivial, ⟨by rw [c1]; exact .inr ⟨hd, hw, hy.symm⟩, trivial⟩⟩
theorem aJs {a t t2 l : Nat} {ob : OB} {v : Value} {t' : Option Nat} {xs : List AV} {y : AV} {s : St} {Θ : Tab} (h1 : s.sl a = .optr l 0 [] 0) (ho : s.hp l = some ob) (hoe : xk ob.e ob.xs 0 = some (.o t' 0 (.mix xs))) (hd : xK s (.mix xs) = true) (hy : s.dat (.mix xs) = y) (hw : ((yJ (.mix xs)).all fun l => okL l && !([] : List Nat).contains l) = true) (h2 : s.sl t2 = .v v) (hof : ofO (.mix xs) = some (.mix xs) := by rfl) (hk : ((Θ.look t).known && (Θ.look t).isAgg && Nat.beq (xD xs) (Θ.look t).size) = true := by rfl) (hop : ob.e.open_ = false := by rfl) :
 jd Θ [.cell a t, .tmp t2] ⟨.tup [y, .v v], []⟩ .ret s := by
 obtain ⟨c1, c2⟩ := aH5 (Θ := Θ) (t := t) h1 ho hop hoe hof hk
 exact ⟨trivial, [], by simp, trivial, ⟨c2, trivial, trivial⟩, ⟨_, rfl⟩, ⟨by rw [c1]; exact .inr ⟨hd, hw, hy.symm⟩, .inl ⟨h2, rfl⟩, trivial⟩⟩
theorem qQ {Θ : Tab} {s : St} {d : Option Tmp} {ty : TypeId} {pos : String} {after : Array Edge} {g : Option (Nat × Bool)} {x hi : Operand} {a : ByteArray} {k' : IntKind} {j : Nat} (hj : j ≤ a.size) (hx : s.ev x = .v (.string a)) (hh : s.ev hi = .v (.int k' (j : Int))) : Pre Tryd.prog Θ ⟨d, .slice 9 x none (some hi) none, ty, pos, after, g⟩ s ⟨.v (.string (a.extract 0 j)), none⟩ := by
 refine .inl ⟨.string a, .string (a.extract 0 j), by rw [hx]; rfl, fun y hy => ?_, fun w => ?_, rfl, rfl⟩
 · simp only [Option.toList, List.append_nil, List.nil_append, List.mem_cons, List.not_mem_nil, or_false] at hy
   subst hy
   rw [hh]; rfl
 · simp only [Option.map_some, Option.map_none, hh, yK, Option.getD_some]
   rw [run_sliceAt_string w _ _ _ _ _ Tryd.underlying9]
   have hj2 : (0 : Int) ≤ (j : Int) ∧ (j : Int) ≤ (a.size : Int) := ⟨by omega, by omega⟩
   simp [Instr.slice, Instr.sliceBounds, Instr.sliceBound, asIntOf, run_underlying Tryd.underlying9, hj2]
   try omega
attribute [local irreducible] xM xO xg yE y7 Pre ACG
set_option maxHeartbeats 4000000 in
theorem aJV {t : ByteArray} {s : Rds} (h : yH t s) : ACG Tryd.prog 20 [.optr 0 0 [] 0] [vQ t s] [vQ t (rdM t s).2] ⟨xP (rdM t s).1, []⟩ := by
 have c1 := je (m := 2) h (by omega)
 have hb := yS (m := 2) h
 unfold rdM
 generalize rdC t 2 s = R at c1 hb ⊢
 obtain ⟨n, s1⟩ := R
 dsimp only at c1 hb ⊢
 refine xX (rs := [.cell 2 28]) xJ (by kernel_rfl) Tryd.func20 rfl Tryd.ntmps20 (by rw [Tryd.results20]) (by kernel_rfl) (by simp) rfl rfl (xE _ _ _ ?_)
 conv => whnf
 repeat ((refine qz ?_; conv => whnf))
 refine qr (qE rfl ⟨⟨_, _, rfl, rfl, rfl⟩, ⟨_, _, rfl, rfl, rfl⟩, trivial⟩ rfl) ?_
 conv => whnf
 repeat ((first | refine qz ?_ | refine qr (xW rfl rfl rfl rfl rfl rfl) ?_ | refine qr (xB [0] (c1) rfl rfl (by first | exact ⟨rfl, trivial⟩ | exact ⟨rfl, rfl, trivial⟩ | exact ⟨rfl, rfl, rfl, trivial⟩) rfl rfl (by first | exact trivial | exact ⟨⟨rfl, rfl, rfl⟩, trivial⟩ | exact ⟨⟨rfl, rfl, rfl⟩, ⟨rfl, rfl, rfl⟩, trivial⟩ | exact ⟨⟨rfl, rfl, rfl⟩, ⟨rfl, rfl, rfl⟩, ⟨rfl, rfl, rfl⟩, trivial⟩) rfl rfl rfl (.inl rfl) rfl) ?_); conv => whnf)
 have hpo := aB7 (n := n) hb.1
 obtain ⟨PP, hPP⟩ : ∃ PP, zo t n s1 = PP := ⟨_, rfl⟩
 rw [hPP] at hpo ⊢
 obtain ⟨PL, PS⟩ := PP
 dsimp only at hpo ⊢
 refine xZ (ι := { p : Nat × List Int × Rds // p.1 ≤ 2 ∧ yH t p.2.2 ∧ p.2.1.length + p.1 ≤ 2 ∧ p.2.1 ++ (zo t p.1 p.2.2).1 = PL ∧ (zo t p.1 p.2.2).2 = PS }) (fun p => ⟨[(0, .optr 0 0 [] 0), (2, .optr 3 0 [] 0), (3, .optr 4 0 [] 0), (4, .v (.int .i64 (p.1.1 : Int)))], [(0, vQ t p.1.2.2), (3, ⟨.z 28, 2, [.agg [.lst 1 [], .lst 2 []]]⟩), (4, ⟨.o (some 28) 0 (.mix [.own 8, .own 9]), 2, [.agg [.lst 1 [], .lst 2 []]]⟩), (8, ⟨3, 1, p.1.2.1.map xu⟩), (9, ⟨70, 2, []⟩)]⟩) (fun p => p.1.1) ⟨(n, [], s1), hb.2, hb.1, by simpa using hb.2, by simp [hPP], by simp [hPP]⟩ (by exact qle) ?_
 rintro ⟨⟨k, l, s2⟩, hk, hs2, hl, hp1, hp2⟩
 dsimp only at hk hs2 hl hp1 hp2 ⊢
 conv => whnf
 cases k with
 | succ k =>
  have c2 := jf hs2
  have hb2 := zN hs2
  unfold zo at hp1 hp2
  generalize rdN t s2 = R at c2 hb2 hp1 hp2
  obtain ⟨m, s3⟩ := R
  dsimp only at c2 hb2 hp1 hp2
  repeat ((refine qz ?_; conv => whnf))
  (refine qdr ?_; conv => whnf)
  repeat ((refine qz ?_; conv => whnf))
  refine zW (xB [0] c2 rfl rfl (by first | exact ⟨rfl, trivial⟩ | exact ⟨rfl, rfl, trivial⟩ | exact ⟨rfl, rfl, rfl, trivial⟩) rfl rfl (by first | exact trivial | exact ⟨⟨rfl, rfl, rfl⟩, trivial⟩ | exact ⟨⟨rfl, rfl, rfl⟩, ⟨rfl, rfl, rfl⟩, trivial⟩ | exact ⟨⟨rfl, rfl, rfl⟩, ⟨rfl, rfl, rfl⟩, ⟨rfl, rfl, rfl⟩, trivial⟩) rfl rfl rfl (.inl rfl) rfl) rfl rfl (fun _ => .inr (.inr (uY (l := 0) (by kernel_rfl) (by kernel_rfl)))) ?_
  conv => whnf
  refine zW (aBH rfl rfl rfl rfl rfl rfl) rfl rfl (fun _ => .inr (.inr (uY (by kernel_rfl) (by kernel_rfl)))) ?_
  conv => whnf
  refine zW (ja (f := xu) (xs := l) (m : Int) (l ++ [(m : Int)]) rfl (by omega) rfl rfl rfl rfl rfl rfl rfl) rfl rfl (fun _ => .inr (.inr (qK (by kernel_rfl) (by kernel_rfl)))) ?_
  conv => whnf
  repeat ((first | refine qp (xG (wB (c := (k : Int)) (by omega) (by omega) (by omega)) rfl rfl rfl) ?_ | refine qz ?_ | refine qr (xW rfl rfl rfl rfl rfl rfl) ?_); conv => whnf)
  exact ⟨⟨(k, l ++ [(m : Int)], s3), by dsimp only; omega, hb2.1, by simp; omega, by simpa using hp1, hp2⟩, by exact qle, by dsimp only; omega⟩
 | zero =>
  simp only [zo, List.append_nil] at hp1 hp2
  subst hp1 hp2
  have c3 := je (m := 12) hs2 (by omega)
  have hb3 := yS (m := 12) hs2
  generalize rdC t 12 s2 = R at c3 hb3 ⊢
  obtain ⟨m, s3⟩ := R
  dsimp only at c3 hb3 ⊢
  repeat ((first | refine qz ?_ | refine qr (xB [0] (c3) rfl rfl (by first | exact ⟨rfl, trivial⟩ | exact ⟨rfl, rfl, trivial⟩ | exact ⟨rfl, rfl, rfl, trivial⟩) rfl rfl (by first | exact trivial | exact ⟨⟨rfl, rfl, rfl⟩, trivial⟩ | exact ⟨⟨rfl, rfl, rfl⟩, ⟨rfl, rfl, rfl⟩, trivial⟩ | exact ⟨⟨rfl, rfl, rfl⟩, ⟨rfl, rfl, rfl⟩, ⟨rfl, rfl, rfl⟩, trivial⟩) rfl rfl rfl (.inl rfl) rfl) ?_); conv => whnf)
  obtain ⟨QQ, hQQ⟩ : ∃ QQ, uK t m s3 = QQ := ⟨_, rfl⟩
  rw [hQQ]
  obtain ⟨QL, QS⟩ := QQ
  dsimp only
  refine xZ (ι := { p : Nat × List Ent × Rds // p.1 ≤ 12 ∧ yH t p.2.2 ∧ p.2.1.length + p.1 ≤ 12 ∧ p.2.1 ++ (uK t p.1 p.2.2).1 = QL ∧ (uK t p.1 p.2.2).2 = QS }) (fun p => ⟨[(0, .optr 0 0 [] 0), (2, .optr 3 0 [] 0), (3, .optr 4 0 [] 0), (5, .v (.int .i64 (p.1.1 : Int)))], [(0, vQ t p.1.2.2), (3, ⟨.z 28, 2, [.agg [.lst 1 [], .lst 2 []]]⟩), (4, ⟨.o (some 28) 0 (.mix [.own 8, .own 9]), 2, [.agg [.lst 1 [], .lst 2 []]]⟩), (8, ⟨3, 1, l.map xu⟩), (9, ⟨70, 2, p.1.2.1.map yP⟩)]⟩) (fun p => p.1.1) ⟨(m, [], s3), hb3.2, hb3.1, by simpa using hb3.2, by simp [hQQ], by simp [hQQ]⟩ (by exact qle) ?_
  rintro ⟨⟨k, el, s4⟩, hk', hs4, hl', hp1, hp2⟩
  dsimp only at hk' hs4 hl' hp1 hp2 ⊢
  conv => whnf
  cases k with
  | succ k =>
   have c4 := aEk hs4
   have hb4 := wU hs4
   unfold uK at hp1 hp2
   generalize rdW t s4 = R at c4 hb4 hp1 hp2
   obtain ⟨key, s5⟩ := R
   dsimp only at c4 hb4 hp1 hp2
   have c5 := aHX hb4
   have hb5 := aCz hb4
   generalize rdS t s5 = R at c5 hb5 hp1 hp2
   obtain ⟨v, s6⟩ := R
   dsimp only at c5 hb5 hp1 hp2
   repeat ((first | refine qz ?_ | refine qr (xB [0] (c4) rfl rfl (by first | exact ⟨rfl, trivial⟩ | exact ⟨rfl, rfl, trivial⟩ | exact ⟨rfl, rfl, rfl, trivial⟩) rfl rfl (by first | exact trivial | exact ⟨⟨rfl, rfl, rfl⟩, trivial⟩ | exact ⟨⟨rfl, rfl, rfl⟩, ⟨rfl, rfl, rfl⟩, trivial⟩ | exact ⟨⟨rfl, rfl, rfl⟩, ⟨rfl, rfl, rfl⟩, ⟨rfl, rfl, rfl⟩, trivial⟩) rfl rfl rfl (.inl rfl) rfl) ?_); conv => whnf)
   (refine qdr ?_; conv => whnf)
   repeat ((refine qz ?_; conv => whnf))
   refine zW (xB [0] c5 rfl rfl (by first | exact ⟨rfl, trivial⟩ | exact ⟨rfl, rfl, trivial⟩ | exact ⟨rfl, rfl, rfl, trivial⟩) rfl rfl (by first | exact trivial | exact ⟨⟨rfl, rfl, rfl⟩, trivial⟩ | exact ⟨⟨rfl, rfl, rfl⟩, ⟨rfl, rfl, rfl⟩, trivial⟩ | exact ⟨⟨rfl, rfl, rfl⟩, ⟨rfl, rfl, rfl⟩, ⟨rfl, rfl, rfl⟩, trivial⟩) rfl rfl rfl (.inl rfl) rfl) rfl rfl (fun _ => .inr (.inr (uY (l := 0) (by kernel_rfl) (by kernel_rfl)))) ?_
   conv => whnf
   repeat ((refine qz ?_; conv => whnf))
   refine zW (aBH rfl rfl rfl rfl rfl rfl) rfl rfl (fun _ => .inr (.inr (uY (by kernel_rfl) (by kernel_rfl)))) ?_
   conv => whnf
   refine zW (ja (f := yP) (xs := el) (key, v) (el ++ [(key, v)]) rfl (by omega) rfl rfl rfl rfl rfl rfl rfl) rfl rfl (fun _ => .inr (.inr (qK (by kernel_rfl) (by kernel_rfl)))) ?_
   conv => whnf
   repeat ((first | refine qp (xG (wB (c := (k : Int)) (by omega) (by omega) (by omega)) rfl rfl rfl) ?_ | refine qz ?_ | refine qr (xW rfl rfl rfl rfl rfl rfl) ?_); conv => whnf)
   exact ⟨⟨(k, el ++ [(key, v)], s6), by dsimp only; omega, hb5, by simp; omega, by simpa using hp1, hp2⟩, by exact qle, by dsimp only; omega⟩
  | zero =>
   simp only [uK, List.append_nil] at hp1 hp2
   subst hp1 hp2
   repeat ((first | refine qz ?_ | refine qr (xW rfl rfl rfl rfl rfl rfl) ?_); conv => whnf)
   exact aIm rfl rfl rfl rfl rfl rfl rfl
def vF (t : ByteArray) : Nat → Rds → List Cmt × Rds
 | 0, s => ([], s)
 | n + 1, s => if s.2 = true then ([], s) else ((rdM t s).1 :: (vF t n (rdM t s).2).1, (vF t n (rdM t s).2).2)
def zK (t : ByteArray) (s : Rds) : Rf × Rds := (⟨(rdW t s).1, ((rdN t (rdN t (rdW t s).2).2).1 : Int), ((rdN t (rdW t s).2).1 : Int), decide (((rdN t (rdN t (rdW t s).2).2).1 : Int) = 0)⟩, (rdN t (rdN t (rdW t s).2).2).2)
def vG (t : ByteArray) : Nat → Rds → List Rf × Rds
 | 0, s => ([], s)
 | n + 1, s => if s.2 = true then ([], s) else ((zK t s).1 :: (vG t n (zK t s).2).1, (vG t n (zK t s).2).2)
theorem aB5 {t : ByteArray} : ∀ {n : Nat} {s : Rds}, yH t s → yH t (vF t n s).2 ∧ (vF t n s).1.length ≤ n ∧ aC4 maxLen (vF t n s).1
 | 0, s, h => ⟨h, Nat.le_refl _, fun c hc => by cases hc⟩
 | n + 1, s, h => by
  unfold vF
  split
  · exact ⟨h, Nat.zero_le _, fun c hc => by cases hc⟩
  · obtain ⟨m1, m2, m3, m4⟩ := kR h
    obtain ⟨k1, k2, k3⟩ := aB5 (n := n) m1
    refine ⟨k1, by simp only [List.length_cons]; omega, fun c hc => ?_⟩
    rcases List.mem_cons.1 hc with rfl | hc
    · exact ⟨by unfold maxLen; omega, by unfold maxLen; omega, fun e he => by have := m4 e he; unfold maxLen; omega⟩
    · exact k3 c hc
theorem aD2 {t : ByteArray} {s : Rds} (h : yH t s) : yH t (zK t s).2 ∧ (zK t s).1.name.size ≤ 1000000 :=
 ⟨(zN (zN (wU h)).1).1, aII h⟩
theorem aB8 {t : ByteArray} : ∀ {n : Nat} {s : Rds}, yH t s → yH t (vG t n s).2 ∧ (vG t n s).1.length ≤ n ∧ ∀ r ∈ (vG t n s).1, r.name.size ≤ maxLen
 | 0, s, h => ⟨h, Nat.le_refl _, fun c hc => by cases hc⟩
 | n + 1, s, h => by
  unfold vG
  split
  · exact ⟨h, Nat.zero_le _, fun c hc => by cases hc⟩
  · obtain ⟨m1, m2⟩ := aD2 h
    obtain ⟨k1, k2, k3⟩ := aB8 (n := n) m1
    refine ⟨k1, by simp only [List.length_cons]; omega, fun c hc => ?_⟩
    rcases List.mem_cons.1 hc with rfl | hc
    · unfold maxLen; omega
    · exact k3 c hc
def zJ (t : ByteArray) : Bool := decide (3 ≤ t.size) && decide (t.extract 0 3 = brB)
def dC (t : ByteArray) : List Cmt × Rds := vF t (rdC t 60 (3, false)).1 (rdC t 60 (3, false)).2
def dR (t : ByteArray) : List Rf × Rds := vG t (rdC t 8 (dC t).2).1 (rdC t 8 (dC t).2).2
def dB (t : ByteArray) : Bas := ⟨(dC t).1, (dR t).1⟩
def dS (t : ByteArray) : Nat × Rds := rdN t (dR t).2
noncomputable def dK (t : ByteArray) : Int := if zJ t = false then 3 else if (dS t).2.2 = true ∨ (dS t).2.1 ≠ t.size then 3 else if ((dS t).1 : Int) ≠ aAi (t.extract 0 (dR t).2.1) then 13 else if kG (dB t) = true then 0 else 1
end Go.Proofs.YtoaifonjemlfcaaDoor.AM
namespace Go.Proofs.YtoaifonjemlfcaaDoor.AM
open Go Go.RowKit
abbrev rdP (t : ByteArray) (i : Nat) : OB := ⟨53, 2, [.agg [.v (.string t), .v (.int .i64 (i : Int))]]⟩
theorem aGU {t : ByteArray} {i : Nat} (h : (yh t i).2.2 = true) : rdN t (i, false) = ((yh t i).1, ((yh t i).2.1, false)) := by
 unfold rdN
 rw [if_neg (by simp [h])]
theorem wH {t : ByteArray} {s : Rds} (h : s.2 = true) : (rdN t s).2.2 = true := by
 unfold rdN; rw [if_pos (.inl h)]
theorem aAK {t : ByteArray} {m : Nat} {s : Rds} (h : s.2 = true) : (rdC t m s).2.2 = true := by
 unfold rdC; split
 · rfl
 · exact wH h
theorem aGW {t : ByteArray} {s : Rds} (h : s.2 = true) : (rdW t s).2.2 = true := by
 unfold rdW; rw [if_pos (.inl (aAK h))]
theorem aGV {t : ByteArray} {s : Rds} (h : s.2 = true) : (rdS t s).2.2 = true := wH (t := t) h
theorem aGS {t : ByteArray} {m i : Nat} : (rdC t m (i, false)).2.2 = false ↔ ((yh t i).2.2 = true ∧ (yh t i).1 ≤ m) := by
 unfold rdC
 by_cases h : (yh t i).2.2 = true
 · rw [aGU h]
   dsimp only
   split
   · simp; omega
   · simp [h]; omega
 · have : rdN t (i, false) = (0, (i, true)) := by unfold rdN; rw [if_pos (.inr (by simpa using h))]
   rw [this]
   simp [h]
theorem aJt {t : ByteArray} {m i : Nat} (h : (yh t i).2.2 = true) (hm : (yh t i).1 ≤ m) : rdC t m (i, false) = ((yh t i).1, ((yh t i).2.1, false)) := by
 unfold rdC
 rw [aGU h, if_neg (by dsimp only; omega)]
theorem aCL {a t l : Nat} {ob o0 : OB} {x : AV} {Θ : Tab} {s : St} (h0 : s.hp 0 = some o0) (h1 : s.sl a = .optr l 0 [] 0) (ho : s.hp l = some ob) (hx : ob.xs[0]? = some x) (hk : ((Θ.look t).known && (Bool.xor (zR x) (Θ.look t).isAgg).not && Nat.beq (asz x) (Θ.look t).size) = true) (hd : (match x with | .v _ | .agg _ | .lst _ _ | .any => True | _ => False)) (hop : ob.e.open_ = true := by rfl) :
 yE Θ [.cell a t] [o0] ⟨x, []⟩ .ret s := by
 obtain ⟨_, h⟩ := aJm (s := s) (Θ := Θ) h1 ho hx hk hd hop
 exact ⟨⟨h0, trivial⟩, h⟩
theorem aCw {t l : Nat} {ob o0 : OB} {Θ : Tab} {s : St} (h0 : s.hp 0 = some o0) (h : s.sl t = .own l) (ho : s.hp l = some ob) (hok : okL l = true := by rfl) (hsh : ob.e.shut = true := by rfl) : yE Θ [.tmp t] [o0] ⟨.own 0, [ob]⟩ .ret s := by
 obtain ⟨_, h⟩ := aKk (s := s) (Θ := Θ) h ho hok hsh
 exact ⟨⟨h0, trivial⟩, h⟩
attribute [local irreducible] xM xO xg yE y7 Pre ACG
attribute [local irreducible] yM u7 z8 ACP
theorem aG9 {t : ByteArray} {i : Nat} (ht : t.size ≤ 65536) (hi : i ≤ t.size) : kV t (i : Int) = if (yh t i).2.2 = true then (((yh t i).1 : Int), ((yh t i).2.1 : Int), 0) else (0, 0, 3) := by
 unfold kV
 rw [if_neg (by omega), if_pos ⟨by omega, by omega⟩, Int.toNat_natCast]
set_option maxHeartbeats 2000000 in
theorem kE {t : ByteArray} {i m : Nat} (ht : t.size ≤ 65536) (hi : i ≤ t.size) (h : (rdC t m (i, false)).2.2 = false) : ACG Tryd.prog 62 [.optr 0 0 [] 0, .v (.int .i64 (m : Int))] [rdP t i] [rdP t (rdC t m (i, false)).2.1] ⟨.v (.int .i64 ((rdC t m (i, false)).1 : Int)), []⟩ := by
 obtain ⟨h1, h2⟩ := aGS.1 h
 rw [aJt h1 h2]
 have c1 := aBx (t := t) (x := (i : Int)) (by unfold maxLen; omega)
 rw [aG9 ht hi, if_pos h1] at c1
 generalize yh t i = R at h1 h2 c1 ⊢
 obtain ⟨n, j, b⟩ := R
 dsimp only at h1 h2 c1 ⊢
 refine xX (rs := [.tmp 4]) xJ (by kernel_rfl) Tryd.func62 rfl Tryd.ntmps62 (by rw [Tryd.results62]) (by kernel_rfl) (by simp) rfl rfl (xE _ _ _ ?_); conv => whnf
 repeat ((first | refine qz ?_ | refine qdr ?_ | refine qc (c1) ?_ | refine qc (aBS) ?_ | refine qst ?_); conv => whnf)
 exact uI rfl rfl
set_option maxHeartbeats 2000000 in
theorem ql {t : ByteArray} {i m : Nat} (ht : t.size ≤ 65536) (hi : i ≤ t.size) (h : (rdC t m (i, false)).2.2 = true) : ACP Tryd.prog 62 [.optr 0 0 [] 0, .v (.int .i64 (m : Int))] [rdP t i] pvM := by
 have h1 : ¬ ((yh t i).2.2 = true ∧ (yh t i).1 ≤ m) := fun k => by rw [aGS.2 k] at h; cases h
 have c1 := aBx (t := t) (x := (i : Int)) (by unfold maxLen; omega)
 rw [aG9 ht hi] at c1
 refine uJ xJ (by kernel_rfl) Tryd.func62 rfl Tryd.ntmps62 (by kernel_rfl) (by simp) ?_
 refine xV ?_
 conv => whnf
 refine xV ?_
 conv => whnf
 cases hb : (yh t i).2.2
 · rw [hb, if_neg (by simp)] at c1
   dsimp only at c1
   repeat ((first | refine qz ?_ | refine qdr ?_ | refine qc (c1) ?_); conv => whnf)
   refine yN (zD ?_)
   conv => whnf
   repeat (first | (refine jI (xG (by first | exact aAC (by omega) | exact wN (by omega) | exact aAB (by omega) | exact aAA (by omega) | exact qy (by omega) | exact qx (by omega) | exact qw (by omega) | exact qo (by omega) | exact kF (by omega) | exact jk (by omega) | exact aAD (by omega) | exact jB (by omega) | exact wB rfl (by omega) (by omega) | exact uy rfl (by omega) (by omega)) rfl rfl rfl) rfl rfl ?_; conv => whnf))
   exact yT (yw [] jh rfl rfl trivial rfl rfl rfl rfl rfl rfl) rfl rfl
 · rw [hb, if_pos rfl] at c1
   dsimp only at c1
   have h2 : ¬ (yh t i).1 ≤ m := fun k => h1 ⟨hb, k⟩
   repeat ((first | refine qz ?_ | refine qdr ?_ | refine qc (c1) ?_); conv => whnf)
   refine yN (zD ?_)
   conv => whnf
   repeat (first | (refine jI (xG (by first | exact aAC (by omega) | exact wN (by omega) | exact aAB (by omega) | exact aAA (by omega) | exact qy (by omega) | exact qx (by omega) | exact qw (by omega) | exact qo (by omega) | exact kF (by omega) | exact jk (by omega) | exact aAD (by omega) | exact jB (by omega) | exact wB rfl (by omega) (by omega) | exact uy rfl (by omega) (by omega)) rfl rfl rfl) rfl rfl ?_; conv => whnf))
   exact yT (yw [] jh rfl rfl trivial rfl rfl rfl rfl rfl rfl) rfl rfl
theorem aJR {t : ByteArray} {i : Nat} (ht : t.size ≤ 65536) (hi : i ≤ t.size) : rdC t 4000000 (i, false) = rdN t (i, false) := by
 unfold rdC
 have := (zN (t := t) (s := (i, false)) ⟨by omega, hi⟩).2
 rw [if_neg (by omega)]
theorem aBT {t : ByteArray} {i : Nat} (ht : t.size ≤ 65536) (hi : i ≤ t.size) (h : (rdN t (i, false)).2.2 = false) : ACG Tryd.prog 35 [.optr 0 0 [] 0] [rdP t i] [rdP t (rdN t (i, false)).2.1] ⟨.v (.int .i64 ((rdN t (i, false)).1 : Int)), []⟩ := by
 have e := aJR ht hi
 rw [← e] at h ⊢
 have c1 := kE (m := 4000000) ht hi h
 generalize rdC t 4000000 (i, false) = R at c1 ⊢
 refine xX (rs := [.tmp 2]) xJ (by kernel_rfl) Tryd.func35 rfl Tryd.ntmps35 (by rw [Tryd.results35]) (by kernel_rfl) (by simp) rfl rfl (xE _ _ _ ?_); conv => whnf
 repeat ((first | refine qz ?_ | refine qr (xB [0] (c1) rfl rfl (by first | exact ⟨rfl, trivial⟩ | exact ⟨rfl, rfl, trivial⟩ | exact ⟨rfl, rfl, rfl, trivial⟩) rfl rfl (by first | exact trivial | exact ⟨⟨rfl, rfl, rfl⟩, trivial⟩ | exact ⟨⟨rfl, rfl, rfl⟩, ⟨rfl, rfl, rfl⟩, trivial⟩ | exact ⟨⟨rfl, rfl, rfl⟩, ⟨rfl, rfl, rfl⟩, ⟨rfl, rfl, rfl⟩, trivial⟩) rfl rfl rfl (.inl rfl) rfl) ?_); conv => whnf)
 exact uI rfl rfl
theorem aAp {t : ByteArray} {i : Nat} (ht : t.size ≤ 65536) (hi : i ≤ t.size) (h : (rdN t (i, false)).2.2 = true) : ACP Tryd.prog 35 [.optr 0 0 [] 0] [rdP t i] pvM := by
 rw [← aJR ht hi] at h
 have c1 := ql (m := 4000000) ht hi h
 refine uJ xJ (by kernel_rfl) Tryd.func35 rfl Tryd.ntmps35 (by kernel_rfl) (by simp) ?_
 refine xV ?_
 conv => whnf
 refine yN (zD ?_)
 conv => whnf
 exact yT (yw [0] c1 rfl rfl (by first | exact ⟨rfl, trivial⟩ | exact ⟨rfl, rfl, trivial⟩ | exact ⟨rfl, rfl, rfl, trivial⟩) rfl rfl rfl rfl rfl rfl) rfl rfl
set_option maxHeartbeats 2000000 in
theorem aEU {t : ByteArray} {i : Nat} (ht : t.size ≤ 65536) (hi : i ≤ t.size) (h : (rdW t (i, false)).2.2 = false) : ACG Tryd.prog 67 [.optr 0 0 [] 0] [rdP t i] [rdP t (rdW t (i, false)).2.1] ⟨.v (.string (rdW t (i, false)).1), []⟩ := by
 have hb := yS (m := 12) (t := t) (s := (i, false)) ⟨by omega, hi⟩
 have c1 := fun h => kE (m := 12) ht hi h
 unfold rdW at h ⊢
 generalize rdC t 12 (i, false) = R at h c1 hb ⊢
 obtain ⟨n, a, bad⟩ := R
 dsimp only at h c1 hb ⊢
 obtain ⟨⟨_, hb1⟩, hb2⟩ := hb
 dsimp only at hb1 hb2
 by_cases hc : bad = true ∨ t.size < a + n
 · rw [if_pos hc] at h; cases h
 rw [if_neg hc]
 have hbad : bad = false := by cases bad <;> simp_all
 have hsz : a + n ≤ t.size := by have := fun q => hc (.inr q); omega
 have c1 := c1 hbad
 have c2 := aIZ (t := t.extract a (a + n)) (by rw [ByteArray.size_extract]; omega)
 refine xX (rs := [.tmp 2]) xJ (by kernel_rfl) Tryd.func67 rfl Tryd.ntmps67 (by rw [Tryd.results67]) (by kernel_rfl) (by simp) rfl rfl (xE _ _ _ ?_); conv => whnf
 repeat ((first | refine qp (xG (uy (c := ((a + n : Nat) : Int)) (by omega) (by omega) (by omega)) rfl rfl rfl) ?_ | refine qp (aJQ (i := a) (j := a + n) (by omega) (by omega) rfl rfl rfl) ?_ | refine qz ?_ | refine qdr ?_ | refine qr (xB [0] (c1) rfl rfl (by first | exact ⟨rfl, trivial⟩ | exact ⟨rfl, rfl, trivial⟩ | exact ⟨rfl, rfl, rfl, trivial⟩) rfl rfl (by first | exact trivial | exact ⟨⟨rfl, rfl, rfl⟩, trivial⟩ | exact ⟨⟨rfl, rfl, rfl⟩, ⟨rfl, rfl, rfl⟩, trivial⟩ | exact ⟨⟨rfl, rfl, rfl⟩, ⟨rfl, rfl, rfl⟩, ⟨rfl, rfl, rfl⟩, trivial⟩) rfl rfl rfl (.inl rfl) rfl) ?_ | refine qc (aBS) ?_ | refine qc (c2) ?_ | refine qst ?_); conv => whnf)
 exact uI rfl rfl
set_option maxHeartbeats 2000000 in
theorem aH1 {t : ByteArray} {i : Nat} (ht : t.size ≤ 65536) (hi : i ≤ t.size) (h : (rdW t (i, false)).2.2 = true) : ACP Tryd.prog 67 [.optr 0 0 [] 0] [rdP t i] pvM := by
 have hb := yS (m := 12) (t := t) (s := (i, false)) ⟨by omega, hi⟩
 have c1 := fun h => kE (m := 12) ht hi h
 have c2 := fun h => ql (m := 12) ht hi h
 unfold rdW at h
 generalize rdC t 12 (i, false) = R at h c1 c2 hb
 obtain ⟨n, a, bad⟩ := R
 dsimp only at h c1 c2 hb
 obtain ⟨⟨_, hb1⟩, hb2⟩ := hb
 dsimp only at hb1 hb2
 refine uJ xJ (by kernel_rfl) Tryd.func67 rfl Tryd.ntmps67 (by kernel_rfl) (by simp) ?_
 refine xV ?_
 conv => whnf
 cases bad
 · have hc : t.size < a + n := by
    by_cases hc : t.size < a + n
    · exact hc
    · rw [if_neg (by simp; omega)] at h; cases h
   have c1 := c1 rfl
   refine xV ?_
   conv => whnf
   repeat ((first | refine qz ?_ | refine qr (xB [0] (c1) rfl rfl (by first | exact ⟨rfl, trivial⟩ | exact ⟨rfl, rfl, trivial⟩ | exact ⟨rfl, rfl, rfl, trivial⟩) rfl rfl (by first | exact trivial | exact ⟨⟨rfl, rfl, rfl⟩, trivial⟩ | exact ⟨⟨rfl, rfl, rfl⟩, ⟨rfl, rfl, rfl⟩, trivial⟩ | exact ⟨⟨rfl, rfl, rfl⟩, ⟨rfl, rfl, rfl⟩, ⟨rfl, rfl, rfl⟩, trivial⟩) rfl rfl rfl (.inl rfl) rfl) ?_); conv => whnf)
   refine yN (aKU (by kernel_rfl) ?_)
   conv => whnf
   repeat ((first | refine aIO (aAa (y := .v (.string _)) rfl rfl rfl) rfl rfl ?_ | refine aIO (xG (by first | exact aAC (by omega) | exact wN (by omega) | exact aAB (by omega) | exact aAA (by omega) | exact qy (by omega) | exact qx (by omega) | exact qw (by omega) | exact qo (by omega) | exact kF (by omega) | exact jk (by omega) | exact aAD (by omega) | exact jB (by omega) | exact wB rfl (by omega) (by omega) | exact uy rfl (by omega) (by omega)) rfl rfl rfl) rfl rfl ?_); conv => whnf)
   exact aKn (yw [] jh rfl rfl trivial rfl rfl rfl rfl rfl rfl) rfl rfl (by kernel_rfl)
 · have c2 := c2 rfl
   refine yN (zD ?_)
   conv => whnf
   exact yT (yw [0] c2 rfl rfl (by first | exact ⟨rfl, trivial⟩ | exact ⟨rfl, rfl, trivial⟩ | exact ⟨rfl, rfl, rfl, trivial⟩) rfl rfl rfl rfl rfl rfl) rfl rfl
set_option maxHeartbeats 2000000 in
theorem aKz {t : ByteArray} {i : Nat} (ht : t.size ≤ 65536) (hi : i ≤ t.size) (h : (rdS t (i, false)).2.2 = false) : ACG Tryd.prog 68 [.optr 0 0 [] 0] [rdP t i] [rdP t (rdS t (i, false)).2.1] ⟨.v (.int .i64 (rdS t (i, false)).1), []⟩ := by
 have c1 := aBT ht hi h
 have hb := (zN (t := t) (s := (i, false)) ⟨by omega, hi⟩).2
 unfold rdS
 generalize rdN t (i, false) = R at c1 hb ⊢
 obtain ⟨n, a, bad⟩ := R
 dsimp only at c1 hb ⊢
 by_cases hc : n % 2 = 1
 · rw [if_pos hc]
   refine xX (rs := [.tmp 2]) xJ (by kernel_rfl) Tryd.func68 rfl Tryd.ntmps68 (by rw [Tryd.results68]) (by kernel_rfl) (by simp) rfl rfl (xE _ _ _ ?_); conv => whnf
   repeat ((first | refine qp (xG (jC (c := ((n % 2 : Nat) : Int)) (by omega) (by omega) (by omega)) rfl rfl rfl) ?_ | refine qp (xG (uy (c := ((n + 1 : Nat) : Int)) (by omega) (by omega) (by omega)) rfl rfl rfl) ?_ | refine qz ?_ | refine qdr ?_ | refine qr (xB [0] (c1) rfl rfl (by first | exact ⟨rfl, trivial⟩ | exact ⟨rfl, rfl, trivial⟩ | exact ⟨rfl, rfl, rfl, trivial⟩) rfl rfl (by first | exact trivial | exact ⟨⟨rfl, rfl, rfl⟩, trivial⟩ | exact ⟨⟨rfl, rfl, rfl⟩, ⟨rfl, rfl, rfl⟩, trivial⟩ | exact ⟨⟨rfl, rfl, rfl⟩, ⟨rfl, rfl, rfl⟩, ⟨rfl, rfl, rfl⟩, trivial⟩) rfl rfl rfl (.inl rfl) rfl) ?_ | refine qp (aJP (c := -((n + 1 : Nat) : Int)) rfl (by omega) (by omega) rfl) ?_ | refine qp (xG (aH3 (a := ((n + 1 : Nat) : Int)) (c := (((n + 1) / 2 : Nat) : Int)) (by omega) (by omega) (by omega) (by omega)) rfl rfl rfl) ?_); conv => whnf)
   exact uI rfl rfl
 · rw [if_neg hc]
   refine xX (rs := [.tmp 2]) xJ (by kernel_rfl) Tryd.func68 rfl Tryd.ntmps68 (by rw [Tryd.results68]) (by kernel_rfl) (by simp) rfl rfl (xE _ _ _ ?_); conv => whnf
   repeat ((first | refine qp (xG (jC (c := ((n % 2 : Nat) : Int)) (by omega) (by omega) (by omega)) rfl rfl rfl) ?_ | refine qz ?_ | refine qdr ?_ | refine qr (xB [0] (c1) rfl rfl (by first | exact ⟨rfl, trivial⟩ | exact ⟨rfl, rfl, trivial⟩ | exact ⟨rfl, rfl, rfl, trivial⟩) rfl rfl (by first | exact trivial | exact ⟨⟨rfl, rfl, rfl⟩, trivial⟩ | exact ⟨⟨rfl, rfl, rfl⟩, ⟨rfl, rfl, rfl⟩, trivial⟩ | exact ⟨⟨rfl, rfl, rfl⟩, ⟨rfl, rfl, rfl⟩, ⟨rfl, rfl, rfl⟩, trivial⟩) rfl rfl rfl (.inl rfl) rfl) ?_ | refine qp (xG (aH2 (c := ((n / 2 : Nat) : Int)) (by omega) (by omega) (by omega) (by omega)) rfl rfl rfl) ?_); conv => whnf)
   exact uI rfl rfl
theorem aKO {t : ByteArray} {i : Nat} (ht : t.size ≤ 65536) (hi : i ≤ t.size) (h : (rdS t (i, false)).2.2 = true) : ACP Tryd.prog 68 [.optr 0 0 [] 0] [rdP t i] pvM := by
 have c1 := aAp ht hi h
 refine uJ xJ (by kernel_rfl) Tryd.func68 rfl Tryd.ntmps68 (by kernel_rfl) (by simp) ?_
 refine xV ?_
 conv => whnf
 refine yN (zD ?_)
 conv => whnf
 exact yT (yw [0] c1 rfl rfl (by first | exact ⟨rfl, trivial⟩ | exact ⟨rfl, rfl, trivial⟩ | exact ⟨rfl, rfl, rfl, trivial⟩) rfl rfl rfl rfl rfl rfl) rfl rfl
def rdE (t : ByteArray) (s : Rds) : Ent × Rds := (((rdW t s).1, (rdS t (rdW t s).2).1), (rdS t (rdW t s).2).2)
theorem aIG {t : ByteArray} {s : Rds} (h : yH t s) : yH t (rdE t s).2 := aCz (wU h)
theorem aB6 {t : ByteArray} {s : Rds} (h : s.2 = true) : (rdE t s).2.2 = true := aGV (aGW h)
theorem aJE {t : ByteArray} {i : Nat} (ht : t.size ≤ 65536) (hi : i ≤ t.size) (h : (rdE t (i, false)).2.2 = false) : ACG Tryd.prog 52 [.optr 0 0 [] 0] [rdP t i] [rdP t (rdE t (i, false)).2.1] ⟨yP (rdE t (i, false)).1, []⟩ := by
 have hw := wU (t := t) (s := (i, false)) ⟨by omega, hi⟩
 have c1 := fun h => aEU ht hi h
 unfold rdE at h ⊢
 generalize rdW t (i, false) = R at h c1 hw ⊢
 obtain ⟨k, a, bad⟩ := R
 dsimp only at h c1 hw ⊢
 cases bad
 · have c1 := c1 rfl
   have c2 := aKz (t := t) (i := a) ht hw.2 h
   generalize rdS t (a, false) = R2 at c2 ⊢
   obtain ⟨v, b, bad2⟩ := R2
   dsimp only at c2 ⊢
   refine xX (rs := [.cell 2 70]) xJ (by kernel_rfl) Tryd.func52 rfl Tryd.ntmps52 (by rw [Tryd.results52]) (by kernel_rfl) (by simp) rfl rfl (xE _ _ _ ?_)
   conv => whnf
   repeat ((first | refine qz ?_ | refine qr (xB [0] (c1) rfl rfl (by first | exact ⟨rfl, trivial⟩ | exact ⟨rfl, rfl, trivial⟩ | exact ⟨rfl, rfl, rfl, trivial⟩) rfl rfl (by first | exact trivial | exact ⟨⟨rfl, rfl, rfl⟩, trivial⟩ | exact ⟨⟨rfl, rfl, rfl⟩, ⟨rfl, rfl, rfl⟩, trivial⟩ | exact ⟨⟨rfl, rfl, rfl⟩, ⟨rfl, rfl, rfl⟩, ⟨rfl, rfl, rfl⟩, trivial⟩) rfl rfl rfl (.inl rfl) rfl) ?_ | refine qr (xB [0] (c2) rfl rfl (by first | exact ⟨rfl, trivial⟩ | exact ⟨rfl, rfl, trivial⟩ | exact ⟨rfl, rfl, rfl, trivial⟩) rfl rfl (by first | exact trivial | exact ⟨⟨rfl, rfl, rfl⟩, trivial⟩ | exact ⟨⟨rfl, rfl, rfl⟩, ⟨rfl, rfl, rfl⟩, trivial⟩ | exact ⟨⟨rfl, rfl, rfl⟩, ⟨rfl, rfl, rfl⟩, ⟨rfl, rfl, rfl⟩, trivial⟩) rfl rfl rfl (.inl rfl) rfl) ?_ | refine qst ?_); conv => whnf)
   exact aCL rfl rfl rfl rfl rfl trivial
 · rw [aGV rfl] at h; cases h
theorem aKL {t : ByteArray} {i : Nat} (ht : t.size ≤ 65536) (hi : i ≤ t.size) (h : (rdE t (i, false)).2.2 = true) : ACP Tryd.prog 52 [.optr 0 0 [] 0] [rdP t i] pvM := by
 have hw := wU (t := t) (s := (i, false)) ⟨by omega, hi⟩
 have c1 := fun h => aEU ht hi h
 have d1 := fun h => aH1 ht hi h
 unfold rdE at h
 generalize rdW t (i, false) = R at h c1 d1 hw
 obtain ⟨k, a, bad⟩ := R
 dsimp only at h c1 d1 hw
 refine uJ xJ (by kernel_rfl) Tryd.func52 rfl Tryd.ntmps52 (by kernel_rfl) (by simp) ?_
 refine xV ?_
 conv => whnf
 cases bad
 · have c1 := c1 rfl
   have d2 := aKO (t := t) (i := a) ht hw.2 h
   refine xV ?_
   conv => whnf
   repeat ((first | refine qz ?_ | refine qr (xB [0] (c1) rfl rfl (by first | exact ⟨rfl, trivial⟩ | exact ⟨rfl, rfl, trivial⟩ | exact ⟨rfl, rfl, rfl, trivial⟩) rfl rfl (by first | exact trivial | exact ⟨⟨rfl, rfl, rfl⟩, trivial⟩ | exact ⟨⟨rfl, rfl, rfl⟩, ⟨rfl, rfl, rfl⟩, trivial⟩ | exact ⟨⟨rfl, rfl, rfl⟩, ⟨rfl, rfl, rfl⟩, ⟨rfl, rfl, rfl⟩, trivial⟩) rfl rfl rfl (.inl rfl) rfl) ?_); conv => whnf)
   refine yN (zD ?_)
   conv => whnf
   exact yT (yw [0] d2 rfl rfl (by first | exact ⟨rfl, trivial⟩ | exact ⟨rfl, rfl, trivial⟩ | exact ⟨rfl, rfl, rfl, trivial⟩) rfl rfl rfl rfl rfl rfl) rfl rfl
 · have d1 := d1 rfl
   refine yN (zD ?_)
   conv => whnf
   exact yT (yw [0] d1 rfl rfl (by first | exact ⟨rfl, trivial⟩ | exact ⟨rfl, rfl, trivial⟩ | exact ⟨rfl, rfl, rfl, trivial⟩) rfl rfl rfl rfl rfl rfl) rfl rfl
end Go.Proofs.YtoaifonjemlfcaaDoor.AM
