/- Texts of the machine over data, folded. -/
import Derived.Test.YtdhjchdbgognbaaKa5
import Derived.Test.YtdhjchdbgognbaaKa10
import Derived.Test.YtdhjchdbgognbaaKa8
import Derived.Stop.Asserts
import Derived.Test.YtdhjchdbgognbaaKa9
set_option linter.unusedVariables false
set_option linter.unusedSimpArgs false
set_option maxRecDepth 100000
namespace Go.Proofs.Ytdhjchdbgognbaa.AM
open Go Go.RowKit
attribute [local irreducible] xO xU yD zA zJ Pre ACG
theorem aFb {b : Bas} {s : Ent} {x y : ByteArray} {R : List Ent} {code : Int} (hb : b.ok maxLen) (hs : s.1.size ≤ maxLen) (hx : x.size ≤ 1048576) (hy : y.size ≤ 1048576) (hsz : 0 ≤ szB b 1048576) (hss : 0 ≤ szB b 1048576 - s.1.size) (hR : R.length ≤ 4096)
 (h1 : AC Try.prog 21 [xX b, xD s, .v (.string x), .v (.string y)] ⟨.tup [.own 0, .v (.int .i64 code)], [⟨88, 2, R.map xD⟩]⟩)
 (h2 : AC Try.prog 22 [xX b, xD s, .v (.string x), .v (.string y)] ⟨.tup [.own 0, .v (.int .i64 code)], [⟨88, 2, R.map xD⟩]⟩) : AC Try.prog 6 [xX b, xD s, .v (.string x), .v (.string y)] ⟨.v (.bool true), []⟩ := by
 obtain ⟨q0, q1, q2, q3⟩ := wY hsz (by omega)
 have tt := aFH hsz
 have hz := uJ hb (l := 1048576) (by omega) (by omega)
 have hzs := uV (l := szB b 1048576) hs (by omega) (by omega)
 rw [if_neg (by omega)] at hzs
 have t0 := vC q1 q2 q3
 have t1 := aBn (B := b) q1 (fun c h => ⟨(q2 c h).1, (q2 c h).2.1⟩) q3
 have tS := kN (s := s)
 have e0 := vB hb
 have hRm : R.length ≤ maxLen := by unfold maxLen; omega
 have e1 := aBM (es := R) (es' := R) hRm hRm
 rw [decide_eq_true rfl] at e1
 have kb := aDt b.store 1
 obtain ⟨K1, hK1⟩ : ∃ K, kA b.store 1 = K := ⟨_, rfl⟩
 rw [hK1] at kb
 have m1 := aAV (L := b.store) (R := b.refs) (k0 := 1) (by omega) (by omega) (by omega) (by omega) (by omega) (by omega) (by omega)
 rw [hK1] at m1
 have m0 := aDh (xs := R.map xD) (n := R.length) (k := 1) (by simp) (by omega) (by omega) (by omega)
 have d0 := aDg (n := R.length) (k := 1) (by omega) (by omega) (by omega)
 have pK : 0 ≤ K1 + 4 * (b.refs.length : Int) := by omega
 clear hK1 kb tt
 refine qrf Try.func6 Try.ntmps6 Try.results6 ?_; conv => whnf
 repeat ((first | refine qz ?_ | refine qc (hz) ?_ | refine qc (hzs) ?_); conv => whnf)
 (refine qdr ?_; conv => whnf)
 (refine qc (t0) ?_; conv => whnf)
 repeat ((first | refine qz ?_ | refine qc (tS) ?_ | refine qc (h1) ?_); conv => whnf)
 (refine qc (t1) ?_; conv => whnf)
 repeat ((first | refine qz ?_ | refine qdr ?_ | refine qc (tS) ?_ | refine qc (h2) ?_ | refine qr (kR rfl rfl rfl rfl rfl rfl) ?_ | refine qc (e1) ?_); conv => whnf)
 repeat ((first | refine qz ?_ | refine qdr ?_ | refine qc (t0) ?_ | refine qc (e0) ?_); conv => whnf)
 refine qr (aCn [48, 1048] m1 rfl rfl ⟨rfl, rfl, trivial⟩ rfl rfl trivial rfl rfl rfl (.inl rfl) rfl) ?_
 conv => whnf
 repeat ((first | refine qz ?_ | refine qdr ?_ | refine qc (e1) ?_ | refine qr (jJ (m0) rfl rfl rfl rfl rfl rfl rfl) ?_); conv => whnf)
 repeat ((first | refine qz ?_ | refine qdr ?_ | refine qc (d0) ?_ | refine qc (t0) ?_ | refine qc (tS) ?_ | refine qc (h2) ?_ | refine qc (e1) ?_); conv => whnf)
 exact xA rfl trivial
theorem aE9 {b : Bas} (hs : b.store.length ≤ maxLen ∧ y5 maxLen b.store) (hr : b.refs.length ≤ maxLen) (hk : ∀ r ∈ b.refs, r.name.size ≤ maxLen) {s : Ent} (hx : s.1.size ≤ maxLen) {x : ByteArray} (hxx : x.size ≤ maxLen) {y : ByteArray} (hyy : y.size ≤ maxLen)
 (h2 : AC Try.prog 22 [xX b, xD s, .v (.string x), .v (.string y)] ⟨.tup [.own 0, .v (.int .i64 (scR b s x y).2)], [⟨88, 2, (scR b s x y).1.map xD⟩]⟩) : AC Try.prog 6 [xX b, xD s, .v (.string x), .v (.string y)] ⟨.v (.bool true), []⟩ := by
 have hb : b.ok maxLen := ⟨hs.1, hs.2, hr, hk⟩
 have hx' := hxx
 have hy' := hyy
 unfold maxLen at hx' hy'
 by_cases hxl : 1048576 < x.size
 · refine qrf Try.func6 Try.ntmps6 Try.results6 ?_; conv => whnf
   repeat ((first | refine qz ?_ | refine qdr ?_); conv => whnf)
   exact xA rfl trivial
 by_cases hyl : 1048576 < y.size
 · refine qrf Try.func6 Try.ntmps6 Try.results6 ?_; conv => whnf
   repeat ((first | refine qz ?_ | refine qdr ?_); conv => whnf)
   exact xA rfl trivial
 have hz := uJ hb (l := 1048576) (by omega) (by omega)
 by_cases hsz : szB b 1048576 < 0
 · refine qrf Try.func6 Try.ntmps6 Try.results6 ?_; conv => whnf
   repeat ((first | refine qz ?_ | refine qc (hz) ?_); conv => whnf)
   exact xA rfl trivial
 obtain ⟨m0, m1, m2, m3⟩ := wY (by omega : 0 ≤ szB b 1048576) (by omega)
 have hzs := uV (l := szB b 1048576) hx (by omega) (by omega)
 by_cases hss : szB b 1048576 - s.1.size < 0
 · rw [if_pos hss] at hzs
   refine qrf Try.func6 Try.ntmps6 Try.results6 ?_; conv => whnf
   repeat ((first | refine qz ?_ | refine qc (hz) ?_ | refine qc (hzs) ?_); conv => whnf)
   exact xA rfl trivial
 exact aFb hb hx (by omega) (by omega) (by omega) (by omega) (aJ8 b s x y) (aHU hb hx hxx hyy) h2
theorem aFa {b : Bas} {s t : Ent} {R : List Edt} {code : Int} (hb : b.ok maxLen) (hs : s.1.size ≤ maxLen) (ht : t.1.size ≤ maxLen) (hsz : 0 ≤ szB b 1048576) (hss : 0 ≤ szB b 1048576 - s.1.size) (hst : 0 ≤ szB b 1048576 - s.1.size - t.1.size) (hR : R.length ≤ 4096)
 (h1 : AC Try.prog 27 [xX b, xD s, xD t] ⟨.tup [.own 0, .v (.int .i64 code)], [⟨96, 3, R.map uw⟩]⟩)
 (h2 : AC Try.prog 28 [xX b, xD s, xD t] ⟨.tup [.own 0, .v (.int .i64 code)], [⟨96, 3, R.map uw⟩]⟩) : AC Try.prog 7 [xX b, xD s, xD t] ⟨.v (.bool true), []⟩ := by
 obtain ⟨q0, q1, q2, q3⟩ := wY hsz (by omega)
 have tt := aFH hsz
 have hz := uJ hb (l := 1048576) (by omega) (by omega)
 have hzs := uV (l := szB b 1048576) hs (by omega) (by omega)
 rw [if_neg (by omega)] at hzs
 have hzt := uV (l := szB b 1048576 - s.1.size) ht (by omega) (by omega)
 rw [if_neg (by omega)] at hzt
 have t0 := vC q1 q2 q3
 have t1 := aBn (B := b) q1 (fun c h => ⟨(q2 c h).1, (q2 c h).2.1⟩) q3
 have tS := kN (s := s)
 have tT := kN (s := t)
 have e0 := vB hb
 have hRm : R.length ≤ maxLen := by unfold maxLen; omega
 have e1 := aGU (es := R) hRm
 have kb := aDt b.store 1
 obtain ⟨K1, hK1⟩ : ∃ K, kA b.store 1 = K := ⟨_, rfl⟩
 rw [hK1] at kb
 have m1 := aAV (L := b.store) (R := b.refs) (k0 := 1) (by omega) (by omega) (by omega) (by omega) (by omega) (by omega) (by omega)
 rw [hK1] at m1
 have m0 := aEI (xs := R.map uw) (n := R.length) (k := 1) (by simp) (by omega) (by omega) (by omega)
 have d0 := aEE (n := R.length) (k := 1) (by omega) (by omega) (by omega)
 have pK : 0 ≤ K1 + 4 * (b.refs.length : Int) := by omega
 clear hK1 kb tt
 refine qrf Try.func7 Try.ntmps7 Try.results7 ?_; conv => whnf
 repeat ((first | refine qz ?_ | refine qc (hz) ?_ | refine qc (hzs) ?_ | refine qc (hzt) ?_); conv => whnf)
 (refine qdr ?_; conv => whnf)
 (refine qc (t0) ?_; conv => whnf)
 repeat ((first | refine qz ?_ | refine qc (tS) ?_ | refine qc (tT) ?_ | refine qc (h1) ?_); conv => whnf)
 (refine qc (t1) ?_; conv => whnf)
 repeat ((first | refine qz ?_ | refine qdr ?_ | refine qc (tS) ?_ | refine qc (tT) ?_ | refine qc (h2) ?_ | refine qr (kR rfl rfl rfl rfl rfl rfl) ?_ | refine qc (e1) ?_); conv => whnf)
 repeat ((first | refine qz ?_ | refine qdr ?_ | refine qc (t0) ?_ | refine qc (e0) ?_); conv => whnf)
 refine qr (aCn [45, 1045] m1 rfl rfl ⟨rfl, rfl, trivial⟩ rfl rfl trivial rfl rfl rfl (.inl rfl) rfl) ?_
 conv => whnf
 repeat ((first | refine qz ?_ | refine qdr ?_ | refine qc (e1) ?_ | refine qr (jJ (m0) rfl rfl rfl rfl rfl rfl rfl) ?_); conv => whnf)
 repeat ((first | refine qz ?_ | refine qdr ?_ | refine qc (d0) ?_ | refine qc (t0) ?_ | refine qc (tS) ?_ | refine qc (tT) ?_ | refine qc (h2) ?_ | refine qc (e1) ?_); conv => whnf)
 exact xA rfl trivial
theorem aDm {b : Bas} (hs : b.store.length ≤ maxLen ∧ y5 maxLen b.store) (hr : b.refs.length ≤ maxLen) (hk : ∀ r ∈ b.refs, r.name.size ≤ maxLen) {s : Ent} (hx : s.1.size ≤ maxLen) {t : Ent} (ht : t.1.size ≤ maxLen)
 (h2 : AC Try.prog 28 [xX b, xD s, xD t] ⟨.tup [.own 0, .v (.int .i64 (dfR b s t).2)], [⟨96, 3, (dfR b s t).1.map uw⟩]⟩) : AC Try.prog 7 [xX b, xD s, xD t] ⟨.v (.bool true), []⟩ := by
 have hb : b.ok maxLen := ⟨hs.1, hs.2, hr, hk⟩
 have hz := uJ hb (l := 1048576) (by omega) (by omega)
 by_cases hsz : szB b 1048576 < 0
 · refine qrf Try.func7 Try.ntmps7 Try.results7 ?_; conv => whnf
   repeat ((first | refine qz ?_ | refine qc (hz) ?_); conv => whnf)
   exact xA rfl trivial
 obtain ⟨m0, m1, m2, m3⟩ := wY (by omega : 0 ≤ szB b 1048576) (by omega)
 have hzs := uV (l := szB b 1048576) hx (by omega) (by omega)
 by_cases hss : szB b 1048576 - s.1.size < 0
 · rw [if_pos hss] at hzs
   refine qrf Try.func7 Try.ntmps7 Try.results7 ?_; conv => whnf
   repeat ((first | refine qz ?_ | refine qc (hz) ?_ | refine qc (hzs) ?_); conv => whnf)
   exact xA rfl trivial
 rw [if_neg hss] at hzs
 have hzt := uV (l := szB b 1048576 - s.1.size) ht (by omega) (by omega)
 by_cases hst : szB b 1048576 - s.1.size - t.1.size < 0
 · rw [if_pos hst] at hzt
   refine qrf Try.func7 Try.ntmps7 Try.results7 ?_; conv => whnf
   repeat ((first | refine qz ?_ | refine qc (hz) ?_ | refine qc (hzs) ?_ | refine qc (hzt) ?_); conv => whnf)
   exact xA rfl trivial
 exact aFa hb hx ht (by omega) (by omega) (by omega) (aJN b s t) (aHS hb hx ht) h2
end Go.Proofs.Ytdhjchdbgognbaa.AM
namespace Go.Proofs.Ytdhjchdbgognbaa.AM
open Go Go.RowKit
section
variable {P : Program}
theorem aJg {t : TypeId} {y : AV} {m : String} {f : FuncId} {d : TypeDesc} (hm : ((P.info? t).bind fun i => i.methods.find? (·.name == m)).map (fun x => (x.path.isEmpty, x.func)) = some (true, some (f, false))) (hu : P.underlying t = some d) (hd : (match d with | .pointer _ => false | _ => true) = true) : aDq P t y m f y := by
 intro S w hp B V u hr
 refine ⟨u, ?_, hr⟩
 obtain ⟨x, hx, he⟩ := Option.map_eq_some_iff.1 hm
 obtain ⟨i, hi, hf⟩ := Option.bind_eq_some_iff.1 hx
 simp only [Prod.mk.injEq] at he
 obtain ⟨h1, h2⟩ := he
 have hp0 : x.path.toList = [] := by simpa using h1
 obtain ⟨k, hk⟩ : ∃ k, k = P.types.size + 99 := ⟨_, rfl⟩
 have hk2 : P.types.size + Made.depth = k + 1 := by rw [hk]; rfl
 rw [hk2]
 have e1 : (typeInfo t).run P w = .ok i w := by simp [typeInfo, hi]
 unfold method
 simp only [Sem.run_bind, e1, Result.andThen_ok, hf, hp0, follow, h2, Sem.run_pure]
 simp only [receiverAt, Sem.run_bind, run_underlying hu, Result.andThen_ok]
 cases d <;> simp_all [Place.get]
end
def aKb (P : Program) (t : TypeId) (m : String) : Option FuncId := match (P.info? t).bind fun i => i.methods.find? (·.name == m), P.underlying t with
 | some x, some (.pointer _) => none
 | some x, some _ => match x.path.isEmpty, x.func with
  | true, some (f, false) => some f
  | _, _ => none
 | _, _ => none
section
variable {P : Program}
theorem aAO {t : TypeId} {y : AV} {m : String} {f : FuncId} (h : aKb P t m = some f) : aDq P t y m f y := by
 unfold aKb at h
 split at h
 · cases h
 · rename_i x d hnp hx hu
   split at h
   · rename_i f' e1 e2
     cases h
     refine aJg (d := d) (by rw [hx]; simp [e1, e2]) hu ?_
     cases d <;> first | rfl | exact absurd rfl (hnp _)
   · cases h
 · cases h
end
theorem aKl {P : Program} {Θ : Tab} {s : St} {d : Option Tmp} {ty : TypeId} {pos : String} {after : Array Edge} {g : Option (Nat × Bool)} {x y : Operand} {ts : Array TypeId} {a b : Nat} (hx : s.ev x = .v (.int .i64 (a : Int))) (hy : s.ev y = .v (.int .i64 (b : Int))) : Pre P Θ ⟨d, .call ⟨.builtin .max, #[x, y], ts⟩, ty, pos, after, g⟩ s ⟨.v (.int .i64 ((max a b : Nat) : Int)), none⟩ := by
 refine ⟨[.int .i64 (a : Int), .int .i64 (b : Int)], .int .i64 ((max a b : Nat) : Int), by simp [hx, hy, yI], fun w => ?_, rfl, rfl⟩
 rcases Nat.lt_or_ge a b with h | h
 · rw [Nat.max_eq_right (by omega)]
   have h' : (a : Int) < b := by omega
   simp [builtin, Builtin.max_, Builtin.max2, Result.andThen, h', h]
 · rw [Nat.max_eq_left h]
   have h' : ¬ (a : Int) < b := by omega
   simp [builtin, Builtin.max_, Builtin.max2, Result.andThen, h', Nat.not_lt.2 h]
theorem aCT : ∀ (es : List Ent) (k : ByteArray), ∃ p, uI es k p
 | [], k => ⟨0, Nat.le_refl _, fun j hj => absurd hj (by simp), fun h => absurd h (by simp)⟩
 | e :: es, k => by
  cases h : klt e.1 k with
  | false => exact ⟨0, Nat.zero_le _, fun j hj hp => absurd hp (by omega), fun _ => h⟩
  | true =>
   obtain ⟨p, h1, h2, h3⟩ := aCT es k
   refine ⟨p + 1, by simpa using h1, fun j hj hp => ?_, fun hp => ?_⟩
   · cases j with
     | zero => exact h
     | succ j => exact h2 j (by simpa using hj) (by omega)
   · exact h3 (by simpa using hp)
attribute [local irreducible] xO xU yD zA zJ Pre ACG
theorem aBk {e : Ent} : AC Try.prog 137 [xD e] ⟨.v (.string e.1), []⟩ := by
 refine qrf Try.func137 Try.ntmps137 Try.results137 ?_; conv => whnf
 exact xA rfl trivial
theorem qd {es : List Ent} {k : ByteArray} {p : Nat} (hp : uI es k p) (hm : es.length ≤ maxLen) : AC Try.prog 85 [.lst 2 (es.map xD), .v (.string k)] ⟨.v (.int .i64 (p : Int)), []⟩ := by
 unfold maxLen at hm
 have hpl := hp.1
 refine qrf Try.func85 Try.ntmps85 Try.results85 ?_; conv => whnf
 refine xu (ι := { i : Nat // i ≤ p }) (fun i => ⟨[(0, .lst 2 (es.map xD)), (1, .v (.string k)), (5, .v (.int .i64 (i.1 : Int)))], []⟩) (fun i => p - i.1) ⟨0, Nat.zero_le _⟩ (by exact qle) ?_
 rintro ⟨i, hi⟩
 dsimp only
 conv => whnf
 by_cases hlt : i < p
 · have hl : i < es.length := by omega
   have hk := hp.2.1 i hl hlt
   repeat ((first | refine qz ?_ | refine qr (aDx (aAO (by kernel_rfl)) (aBk (e := es[i])) rfl rfl (.inl rfl) (by first | exact trivial | exact ⟨⟨rfl, rfl, rfl⟩, trivial⟩ | exact ⟨⟨rfl, rfl, rfl⟩, ⟨rfl, rfl, rfl⟩, trivial⟩ | exact ⟨⟨rfl, rfl, rfl⟩, ⟨rfl, rfl, rfl⟩, ⟨rfl, rfl, rfl⟩, trivial⟩) rfl rfl) ?_ | refine qp (xR (aDs hk) rfl rfl rfl) ?_); conv => whnf)
   exact ⟨⟨i + 1, hlt⟩, by exact qle, by simp; omega⟩
 · have e : i = p := by omega
   subst e
   by_cases hl : i < es.length
   · have hk := hp.2.2 hl
     repeat ((first | refine qz ?_ | refine qr (aDx (aAO (by kernel_rfl)) (aBk (e := es[i])) rfl rfl (.inl rfl) (by first | exact trivial | exact ⟨⟨rfl, rfl, rfl⟩, trivial⟩ | exact ⟨⟨rfl, rfl, rfl⟩, ⟨rfl, rfl, rfl⟩, trivial⟩ | exact ⟨⟨rfl, rfl, rfl⟩, ⟨rfl, rfl, rfl⟩, ⟨rfl, rfl, rfl⟩, trivial⟩) rfl rfl) ?_ | refine qp (xR (aDs hk) rfl rfl rfl) ?_); conv => whnf)
     exact xA rfl trivial
   · repeat ((refine qz ?_; conv => whnf))
     exact xA rfl trivial
theorem aHN {es : List Ent} {k : ByteArray} {p : Nat} (hp : uI es k p) (hm : es.length ≤ maxLen) (hl : p < es.length) (he : es[p].1 = k) : AC Try.prog 81 [.lst 2 (es.map xD), .v (.string k)] ⟨.tup [.v (.int .i64 (p : Int)), .v (.bool true)], []⟩ := by
 have c1 := qd hp hm
 unfold maxLen at hm
 refine qrf Try.func81 Try.ntmps81 Try.results81 ?_; conv => whnf
 repeat ((first | refine qz ?_ | refine qdr ?_ | refine qc (c1) ?_ | refine qr (aDx (aAO (by kernel_rfl)) (aBk (e := es[p])) rfl rfl (.inl rfl) (by first | exact trivial | exact ⟨⟨rfl, rfl, rfl⟩, trivial⟩ | exact ⟨⟨rfl, rfl, rfl⟩, ⟨rfl, rfl, rfl⟩, trivial⟩ | exact ⟨⟨rfl, rfl, rfl⟩, ⟨rfl, rfl, rfl⟩, ⟨rfl, rfl, rfl⟩, trivial⟩) rfl rfl) ?_ | refine qp (xR (wm he) rfl rfl rfl) ?_); conv => whnf)
 exact yS rfl rfl
theorem aHM {es : List Ent} {k : ByteArray} {p : Nat} (hp : uI es k p) (hm : es.length ≤ maxLen) (he : ∀ hl : p < es.length, es[p].1 ≠ k) : AC Try.prog 81 [.lst 2 (es.map xD), .v (.string k)] ⟨.tup [.v (.int .i64 (p : Int)), .v (.bool false)], []⟩ := by
 have c1 := qd hp hm
 have hpl := hp.1
 unfold maxLen at hm
 by_cases hl : p < es.length
 · have he' := he hl
   refine qrf Try.func81 Try.ntmps81 Try.results81 ?_; conv => whnf
   repeat ((first | refine qz ?_ | refine qdr ?_ | refine qc (c1) ?_ | refine qr (aDx (aAO (by kernel_rfl)) (aBk (e := es[p])) rfl rfl (.inl rfl) (by first | exact trivial | exact ⟨⟨rfl, rfl, rfl⟩, trivial⟩ | exact ⟨⟨rfl, rfl, rfl⟩, ⟨rfl, rfl, rfl⟩, trivial⟩ | exact ⟨⟨rfl, rfl, rfl⟩, ⟨rfl, rfl, rfl⟩, ⟨rfl, rfl, rfl⟩, trivial⟩) rfl rfl) ?_ | refine qp (xR (wh he') rfl rfl rfl) ?_); conv => whnf)
   exact yS rfl rfl
 · refine qrf Try.func81 Try.ntmps81 Try.results81 ?_; conv => whnf
   repeat ((first | refine qz ?_ | refine qdr ?_ | refine qc (c1) ?_); conv => whnf)
   exact yS rfl rfl
theorem aBl {es : List Ent} {k : ByteArray} (hm : es.length ≤ maxLen) (hk : ∀ e ∈ es, e.1.size ≤ maxLen) (hx : k.size ≤ maxLen) : AC Try.prog 80 [.lst 2 (es.map xD), .v (.string k)] ⟨.v (.int .i64 (uH es k)), []⟩ := by
 unfold uH
 have hm' := hm
 have hx' := hx
 unfold maxLen at hm' hx'
 by_cases h1 : 4096 < es.length
 · rw [if_pos (.inl h1)]
   refine qrf Try.func80 Try.ntmps80 Try.results80 ?_; conv => whnf
   repeat ((refine qz ?_; conv => whnf))
   exact xA rfl trivial
 by_cases h2 : 65536 < k.size
 · rw [if_pos (.inr h2)]
   refine qrf Try.func80 Try.ntmps80 Try.results80 ?_; conv => whnf
   repeat ((refine qz ?_; conv => whnf))
   exact xA rfl trivial
 rw [if_neg (by omega)]
 cases ha : xW es with
 | false =>
  rw [if_neg (by simp)]
  have c1 := vv ha hm hk
  refine qrf Try.func80 Try.ntmps80 Try.results80 ?_; conv => whnf
  repeat ((first | refine qz ?_ | refine qc (c1) ?_); conv => whnf)
  exact xA rfl trivial
 | true =>
  have c1 := vv ha hm hk
  cases hw : nm k with
  | false =>
   rw [if_neg (by simp)]
   have c2 := zX (b := false) hx hw
   refine qrf Try.func80 Try.ntmps80 Try.results80 ?_; conv => whnf
   repeat ((first | refine qz ?_ | refine qc (c1) ?_ | refine qc (c2) ?_); conv => whnf)
   exact xA rfl trivial
  | true =>
   rw [if_pos (by simp)]
   have c2 := zX (b := true) hx hw
   refine qrf Try.func80 Try.ntmps80 Try.results80 ?_; conv => whnf
   repeat ((first | refine qz ?_ | refine qc (c1) ?_ | refine qc (c2) ?_); conv => whnf)
   exact xA rfl trivial
theorem aJE {es : List Ent} {k : ByteArray} (hm : es.length ≤ maxLen) (hk : ∀ e ∈ es, e.1.size ≤ maxLen) (hx : k.size ≤ maxLen) : AC Try.prog 47 [.lst 2 (es.map xD), .v (.string k)] ⟨.tup [.v (.int .i64 (getM es k).1), .v (.int .i64 (getM es k).2)], []⟩ := by
 have c1 := aBl hm hk hx
 unfold getM
 by_cases hc : uH es k = 0
 · rw [hc] at c1
   rw [if_pos hc]
   have hs := aAj (aE2 hc).2.2.1
   obtain ⟨p, hp⟩ := aCT es k
   by_cases hy : ∃ hl : p < es.length, es[p].1 = k
   · obtain ⟨hl, he⟩ := hy
     rw [hp.fnd_yes hl he]
     have c2 := aHN hp hm hl he
     refine qrf Try.func47 Try.ntmps47 Try.results47 ?_; conv => whnf
     repeat ((first | refine qz ?_ | refine qdr ?_ | refine qc (c1) ?_ | refine qc (c2) ?_); conv => whnf)
     exact yS (by show AV.v (.int .i64 (es[p]).2) = _; simp [hl]) rfl
   · have he : ∀ hl : p < es.length, es[p].1 ≠ k := fun hl e => hy ⟨hl, e⟩
     rw [hp.fnd_no hs he]
     have c2 := aHM hp hm he
     refine qrf Try.func47 Try.ntmps47 Try.results47 ?_; conv => whnf
     repeat ((first | refine qz ?_ | refine qdr ?_ | refine qc (c1) ?_ | refine qc (c2) ?_); conv => whnf)
     exact yS rfl rfl
 · rw [if_neg hc]
   refine qrf Try.func47 Try.ntmps47 Try.results47 ?_; conv => whnf
   repeat ((first | refine qz ?_ | refine qdr ?_ | refine qc (c1) ?_); conv => whnf)
   exact yS rfl rfl
theorem aIP {es : List Ent} {a b : ByteArray} (hm : es.length ≤ maxLen) (hk : ∀ e ∈ es, e.1.size ≤ maxLen) (ha : a.size ≤ maxLen) (hb : b.size ≤ maxLen) : AC Try.prog 50 [.lst 2 (es.map xD), .v (.string a), .v (.string b)] ⟨.tup [.own 0, .v (.int .i64 (jo es a b).2)], [⟨88, 2, (jo es a b).1.map xD⟩]⟩ := by
 unfold jo
 have hm' := hm
 have ha' := ha
 have hb' := hb
 unfold maxLen at hm' ha' hb'
 by_cases h1 : 4096 < es.length
 · rw [if_pos (.inl h1)]
   refine qrf Try.func50 Try.ntmps50 Try.results50 ?_; conv => whnf
   repeat ((refine qz ?_; conv => whnf))
   exact yR rfl rfl rfl
 by_cases h2 : 65536 < a.size
 · rw [if_pos (.inr (.inl h2))]
   refine qrf Try.func50 Try.ntmps50 Try.results50 ?_; conv => whnf
   repeat ((refine qz ?_; conv => whnf))
   exact yR rfl rfl rfl
 by_cases h3 : 65536 < b.size
 · rw [if_pos (.inr (.inr h3))]
   refine qrf Try.func50 Try.ntmps50 Try.results50 ?_; conv => whnf
   repeat ((refine qz ?_; conv => whnf))
   exact yR rfl rfl rfl
 rw [if_neg (by omega)]
 cases hmo : xW es
 case false =>
  rw [if_neg (by simp)]
  have c1 := vv hmo hm hk
  refine qrf Try.func50 Try.ntmps50 Try.results50 ?_; conv => whnf
  repeat ((first | refine qz ?_ | refine qc (c1) ?_); conv => whnf)
  exact yR rfl rfl rfl
 rw [if_pos rfl]
 have c1 := vv hmo hm hk
 have hs := aAj hmo
 obtain ⟨p, hp⟩ := aCT es a
 have hpl := hp.1
 have c2 := qd hp hm
 by_cases hb0 : b.size = 0
 · have hbe : b = ⟨#[]⟩ := ByteArray.size_eq_zero_iff.1 hb0
   rw [aID hs hp hb0]
   have c3 := aFm (es := es) (a := p) (b := es.length) hpl (Nat.le_refl _) (by omega)
   refine qrf Try.func50 Try.ntmps50 Try.results50 ?_; conv => whnf
   repeat ((first | refine qz ?_ | refine qdr ?_ | refine qc (c1) ?_ | refine qc (c2) ?_ | refine qc (c3) ?_ | refine qp (xR (wo hbe) rfl rfl rfl) ?_); conv => whnf)
   exact yR rfl rfl rfl
 · have hbe : b ≠ ⟨#[]⟩ := fun e => hb0 (by rw [e]; rfl)
   obtain ⟨r, hr⟩ := aCT es b
   have hrl := hr.1
   have c4 := qd hr hm
   rw [aJ9 hs hp hr hb0]
   have c3 := aFm (es := es) (a := p) (b := max p r) (Nat.le_max_left _ _) (Nat.max_le.2 ⟨hpl, hrl⟩) (by omega)
   refine qrf Try.func50 Try.ntmps50 Try.results50 ?_; conv => whnf
   repeat ((first | refine qz ?_ | refine qdr ?_ | refine qc (c1) ?_ | refine qc (c2) ?_ | refine qc (c4) ?_ | refine qc (c3) ?_ | refine qp (xR (aFo hbe) rfl rfl rfl) ?_ | refine qp (aKl rfl rfl) ?_); conv => whnf)
   exact yR rfl rfl rfl
end Go.Proofs.Ytdhjchdbgognbaa.AM
namespace Go.Proofs.Ytdhjchdbgognbaa.AM
open Go Go.RowKit
theorem aKf {l : List Rf} {x : ByteArray} {j : Nat} (h : uQ l x = (j : Int)) : rAt l x 0 = (j : Int) := by
 by_cases h0 : rAt l x 0 < 0
 · rw [jk h0] at h; omega
 · obtain ⟨i, hi, e, _⟩ := aCU (by omega : 0 ≤ rAt l x 0)
   rw [aAx hi e] at h
   cases hg : l[i].gone with
   | true => rw [hg, if_pos rfl] at h; omega
   | false => rw [hg, if_neg (by simp)] at h; rw [e, h]
def aIe (s : Ent) (l : List Cmt) : AV := .agg [xD s, .lst 2 (l.map xL)]
attribute [local irreducible] xO xU yD zA zJ Pre ACG
theorem aJh {l : List Cmt} {i : Int} (hm : l.length ≤ maxLen) : AC Try.prog 107 [.lst 2 (l.map xL), .v (.int .i64 i)] ⟨.v (.bool (decide (1 ≤ i ∧ i ≤ (l.length : Int)))), []⟩ := by
 unfold maxLen at hm
 by_cases h1 : 1 ≤ i
 case neg =>
  rw [decide_eq_false (by omega : ¬ (1 ≤ i ∧ i ≤ (l.length : Int)))]
  refine qrf Try.func107 Try.ntmps107 Try.results107 ?_; conv => whnf
  repeat ((refine qz ?_; conv => whnf))
  exact xA rfl trivial
 by_cases h2 : i ≤ (l.length : Int)
 case neg =>
  rw [decide_eq_false (by omega : ¬ (1 ≤ i ∧ i ≤ (l.length : Int)))]
  refine qrf Try.func107 Try.ntmps107 Try.results107 ?_; conv => whnf
  repeat ((refine qz ?_; conv => whnf))
  exact xA rfl trivial
 rw [decide_eq_true ⟨h1, h2⟩]
 refine qrf Try.func107 Try.ntmps107 Try.results107 ?_; conv => whnf
 repeat ((refine qz ?_; conv => whnf))
 exact xA rfl trivial
theorem aIU {l : List Cmt} {j : Nat} (hm : l.length ≤ maxLen) (hj : j < l.length) : AC Try.prog 82 [.lst 2 (l.map xL), .v (.int .i64 ((j : Int) + 1))] ⟨.lst 2 ((l[j]).2.map xD), []⟩ := by
 unfold maxLen at hm
 refine qrf Try.func82 Try.ntmps82 Try.results82 ?_; conv => whnf
 repeat ((first | refine qp (xR (aAs (c := (j : Int)) (by omega) (by omega) (by omega)) rfl rfl rfl) ?_ | refine qz ?_); conv => whnf)
 exact xA rfl trivial
theorem aI0 {l : List Cmt} {s : Ent} (hm : l.length ≤ maxLen) (hs : s.1.size ≤ maxLen) : AC Try.prog 77 [aIe s l] ⟨.v (.bool (z8 l.length s)), []⟩ := by
 have c2 := aJh (i := s.2) hm
 unfold z8
 cases hw : okN s.1
 case false =>
  have c1 := zX hs hw
  refine qrf Try.func77 Try.ntmps77 Try.results77 ?_; conv => whnf
  repeat ((first | refine qz ?_ | refine qc (c1) ?_ | refine qdr ?_); conv => whnf)
  exact xA rfl trivial
 have c1 := zX hs hw
 generalize decide (1 ≤ s.2 ∧ s.2 ≤ (l.length : Int)) = x at c2 ⊢
 refine qrf Try.func77 Try.ntmps77 Try.results77 ?_; conv => whnf
 repeat ((first | refine qz ?_ | refine qc (c1) ?_ | refine qc (c2) ?_ | refine qdr ?_); conv => whnf)
 exact xA rfl trivial
theorem ku {l : List Cmt} {s : Ent} {j : Nat} (hm : l.length ≤ maxLen) (hj : j < l.length) (e : s.2 = (j : Int) + 1) : AC Try.prog 48 [aIe s l] ⟨.lst 2 ((l[j]).2.map xD), []⟩ := by
 have c1 := aIU hm hj
 rw [← e] at c1
 refine qrf Try.func48 Try.ntmps48 Try.results48 ?_; conv => whnf
 repeat ((first | refine qz ?_ | refine qc (c1) ?_ | refine qdr ?_); conv => whnf)
 exact xA rfl trivial
theorem vZ {b : Bas} {s : Ent} (hb : b.ok maxLen) (hs : s.1.size ≤ maxLen) : AC Try.prog 45 [xX b, xD s] ⟨.tup [aIe s b.store, .v (.bool (yB b && z8 b.store.length s))], []⟩ := by
 have c1 := jA hb
 have c2 := aI0 hb.sm hs
 cases hx : yB b
 case false =>
  rw [hx] at c1
  refine qrf Try.func45 Try.ntmps45 Try.results45 ?_; conv => whnf
  repeat (first | (refine qz ?_; conv => whnf) | (refine qc (c1) ?_; conv => whnf) | (refine qU (yQ rfl rfl rfl rfl rfl (by conv => lhs; whnf) rfl) rfl rfl (fun _ => .inr (.inr (aFE (by kernel_rfl) (by kernel_rfl)))) ?_; conv => whnf) | (refine qdr ?_; conv => whnf))
  exact uo rfl rfl rfl rfl trivial rfl
 rw [hx] at c1
 generalize z8 b.store.length s = y at c2 ⊢
 refine qrf Try.func45 Try.ntmps45 Try.results45 ?_; conv => whnf
 repeat (first | (refine qz ?_; conv => whnf) | (refine qc (c1) ?_; conv => whnf) | (refine qc (c2) ?_; conv => whnf) | (refine qU (yQ rfl rfl rfl rfl rfl (by conv => lhs; whnf) rfl) rfl rfl (fun _ => .inr (.inr (aFE (by kernel_rfl) (by kernel_rfl)))) ?_; conv => whnf) | (refine qdr ?_; conv => whnf))
 exact uo rfl rfl rfl rfl trivial rfl
theorem aIN {b : Bas} {x : ByteArray} (hb : b.ok maxLen) (hx : x.size ≤ maxLen) : AC Try.prog 12 [xX b, .v (.string x)] ⟨.tup [xD (uO b x).1, .v (.int .i64 (uO b x).2)], []⟩ := by
 have c1 := jA hb
 have c2 := aG4 (x := x) hb.rm
 have hx' := hx
 unfold maxLen at hx'
 by_cases h0 : 65536 < x.size
 · have e : uO b x = (zSn, 2) := by unfold uO; rw [if_pos h0]
   rw [e]
   refine qrf Try.func12 Try.ntmps12 Try.results12 ?_; conv => whnf
   repeat ((first | refine qz ?_ | refine qst ?_); conv => whnf)
   exact uo rfl rfl rfl rfl trivial rfl
 cases hbb : yB b with
 | false =>
  have e : uO b x = (zSn, 1) := by unfold uO; rw [if_neg h0, if_neg (by rw [hbb]; simp)]
  rw [e]
  rw [hbb] at c1
  refine qrf Try.func12 Try.ntmps12 Try.results12 ?_; conv => whnf
  repeat ((first | refine qz ?_ | refine qc (c1) ?_ | refine qst ?_); conv => whnf)
  exact uo rfl rfl rfl rfl trivial rfl
 | true =>
  rw [hbb] at c1
  by_cases hl : uQ b.refs x < 0
  · have e : uO b x = (zSn, 10) := by unfold uO; rw [if_neg h0, if_pos hbb, if_pos hl]
    rw [e]
    rw [decide_eq_false (by omega : ¬ (0 ≤ uQ b.refs x))] at c2
    refine qrf Try.func12 Try.ntmps12 Try.results12 ?_; conv => whnf
    repeat ((first | refine qz ?_ | refine qc (c1) ?_ | refine qc (c2) ?_ | refine qst ?_ | refine qdr ?_); conv => whnf)
    exact uo rfl rfl rfl rfl trivial rfl
  · obtain ⟨j, hj, ej⟩ := aFu hl
    rw [aHk hj h0 hbb ej]
    rw [decide_eq_true (by omega : 0 ≤ uQ b.refs x), aKf ej] at c2
    refine qrf Try.func12 Try.ntmps12 Try.results12 ?_; conv => whnf
    repeat ((first | refine qz ?_ | refine qc (c1) ?_ | refine qc (c2) ?_ | refine qst ?_ | refine qdr ?_); conv => whnf)
    exact uo rfl rfl rfl rfl trivial rfl
theorem aGY {b : Bas} {s : Ent} (hb : b.ok maxLen) (hs : s.1.size ≤ maxLen) : AC Try.prog 18 [xX b, xD s] ⟨.v (.bool (yB b && z8 b.store.length s)), []⟩ := by
 have c1 := vZ hb hs
 generalize (yB b && z8 b.store.length s) = y at c1 ⊢
 refine qrf Try.func18 Try.ntmps18 Try.results18 ?_; conv => whnf
 repeat ((first | refine qz ?_ | refine qc (c1) ?_ | refine qst ?_ | refine qdr ?_); conv => whnf)
 exact xA rfl trivial
theorem aIO {b : Bas} {s : Ent} {k : ByteArray} (hb : b.ok maxLen) (hs : s.1.size ≤ maxLen) (hk : k.size ≤ maxLen) : AC Try.prog 20 [xX b, xD s, .v (.string k)] ⟨.tup [.v (.int .i64 (rdR b s k).1), .v (.int .i64 (rdR b s k).2)], []⟩ := by
 have c1 := vZ hb hs
 have hk' := hk
 have hsm := hb.sm
 unfold maxLen at hk' hsm
 unfold rdR
 by_cases h0 : 65536 < k.size
 · rw [if_pos h0]
   refine qrf Try.func20 Try.ntmps20 Try.results20 ?_; conv => whnf
   repeat ((refine qz ?_; conv => whnf))
   exact yS rfl rfl
 rw [if_neg h0]
 cases hy : yB b && z8 b.store.length s
 case true =>
  rw [hy] at c1
  rw [Bool.and_eq_true] at hy
  obtain ⟨j, hj, ej, em⟩ := vo hy.2
  obtain ⟨m1, m2⟩ := map_ok hb hj
  rw [if_pos rfl, em]
  have c2 := ku hb.sm hj ej
  have c3 := aJE m1 m2 hk
  refine qrf Try.func20 Try.ntmps20 Try.results20 ?_; conv => whnf
  repeat ((first | refine qz ?_ | refine qc (c1) ?_ | refine qc (c2) ?_ | refine qc (c3) ?_ | refine qst ?_ | refine qdr ?_); conv => whnf)
  exact yS rfl rfl
 rw [hy] at c1
 rw [if_neg (by simp)]
 refine qrf Try.func20 Try.ntmps20 Try.results20 ?_; conv => whnf
 repeat ((first | refine qz ?_ | refine qc (c1) ?_ | refine qst ?_ | refine qdr ?_); conv => whnf)
 exact yS rfl rfl
theorem aHQ {b : Bas} {s : Ent} {x y : ByteArray} (hb : b.ok maxLen) (hs : s.1.size ≤ maxLen) (hx : x.size ≤ maxLen) (hy : y.size ≤ maxLen) : AC Try.prog 22 [xX b, xD s, .v (.string x), .v (.string y)] ⟨.tup [.own 0, .v (.int .i64 (scR b s x y).2)], [⟨88, 2, (scR b s x y).1.map xD⟩]⟩ := by
 have c1 := vZ hb hs
 have hx' := hx
 have hy' := hy
 have hsm := hb.sm
 unfold maxLen at hx' hy' hsm
 unfold scR
 by_cases h0 : 65536 < x.size
 · rw [if_pos (.inl h0)]
   refine qrf Try.func22 Try.ntmps22 Try.results22 ?_; conv => whnf
   repeat ((refine qz ?_; conv => whnf))
   exact yR rfl rfl rfl
 by_cases h1 : 65536 < y.size
 · rw [if_pos (.inr h1)]
   refine qrf Try.func22 Try.ntmps22 Try.results22 ?_; conv => whnf
   repeat ((refine qz ?_; conv => whnf))
   exact yR rfl rfl rfl
 rw [if_neg (by omega)]
 cases hz : yB b && z8 b.store.length s
 case true =>
  rw [hz] at c1
  rw [Bool.and_eq_true] at hz
  obtain ⟨j, hj, ej, em⟩ := vo hz.2
  obtain ⟨m1, m2⟩ := map_ok hb hj
  rw [if_pos rfl, em]
  have c2 := ku hb.sm hj ej
  have c3 := aIP m1 m2 hx hy
  refine qrf Try.func22 Try.ntmps22 Try.results22 ?_; conv => whnf
  repeat ((first | refine qz ?_ | refine qc (c1) ?_ | refine qc (c2) ?_ | refine qc (c3) ?_ | refine qst ?_ | refine qdr ?_); conv => whnf)
  exact yR rfl rfl rfl
 rw [hz] at c1
 rw [if_neg (by simp)]
 refine qrf Try.func22 Try.ntmps22 Try.results22 ?_; conv => whnf
 repeat ((first | refine qz ?_ | refine qc (c1) ?_ | refine qst ?_ | refine qdr ?_); conv => whnf)
 exact yR rfl rfl rfl
theorem aH2 {a b : List Ent} (ha : xW a = true) (hb : xW b = true) (h1 : a.length ≤ 12) (h2 : b.length ≤ 12) : vw a b = (y7 a b, 0) := by
 unfold vw
 rw [if_neg (by omega), if_pos ⟨ha, hb⟩]
theorem aBr {b : Bas} (h : yB b = true) {j : Nat} (hj : j < b.store.length) : xW (b.store[j]).2 = true := by
 unfold yB aAN at h
 simp only [Bool.and_eq_true] at h
 have := aB6 h.1.2 j hj
 unfold jO at this
 rw [Bool.and_eq_true] at this
 exact this.1
theorem aHO {b : Bas} {s t : Ent} (hb : b.ok maxLen) (hs : s.1.size ≤ maxLen) (ht : t.1.size ≤ maxLen) : AC Try.prog 28 [xX b, xD s, xD t] ⟨.tup [.own 0, .v (.int .i64 (dfR b s t).2)], [⟨96, 3, (dfR b s t).1.map uw⟩]⟩ := by
 have c1 := vZ hb hs
 have c2 := vZ hb ht
 have hsm := hb.sm
 unfold maxLen at hsm
 unfold dfR
 cases hu : yB b <;> cases hv : z8 b.store.length s <;> cases hw : z8 b.store.length t
 case true.true.true =>
  rw [hu, hv] at c1
  rw [hu, hw] at c2
  obtain ⟨j, hj, ej, em⟩ := vo hv
  obtain ⟨i, hi, ei, en⟩ := vo hw
  obtain ⟨m1, m2⟩ := map_ok hb hj
  obtain ⟨n1, n2⟩ := map_ok hb hi
  have c3 := aFV m1 n1 m2 n2
  have c4 := ku hb.sm hj ej
  have c5 := ku hb.sm hi ei
  rw [aH2 (aBr hu hj) (aBr hu hi) (wu hu hj) (wu hu hi)] at c3
  rw [if_pos (show (true && (true && true)) = true from rfl), em, en]
  refine qrf Try.func28 Try.ntmps28 Try.results28 ?_; conv => whnf
  repeat ((first | refine qz ?_ | refine qc (c1) ?_ | refine qc (c2) ?_ | refine qc (c4) ?_ | refine qc (c5) ?_ | refine qc (c3) ?_ | refine qst ?_ | refine qdr ?_); conv => whnf)
  exact yR rfl rfl rfl
 all_goals
  rw [hu, hv] at c1
  rw [hu, hw] at c2
  rw [if_neg (by simp)]
  refine qrf Try.func28 Try.ntmps28 Try.results28 ?_; conv => whnf
  repeat ((first | refine qz ?_ | refine qc (c1) ?_ | refine qc (c2) ?_ | refine qst ?_ | refine qdr ?_); conv => whnf)
  exact yR rfl rfl rfl
end Go.Proofs.Ytdhjchdbgognbaa.AM
namespace Go.Proofs.Ytdhjchdbgognbaa.AM
open Go Go.RowKit
def rgI (r s : Rf) : Bool := decide (r = s) || (decide (r.name = s.name) && decide (r.ver < s.ver))
theorem aK3 (r s : Rf) : rgI r s = rgG r s := by
 unfold rgI rgG
 by_cases e : r = s
 · subst e; simp
 · have e' : ¬ s = r := fun h => e h.symm
   rw [decide_eq_false e, decide_eq_false e']
   by_cases n : r.name = s.name
   · rw [decide_eq_true n, decide_eq_true n.symm]
     by_cases h : r.ver < s.ver
     · rw [decide_eq_true h, decide_eq_true (by omega : r.ver ≤ s.ver), decide_eq_false (by omega : ¬ s.ver = r.ver)]; rfl
     · rw [decide_eq_false h]
       by_cases h2 : s.ver = r.ver
       · rw [decide_eq_true h2]; simp
       · rw [decide_eq_false (by omega : ¬ r.ver ≤ s.ver)]; simp
   · rw [decide_eq_false n, decide_eq_false (show ¬ s.name = r.name from fun h => n h.symm)]; rfl
theorem aEx : ∀ {a b : List Rf}, a.length ≤ b.length → rgB a (b.take a.length) = rgB a b
 | [], b, _ => by rw [aBG, aBG]
 | _ :: _, [], h => absurd h (by simp)
 | r :: a, s :: b, h => by
  rw [List.length_cons, List.take_succ_cons, rgB, rgB, aEx (by simpa using h)]
theorem aAq {a b : Rf} {x y : Operand} {r : Bool} (h : decide (a = b) = r) : y9 Try.prog .eql 68 x y (.agg #[.string a.name, .int .i64 a.head, .int .i64 a.ver, .bool a.gone]) (.agg #[.string b.name, .int .i64 b.head, .int .i64 b.ver, .bool b.gone]) (.bool r) := fun w => by
 rw [Sem.run_bind, run_eqGuard_agg w _ _ _ _ _ _ aDO, Result.andThen_ok, run_eql_struct, aHx, Result.andThen_ok, ← h]
 have : decide (a.name = b.name ∧ a.head = b.head ∧ a.ver = b.ver ∧ a.gone = b.gone) = decide (a = b) := by
  rw [decide_eq_decide]; exact aCq.symm
 rw [this]
attribute [local irreducible] xO xU yD zA zJ Pre ACG
theorem aF0 {r s : Rf} : AC Try.prog 62 [xS r, xS s] ⟨.v (.bool (rgG r s)), []⟩ := by
 rw [← aK3]
 unfold rgI
 by_cases e : r = s
 · rw [decide_eq_true e, Bool.true_or]
   refine qrf Try.func62 Try.ntmps62 Try.results62 ?_; conv => whnf
   repeat ((first | refine qz ?_ | refine qdr ?_ | refine qp (qO (aAq (a := r) (b := s) (r := true) (decide_eq_true e)) rfl rfl rfl) ?_); conv => whnf)
   exact xA rfl trivial
 rw [decide_eq_false e, Bool.false_or]
 by_cases n : r.name = s.name
 case neg =>
  rw [decide_eq_false n, Bool.false_and]
  refine qrf Try.func62 Try.ntmps62 Try.results62 ?_; conv => whnf
  repeat ((first | refine qz ?_ | refine qdr ?_ | refine qp (qO (aAq (a := r) (b := s) (r := false) (decide_eq_false e)) rfl rfl rfl) ?_ | refine qp (xR (wh n) rfl rfl rfl) ?_); conv => whnf)
  exact xA rfl trivial
 rw [decide_eq_true n, Bool.true_and]
 by_cases h : r.ver < s.ver
 · rw [decide_eq_true h]
   refine qrf Try.func62 Try.ntmps62 Try.results62 ?_; conv => whnf
   repeat ((first | refine qz ?_ | refine qdr ?_ | refine qp (qO (aAq (a := r) (b := s) (r := false) (decide_eq_false e)) rfl rfl rfl) ?_ | refine qp (xR (wm n) rfl rfl rfl) ?_); conv => whnf)
   exact xA rfl trivial
 · rw [decide_eq_false h]
   refine qrf Try.func62 Try.ntmps62 Try.results62 ?_; conv => whnf
   repeat ((first | refine qz ?_ | refine qdr ?_ | refine qp (qO (aAq (a := r) (b := s) (r := false) (decide_eq_false e)) rfl rfl rfl) ?_ | refine qp (xR (wm n) rfl rfl rfl) ?_); conv => whnf)
   exact xA rfl trivial
theorem aDf {a b : List Rf} (hm : a.length ≤ maxLen) (hl : a.length = b.length) : AC Try.prog 93 [.lst 4 (a.map xS), .lst 4 (b.map xS), .fn 62 [] []] ⟨.v (.bool (rgB a b)), []⟩ := by
 unfold maxLen at hm
 refine qrf Try.func93 Try.ntmps93 Try.results93 ?_; conv => whnf
 repeat ((refine qz ?_; conv => whnf))
 refine xu (ι := { k : Nat // k ≤ a.length ∧ rgB (a.drop k) (b.drop k) = rgB a b }) (fun k => ⟨[(1, .lst 4 (b.map xS)), (2, .fn 62 [] []), (15, .lst 4 (a.map xS)), (16, .v (.int .i64 (a.length : Int))), (17, .v (.int .i64 (k.1 : Int)))], []⟩) (fun k => a.length - k.1) ⟨0, Nat.zero_le _, rfl⟩ (by exact qle) ?_
 rintro ⟨k, hk, hg⟩
 dsimp only at hk hg ⊢
 conv => whnf
 by_cases hlt : k < a.length
 case neg =>
  rw [← hg, List.drop_eq_nil_of_le (by omega), aBG]
  repeat ((refine qz ?_; conv => whnf))
  exact xA rfl trivial
 have hlt' : k < b.length := by omega
 rw [aEw hlt hlt'] at hg
 have hac := aF0 (r := a[k]) (s := b[k])
 cases he : rgG a[k] b[k]
 · rw [he] at hac
   rw [he, Bool.false_and] at hg
   rw [← hg]
   repeat (first | (refine qz ?_; conv => whnf) | (refine qr (yQ rfl rfl rfl rfl rfl (by conv => lhs; whnf) rfl) ?_; conv => whnf) | (refine qr (jK hac rfl rfl (.inl rfl) trivial rfl rfl) ?_; conv => whnf))
   exact xA rfl trivial
 · rw [he] at hac
   rw [he, Bool.true_and] at hg
   repeat (first | (refine qz ?_; conv => whnf) | (refine qr (yQ rfl rfl rfl rfl rfl (by conv => lhs; whnf) rfl) ?_; conv => whnf) | (refine qr (jK hac rfl rfl (.inl rfl) trivial rfl rfl) ?_; conv => whnf))
   exact ⟨⟨k + 1, hlt, hg⟩, by exact qle, by simp; omega⟩
theorem aGS {a b : List Cmt} (hm : a.length ≤ maxLen) (hm' : b.length ≤ maxLen) (hc : y5 maxLen a) (hc' : y5 maxLen b) : AC Try.prog 59 [.lst 2 (b.map xL), .lst 2 (a.map xL), .fn 60 [] []] ⟨.v (.bool (decide (a.length ≤ b.length) && decide (a = b.take a.length))), []⟩ := by
 have c1 := aED (a := a) (b := b.take a.length) hm (by rw [List.length_take]; omega) hc (fun c hc => hc' c (List.mem_of_mem_take hc))
 unfold maxLen at hm hm'
 by_cases h1 : a.length ≤ b.length
 case neg =>
  rw [decide_eq_false h1, Bool.false_and]
  refine qrf Try.func59 Try.ntmps59 Try.results59 ?_; conv => whnf
  repeat ((refine qz ?_; conv => whnf))
  exact xA rfl trivial
 rw [decide_eq_true h1, Bool.true_and]
 generalize decide (a = b.take a.length) = z at c1 ⊢
 refine qrf Try.func59 Try.ntmps59 Try.results59 ?_; conv => whnf
 repeat ((first | refine qz ?_ | refine qp (vg (h := a.length) (xs := b) (f := xL) h1 rfl rfl rfl) ?_ | refine qc (c1) ?_ | refine qdr ?_); conv => whnf)
 exact xA rfl trivial
theorem aGT {a b : List Rf} (hm : a.length ≤ maxLen) (hm' : b.length ≤ maxLen) : AC Try.prog 61 [.lst 4 (b.map xS), .lst 4 (a.map xS), .fn 62 [] []] ⟨.v (.bool (decide (a.length ≤ b.length) && rgB a b)), []⟩ := by
 by_cases h1 : a.length ≤ b.length
 case neg =>
  unfold maxLen at hm hm'
  rw [decide_eq_false h1, Bool.false_and]
  refine qrf Try.func61 Try.ntmps61 Try.results61 ?_; conv => whnf
  repeat ((refine qz ?_; conv => whnf))
  exact xA rfl trivial
 have c1 := aDf (a := a) (b := b.take a.length) hm (by rw [List.length_take]; omega)
 rw [aEx h1] at c1
 unfold maxLen at hm hm'
 rw [decide_eq_true h1, Bool.true_and]
 generalize rgB a b = z at c1 ⊢
 refine qrf Try.func61 Try.ntmps61 Try.results61 ?_; conv => whnf
 repeat ((first | refine qz ?_ | refine qp (vg (h := a.length) (xs := b) (f := xS) h1 rfl rfl rfl) ?_ | refine qc (c1) ?_ | refine qdr ?_); conv => whnf)
 exact xA rfl trivial
theorem aHP {a b : Bas} (ha : a.ok maxLen) (hb : b.ok maxLen) : AC Try.prog 33 [xX a, xX b] ⟨.tup [.v (.bool (yB a && (yB b && qy a b))), .v (.int .i64 (if (yB a && yB b) = true then 0 else 1))], []⟩ := by
 have c1 := jA ha
 have c2 := jA hb
 have c3 := aGS ha.sm hb.sm ha.sc hb.sc
 have c4 := aGT ha.rm hb.rm
 have e : qy a b = ((decide (a.store.length ≤ b.store.length) && decide (a.store = b.store.take a.store.length)) && (decide (a.refs.length ≤ b.refs.length) && rgB a.refs b.refs)) := by
  unfold qy
  generalize decide (a.store.length ≤ b.store.length) = x1
  generalize decide (a.store = b.store.take a.store.length) = x2
  generalize decide (a.refs.length ≤ b.refs.length) = x3
  generalize rgB a.refs b.refs = x4
  cases x1 <;> cases x2 <;> cases x3 <;> cases x4 <;> rfl
 rw [e]
 generalize (decide (a.store.length ≤ b.store.length) && decide (a.store = b.store.take a.store.length)) = y1 at c3 ⊢
 generalize (decide (a.refs.length ≤ b.refs.length) && rgB a.refs b.refs) = y2 at c4 ⊢
 generalize yB a = x at c1 ⊢
 generalize yB b = y at c2 ⊢
 cases x <;> cases y <;> cases y1
 all_goals
  refine qrf Try.func33 Try.ntmps33 Try.results33 ?_; conv => whnf
  repeat ((first | refine qz ?_ | refine qc (c1) ?_ | refine qc (c2) ?_ | refine qc (c3) ?_ | refine qc (c4) ?_ | refine qdr ?_); conv => whnf)
  exact yS rfl rfl
end Go.Proofs.Ytdhjchdbgognbaa.AM
namespace Go.Proofs.Ytdhjchdbgognbaa.AM
open Go Go.RowKit
theorem lawOpenSnap {b : Bas} (hs : b.store.length ≤ maxLen ∧ y5 maxLen b.store) (hr : b.refs.length ≤ maxLen) (hk : ∀ r ∈ b.refs, r.name.size ≤ maxLen) {x : ByteArray} (hx : x.size ≤ maxLen) : AC Try.prog 3 [xX b, .v (.string x)] ⟨.v (.bool true), []⟩ := aE7 hs hr hk hx (aIN ⟨hs.1, hs.2, hr, hk⟩ hx)
theorem lawSnapOK {b : Bas} (hs : b.store.length ≤ maxLen ∧ y5 maxLen b.store) (hr : b.refs.length ≤ maxLen) (hk : ∀ r ∈ b.refs, r.name.size ≤ maxLen) {s : Ent} (hx : s.1.size ≤ maxLen) : AC Try.prog 4 [xX b, xD s] ⟨.v (.bool true), []⟩ := aGl hs hr hk hx (aGY ⟨hs.1, hs.2, hr, hk⟩ hx)
theorem lawReadSnap {b : Bas} (hs : b.store.length ≤ maxLen ∧ y5 maxLen b.store) (hr : b.refs.length ≤ maxLen) (hk : ∀ r ∈ b.refs, r.name.size ≤ maxLen) {s : Ent} (hx : s.1.size ≤ maxLen) {k : ByteArray} (hkx : k.size ≤ maxLen) : AC Try.prog 5 [xX b, xD s, .v (.string k)] ⟨.v (.bool true), []⟩ := aE8 hs hr hk hx hkx (aIO ⟨hs.1, hs.2, hr, hk⟩ hx hkx)
theorem lawScanSnap {b : Bas} (hs : b.store.length ≤ maxLen ∧ y5 maxLen b.store) (hr : b.refs.length ≤ maxLen) (hk : ∀ r ∈ b.refs, r.name.size ≤ maxLen) {s : Ent} (hx : s.1.size ≤ maxLen) {x : ByteArray} (hxx : x.size ≤ maxLen) {y : ByteArray} (hyy : y.size ≤ maxLen) : AC Try.prog 6 [xX b, xD s, .v (.string x), .v (.string y)] ⟨.v (.bool true), []⟩ := aE9 hs hr hk hx hxx hyy (aHQ ⟨hs.1, hs.2, hr, hk⟩ hx hxx hyy)
theorem lawDiffSnaps {b : Bas} (hs : b.store.length ≤ maxLen ∧ y5 maxLen b.store) (hr : b.refs.length ≤ maxLen) (hk : ∀ r ∈ b.refs, r.name.size ≤ maxLen) {s : Ent} (hx : s.1.size ≤ maxLen) {t : Ent} (ht : t.1.size ≤ maxLen) : AC Try.prog 7 [xX b, xD s, xD t] ⟨.v (.bool true), []⟩ := aDm hs hr hk hx ht (aHO ⟨hs.1, hs.2, hr, hk⟩ hx ht)
theorem lawGrowsFrom {a b : Bas} (hs : a.store.length ≤ maxLen ∧ y5 maxLen a.store) (hr : a.refs.length ≤ maxLen) (hk : ∀ r ∈ a.refs, r.name.size ≤ maxLen) (hs' : b.store.length ≤ maxLen ∧ y5 maxLen b.store) (hr' : b.refs.length ≤ maxLen) (hk' : ∀ r ∈ b.refs, r.name.size ≤ maxLen) : AC Try.prog 8 [xX a, xX b] ⟨.v (.bool true), []⟩ := aDn hs hr hk hs' hr' hk' (aHP ⟨hs.1, hs.2, hr, hk⟩ ⟨hs'.1, hs'.2, hr', hk'⟩)
end Go.Proofs.Ytdhjchdbgognbaa.AM
