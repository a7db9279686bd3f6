/- Texts of the machine over data, folded. -/
import Derived.Test.YtfomjajdfaoogaaGreatDoorKa5
import Derived.Test.YtfomjajdfaoogaaGreatDoorKa13
set_option linter.unusedVariables false
set_option linter.unusedSimpArgs false
set_option maxRecDepth 100000
namespace Go.Proofs.YtfomjajdfaoogaaGreatDoor.AM
open Go Go.RowKit
section
variable {P : Program} {Θ : Tab} {n : Nat} {ops : Array Oper} {draw : Bool} {s : St} {k : Nat} {r : List Oper} {K : St → Prop} {d : Option Tmp} {ty : TypeId} {pos : String} {after : Array Edge} {g : Option (Nat × Bool)}
theorem qgV {f : FuncId} {xs ys : List AV} {x : Operand} {ags : Array Operand} {ts : Array TypeId} {t : Nat} {args : List AV} {rin rout : List OB} {out : Out} (Ls : List Nat) (hac : ACG P f args rin rout out) (h : runK P Θ n ops draw (k + 1) r (s.app (some t) ⟨ren (t + 1) out.val, some fun s => yu (t + 1) 0 out.obs (yS Ls Ls rout s)⟩) K) (hx : s.ev x = .fn f xs ys := by exact rfl) (ha : s.datHL Ls (xs ++ ags.toList.map s.ev ++ ys) = aAu Ls args := by exact rfl) (hh : handed s Ls Ls rin := by first | exact ⟨rfl, trivial⟩ | exact ⟨rfl, rfl, trivial⟩ | exact ⟨rfl, rfl, rfl, trivial⟩) (hnd : aFg Ls = true := by exact rfl) (hsz : rout.map OB.sz = rin.map OB.sz := by exact rfl) (hfr : yN s (t + 1) 0 out.obs := by first | exact trivial | exact ⟨⟨rfl, rfl, rfl⟩, trivial⟩ | exact ⟨⟨rfl, rfl, rfl⟩, ⟨rfl, rfl, rfl⟩, trivial⟩ | exact ⟨⟨rfl, rfl, rfl⟩, ⟨rfl, rfl, rfl⟩, ⟨rfl, rfl, rfl⟩, trivial⟩) (hok : vM s Ls (xs ++ ags.toList.map s.ev ++ ys) = true := by exact rfl) (hwi : zC (fun l => (xE 0 rin l).isSome) args = true := by exact rfl) (hwe : (rin ++ rout).all (fun ob => uK (fun l => (xE 0 rin l).isSome) ob.e) = true := by exact rfl) (hfl : (zn Ls (xY (xs ++ ags.toList.map s.ev ++ ys))).isEmpty = true := by exact rfl) (hc : wQ ags.toList = true := by exact rfl) (hg : xV ops s ⟨some t, .call ⟨.value x, ags, ts⟩, ty, pos, after, g⟩ = some true := by exact rfl) (hin : inN n (some t) = true := by exact rfl) (hu : draw = true → (⟨ren (t + 1) out.val, some fun s => yu (t + 1) 0 out.obs (yS Ls Ls rout s)⟩ : Eff).upd = none ∨ tied ops k = true ∨ kW Θ ops (fun j => Nat.blt j k) k s ⟨ren (t + 1) out.val, some fun s => yu (t + 1) 0 out.obs (yS Ls Ls rout s)⟩ := by intro e; first | exact .inl rfl | contradiction | exact .inr (.inl (by kernel_rfl))) : xO P Θ n ops draw k (⟨some t, .call ⟨.value x, ags, ts⟩, ty, pos, after, g⟩ :: r) s K := vS (wO Ls hac hx ha hh hnd hsz hfr hok hwi hwe (.inl hfl) hc) hg hin hu h
variable {op : Op}
end
def brB : ByteArray := ⟨#[66, 82, 49]⟩
def wu (r : Rf) : ByteArray := vL r.name ++ xG r.ver.toNat ++ xG r.head.toNat
def wX (a : ByteArray) (l : List Cmt) : ByteArray := l.foldl (fun t c => t ++ zk c) a
def jP (a : ByteArray) (l : List Rf) : ByteArray := l.foldl (fun t r => t ++ wu r) a
def uD (b : Bas) : ByteArray := jP (wX (brB ++ xG b.store.length) b.store ++ xG b.refs.length) b.refs
def xu (b : Bas) : ByteArray := uD b ++ xG (uV (uD b)).toNat
structure RfS (r : Rf) : Prop where
 n : r.name.size ≤ 12
 v0 : 0 ≤ r.ver
 v1 : r.ver ≤ 1000000
 h0 : 0 ≤ r.head
 h1 : r.head ≤ 60
structure BasS (b : Bas) : Prop where
 sl : b.store.length ≤ 60
 sc : ∀ c ∈ b.store, CmtS c ∧ c.1.length ≤ 2 ∧ c.2.length ≤ 12
 rl : b.refs.length ≤ 8
 rr : ∀ r ∈ b.refs, RfS r
theorem aGL {b : Bas} (h : uL b = true) : BasS b := by
 unfold uL uO at h
 simp only [Bool.and_eq_true, decide_eq_true_eq] at h
 obtain ⟨⟨hl, hc⟩, hr, _⟩ := h
 have hrs := zH hr
 refine ⟨hl.2, fun c hcm => ?_, hrs.1, fun r hrm => ?_⟩
 · obtain ⟨i, hi, rfl⟩ := List.getElem_of_mem hcm
   have h1 := aBl hc i hi
   unfold u6 at h1
   rw [Bool.and_eq_true] at h1
   have h2 := aEN h1.1
   have h3 : aGp (0 + i) (b.store[i]).1 := by
    have := h1.2
    unfold jq at this
    simpa using this
   refine ⟨⟨by have := h3.1; omega, fun p hp => ?_, by omega, aGg h1.1⟩, h3.1, h2⟩
   obtain ⟨j, hj, rfl⟩ := List.getElem_of_mem hp
   obtain ⟨_, g1, g2, _⟩ := h3.2.2 j hj
   omega
 · obtain ⟨i, hi, rfl⟩ := List.getElem_of_mem hrm
   obtain ⟨_, g, _⟩ := hrs.2 i hi
   unfold kU at g
   simp only [Bool.and_eq_true, decide_eq_true_eq] at g
   refine ⟨aOR g.1, by omega, by omega, ?_, ?_⟩
   · have := g.2.2; split at this <;> (simp only [decide_eq_true_eq] at this; omega)
   · have := g.2.2; split at this <;> (simp only [decide_eq_true_eq] at this; omega)
theorem aRl {r : Rf} (h : RfS r) : (wu r).size ≤ 24 := by
 unfold wu
 have h1 := aB8 (t := r.name) (by have := h.n; omega)
 have h2 := yc (n := r.ver.toNat) (by have := h.v1; omega)
 have h3 := yc (n := r.head.toNat) (by have := h.h1; omega)
 rw [ByteArray.size_append, ByteArray.size_append]
 have := h.n
 omega
theorem aB5 : ∀ (l : List Cmt) (a : ByteArray), (∀ c ∈ l, CmtS c ∧ c.1.length ≤ 2 ∧ c.2.length ≤ 12) → (wX a l).size ≤ a.size + 300 * l.length
 | [], a, h => by simp [wX]
 | c :: l, a, h => by
  obtain ⟨k1, k2, k3⟩ := h c (by simp)
  have h1 := aB5 l (a ++ zk c) (fun q hq => h q (by simp [hq]))
  have h2 := aHS k1
  rw [ByteArray.size_append] at h1
  show (wX (a ++ zk c) l).size ≤ _
  simp only [List.length_cons]; omega
theorem aB3 : ∀ (l : List Rf) (a : ByteArray), (∀ r ∈ l, RfS r) → (jP a l).size ≤ a.size + 24 * l.length
 | [], a, h => by simp [jP]
 | c :: l, a, h => by
  have h1 := aB3 l (a ++ wu c) (fun q hq => h q (by simp [hq]))
  have h2 := aRl (h c (by simp))
  rw [ByteArray.size_append] at h1
  show (jP (a ++ wu c) l).size ≤ _
  simp only [List.length_cons]; omega
attribute [local irreducible] xI xO xQ xX yG Pre ACG
set_option maxHeartbeats 1000000 in
theorem aMS {b : Bas} (h : BasS b) : AC Tryz.prog 47 [yA b] ⟨.v (.string (xu b)), []⟩ := by
 have hsl := h.sl
 have hrl := h.rl
 have c1 := zf (n := b.store.length) (by omega)
 have c2 := zf (n := b.refs.length) (by omega)
 have z1 := yc (n := b.store.length) (by omega)
 have z2 := yc (n := b.refs.length) (by omega)
 have zb : brB.size = 3 := rfl
 have z3 : (brB ++ xG b.store.length).size ≤ 7 := by rw [ByteArray.size_append]; omega
 have hb0 := @qQ Tryz.prog 9 (.const (.string ⟨#[66, 82, 49]⟩)) (.tmp 9) brB (xG b.store.length) (by omega)
 refine qrf Tryz.func47 Tryz.ntmps47 Tryz.results47 ?_; conv => whnf
 repeat ((first | refine qz ?_ | refine qc (c1) ?_ | refine qp (xC hb0 rfl rfl rfl) ?_); conv => whnf)
 refine xZ (ι := { i : Nat // i ≤ b.store.length }) (fun i => ⟨[(1, .optr 2 0 [] 0), (3, .v (.string (wX (brB ++ xG b.store.length) (b.store.take i.1)))), (4, .v (.int .i64 (i.1 : Int)))], [(2, ⟨41, 2, [yA b]⟩)]⟩) (fun i => b.store.length - i.1) ⟨0, Nat.zero_le _⟩ (by exact qle) ?_
 rintro ⟨i, hi⟩
 dsimp only
 conv => whnf
 by_cases hlt : i < b.store.length
 · obtain ⟨k1, k2, k3⟩ := h.sc _ (List.getElem_mem hlt)
   have hs : wX (brB ++ xG b.store.length) (b.store.take (i + 1)) = wX (brB ++ xG b.store.length) (b.store.take i) ++ zk b.store[i] := jB hlt
   have hz := aB5 (b.store.take i) (brB ++ xG b.store.length) (fun c hc => h.sc c (List.mem_of_mem_take hc))
   rw [List.length_take] at hz
   have c3 := aDt k1
   have z4 := aHS k1
   generalize wX (brB ++ xG b.store.length) (b.store.take i) = A at hs hz ⊢
   repeat ((first | refine qz ?_ | refine qc (c3) ?_ | refine qp (xC (qQ (by omega)) rfl rfl rfl) ?_); conv => whnf)
   rw [← hs]
   exact ⟨⟨i + 1, hlt⟩, by exact qle, by simp; omega⟩
 have e : i = b.store.length := by omega
 subst e
 rw [List.take_length]
 have hz := aB5 b.store (brB ++ xG b.store.length) h.sc
 unfold xu uD
 generalize wX (brB ++ xG b.store.length) b.store = A at hz ⊢
 have z5 : (A ++ xG b.refs.length).size ≤ 100000 := by rw [ByteArray.size_append]; omega
 repeat ((first | refine qz ?_ | refine qc (c2) ?_ | refine qp (xC (qQ (by omega)) rfl rfl rfl) ?_); conv => whnf)
 refine xZ (ι := { i : Nat // i ≤ b.refs.length }) (fun i => ⟨[(1, .optr 2 0 [] 0), (3, .v (.string (jP (A ++ xG b.refs.length) (b.refs.take i.1)))), (5, .v (.int .i64 (i.1 : Int)))], [(2, ⟨41, 2, [yA b]⟩)]⟩) (fun i => b.refs.length - i.1) ⟨0, Nat.zero_le _⟩ (by exact qle) ?_
 rintro ⟨i, hi⟩
 dsimp only
 conv => whnf
 by_cases hlt : i < b.refs.length
 · have k := h.rr _ (List.getElem_mem hlt)
   obtain ⟨k1, k2, k3, k4, k5⟩ := k
   have hs : jP (A ++ xG b.refs.length) (b.refs.take (i + 1)) = jP (A ++ xG b.refs.length) (b.refs.take i) ++ wu b.refs[i] := jB hlt
   have hz' := aB3 (b.refs.take i) (A ++ xG b.refs.length) (fun r hr => h.rr r (List.mem_of_mem_take hr))
   rw [List.length_take] at hz'
   unfold wu at hs
   have z6 := aB8 (t := (b.refs[i]).name) (by omega)
   have c3 := aGE (t := (b.refs[i]).name) (by omega)
   obtain ⟨v, hv⟩ : ∃ v : Nat, (b.refs[i]).ver = (v : Int) := ⟨(b.refs[i]).ver.toNat, by omega⟩
   obtain ⟨u, hu⟩ : ∃ u : Nat, (b.refs[i]).head = (u : Int) := ⟨(b.refs[i]).head.toNat, by omega⟩
   rw [hv, hu, Int.toNat_natCast, Int.toNat_natCast] at hs
   have c4 := zf (n := v) (by omega)
   have c5 := zf (n := u) (by omega)
   have z7 := yc (n := v) (by omega)
   have z8 := yc (n := u) (by omega)
   have z9 : (vL (b.refs[i]).name ++ xG v).size ≤ 100 := by rw [ByteArray.size_append]; omega
   have za : (vL (b.refs[i]).name ++ xG v ++ xG u).size ≤ 200 := by rw [ByteArray.size_append]; omega
   rw [← hv] at c4
   rw [← hu] at c5
   generalize jP (A ++ xG b.refs.length) (b.refs.take i) = E at hs hz' ⊢
   repeat ((first | refine qz ?_ | refine qdr ?_ | refine qc (c3) ?_ | refine qc (c4) ?_ | refine qc (c5) ?_ | refine qp (xC (qQ (by omega)) rfl rfl rfl) ?_); conv => whnf)
   rw [← hs]
   exact ⟨⟨i + 1, hlt⟩, by exact qle, by simp; omega⟩
 have e : i = b.refs.length := by omega
 subst e
 rw [List.take_length]
 have hz' := aB3 b.refs (A ++ xG b.refs.length) h.rr
 generalize jP (A ++ xG b.refs.length) b.refs = E at hz' ⊢
 have hsb := aAn E.data.toList
 obtain ⟨v, hv⟩ : ∃ v : Nat, uV E = (v : Int) := ⟨(uV E).toNat, by unfold uV; omega⟩
 have c3 := aDu (t := E) (by unfold maxLen; omega)
 unfold uV at hv c3 ⊢
 rw [hv] at c3 ⊢
 rw [Int.toNat_natCast]
 have c4 := zf (n := v) (by omega)
 have z7 := yc (n := v) (by omega)
 repeat ((first | refine qz ?_ | refine qdr ?_ | refine qc (c3) ?_ | refine qc (c4) ?_ | refine qp (xC (qQ (by omega)) rfl rfl rfl) ?_); conv => whnf)
 exact xD rfl trivial
noncomputable def encR (b : Bas) : ByteArray × Int := if uL b = true then (xu b, 0) else (⟨#[]⟩, 1)
theorem aPI {b : Bas} (hb : b.ok maxLen) : AC Tryz.prog 16 [yA b] ⟨.tup [.v (.string (encR b).1), .v (.int .i64 (encR b).2)], []⟩ := by
 have c1 := aJS hb
 unfold encR
 cases h : uL b
 · rw [h] at c1
   rw [if_neg (by simp)]
   refine qrf Tryz.func16 Tryz.ntmps16 Tryz.results16 ?_; conv => whnf
   repeat ((first | refine qz ?_ | refine qc (c1) ?_); conv => whnf)
   exact zR rfl rfl
 · rw [h] at c1
   rw [if_pos rfl]
   have c2 := aMS (aGL h)
   refine qrf Tryz.func16 Tryz.ntmps16 Tryz.results16 ?_; conv => whnf
   repeat ((first | refine qz ?_ | refine qc (c1) ?_ | refine qc (c2) ?_); conv => whnf)
   exact zR rfl rfl
end Go.Proofs.YtfomjajdfaoogaaGreatDoor.AM
namespace Go.Proofs.YtfomjajdfaoogaaGreatDoor.AM
open Go Go.RowKit
theorem aNe {a t l : Nat} {ob : OB} {t' : Option Nat} {xs : List AV} {s : St} {Θ : Tab} (h1 : s.sl a = .optr l 0 [] 0) (ho : s.hp l = some ob) (hop : ob.e.open_ = false) (hoe : yX ob.e ob.xs 0 = some (.o t' 0 (.mix xs))) (hof : ofO (.mix xs) = some (.mix xs)) (hk : ((Θ.look t).known && (Θ.look t).isAgg && Nat.beq (xK xs) (Θ.look t).size) = true) : rvA s (.cell a t) = .mix xs ∧ aKc Θ s (.cell a t) := by
 have hr : rvA s (.cell a t) = .mix xs := by
  simp only [rvA, h1, ho, hop, hoe, cond_false, hof]; rfl
 simp only [Bool.and_eq_true] at hk
 exact ⟨hr, hk.1.1, by rw [hr]; exact hk.1.2.symm, by rw [hr]; exact Nat.eq_of_beq_eq_true hk.2, .inl ⟨l, ob, _, h1, ho, .inr ⟨hop, _, _, hoe, hof⟩⟩⟩
theorem aPp {a t l : Nat} {ob o0 : OB} {t' : Option Nat} {xs : List AV} {y : AV} {s : St} {Θ : Tab} (h0 : s.hp 0 = some o0) (h1 : s.sl a = .optr l 0 [] 0) (ho : s.hp l = some ob) (hoe : yX ob.e ob.xs 0 = some (.o t' 0 (.mix xs))) (hd : xM s (.mix xs) = true) (hy : s.dat (.mix xs) = y) (hw : ((yP (.mix xs)).all fun l => okL l && !([] : List Nat).contains l) = true) (hof : ofO (.mix xs) = some (.mix xs) := by rfl) (hk : ((Θ.look t).known && (Θ.look t).isAgg && Nat.beq (xK xs) (Θ.look t).size) = true := by rfl) (hop : ob.e.open_ = false := by rfl) :
 xX Θ [.cell a t] [o0] ⟨y, []⟩ .ret s := by
 obtain ⟨c1, c2⟩ := aNe (Θ := Θ) (t := t) h1 ho hop hoe hof hk
 exact ⟨⟨h0, trivial⟩, [], by simp, trivial, ⟨c2, trivial⟩, trivial, ⟨by rw [c1]; exact .inr ⟨hd, hw, hy.symm⟩, trivial⟩⟩
theorem aRf {a t t2 l : Nat} {ob : OB} {v : Value} {t' : Option Nat} {xs : List AV} {y : AV} {s : St} {Θ : Tab} (h1 : s.sl a = .optr l 0 [] 0) (ho : s.hp l = some ob) (hoe : yX ob.e ob.xs 0 = some (.o t' 0 (.mix xs))) (hd : xM s (.mix xs) = true) (hy : s.dat (.mix xs) = y) (hw : ((yP (.mix xs)).all fun l => okL l && !([] : List Nat).contains l) = true) (h2 : s.sl t2 = .v v) (hof : ofO (.mix xs) = some (.mix xs) := by rfl) (hk : ((Θ.look t).known && (Θ.look t).isAgg && Nat.beq (xK xs) (Θ.look t).size) = true := by rfl) (hop : ob.e.open_ = false := by rfl) :
 vg Θ [.cell a t, .tmp t2] ⟨.tup [y, .v v], []⟩ .ret s := by
 obtain ⟨c1, c2⟩ := aNe (Θ := Θ) (t := t) h1 ho hop hoe hof hk
 exact ⟨trivial, [], by simp, trivial, ⟨c2, trivial, trivial⟩, ⟨_, rfl⟩, ⟨by rw [c1]; exact .inr ⟨hd, hw, hy.symm⟩, .inl ⟨h2, rfl⟩, trivial⟩⟩
theorem aAQ {Θ : Tab} {s : St} {d : Option Tmp} {ty : TypeId} {pos : String} {after : Array Edge} {g : Option (Nat × Bool)} {x hi : Operand} {a : ByteArray} {k' : IntKind} {j : Nat} (hj : j ≤ a.size) (hx : s.ev x = .v (.string a)) (hh : s.ev hi = .v (.int k' (j : Int))) : Pre Tryz.prog Θ ⟨d, .slice 9 x none (some hi) none, ty, pos, after, g⟩ s ⟨.v (.string (a.extract 0 j)), none⟩ := by
 refine .inl ⟨.string a, .string (a.extract 0 j), by rw [hx]; rfl, fun y hy => ?_, fun w => ?_, rfl, rfl⟩
 · simp only [Option.toList, List.append_nil, List.nil_append, List.mem_cons, List.not_mem_nil, or_false] at hy
   subst hy
   rw [hh]; rfl
 · simp only [Option.map_some, Option.map_none, hh, y9, Option.getD_some]
   rw [run_sliceAt_string w _ _ _ _ _ Tryz.underlying9]
   have hj2 : (0 : Int) ≤ (j : Int) ∧ (j : Int) ≤ (a.size : Int) := ⟨by omega, by omega⟩
   simp [Instr.slice, Instr.sliceBounds, Instr.sliceBound, asIntOf, run_underlying Tryz.underlying9, hj2]
   try omega
attribute [local irreducible] xI xO xQ xX yG Pre ACG
set_option maxHeartbeats 4000000 in
theorem aQe {t : ByteArray} {s : Rds} (h : zL t s) : ACG Tryz.prog 95 [.optr 0 0 [] 0] [aAS t s] [aAS t (rdM t s).2] ⟨xS (rdM t s).1, []⟩ := by
 have c1 := aDv (m := 2) h (by omega)
 have hb := zY (m := 2) h
 unfold rdM
 generalize rdC t 2 s = R at c1 hb ⊢
 obtain ⟨n, s1⟩ := R
 dsimp only at c1 hb ⊢
 refine xL (rs := [.cell 2 33]) xH (by kernel_rfl) Tryz.func95 rfl Tryz.ntmps95 (by rw [Tryz.results95]) (by kernel_rfl) (by simp) rfl rfl (xA _ _ _ ?_)
 conv => whnf
 repeat ((refine qz ?_; conv => whnf))
 refine qr (uo rfl ⟨⟨_, _, rfl, rfl, rfl⟩, ⟨_, _, rfl, rfl, rfl⟩, trivial⟩ rfl) ?_
 conv => whnf
 repeat ((first | refine qz ?_ | refine qr (yJ rfl rfl rfl rfl rfl rfl) ?_ | refine qgV [0] (c1) ?_); conv => whnf)
 have hpo := aHc (n := n) hb.1
 obtain ⟨PP, hPP⟩ : ∃ PP, zq t n s1 = PP := ⟨_, rfl⟩
 rw [hPP] at hpo ⊢
 obtain ⟨PL, PS⟩ := PP
 dsimp only at hpo ⊢
 refine xZ (ι := { p : Nat × List Int × Rds // p.1 ≤ 2 ∧ zL t p.2.2 ∧ p.2.1.length + p.1 ≤ 2 ∧ p.2.1 ++ (zq t p.1 p.2.2).1 = PL ∧ (zq t p.1 p.2.2).2 = PS }) (fun p => ⟨[(0, .optr 0 0 [] 0), (2, .optr 3 0 [] 0), (3, .optr 4 0 [] 0), (4, .v (.int .i64 (p.1.1 : Int)))], [(0, aAS t p.1.2.2), (3, ⟨.z 33, 2, [.agg [.lst 1 [], .lst 2 []]]⟩), (4, ⟨.o (some 33) 0 (.mix [.own 8, .own 9]), 2, [.agg [.lst 1 [], .lst 2 []]]⟩), (8, ⟨3, 1, p.1.2.1.map yo⟩), (9, ⟨74, 2, []⟩)]⟩) (fun p => p.1.1) ⟨(n, [], s1), hb.2, hb.1, by simpa using hb.2, by simp [hPP], by simp [hPP]⟩ (by exact qle) ?_
 rintro ⟨⟨k, l, s2⟩, hk, hs2, hl, hp1, hp2⟩
 dsimp only at hk hs2 hl hp1 hp2 ⊢
 conv => whnf
 cases k with
 | succ k =>
  have c2 := aCh hs2
  have hb2 := uw hs2
  unfold zq at hp1 hp2
  generalize rdN t s2 = R at c2 hb2 hp1 hp2
  obtain ⟨m, s3⟩ := R
  dsimp only at c2 hb2 hp1 hp2
  repeat ((refine qz ?_; conv => whnf))
  (refine qdr ?_; conv => whnf)
  repeat ((refine qz ?_; conv => whnf))
  refine vS (wO [0] c2 rfl rfl (by first | exact ⟨rfl, trivial⟩ | exact ⟨rfl, rfl, trivial⟩ | exact ⟨rfl, rfl, rfl, trivial⟩) rfl rfl (by first | exact trivial | exact ⟨⟨rfl, rfl, rfl⟩, trivial⟩ | exact ⟨⟨rfl, rfl, rfl⟩, ⟨rfl, rfl, rfl⟩, trivial⟩ | exact ⟨⟨rfl, rfl, rfl⟩, ⟨rfl, rfl, rfl⟩, ⟨rfl, rfl, rfl⟩, trivial⟩) rfl rfl rfl (.inl rfl) rfl) rfl rfl (fun _ => .inr (.inr (jR (l := 0) (by kernel_rfl) (by kernel_rfl)))) ?_
  conv => whnf
  refine vS (aBz rfl rfl rfl rfl rfl rfl) rfl rfl (fun _ => .inr (.inr (jR (by kernel_rfl) (by kernel_rfl)))) ?_
  conv => whnf
  refine vS (vH (f := yo) (xs := l) (m : Int) (l ++ [(m : Int)]) rfl (by omega) rfl rfl rfl rfl rfl rfl rfl) rfl rfl (fun _ => .inr (.inr (aFt (by kernel_rfl) (by kernel_rfl)))) ?_
  conv => whnf
  repeat ((first | refine qp (xC (yU (c := (k : Int)) (by omega) (by omega) (by omega)) rfl rfl rfl) ?_ | refine qz ?_ | refine qr (yJ rfl rfl rfl rfl rfl rfl) ?_); conv => whnf)
  exact ⟨⟨(k, l ++ [(m : Int)], s3), by dsimp only; omega, hb2.1, by simp; omega, by simpa using hp1, hp2⟩, by exact qle, by dsimp only; omega⟩
 | zero =>
  simp only [zq, List.append_nil] at hp1 hp2
  subst hp1 hp2
  have c3 := aDv (m := 12) hs2 (by omega)
  have hb3 := zY (m := 12) hs2
  generalize rdC t 12 s2 = R at c3 hb3 ⊢
  obtain ⟨m, s3⟩ := R
  dsimp only at c3 hb3 ⊢
  repeat ((first | refine qz ?_ | refine qgV [0] (c3) ?_); conv => whnf)
  obtain ⟨QQ, hQQ⟩ : ∃ QQ, ug t m s3 = QQ := ⟨_, rfl⟩
  rw [hQQ]
  obtain ⟨QL, QS⟩ := QQ
  dsimp only
  refine xZ (ι := { p : Nat × List Ent × Rds // p.1 ≤ 12 ∧ zL t p.2.2 ∧ p.2.1.length + p.1 ≤ 12 ∧ p.2.1 ++ (ug t p.1 p.2.2).1 = QL ∧ (ug t p.1 p.2.2).2 = QS }) (fun p => ⟨[(0, .optr 0 0 [] 0), (2, .optr 3 0 [] 0), (3, .optr 4 0 [] 0), (5, .v (.int .i64 (p.1.1 : Int)))], [(0, aAS t p.1.2.2), (3, ⟨.z 33, 2, [.agg [.lst 1 [], .lst 2 []]]⟩), (4, ⟨.o (some 33) 0 (.mix [.own 8, .own 9]), 2, [.agg [.lst 1 [], .lst 2 []]]⟩), (8, ⟨3, 1, l.map yo⟩), (9, ⟨74, 2, p.1.2.1.map yB⟩)]⟩) (fun p => p.1.1) ⟨(m, [], s3), hb3.2, hb3.1, by simpa using hb3.2, by simp [hQQ], by simp [hQQ]⟩ (by exact qle) ?_
  rintro ⟨⟨k, el, s4⟩, hk', hs4, hl', hp1, hp2⟩
  dsimp only at hk' hs4 hl' hp1 hp2 ⊢
  conv => whnf
  cases k with
  | succ k =>
   have c4 := aNX hs4
   have hb4 := aAR hs4
   unfold ug at hp1 hp2
   generalize rdW t s4 = R at c4 hb4 hp1 hp2
   obtain ⟨key, s5⟩ := R
   dsimp only at c4 hb4 hp1 hp2
   have c5 := aSV hb4
   have hb5 := aK7 hb4
   generalize rdS t s5 = R at c5 hb5 hp1 hp2
   obtain ⟨v, s6⟩ := R
   dsimp only at c5 hb5 hp1 hp2
   repeat ((first | refine qz ?_ | refine qgV [0] (c4) ?_); conv => whnf)
   (refine qdr ?_; conv => whnf)
   repeat ((refine qz ?_; conv => whnf))
   refine vS (wO [0] c5 rfl rfl (by first | exact ⟨rfl, trivial⟩ | exact ⟨rfl, rfl, trivial⟩ | exact ⟨rfl, rfl, rfl, trivial⟩) rfl rfl (by first | exact trivial | exact ⟨⟨rfl, rfl, rfl⟩, trivial⟩ | exact ⟨⟨rfl, rfl, rfl⟩, ⟨rfl, rfl, rfl⟩, trivial⟩ | exact ⟨⟨rfl, rfl, rfl⟩, ⟨rfl, rfl, rfl⟩, ⟨rfl, rfl, rfl⟩, trivial⟩) rfl rfl rfl (.inl rfl) rfl) rfl rfl (fun _ => .inr (.inr (jR (l := 0) (by kernel_rfl) (by kernel_rfl)))) ?_
   conv => whnf
   repeat ((refine qz ?_; conv => whnf))
   refine vS (aBz rfl rfl rfl rfl rfl rfl) rfl rfl (fun _ => .inr (.inr (jR (by kernel_rfl) (by kernel_rfl)))) ?_
   conv => whnf
   refine vS (vH (f := yB) (xs := el) (key, v) (el ++ [(key, v)]) rfl (by omega) rfl rfl rfl rfl rfl rfl rfl) rfl rfl (fun _ => .inr (.inr (aFt (by kernel_rfl) (by kernel_rfl)))) ?_
   conv => whnf
   repeat ((first | refine qp (xC (yU (c := (k : Int)) (by omega) (by omega) (by omega)) rfl rfl rfl) ?_ | refine qz ?_ | refine qr (yJ rfl rfl rfl rfl rfl rfl) ?_); conv => whnf)
   exact ⟨⟨(k, el ++ [(key, v)], s6), by dsimp only; omega, hb5, by simp; omega, by simpa using hp1, hp2⟩, by exact qle, by dsimp only; omega⟩
  | zero =>
   simp only [ug, List.append_nil] at hp1 hp2
   subst hp1 hp2
   repeat ((first | refine qz ?_ | refine qr (yJ rfl rfl rfl rfl rfl rfl) ?_); conv => whnf)
   exact aPp rfl rfl rfl rfl rfl rfl rfl
def vJ (t : ByteArray) : Nat → Rds → List Cmt × Rds
 | 0, s => ([], s)
 | n + 1, s => if s.2 = true then ([], s) else ((rdM t s).1 :: (vJ t n (rdM t s).2).1, (vJ t n (rdM t s).2).2)
def zM (t : ByteArray) (s : Rds) : Rf × Rds := (⟨(rdW t s).1, ((rdN t (rdN t (rdW t s).2).2).1 : Int), ((rdN t (rdW t s).2).1 : Int), decide (((rdN t (rdN t (rdW t s).2).2).1 : Int) = 0)⟩, (rdN t (rdN t (rdW t s).2).2).2)
def vK (t : ByteArray) : Nat → Rds → List Rf × Rds
 | 0, s => ([], s)
 | n + 1, s => if s.2 = true then ([], s) else ((zM t s).1 :: (vK t n (zM t s).2).1, (vK t n (zM t s).2).2)
theorem aEt {t : ByteArray} : ∀ {n : Nat} {s : Rds}, zL t s → zL t (vJ t n s).2 ∧ (vJ t n s).1.length ≤ n ∧ comOK maxLen (vJ t n s).1
 | 0, s, h => ⟨h, Nat.le_refl _, fun c hc => by cases hc⟩
 | n + 1, s, h => by
  unfold vJ
  split
  · exact ⟨h, Nat.zero_le _, fun c hc => by cases hc⟩
  · obtain ⟨m1, m2, m3, m4⟩ := aEU h
    obtain ⟨k1, k2, k3⟩ := aEt (n := n) m1
    refine ⟨k1, by simp only [List.length_cons]; omega, fun c hc => ?_⟩
    rcases List.mem_cons.1 hc with rfl | hc
    · exact ⟨by unfold maxLen; omega, by unfold maxLen; omega, fun e he => by have := m4 e he; unfold maxLen; omega⟩
    · exact k3 c hc
theorem aHd {t : ByteArray} {s : Rds} (h : zL t s) : zL t (zM t s).2 ∧ (zM t s).1.name.size ≤ 1000000 :=
 ⟨(uw (uw (aAR h)).1).1, aOb h⟩
theorem aEv {t : ByteArray} : ∀ {n : Nat} {s : Rds}, zL t s → zL t (vK t n s).2 ∧ (vK t n s).1.length ≤ n ∧ ∀ r ∈ (vK t n s).1, r.name.size ≤ maxLen
 | 0, s, h => ⟨h, Nat.le_refl _, fun c hc => by cases hc⟩
 | n + 1, s, h => by
  unfold vK
  split
  · exact ⟨h, Nat.zero_le _, fun c hc => by cases hc⟩
  · obtain ⟨m1, m2⟩ := aHd h
    obtain ⟨k1, k2, k3⟩ := aEv (n := n) m1
    refine ⟨k1, by simp only [List.length_cons]; omega, fun c hc => ?_⟩
    rcases List.mem_cons.1 hc with rfl | hc
    · unfold maxLen; omega
    · exact k3 c hc
def zo (t : ByteArray) : Bool := decide (3 ≤ t.size) && decide (t.extract 0 3 = brB)
def dC (t : ByteArray) : List Cmt × Rds := vJ t (rdC t 60 (3, false)).1 (rdC t 60 (3, false)).2
def dR (t : ByteArray) : List Rf × Rds := vK t (rdC t 8 (dC t).2).1 (rdC t 8 (dC t).2).2
def dB (t : ByteArray) : Bas := ⟨(dC t).1, (dR t).1⟩
def dS (t : ByteArray) : Nat × Rds := rdN t (dR t).2
noncomputable def dK (t : ByteArray) : Int := if zo t = false then 3 else if (dS t).2.2 = true ∨ (dS t).2.1 ≠ t.size then 3 else if ((dS t).1 : Int) ≠ uV (t.extract 0 (dR t).2.1) then 13 else if uL (dB t) = true then 0 else 1
end Go.Proofs.YtfomjajdfaoogaaGreatDoor.AM
namespace Go.Proofs.YtfomjajdfaoogaaGreatDoor.AM
open Go Go.RowKit
abbrev rdP (t : ByteArray) (i : Nat) : OB := ⟨69, 2, [.agg [.v (.string t), .v (.int .i64 (i : Int))]]⟩
theorem aLm {t : ByteArray} {i : Nat} (h : (zJ t i).2.2 = true) : rdN t (i, false) = ((zJ t i).1, ((zJ t i).2.1, false)) := by
 unfold rdN
 rw [if_neg (by simp [h])]
theorem kD {t : ByteArray} {s : Rds} (h : s.2 = true) : (rdN t s).2.2 = true := by
 unfold rdN; rw [if_pos (.inl h)]
theorem aB1 {t : ByteArray} {m : Nat} {s : Rds} (h : s.2 = true) : (rdC t m s).2.2 = true := by
 unfold rdC; split
 · rfl
 · exact kD h
theorem aLn {t : ByteArray} {s : Rds} (h : s.2 = true) : (rdW t s).2.2 = true := by
 unfold rdW; rw [if_pos (.inl (aB1 h))]
theorem aHe {t : ByteArray} {s : Rds} (h : s.2 = true) : (rdS t s).2.2 = true := kD (t := t) h
theorem aLj {t : ByteArray} {m i : Nat} : (rdC t m (i, false)).2.2 = false ↔ ((zJ t i).2.2 = true ∧ (zJ t i).1 ≤ m) := by
 unfold rdC
 by_cases h : (zJ t i).2.2 = true
 · rw [aLm h]
   dsimp only
   split
   · simp; omega
   · simp [h]; omega
 · have : rdN t (i, false) = (0, (i, true)) := by unfold rdN; rw [if_pos (.inr (by simpa using h))]
   rw [this]
   simp [h]
theorem aRh {t : ByteArray} {m i : Nat} (h : (zJ t i).2.2 = true) (hm : (zJ t i).1 ≤ m) : rdC t m (i, false) = ((zJ t i).1, ((zJ t i).2.1, false)) := by
 unfold rdC
 rw [aLm h, if_neg (by dsimp only; omega)]
theorem aFj {a t l : Nat} {ob o0 : OB} {x : AV} {Θ : Tab} {s : St} (h0 : s.hp 0 = some o0) (h1 : s.sl a = .optr l 0 [] 0) (ho : s.hp l = some ob) (hx : ob.xs[0]? = some x) (hk : ((Θ.look t).known && (Bool.xor (zW x) (Θ.look t).isAgg).not && Nat.beq (asz x) (Θ.look t).size) = true) (hd : (match x with | .v _ | .agg _ | .lst _ _ | .any => True | _ => False)) (hop : ob.e.open_ = true := by rfl) :
 xX Θ [.cell a t] [o0] ⟨x, []⟩ .ret s := by
 obtain ⟨_, h⟩ := aEs (s := s) (Θ := Θ) h1 ho hx hk hd hop
 exact ⟨⟨h0, trivial⟩, h⟩
theorem aGt {t l : Nat} {ob o0 : OB} {Θ : Tab} {s : St} (h0 : s.hp 0 = some o0) (h : s.sl t = .own l) (ho : s.hp l = some ob) (hok : okL l = true := by rfl) (hsh : ob.e.shut = true := by rfl) : xX Θ [.tmp t] [o0] ⟨.own 0, [ob]⟩ .ret s := by
 obtain ⟨_, h⟩ := aET (s := s) (Θ := Θ) h ho hok hsh
 exact ⟨⟨h0, trivial⟩, h⟩
attribute [local irreducible] xI xO xQ xX yG Pre ACG
attribute [local irreducible] yt kQ vC ACP
theorem aMJ {t : ByteArray} {i : Nat} (ht : t.size ≤ 65536) (hi : i ≤ t.size) : aE0 t (i : Int) = if (zJ t i).2.2 = true then (((zJ t i).1 : Int), ((zJ t i).2.1 : Int), 0) else (0, 0, 3) := by
 unfold aE0
 rw [if_neg (by omega), if_pos ⟨by omega, by omega⟩, Int.toNat_natCast]
set_option maxHeartbeats 2000000 in
theorem qw {t : ByteArray} {i m : Nat} (ht : t.size ≤ 65536) (hi : i ≤ t.size) (h : (rdC t m (i, false)).2.2 = false) : ACG Tryz.prog 91 [.optr 0 0 [] 0, .v (.int .i64 (m : Int))] [rdP t i] [rdP t (rdC t m (i, false)).2.1] ⟨.v (.int .i64 ((rdC t m (i, false)).1 : Int)), []⟩ := by
 obtain ⟨h1, h2⟩ := aLj.1 h
 rw [aRh h1 h2]
 have c1 := aF1 (t := t) (x := (i : Int)) (by unfold maxLen; omega)
 rw [aMJ ht hi, if_pos h1] at c1
 generalize zJ t i = R at h1 h2 c1 ⊢
 obtain ⟨n, j, b⟩ := R
 dsimp only at h1 h2 c1 ⊢
 refine xL (rs := [.tmp 4]) xH (by kernel_rfl) Tryz.func91 rfl Tryz.ntmps91 (by rw [Tryz.results91]) (by kernel_rfl) (by simp) rfl rfl (xA _ _ _ ?_); conv => whnf
 repeat ((first | refine qz ?_ | refine qdr ?_ | refine qc (c1) ?_ | refine qc (aE4) ?_ | refine qst ?_); conv => whnf)
 exact wP rfl rfl
set_option maxHeartbeats 2000000 in
theorem aCj {t : ByteArray} {i m : Nat} (ht : t.size ≤ 65536) (hi : i ≤ t.size) (h : (rdC t m (i, false)).2.2 = true) : ACP Tryz.prog 91 [.optr 0 0 [] 0, .v (.int .i64 (m : Int))] [rdP t i] pvM := by
 have h1 : ¬ ((zJ t i).2.2 = true ∧ (zJ t i).1 ≤ m) := fun k => by rw [aLj.2 k] at h; cases h
 have c1 := aF1 (t := t) (x := (i : Int)) (by unfold maxLen; omega)
 rw [aMJ ht hi] at c1
 refine kE xH (by kernel_rfl) Tryz.func91 rfl Tryz.ntmps91 (by kernel_rfl) (by simp) ?_
 refine yE ?_
 conv => whnf
 refine yE ?_
 conv => whnf
 cases hb : (zJ t i).2.2
 · rw [hb, if_neg (by simp)] at c1
   dsimp only at c1
   repeat ((first | refine qz ?_ | refine qdr ?_ | refine qc (c1) ?_); conv => whnf)
   refine yw (uI ?_)
   conv => whnf
   repeat (first | (refine aBG (xC (by first | exact aBi (by omega) | exact aBh (by omega) | exact aAw (by omega) | exact aBg (by omega) | exact aBf (by omega) | exact aBe (by omega) | exact aBd (by omega) | exact aBb (by omega) | exact qK (by omega) | exact aAv (by omega) | exact aBj (by omega) | exact aAx (by omega) | exact yU rfl (by omega) (by omega) | exact zN rfl (by omega) (by omega)) rfl rfl rfl) rfl rfl ?_; conv => whnf))
   exact zT (zx [] aB9 rfl rfl trivial rfl rfl rfl rfl rfl rfl) rfl rfl
 · rw [hb, if_pos rfl] at c1
   dsimp only at c1
   have h2 : ¬ (zJ t i).1 ≤ m := fun k => h1 ⟨hb, k⟩
   repeat ((first | refine qz ?_ | refine qdr ?_ | refine qc (c1) ?_); conv => whnf)
   refine yw (uI ?_)
   conv => whnf
   repeat (first | (refine aBG (xC (by first | exact aBi (by omega) | exact aBh (by omega) | exact aAw (by omega) | exact aBg (by omega) | exact aBf (by omega) | exact aBe (by omega) | exact aBd (by omega) | exact aBb (by omega) | exact qK (by omega) | exact aAv (by omega) | exact aBj (by omega) | exact aAx (by omega) | exact yU rfl (by omega) (by omega) | exact zN rfl (by omega) (by omega)) rfl rfl rfl) rfl rfl ?_; conv => whnf))
   exact zT (zx [] aB9 rfl rfl trivial rfl rfl rfl rfl rfl rfl) rfl rfl
theorem aQ4 {t : ByteArray} {i : Nat} (ht : t.size ≤ 65536) (hi : i ≤ t.size) : rdC t 4000000 (i, false) = rdN t (i, false) := by
 unfold rdC
 have := (uw (t := t) (s := (i, false)) ⟨by omega, hi⟩).2
 rw [if_neg (by omega)]
theorem aE5 {t : ByteArray} {i : Nat} (ht : t.size ≤ 65536) (hi : i ≤ t.size) (h : (rdN t (i, false)).2.2 = false) : ACG Tryz.prog 50 [.optr 0 0 [] 0] [rdP t i] [rdP t (rdN t (i, false)).2.1] ⟨.v (.int .i64 ((rdN t (i, false)).1 : Int)), []⟩ := by
 have e := aQ4 ht hi
 rw [← e] at h ⊢
 have c1 := qw (m := 4000000) ht hi h
 generalize rdC t 4000000 (i, false) = R at c1 ⊢
 refine xL (rs := [.tmp 2]) xH (by kernel_rfl) Tryz.func50 rfl Tryz.ntmps50 (by rw [Tryz.results50]) (by kernel_rfl) (by simp) rfl rfl (xA _ _ _ ?_); conv => whnf
 repeat ((first | refine qz ?_ | refine qgV [0] (c1) ?_); conv => whnf)
 exact wP rfl rfl
theorem aDw {t : ByteArray} {i : Nat} (ht : t.size ≤ 65536) (hi : i ≤ t.size) (h : (rdN t (i, false)).2.2 = true) : ACP Tryz.prog 50 [.optr 0 0 [] 0] [rdP t i] pvM := by
 rw [← aQ4 ht hi] at h
 have c1 := aCj (m := 4000000) ht hi h
 refine kE xH (by kernel_rfl) Tryz.func50 rfl Tryz.ntmps50 (by kernel_rfl) (by simp) ?_
 refine yE ?_
 conv => whnf
 refine yw (uI ?_)
 conv => whnf
 exact zT (zx [0] c1 rfl rfl (by first | exact ⟨rfl, trivial⟩ | exact ⟨rfl, rfl, trivial⟩ | exact ⟨rfl, rfl, rfl, trivial⟩) rfl rfl rfl rfl rfl rfl) rfl rfl
set_option maxHeartbeats 2000000 in
theorem aIq {t : ByteArray} {i : Nat} (ht : t.size ≤ 65536) (hi : i ≤ t.size) (h : (rdW t (i, false)).2.2 = false) : ACG Tryz.prog 108 [.optr 0 0 [] 0] [rdP t i] [rdP t (rdW t (i, false)).2.1] ⟨.v (.string (rdW t (i, false)).1), []⟩ := by
 have hb := zY (m := 12) (t := t) (s := (i, false)) ⟨by omega, hi⟩
 have c1 := fun h => qw (m := 12) ht hi h
 unfold rdW at h ⊢
 generalize rdC t 12 (i, false) = R at h c1 hb ⊢
 obtain ⟨n, a, bad⟩ := R
 dsimp only at h c1 hb ⊢
 obtain ⟨⟨_, hb1⟩, hb2⟩ := hb
 dsimp only at hb1 hb2
 by_cases hc : bad = true ∨ t.size < a + n
 · rw [if_pos hc] at h; cases h
 rw [if_neg hc]
 have hbad : bad = false := by cases bad <;> simp_all
 have hsz : a + n ≤ t.size := by have := fun q => hc (.inr q); omega
 have c1 := c1 hbad
 have c2 := aPA (t := t.extract a (a + n)) (by rw [ByteArray.size_extract]; omega)
 refine xL (rs := [.tmp 2]) xH (by kernel_rfl) Tryz.func108 rfl Tryz.ntmps108 (by rw [Tryz.results108]) (by kernel_rfl) (by simp) rfl rfl (xA _ _ _ ?_); conv => whnf
 repeat ((first | refine qp (xC (zN (c := ((a + n : Nat) : Int)) (by omega) (by omega) (by omega)) rfl rfl rfl) ?_ | refine qp (aQ3 (i := a) (j := a + n) (by omega) (by omega) rfl rfl rfl) ?_ | refine qz ?_ | refine qdr ?_ | refine qgV [0] (c1) ?_ | refine qc (aE4) ?_ | refine qc (c2) ?_ | refine qst ?_); conv => whnf)
 exact wP rfl rfl
set_option maxHeartbeats 2000000 in
theorem aN0 {t : ByteArray} {i : Nat} (ht : t.size ≤ 65536) (hi : i ≤ t.size) (h : (rdW t (i, false)).2.2 = true) : ACP Tryz.prog 108 [.optr 0 0 [] 0] [rdP t i] pvM := by
 have hb := zY (m := 12) (t := t) (s := (i, false)) ⟨by omega, hi⟩
 have c1 := fun h => qw (m := 12) ht hi h
 have c2 := fun h => aCj (m := 12) ht hi h
 unfold rdW at h
 generalize rdC t 12 (i, false) = R at h c1 c2 hb
 obtain ⟨n, a, bad⟩ := R
 dsimp only at h c1 c2 hb
 obtain ⟨⟨_, hb1⟩, hb2⟩ := hb
 dsimp only at hb1 hb2
 refine kE xH (by kernel_rfl) Tryz.func108 rfl Tryz.ntmps108 (by kernel_rfl) (by simp) ?_
 refine yE ?_
 conv => whnf
 cases bad
 · have hc : t.size < a + n := by
    by_cases hc : t.size < a + n
    · exact hc
    · rw [if_neg (by simp; omega)] at h; cases h
   have c1 := c1 rfl
   refine yE ?_
   conv => whnf
   repeat ((first | refine qz ?_ | refine qgV [0] (c1) ?_); conv => whnf)
   refine yw (aSe (by kernel_rfl) ?_)
   conv => whnf
   repeat ((first | refine aOi (aAp (y := .v (.string _)) rfl rfl rfl) rfl rfl ?_ | refine aOi (xC (by first | exact aBi (by omega) | exact aBh (by omega) | exact aAw (by omega) | exact aBg (by omega) | exact aBf (by omega) | exact aBe (by omega) | exact aBd (by omega) | exact aBb (by omega) | exact qK (by omega) | exact aAv (by omega) | exact aBj (by omega) | exact aAx (by omega) | exact yU rfl (by omega) (by omega) | exact zN rfl (by omega) (by omega)) rfl rfl rfl) rfl rfl ?_); conv => whnf)
   exact aTT (zx [] aB9 rfl rfl trivial rfl rfl rfl rfl rfl rfl) rfl rfl (by kernel_rfl)
 · have c2 := c2 rfl
   refine yw (uI ?_)
   conv => whnf
   exact zT (zx [0] c2 rfl rfl (by first | exact ⟨rfl, trivial⟩ | exact ⟨rfl, rfl, trivial⟩ | exact ⟨rfl, rfl, rfl, trivial⟩) rfl rfl rfl rfl rfl rfl) rfl rfl
set_option maxHeartbeats 2000000 in
theorem aT9 {t : ByteArray} {i : Nat} (ht : t.size ≤ 65536) (hi : i ≤ t.size) (h : (rdS t (i, false)).2.2 = false) : ACG Tryz.prog 109 [.optr 0 0 [] 0] [rdP t i] [rdP t (rdS t (i, false)).2.1] ⟨.v (.int .i64 (rdS t (i, false)).1), []⟩ := by
 have c1 := aE5 ht hi h
 have hb := (uw (t := t) (s := (i, false)) ⟨by omega, hi⟩).2
 unfold rdS
 generalize rdN t (i, false) = R at c1 hb ⊢
 obtain ⟨n, a, bad⟩ := R
 dsimp only at c1 hb ⊢
 by_cases hc : n % 2 = 1
 · rw [if_pos hc]
   refine xL (rs := [.tmp 2]) xH (by kernel_rfl) Tryz.func109 rfl Tryz.ntmps109 (by rw [Tryz.results109]) (by kernel_rfl) (by simp) rfl rfl (xA _ _ _ ?_); conv => whnf
   repeat ((first | refine qp (xC (vE (c := ((n % 2 : Nat) : Int)) (by omega) (by omega) (by omega)) rfl rfl rfl) ?_ | refine qp (xC (zN (c := ((n + 1 : Nat) : Int)) (by omega) (by omega) (by omega)) rfl rfl rfl) ?_ | refine qz ?_ | refine qdr ?_ | refine qgV [0] (c1) ?_ | refine qp (aQ1 (c := -((n + 1 : Nat) : Int)) rfl (by omega) (by omega) rfl) ?_ | refine qp (xC (aN4 (a := ((n + 1 : Nat) : Int)) (c := (((n + 1) / 2 : Nat) : Int)) (by omega) (by omega) (by omega) (by omega)) rfl rfl rfl) ?_); conv => whnf)
   exact wP rfl rfl
 · rw [if_neg hc]
   refine xL (rs := [.tmp 2]) xH (by kernel_rfl) Tryz.func109 rfl Tryz.ntmps109 (by rw [Tryz.results109]) (by kernel_rfl) (by simp) rfl rfl (xA _ _ _ ?_); conv => whnf
   repeat ((first | refine qp (xC (vE (c := ((n % 2 : Nat) : Int)) (by omega) (by omega) (by omega)) rfl rfl rfl) ?_ | refine qz ?_ | refine qdr ?_ | refine qgV [0] (c1) ?_ | refine qp (xC (aGJ (c := ((n / 2 : Nat) : Int)) (by omega) (by omega) (by omega) (by omega)) rfl rfl rfl) ?_); conv => whnf)
   exact wP rfl rfl
theorem aS1 {t : ByteArray} {i : Nat} (ht : t.size ≤ 65536) (hi : i ≤ t.size) (h : (rdS t (i, false)).2.2 = true) : ACP Tryz.prog 109 [.optr 0 0 [] 0] [rdP t i] pvM := by
 have c1 := aDw ht hi h
 refine kE xH (by kernel_rfl) Tryz.func109 rfl Tryz.ntmps109 (by kernel_rfl) (by simp) ?_
 refine yE ?_
 conv => whnf
 refine yw (uI ?_)
 conv => whnf
 exact zT (zx [0] c1 rfl rfl (by first | exact ⟨rfl, trivial⟩ | exact ⟨rfl, rfl, trivial⟩ | exact ⟨rfl, rfl, rfl, trivial⟩) rfl rfl rfl rfl rfl rfl) rfl rfl
def rdE (t : ByteArray) (s : Rds) : Ent × Rds := (((rdW t s).1, (rdS t (rdW t s).2).1), (rdS t (rdW t s).2).2)
theorem aO9 {t : ByteArray} {s : Rds} (h : zL t s) : zL t (rdE t s).2 := aK7 (aAR h)
theorem aEu {t : ByteArray} {s : Rds} (h : s.2 = true) : (rdE t s).2.2 = true := aHe (aLn h)
theorem aQL {t : ByteArray} {i : Nat} (ht : t.size ≤ 65536) (hi : i ≤ t.size) (h : (rdE t (i, false)).2.2 = false) : ACG Tryz.prog 75 [.optr 0 0 [] 0] [rdP t i] [rdP t (rdE t (i, false)).2.1] ⟨yB (rdE t (i, false)).1, []⟩ := by
 have hw := aAR (t := t) (s := (i, false)) ⟨by omega, hi⟩
 have c1 := fun h => aIq ht hi h
 unfold rdE at h ⊢
 generalize rdW t (i, false) = R at h c1 hw ⊢
 obtain ⟨k, a, bad⟩ := R
 dsimp only at h c1 hw ⊢
 cases bad
 · have c1 := c1 rfl
   have c2 := aT9 (t := t) (i := a) ht hw.2 h
   generalize rdS t (a, false) = R2 at c2 ⊢
   obtain ⟨v, b, bad2⟩ := R2
   dsimp only at c2 ⊢
   refine xL (rs := [.cell 2 74]) xH (by kernel_rfl) Tryz.func75 rfl Tryz.ntmps75 (by rw [Tryz.results75]) (by kernel_rfl) (by simp) rfl rfl (xA _ _ _ ?_)
   conv => whnf
   repeat ((first | refine qz ?_ | refine qgV [0] (c1) ?_ | refine qgV [0] (c2) ?_ | refine qst ?_); conv => whnf)
   exact aFj rfl rfl rfl rfl rfl trivial
 · rw [aHe rfl] at h; cases h
theorem aSX {t : ByteArray} {i : Nat} (ht : t.size ≤ 65536) (hi : i ≤ t.size) (h : (rdE t (i, false)).2.2 = true) : ACP Tryz.prog 75 [.optr 0 0 [] 0] [rdP t i] pvM := by
 have hw := aAR (t := t) (s := (i, false)) ⟨by omega, hi⟩
 have c1 := fun h => aIq ht hi h
 have d1 := fun h => aN0 ht hi h
 unfold rdE at h
 generalize rdW t (i, false) = R at h c1 d1 hw
 obtain ⟨k, a, bad⟩ := R
 dsimp only at h c1 d1 hw
 refine kE xH (by kernel_rfl) Tryz.func75 rfl Tryz.ntmps75 (by kernel_rfl) (by simp) ?_
 refine yE ?_
 conv => whnf
 cases bad
 · have c1 := c1 rfl
   have d2 := aS1 (t := t) (i := a) ht hw.2 h
   refine yE ?_
   conv => whnf
   repeat ((first | refine qz ?_ | refine qgV [0] (c1) ?_); conv => whnf)
   refine yw (uI ?_)
   conv => whnf
   exact zT (zx [0] d2 rfl rfl (by first | exact ⟨rfl, trivial⟩ | exact ⟨rfl, rfl, trivial⟩ | exact ⟨rfl, rfl, rfl, trivial⟩) rfl rfl rfl rfl rfl rfl) rfl rfl
 · have d1 := d1 rfl
   refine yw (uI ?_)
   conv => whnf
   exact zT (zx [0] d1 rfl rfl (by first | exact ⟨rfl, trivial⟩ | exact ⟨rfl, rfl, trivial⟩ | exact ⟨rfl, rfl, rfl, trivial⟩) rfl rfl rfl rfl rfl rfl) rfl rfl
end Go.Proofs.YtfomjajdfaoogaaGreatDoor.AM
namespace Go.Proofs.YtfomjajdfaoogaaGreatDoor.AM
open Go Go.RowKit
def rdL {α : Type} (f : Rds → α × Rds) : Nat → Rds → List α × Rds
 | 0, s => ([], s)
 | n + 1, s => ((f s).1 :: (rdL f n (f s).2).1, (rdL f n (f s).2).2)
theorem vZ {α : Type} {f : Rds → α × Rds} (hf : ∀ s, s.2 = true → (f s).2.2 = true) : ∀ {n : Nat} {s : Rds}, s.2 = true → (rdL f n s).2.2 = true
 | 0, s, h => h
 | n + 1, s, h => vZ hf (n := n) (hf s h)
theorem aCz {α : Type} {f : Rds → α × Rds} : ∀ {n : Nat} {s : Rds}, (rdL f n s).1.length = n
 | 0, s => rfl
 | n + 1, s => by simp [rdL, aCz (n := n)]
theorem aD9 {α : Type} {f : Rds → α × Rds} {n k : Nat} {s : Rds} {PL : List α} {PS : Rds} (hk : k < PL.length) (h : rdL f (n + 1) s = (PL.drop k, PS)) : (f s).1 = PL[k] ∧ rdL f n (f s).2 = (PL.drop (k + 1), PS) := by
 rw [List.drop_eq_getElem_cons hk] at h
 simp only [rdL, Prod.mk.injEq, List.cons.injEq] at h
 exact ⟨h.1.1, Prod.ext h.1.2 h.2⟩
theorem aDS {α β : Type} (A : α → β) (acc : List α) (z x : α) (r : Nat) : ((acc ++ List.replicate (r + 1) z).map A).set acc.length (A x) = ((acc ++ [x]) ++ List.replicate r z).map A := by
 rw [← List.map_set, List.set_append_right _ _ (Nat.le_refl _), Nat.sub_self, List.replicate_succ, List.set_cons_zero, List.append_assoc]; rfl
theorem aMx {t : ByteArray} : ∀ {n : Nat} {s : Rds}, ug t n s = rdL (rdE t) n s
 | 0, s => rfl
 | n + 1, s => by
  show (_ :: _, _) = (_ :: _, _)
  rw [show ug t n (rdS t (rdW t s).2).2 = _ from aMx (n := n)]; rfl
def rdI (t : ByteArray) (s : Rds) : Int × Rds := (((rdN t s).1 : Int), (rdN t s).2)
theorem aHa {t : ByteArray} {s : Rds} (h : s.2 = true) : (rdI t s).2.2 = true := kD (t := t) h
theorem aGv {t : ByteArray} {s : Rds} (h : zL t s) : zL t (rdI t s).2 := (uw h).1
theorem aMy {t : ByteArray} : ∀ {n : Nat} {s : Rds}, zq t n s = rdL (rdI t) n s
 | 0, s => rfl
 | n + 1, s => by
  show (_ :: _, _) = (_ :: _, _)
  rw [show zq t n (rdN t s).2 = _ from aMy (n := n)]; rfl
theorem aFo {t : ByteArray} {s : Rds} (h : s.2 = true) : (zM t s).2.2 = true := kD (t := t) (kD (t := t) (aLn h))
attribute [local irreducible] xI xO xQ xX yG Pre ACG
attribute [local irreducible] yt kQ vC ACP
theorem aQM {t : ByteArray} {i : Nat} (ht : t.size ≤ 65536) (hi : i ≤ t.size) (h : (rdI t (i, false)).2.2 = false) : ACG Tryz.prog 50 [.optr 0 0 [] 0] [rdP t i] [rdP t (rdI t (i, false)).2.1] ⟨yo (rdI t (i, false)).1, []⟩ := aE5 ht hi h
theorem aSY {t : ByteArray} {i : Nat} (ht : t.size ≤ 65536) (hi : i ≤ t.size) (h : (rdI t (i, false)).2.2 = true) : ACP Tryz.prog 50 [.optr 0 0 [] 0] [rdP t i] pvM := aDw ht hi h
theorem aQN {t : ByteArray} {i : Nat} (ht : t.size ≤ 65536) (hi : i ≤ t.size) (h : (zM t (i, false)).2.2 = false) : ACG Tryz.prog 90 [.optr 0 0 [] 0] [rdP t i] [rdP t (zM t (i, false)).2.1] ⟨yL (zM t (i, false)).1, []⟩ := by
 have hw := aAR (t := t) (s := (i, false)) ⟨by omega, hi⟩
 have c1 := fun h => aIq ht hi h
 unfold zM at h ⊢
 generalize rdW t (i, false) = R at h c1 hw ⊢
 obtain ⟨k, a, bad⟩ := R
 dsimp only at h c1 hw ⊢
 cases bad
 case true => rw [kD (kD rfl)] at h; cases h
 have c1 := c1 rfl
 have hn := (uw (t := t) (s := (a, false)) hw).1
 have c2 := fun h => aE5 (t := t) (i := a) ht hw.2 h
 generalize rdN t (a, false) = R2 at h c2 hn ⊢
 obtain ⟨v, b, bad⟩ := R2
 dsimp only at h c2 hn ⊢
 cases bad
 case true => rw [kD rfl] at h; cases h
 have c2 := c2 rfl
 have c3 := aE5 (t := t) (i := b) ht hn.2 h
 generalize rdN t (b, false) = R3 at c3 ⊢
 obtain ⟨d, e, bad⟩ := R3
 dsimp only at c3 ⊢
 refine xL (rs := [.cell 2 86]) xH (by kernel_rfl) Tryz.func90 rfl Tryz.ntmps90 (by rw [Tryz.results90]) (by kernel_rfl) (by simp) rfl rfl (xA _ _ _ ?_)
 conv => whnf
 by_cases hd : (d : Int) = 0
 · rw [decide_eq_true hd]
   repeat ((first | refine qz ?_ | refine qgV [0] (c1) ?_ | refine qgV [0] (c2) ?_ | refine qgV [0] (c3) ?_ | refine qst ?_); conv => whnf)
   exact aFj rfl rfl rfl rfl rfl trivial
 · rw [decide_eq_false hd]
   repeat ((first | refine qz ?_ | refine qgV [0] (c1) ?_ | refine qgV [0] (c2) ?_ | refine qgV [0] (c3) ?_ | refine qst ?_); conv => whnf)
   exact aFj rfl rfl rfl rfl rfl trivial
theorem aS0 {t : ByteArray} {i : Nat} (ht : t.size ≤ 65536) (hi : i ≤ t.size) (h : (zM t (i, false)).2.2 = true) : ACP Tryz.prog 90 [.optr 0 0 [] 0] [rdP t i] pvM := by
 have hw := aAR (t := t) (s := (i, false)) ⟨by omega, hi⟩
 have c1 := fun h => aIq ht hi h
 have d1 := fun h => aN0 ht hi h
 unfold zM at h
 generalize rdW t (i, false) = R at h c1 d1 hw
 obtain ⟨k, a, bad⟩ := R
 dsimp only at h c1 d1 hw
 refine kE xH (by kernel_rfl) Tryz.func90 rfl Tryz.ntmps90 (by kernel_rfl) (by simp) ?_
 refine yE ?_
 conv => whnf
 cases bad
 case true =>
  have d1 := d1 rfl
  refine yw (uI ?_)
  conv => whnf
  exact zT (zx [0] d1 rfl rfl (by first | exact ⟨rfl, trivial⟩ | exact ⟨rfl, rfl, trivial⟩ | exact ⟨rfl, rfl, rfl, trivial⟩) rfl rfl rfl rfl rfl rfl) rfl rfl
 have c1 := c1 rfl
 refine yE ?_
 conv => whnf
 repeat ((first | refine qz ?_ | refine qgV [0] (c1) ?_); conv => whnf)
 have hn := (uw (t := t) (s := (a, false)) hw).1
 have c2 := fun h => aE5 (t := t) (i := a) ht hw.2 h
 have d2 := fun h => aDw (t := t) (i := a) ht hw.2 h
 generalize rdN t (a, false) = R2 at h c2 d2 hn
 obtain ⟨v, b, bad⟩ := R2
 dsimp only at h c2 d2 hn
 cases bad
 case true =>
  have d2 := d2 rfl
  refine yw (uI ?_)
  conv => whnf
  exact zT (zx [0] d2 rfl rfl (by first | exact ⟨rfl, trivial⟩ | exact ⟨rfl, rfl, trivial⟩ | exact ⟨rfl, rfl, rfl, trivial⟩) rfl rfl rfl rfl rfl rfl) rfl rfl
 have c2 := c2 rfl
 refine yE ?_
 conv => whnf
 repeat ((first | refine qz ?_ | refine qgV [0] (c2) ?_); conv => whnf)
 have d3 := aDw (t := t) (i := b) ht hn.2 h
 refine yw (uI ?_)
 conv => whnf
 exact zT (zx [0] d3 rfl rfl (by first | exact ⟨rfl, trivial⟩ | exact ⟨rfl, rfl, trivial⟩ | exact ⟨rfl, rfl, rfl, trivial⟩) rfl rfl rfl rfl rfl rfl) rfl rfl
set_option maxHeartbeats 2000000 in
theorem aNW {t : ByteArray} {i m : Nat} (ht : t.size ≤ 65536) (hi : i ≤ t.size) (hm : m ≤ 100) (h : (rdL (rdI t) (rdC t m (i, false)).1 (rdC t m (i, false)).2).2.2 = false) :
 ACG Tryz.prog 73 [.optr 0 0 [] 0, .v (.int .i64 (m : Int)), .fn 50 [.optr 0 0 [] 0] []] [rdP t i] [rdP t (rdL (rdI t) (rdC t m (i, false)).1 (rdC t m (i, false)).2).2.1] ⟨.own 0, [⟨3, 1, (rdL (rdI t) (rdC t m (i, false)).1 (rdC t m (i, false)).2).1.map yo⟩]⟩ := by
 have hC := zY (m := m) (t := t) (s := (i, false)) ⟨by omega, hi⟩
 have c1 := fun h => qw (m := m) ht hi h
 generalize rdC t m (i, false) = R at h c1 hC ⊢
 obtain ⟨N, a, bad⟩ := R
 dsimp only at h c1 hC ⊢
 obtain ⟨⟨_, ha⟩, hN⟩ := hC
 dsimp only at ha hN
 cases bad
 case true => rw [vZ (fun s h => aHa h) rfl] at h; cases h
 have c1 := c1 rfl
 have hlen := aCz (f := rdI t) (n := N) (s := (a, false))
 obtain ⟨⟨PL, PS⟩, hP⟩ : ∃ P, rdL (rdI t) N (a, false) = P := ⟨_, rfl⟩
 rw [hP] at h hlen ⊢
 dsimp only at h hlen ⊢
 subst hlen
 have hlenr : (List.replicate PL.length (AV.v (.int .i64 0))).length = PL.length := by simp
 refine xL (rs := [.tmp 6]) xH (by kernel_rfl) Tryz.func73 rfl Tryz.ntmps73 (by rw [Tryz.results73]) (by kernel_rfl) (by simp) rfl rfl (xA _ _ _ ?_); conv => whnf
 repeat ((first | refine qp (aBE (m := PL.length) rfl rfl hlenr ⟨_, _, _, _, rfl⟩) ?_ | refine qz ?_ | refine qgV [0] (c1) ?_ | refine qr (aAP (n := PL.length) (by omega) (by omega) rfl rfl rfl rfl) ?_); conv => whnf)
 have hrow : List.replicate PL.length (AV.v (.int .i64 0)) = (PL.take 0 ++ List.replicate (PL.length - 0) (0 : Int)).map yo := by simp [yo]
 refine xZ (ι := { p : Nat × Nat // p.1 ≤ PL.length ∧ p.2 ≤ t.size ∧ rdL (rdI t) (PL.length - p.1) (p.2, false) = (PL.drop p.1, PS) ∧ (p.1 = PL.length → p.2 = PS.1) }) (fun p => ⟨[(2, .fn 50 [.optr 0 0 [] 0] []), (7, .own 13), (14, .v (.int .i64 (PL.length : Int))), (15, .v (.int .i64 (p.1.1 : Int)))], [(0, rdP t p.1.2), (13, ⟨3, 1, (PL.take p.1.1 ++ List.replicate (PL.length - p.1.1) (0 : Int)).map yo⟩)]⟩) (fun p => PL.length - p.1.1) ⟨(0, a), Nat.zero_le _, ha, by simpa using hP, fun e => (by
  have e' : PL.length = 0 := e.symm
  rw [e'] at hP
  simp only [rdL, Prod.mk.injEq] at hP
  rw [← hP.2])⟩ ⟨⟨rfl, congrArg (fun x => some (OB.mk _ _ x)) hrow, trivial⟩, .inl ⟨rfl, rfl⟩, .inl ⟨rfl, rfl⟩, .inl ⟨rfl, rfl⟩, .inl ⟨rfl, rfl⟩, trivial⟩ ?_
 rintro ⟨⟨k, p⟩, hk, hp, hr, he⟩
 dsimp only at hk hp hr he ⊢
 conv => whnf
 by_cases hlt : k < PL.length
 · obtain ⟨r, hrr⟩ : ∃ r, PL.length - k = r + 1 := ⟨PL.length - k - 1, by omega⟩
   rw [hrr] at hr
   obtain ⟨hv, hr2⟩ := aD9 hlt hr
   have hr2' : rdL (rdI t) (PL.length - (k + 1)) (rdI t (p, false)).2 = (PL.drop (k + 1), PS) := by rw [show PL.length - (k + 1) = r by omega]; exact hr2
   have c2 := fun h => aQM (t := t) (i := p) ht hp h
   have hok := aGv (t := t) (s := (p, false)) ⟨by omega, hp⟩
   have hlt2 : k < (PL.take k ++ List.replicate (PL.length - k) (0 : Int)).length := by simp; omega
   have hset := congrArg (List.map yo) (aDU PL (0 : Int) k hlt)
   rw [List.map_set] at hset
   rw [← hv] at hset
   clear hv hr hr2
   skip
   generalize rdI t (p, false) = R at hr2' c2 hok hset
   obtain ⟨v, q, bad⟩ := R
   dsimp only at hr2' c2 hok hset
   cases bad
   case true =>
    have := vZ (f := rdI t) (fun s h => aHa h) (n := PL.length - (k + 1)) (s := (q, true)) rfl
    rw [hr2'] at this
    rw [h] at this; cases this
   have c2 := c2 rfl
   repeat ((first | refine qz ?_ | refine qgV [0] (c2) ?_ | refine qp (zX (by simpa using hlt2) rfl rfl rfl rfl rfl) ?_ | refine qr (y8 (jl _ hlt2) rfl rfl rfl rfl rfl rfl) ?_); conv => whnf)
   exact ⟨⟨(k + 1, q), hlt, hok.2, hr2', fun e => (by
    have e' : k + 1 = PL.length := e
    rw [e', Nat.sub_self] at hr2'
    simp only [rdL, Prod.mk.injEq] at hr2'
    rw [← hr2'.2])⟩, ⟨⟨rfl, congrArg (fun x => some (OB.mk _ _ x)) hset, trivial⟩, .inl ⟨rfl, rfl⟩, .inl ⟨rfl, rfl⟩, .inl ⟨rfl, rfl⟩, .inl ⟨rfl, rfl⟩, trivial⟩, by dsimp only; omega⟩
 · have hkk : k = PL.length := by omega
   rw [he hkk]
   subst hkk
   repeat ((refine qz ?_; conv => whnf))
   exact aGt rfl rfl (by show some (OB.mk _ _ _) = _; rw [List.take_length, Nat.sub_self, List.replicate_zero, List.append_nil])
set_option maxHeartbeats 2000000 in
theorem aQo {t : ByteArray} {i m : Nat} (ht : t.size ≤ 65536) (hi : i ≤ t.size) (hm : m ≤ 100) (h : (rdL (rdI t) (rdC t m (i, false)).1 (rdC t m (i, false)).2).2.2 = true) :
 ACP Tryz.prog 73 [.optr 0 0 [] 0, .v (.int .i64 (m : Int)), .fn 50 [.optr 0 0 [] 0] []] [rdP t i] pvM := by
 have hC := zY (m := m) (t := t) (s := (i, false)) ⟨by omega, hi⟩
 have c1 := fun h => qw (m := m) ht hi h
 have d1 := fun h => aCj (m := m) ht hi h
 generalize rdC t m (i, false) = R at h c1 d1 hC
 obtain ⟨N, a, bad⟩ := R
 dsimp only at h c1 d1 hC
 obtain ⟨⟨_, ha⟩, hN⟩ := hC
 dsimp only at ha hN
 refine kE xH (by kernel_rfl) Tryz.func73 rfl Tryz.ntmps73 (by kernel_rfl) (by simp) ?_
 refine yE ?_
 conv => whnf
 cases bad
 case true =>
  have d1 := d1 rfl
  refine yw (uI ?_)
  conv => whnf
  exact zT (zx [0] d1 rfl rfl (by first | exact ⟨rfl, trivial⟩ | exact ⟨rfl, rfl, trivial⟩ | exact ⟨rfl, rfl, rfl, trivial⟩) rfl rfl rfl rfl rfl rfl) rfl rfl
 have c1 := c1 rfl
 refine yE ?_
 conv => whnf
 repeat ((first | refine qz ?_ | refine qgV [0] (c1) ?_ | refine qr (aAP (n := N) (by omega) (by omega) rfl rfl rfl rfl) ?_); conv => whnf)
 refine yw (yE ?_)
 conv => whnf
 have hlenr : (List.replicate N (AV.v (.int .i64 0))).length = N := by simp
 repeat ((first | refine qp (aBE (m := N) rfl rfl hlenr ⟨_, _, _, _, rfl⟩) ?_ | refine qz ?_); conv => whnf)
 have hrow : List.replicate N (AV.v (.int .i64 0)) = (([] : List Int) ++ List.replicate (N - 0) (0 : Int)).map yo := by simp [yo]
 refine jW (aGS (ι := { p : List Int × Nat // p.1.length ≤ N ∧ p.2 ≤ t.size ∧ (rdL (rdI t) (N - p.1.length) (p.2, false)).2.2 = true }) (fun p => ⟨[(2, .fn 50 [.optr 0 0 [] 0] []), (7, .own 13), (14, .v (.int .i64 (N : Int))), (15, .v (.int .i64 (p.1.1.length : Int)))], [(0, rdP t p.1.2), (13, ⟨3, 1, (p.1.1 ++ List.replicate (N - p.1.1.length) (0 : Int)).map yo⟩)]⟩) (fun p => N - p.1.1.length) ⟨([], a), Nat.zero_le _, ha, by simpa using h⟩ ⟨⟨rfl, congrArg (fun x => some (OB.mk _ _ x)) hrow, trivial⟩, .inl ⟨rfl, rfl⟩, .inl ⟨rfl, rfl⟩, .inl ⟨rfl, rfl⟩, .inl ⟨rfl, rfl⟩, trivial⟩ ?_)
 rintro ⟨⟨acc, p⟩, hk, hp, hr⟩
 dsimp only at hk hp hr ⊢
 have hlt : acc.length < N := by
  rcases Nat.lt_or_ge acc.length N with h' | h'
  · exact h'
  · rw [show N - acc.length = 0 by omega] at hr; cases hr
 obtain ⟨r, hrr⟩ : ∃ r, N - acc.length = r + 1 := ⟨N - acc.length - 1, by omega⟩
 rw [hrr] at hr ⊢
 simp only [rdL] at hr
 have c2 := fun h => aQM (t := t) (i := p) ht hp h
 have d2 := fun h => aSY (t := t) (i := p) ht hp h
 have hok := aGv (t := t) (s := (p, false)) ⟨by omega, hp⟩
 skip
 generalize rdI t (p, false) = R at hr c2 d2 hok
 obtain ⟨v, q, bad⟩ := R
 dsimp only at hr c2 d2 hok
 cases bad
 · right
   have c2 := c2 rfl
   have hlt2 : acc.length < (acc ++ List.replicate (r + 1) (0 : Int)).length := by simp
   have hset := aDS yo acc (0 : Int) v r
   conv => whnf
   repeat ((first | refine qz ?_ | refine qgV [0] (c2) ?_ | refine qp (zX (by simp) rfl rfl rfl rfl rfl) ?_ | refine qr (y8 (jl _ hlt2) rfl rfl rfl rfl rfl rfl) ?_); conv => whnf)
   have hl : (acc ++ [v]).length = acc.length + 1 := by simp
   refine ⟨⟨(acc ++ [v], q), by dsimp only; omega, hok.2, by dsimp only; rw [show N - (acc ++ [v]).length = r by omega]; exact hr⟩, ⟨⟨rfl, ?_, trivial⟩, .inl ⟨rfl, rfl⟩, .inl ⟨rfl, rfl⟩, .inl ⟨rfl, rfl⟩, .inl ⟨?_, rfl⟩, trivial⟩, by dsimp only; omega⟩
   · dsimp only
     rw [show N - (acc ++ [v]).length = r by omega]
     exact congrArg (fun x => some (OB.mk _ _ x)) hset
   · show AV.v (.int .i64 ((acc.length : Int) + 1)) = AV.v (.int .i64 ((acc ++ [v]).length : Int))
     rw [hl]; rfl
 · left
   have d2 := d2 rfl
   refine yE ?_
   conv => whnf
   repeat ((refine qz ?_; conv => whnf))
   refine yE ?_
   conv => whnf
   refine yw (jW (yE ?_))
   conv => whnf
   refine uI ?_
   conv => whnf
   exact zT (zx [0] d2 rfl rfl (by first | exact ⟨rfl, trivial⟩ | exact ⟨rfl, rfl, trivial⟩ | exact ⟨rfl, rfl, rfl, trivial⟩) rfl rfl rfl rfl rfl rfl) rfl rfl
set_option maxHeartbeats 2000000 in
theorem aST {t : ByteArray} {i m : Nat} (ht : t.size ≤ 65536) (hi : i ≤ t.size) (hm : m ≤ 100) (h : (rdL (rdE t) (rdC t m (i, false)).1 (rdC t m (i, false)).2).2.2 = false) :
 ACG Tryz.prog 74 [.optr 0 0 [] 0, .v (.int .i64 (m : Int)), .fn 75 [.optr 0 0 [] 0] []] [rdP t i] [rdP t (rdL (rdE t) (rdC t m (i, false)).1 (rdC t m (i, false)).2).2.1] ⟨.own 0, [⟨74, 2, (rdL (rdE t) (rdC t m (i, false)).1 (rdC t m (i, false)).2).1.map yB⟩]⟩ := by
 have hC := zY (m := m) (t := t) (s := (i, false)) ⟨by omega, hi⟩
 have c1 := fun h => qw (m := m) ht hi h
 generalize rdC t m (i, false) = R at h c1 hC ⊢
 obtain ⟨N, a, bad⟩ := R
 dsimp only at h c1 hC ⊢
 obtain ⟨⟨_, ha⟩, hN⟩ := hC
 dsimp only at ha hN
 cases bad
 case true => rw [vZ (fun s h => aEu h) rfl] at h; cases h
 have c1 := c1 rfl
 have hlen := aCz (f := rdE t) (n := N) (s := (a, false))
 obtain ⟨⟨PL, PS⟩, hP⟩ : ∃ P, rdL (rdE t) N (a, false) = P := ⟨_, rfl⟩
 rw [hP] at h hlen ⊢
 dsimp only at h hlen ⊢
 subst hlen
 have hlenr : (List.replicate PL.length (AV.agg [.v (.string ByteArray.empty), .v (.int .i64 0)])).length = PL.length := by simp
 refine xL (rs := [.tmp 6]) xH (by kernel_rfl) Tryz.func74 rfl Tryz.ntmps74 (by rw [Tryz.results74]) (by kernel_rfl) (by simp) rfl rfl (xA _ _ _ ?_); conv => whnf
 repeat ((first | refine qp (aBE (m := PL.length) rfl rfl hlenr ⟨_, _, _, _, rfl⟩) ?_ | refine qz ?_ | refine qgV [0] (c1) ?_ | refine qr (aAP (n := PL.length) (by omega) (by omega) rfl rfl rfl rfl) ?_); conv => whnf)
 have hrow : List.replicate PL.length (AV.agg [.v (.string ByteArray.empty), .v (.int .i64 0)]) = (PL.take 0 ++ List.replicate (PL.length - 0) ((ByteArray.empty, 0) : Ent)).map yB := by simp [yB]
 refine xZ (ι := { p : Nat × Nat // p.1 ≤ PL.length ∧ p.2 ≤ t.size ∧ rdL (rdE t) (PL.length - p.1) (p.2, false) = (PL.drop p.1, PS) ∧ (p.1 = PL.length → p.2 = PS.1) }) (fun p => ⟨[(2, .fn 75 [.optr 0 0 [] 0] []), (7, .own 13), (14, .v (.int .i64 (PL.length : Int))), (15, .v (.int .i64 (p.1.1 : Int)))], [(0, rdP t p.1.2), (13, ⟨74, 2, (PL.take p.1.1 ++ List.replicate (PL.length - p.1.1) ((ByteArray.empty, 0) : Ent)).map yB⟩)]⟩) (fun p => PL.length - p.1.1) ⟨(0, a), Nat.zero_le _, ha, by simpa using hP, fun e => (by
  have e' : PL.length = 0 := e.symm
  rw [e'] at hP
  simp only [rdL, Prod.mk.injEq] at hP
  rw [← hP.2])⟩ ⟨⟨rfl, congrArg (fun x => some (OB.mk _ _ x)) hrow, trivial⟩, .inl ⟨rfl, rfl⟩, .inl ⟨rfl, rfl⟩, .inl ⟨rfl, rfl⟩, .inl ⟨rfl, rfl⟩, trivial⟩ ?_
 rintro ⟨⟨k, p⟩, hk, hp, hr, he⟩
 dsimp only at hk hp hr he ⊢
 conv => whnf
 by_cases hlt : k < PL.length
 · obtain ⟨r, hrr⟩ : ∃ r, PL.length - k = r + 1 := ⟨PL.length - k - 1, by omega⟩
   rw [hrr] at hr
   obtain ⟨hv, hr2⟩ := aD9 hlt hr
   have hr2' : rdL (rdE t) (PL.length - (k + 1)) (rdE t (p, false)).2 = (PL.drop (k + 1), PS) := by rw [show PL.length - (k + 1) = r by omega]; exact hr2
   have c2 := fun h => aQL (t := t) (i := p) ht hp h
   have hok := aO9 (t := t) (s := (p, false)) ⟨by omega, hp⟩
   have hlt2 : k < (PL.take k ++ List.replicate (PL.length - k) ((ByteArray.empty, 0) : Ent)).length := by simp; omega
   have hset := congrArg (List.map yB) (aDU PL ((ByteArray.empty, 0) : Ent) k hlt)
   rw [List.map_set] at hset
   rw [← hv] at hset
   clear hv hr hr2
   skip
   generalize rdE t (p, false) = R at hr2' c2 hok hset
   obtain ⟨v, q, bad⟩ := R
   dsimp only at hr2' c2 hok hset
   cases bad
   case true =>
    have := vZ (f := rdE t) (fun s h => aEu h) (n := PL.length - (k + 1)) (s := (q, true)) rfl
    rw [hr2'] at this
    rw [h] at this; cases this
   have c2 := c2 rfl
   repeat ((first | refine qz ?_ | refine qgV [0] (c2) ?_ | refine qp (zX (by simpa using hlt2) rfl rfl rfl rfl rfl) ?_ | refine qr (y8 (jl _ hlt2) rfl rfl rfl rfl rfl rfl) ?_); conv => whnf)
   exact ⟨⟨(k + 1, q), hlt, hok.2, hr2', fun e => (by
    have e' : k + 1 = PL.length := e
    rw [e', Nat.sub_self] at hr2'
    simp only [rdL, Prod.mk.injEq] at hr2'
    rw [← hr2'.2])⟩, ⟨⟨rfl, congrArg (fun x => some (OB.mk _ _ x)) hset, trivial⟩, .inl ⟨rfl, rfl⟩, .inl ⟨rfl, rfl⟩, .inl ⟨rfl, rfl⟩, .inl ⟨rfl, rfl⟩, trivial⟩, by dsimp only; omega⟩
 · have hkk : k = PL.length := by omega
   rw [he hkk]
   subst hkk
   repeat ((refine qz ?_; conv => whnf))
   exact aGt rfl rfl (by show some (OB.mk _ _ _) = _; rw [List.take_length, Nat.sub_self, List.replicate_zero, List.append_nil])
set_option maxHeartbeats 2000000 in
theorem aQn {t : ByteArray} {i m : Nat} (ht : t.size ≤ 65536) (hi : i ≤ t.size) (hm : m ≤ 100) (h : (rdL (rdE t) (rdC t m (i, false)).1 (rdC t m (i, false)).2).2.2 = true) :
 ACP Tryz.prog 74 [.optr 0 0 [] 0, .v (.int .i64 (m : Int)), .fn 75 [.optr 0 0 [] 0] []] [rdP t i] pvM := by
 have hC := zY (m := m) (t := t) (s := (i, false)) ⟨by omega, hi⟩
 have c1 := fun h => qw (m := m) ht hi h
 have d1 := fun h => aCj (m := m) ht hi h
 generalize rdC t m (i, false) = R at h c1 d1 hC
 obtain ⟨N, a, bad⟩ := R
 dsimp only at h c1 d1 hC
 obtain ⟨⟨_, ha⟩, hN⟩ := hC
 dsimp only at ha hN
 refine kE xH (by kernel_rfl) Tryz.func74 rfl Tryz.ntmps74 (by kernel_rfl) (by simp) ?_
 refine yE ?_
 conv => whnf
 cases bad
 case true =>
  have d1 := d1 rfl
  refine yw (uI ?_)
  conv => whnf
  exact zT (zx [0] d1 rfl rfl (by first | exact ⟨rfl, trivial⟩ | exact ⟨rfl, rfl, trivial⟩ | exact ⟨rfl, rfl, rfl, trivial⟩) rfl rfl rfl rfl rfl rfl) rfl rfl
 have c1 := c1 rfl
 refine yE ?_
 conv => whnf
 repeat ((first | refine qz ?_ | refine qgV [0] (c1) ?_ | refine qr (aAP (n := N) (by omega) (by omega) rfl rfl rfl rfl) ?_); conv => whnf)
 refine yw (yE ?_)
 conv => whnf
 have hlenr : (List.replicate N (AV.agg [.v (.string ByteArray.empty), .v (.int .i64 0)])).length = N := by simp
 repeat ((first | refine qp (aBE (m := N) rfl rfl hlenr ⟨_, _, _, _, rfl⟩) ?_ | refine qz ?_); conv => whnf)
 have hrow : List.replicate N (AV.agg [.v (.string ByteArray.empty), .v (.int .i64 0)]) = (([] : List Ent) ++ List.replicate (N - 0) ((ByteArray.empty, 0) : Ent)).map yB := by simp [yB]
 refine jW (aGS (ι := { p : List Ent × Nat // p.1.length ≤ N ∧ p.2 ≤ t.size ∧ (rdL (rdE t) (N - p.1.length) (p.2, false)).2.2 = true }) (fun p => ⟨[(2, .fn 75 [.optr 0 0 [] 0] []), (7, .own 13), (14, .v (.int .i64 (N : Int))), (15, .v (.int .i64 (p.1.1.length : Int)))], [(0, rdP t p.1.2), (13, ⟨74, 2, (p.1.1 ++ List.replicate (N - p.1.1.length) ((ByteArray.empty, 0) : Ent)).map yB⟩)]⟩) (fun p => N - p.1.1.length) ⟨([], a), Nat.zero_le _, ha, by simpa using h⟩ ⟨⟨rfl, congrArg (fun x => some (OB.mk _ _ x)) hrow, trivial⟩, .inl ⟨rfl, rfl⟩, .inl ⟨rfl, rfl⟩, .inl ⟨rfl, rfl⟩, .inl ⟨rfl, rfl⟩, trivial⟩ ?_)
 rintro ⟨⟨acc, p⟩, hk, hp, hr⟩
 dsimp only at hk hp hr ⊢
 have hlt : acc.length < N := by
  rcases Nat.lt_or_ge acc.length N with h' | h'
  · exact h'
  · rw [show N - acc.length = 0 by omega] at hr; cases hr
 obtain ⟨r, hrr⟩ : ∃ r, N - acc.length = r + 1 := ⟨N - acc.length - 1, by omega⟩
 rw [hrr] at hr ⊢
 simp only [rdL] at hr
 have c2 := fun h => aQL (t := t) (i := p) ht hp h
 have d2 := fun h => aSX (t := t) (i := p) ht hp h
 have hok := aO9 (t := t) (s := (p, false)) ⟨by omega, hp⟩
 skip
 generalize rdE t (p, false) = R at hr c2 d2 hok
 obtain ⟨v, q, bad⟩ := R
 dsimp only at hr c2 d2 hok
 cases bad
 · right
   have c2 := c2 rfl
   have hlt2 : acc.length < (acc ++ List.replicate (r + 1) ((ByteArray.empty, 0) : Ent)).length := by simp
   have hset := aDS yB acc ((ByteArray.empty, 0) : Ent) v r
   conv => whnf
   repeat ((first | refine qz ?_ | refine qgV [0] (c2) ?_ | refine qp (zX (by simp) rfl rfl rfl rfl rfl) ?_ | refine qr (y8 (jl _ hlt2) rfl rfl rfl rfl rfl rfl) ?_); conv => whnf)
   have hl : (acc ++ [v]).length = acc.length + 1 := by simp
   refine ⟨⟨(acc ++ [v], q), by dsimp only; omega, hok.2, by dsimp only; rw [show N - (acc ++ [v]).length = r by omega]; exact hr⟩, ⟨⟨rfl, ?_, trivial⟩, .inl ⟨rfl, rfl⟩, .inl ⟨rfl, rfl⟩, .inl ⟨rfl, rfl⟩, .inl ⟨?_, rfl⟩, trivial⟩, by dsimp only; omega⟩
   · dsimp only
     rw [show N - (acc ++ [v]).length = r by omega]
     exact congrArg (fun x => some (OB.mk _ _ x)) hset
   · show AV.v (.int .i64 ((acc.length : Int) + 1)) = AV.v (.int .i64 ((acc ++ [v]).length : Int))
     rw [hl]; rfl
 · left
   have d2 := d2 rfl
   refine yE ?_
   conv => whnf
   repeat ((refine qz ?_; conv => whnf))
   refine yE ?_
   conv => whnf
   refine yw (jW (yE ?_))
   conv => whnf
   refine uI ?_
   conv => whnf
   exact zT (zx [0] d2 rfl rfl (by first | exact ⟨rfl, trivial⟩ | exact ⟨rfl, rfl, trivial⟩ | exact ⟨rfl, rfl, rfl, trivial⟩) rfl rfl rfl rfl rfl rfl) rfl rfl
set_option maxHeartbeats 2000000 in
theorem aSU {t : ByteArray} {i m : Nat} (ht : t.size ≤ 65536) (hi : i ≤ t.size) (hm : m ≤ 100) (h : (rdL (zM t) (rdC t m (i, false)).1 (rdC t m (i, false)).2).2.2 = false) :
 ACG Tryz.prog 89 [.optr 0 0 [] 0, .v (.int .i64 (m : Int)), .fn 90 [.optr 0 0 [] 0] []] [rdP t i] [rdP t (rdL (zM t) (rdC t m (i, false)).1 (rdC t m (i, false)).2).2.1] ⟨.own 0, [⟨86, 4, (rdL (zM t) (rdC t m (i, false)).1 (rdC t m (i, false)).2).1.map yL⟩]⟩ := by
 have hC := zY (m := m) (t := t) (s := (i, false)) ⟨by omega, hi⟩
 have c1 := fun h => qw (m := m) ht hi h
 generalize rdC t m (i, false) = R at h c1 hC ⊢
 obtain ⟨N, a, bad⟩ := R
 dsimp only at h c1 hC ⊢
 obtain ⟨⟨_, ha⟩, hN⟩ := hC
 dsimp only at ha hN
 cases bad
 case true => rw [vZ (fun s h => aFo h) rfl] at h; cases h
 have c1 := c1 rfl
 have hlen := aCz (f := zM t) (n := N) (s := (a, false))
 obtain ⟨⟨PL, PS⟩, hP⟩ : ∃ P, rdL (zM t) N (a, false) = P := ⟨_, rfl⟩
 rw [hP] at h hlen ⊢
 dsimp only at h hlen ⊢
 subst hlen
 have hlenr : (List.replicate PL.length (AV.agg [.v (.string ByteArray.empty), .v (.int .i64 0), .v (.int .i64 0), .v (.bool false)])).length = PL.length := by simp
 refine xL (rs := [.tmp 6]) xH (by kernel_rfl) Tryz.func89 rfl Tryz.ntmps89 (by rw [Tryz.results89]) (by kernel_rfl) (by simp) rfl rfl (xA _ _ _ ?_); conv => whnf
 repeat ((first | refine qp (aBE (m := PL.length) rfl rfl hlenr ⟨_, _, _, _, rfl⟩) ?_ | refine qz ?_ | refine qgV [0] (c1) ?_ | refine qr (aAP (n := PL.length) (by omega) (by omega) rfl rfl rfl rfl) ?_); conv => whnf)
 have hrow : List.replicate PL.length (AV.agg [.v (.string ByteArray.empty), .v (.int .i64 0), .v (.int .i64 0), .v (.bool false)]) = (PL.take 0 ++ List.replicate (PL.length - 0) (⟨ByteArray.empty, 0, 0, false⟩ : Rf)).map yL := by simp [yL]
 refine xZ (ι := { p : Nat × Nat // p.1 ≤ PL.length ∧ p.2 ≤ t.size ∧ rdL (zM t) (PL.length - p.1) (p.2, false) = (PL.drop p.1, PS) ∧ (p.1 = PL.length → p.2 = PS.1) }) (fun p => ⟨[(2, .fn 90 [.optr 0 0 [] 0] []), (7, .own 13), (14, .v (.int .i64 (PL.length : Int))), (15, .v (.int .i64 (p.1.1 : Int)))], [(0, rdP t p.1.2), (13, ⟨86, 4, (PL.take p.1.1 ++ List.replicate (PL.length - p.1.1) (⟨ByteArray.empty, 0, 0, false⟩ : Rf)).map yL⟩)]⟩) (fun p => PL.length - p.1.1) ⟨(0, a), Nat.zero_le _, ha, by simpa using hP, fun e => (by
  have e' : PL.length = 0 := e.symm
  rw [e'] at hP
  simp only [rdL, Prod.mk.injEq] at hP
  rw [← hP.2])⟩ ⟨⟨rfl, congrArg (fun x => some (OB.mk _ _ x)) hrow, trivial⟩, .inl ⟨rfl, rfl⟩, .inl ⟨rfl, rfl⟩, .inl ⟨rfl, rfl⟩, .inl ⟨rfl, rfl⟩, trivial⟩ ?_
 rintro ⟨⟨k, p⟩, hk, hp, hr, he⟩
 dsimp only at hk hp hr he ⊢
 conv => whnf
 by_cases hlt : k < PL.length
 · obtain ⟨r, hrr⟩ : ∃ r, PL.length - k = r + 1 := ⟨PL.length - k - 1, by omega⟩
   rw [hrr] at hr
   obtain ⟨hv, hr2⟩ := aD9 hlt hr
   have hr2' : rdL (zM t) (PL.length - (k + 1)) (zM t (p, false)).2 = (PL.drop (k + 1), PS) := by rw [show PL.length - (k + 1) = r by omega]; exact hr2
   have c2 := fun h => aQN (t := t) (i := p) ht hp h
   have hok := (fun {t s} h => (aHd (t := t) (s := s) h).1) (t := t) (s := (p, false)) ⟨by omega, hp⟩
   have hlt2 : k < (PL.take k ++ List.replicate (PL.length - k) (⟨ByteArray.empty, 0, 0, false⟩ : Rf)).length := by simp; omega
   have hset := congrArg (List.map yL) (aDU PL (⟨ByteArray.empty, 0, 0, false⟩ : Rf) k hlt)
   rw [List.map_set] at hset
   rw [← hv] at hset
   clear hv hr hr2
   skip
   generalize zM t (p, false) = R at hr2' c2 hok hset
   obtain ⟨v, q, bad⟩ := R
   dsimp only at hr2' c2 hok hset
   cases bad
   case true =>
    have := vZ (f := zM t) (fun s h => aFo h) (n := PL.length - (k + 1)) (s := (q, true)) rfl
    rw [hr2'] at this
    rw [h] at this; cases this
   have c2 := c2 rfl
   repeat ((first | refine qz ?_ | refine qgV [0] (c2) ?_ | refine qp (zX (by simpa using hlt2) rfl rfl rfl rfl rfl) ?_ | refine qr (y8 (jl _ hlt2) rfl rfl rfl rfl rfl rfl) ?_); conv => whnf)
   exact ⟨⟨(k + 1, q), hlt, hok.2, hr2', fun e => (by
    have e' : k + 1 = PL.length := e
    rw [e', Nat.sub_self] at hr2'
    simp only [rdL, Prod.mk.injEq] at hr2'
    rw [← hr2'.2])⟩, ⟨⟨rfl, congrArg (fun x => some (OB.mk _ _ x)) hset, trivial⟩, .inl ⟨rfl, rfl⟩, .inl ⟨rfl, rfl⟩, .inl ⟨rfl, rfl⟩, .inl ⟨rfl, rfl⟩, trivial⟩, by dsimp only; omega⟩
 · have hkk : k = PL.length := by omega
   rw [he hkk]
   subst hkk
   repeat ((refine qz ?_; conv => whnf))
   exact aGt rfl rfl (by show some (OB.mk _ _ _) = _; rw [List.take_length, Nat.sub_self, List.replicate_zero, List.append_nil])
set_option maxHeartbeats 2000000 in
theorem aQp {t : ByteArray} {i m : Nat} (ht : t.size ≤ 65536) (hi : i ≤ t.size) (hm : m ≤ 100) (h : (rdL (zM t) (rdC t m (i, false)).1 (rdC t m (i, false)).2).2.2 = true) :
 ACP Tryz.prog 89 [.optr 0 0 [] 0, .v (.int .i64 (m : Int)), .fn 90 [.optr 0 0 [] 0] []] [rdP t i] pvM := by
 have hC := zY (m := m) (t := t) (s := (i, false)) ⟨by omega, hi⟩
 have c1 := fun h => qw (m := m) ht hi h
 have d1 := fun h => aCj (m := m) ht hi h
 generalize rdC t m (i, false) = R at h c1 d1 hC
 obtain ⟨N, a, bad⟩ := R
 dsimp only at h c1 d1 hC
 obtain ⟨⟨_, ha⟩, hN⟩ := hC
 dsimp only at ha hN
 refine kE xH (by kernel_rfl) Tryz.func89 rfl Tryz.ntmps89 (by kernel_rfl) (by simp) ?_
 refine yE ?_
 conv => whnf
 cases bad
 case true =>
  have d1 := d1 rfl
  refine yw (uI ?_)
  conv => whnf
  exact zT (zx [0] d1 rfl rfl (by first | exact ⟨rfl, trivial⟩ | exact ⟨rfl, rfl, trivial⟩ | exact ⟨rfl, rfl, rfl, trivial⟩) rfl rfl rfl rfl rfl rfl) rfl rfl
 have c1 := c1 rfl
 refine yE ?_
 conv => whnf
 repeat ((first | refine qz ?_ | refine qgV [0] (c1) ?_ | refine qr (aAP (n := N) (by omega) (by omega) rfl rfl rfl rfl) ?_); conv => whnf)
 refine yw (yE ?_)
 conv => whnf
 have hlenr : (List.replicate N (AV.agg [.v (.string ByteArray.empty), .v (.int .i64 0), .v (.int .i64 0), .v (.bool false)])).length = N := by simp
 repeat ((first | refine qp (aBE (m := N) rfl rfl hlenr ⟨_, _, _, _, rfl⟩) ?_ | refine qz ?_); conv => whnf)
 have hrow : List.replicate N (AV.agg [.v (.string ByteArray.empty), .v (.int .i64 0), .v (.int .i64 0), .v (.bool false)]) = (([] : List Rf) ++ List.replicate (N - 0) (⟨ByteArray.empty, 0, 0, false⟩ : Rf)).map yL := by simp [yL]
 refine jW (aGS (ι := { p : List Rf × Nat // p.1.length ≤ N ∧ p.2 ≤ t.size ∧ (rdL (zM t) (N - p.1.length) (p.2, false)).2.2 = true }) (fun p => ⟨[(2, .fn 90 [.optr 0 0 [] 0] []), (7, .own 13), (14, .v (.int .i64 (N : Int))), (15, .v (.int .i64 (p.1.1.length : Int)))], [(0, rdP t p.1.2), (13, ⟨86, 4, (p.1.1 ++ List.replicate (N - p.1.1.length) (⟨ByteArray.empty, 0, 0, false⟩ : Rf)).map yL⟩)]⟩) (fun p => N - p.1.1.length) ⟨([], a), Nat.zero_le _, ha, by simpa using h⟩ ⟨⟨rfl, congrArg (fun x => some (OB.mk _ _ x)) hrow, trivial⟩, .inl ⟨rfl, rfl⟩, .inl ⟨rfl, rfl⟩, .inl ⟨rfl, rfl⟩, .inl ⟨rfl, rfl⟩, trivial⟩ ?_)
 rintro ⟨⟨acc, p⟩, hk, hp, hr⟩
 dsimp only at hk hp hr ⊢
 have hlt : acc.length < N := by
  rcases Nat.lt_or_ge acc.length N with h' | h'
  · exact h'
  · rw [show N - acc.length = 0 by omega] at hr; cases hr
 obtain ⟨r, hrr⟩ : ∃ r, N - acc.length = r + 1 := ⟨N - acc.length - 1, by omega⟩
 rw [hrr] at hr ⊢
 simp only [rdL] at hr
 have c2 := fun h => aQN (t := t) (i := p) ht hp h
 have d2 := fun h => aS0 (t := t) (i := p) ht hp h
 have hok := (fun {t s} h => (aHd (t := t) (s := s) h).1) (t := t) (s := (p, false)) ⟨by omega, hp⟩
 skip
 generalize zM t (p, false) = R at hr c2 d2 hok
 obtain ⟨v, q, bad⟩ := R
 dsimp only at hr c2 d2 hok
 cases bad
 · right
   have c2 := c2 rfl
   have hlt2 : acc.length < (acc ++ List.replicate (r + 1) (⟨ByteArray.empty, 0, 0, false⟩ : Rf)).length := by simp
   have hset := aDS yL acc (⟨ByteArray.empty, 0, 0, false⟩ : Rf) v r
   conv => whnf
   repeat ((first | refine qz ?_ | refine qgV [0] (c2) ?_ | refine qp (zX (by simp) rfl rfl rfl rfl rfl) ?_ | refine qr (y8 (jl _ hlt2) rfl rfl rfl rfl rfl rfl) ?_); conv => whnf)
   have hl : (acc ++ [v]).length = acc.length + 1 := by simp
   refine ⟨⟨(acc ++ [v], q), by dsimp only; omega, hok.2, by dsimp only; rw [show N - (acc ++ [v]).length = r by omega]; exact hr⟩, ⟨⟨rfl, ?_, trivial⟩, .inl ⟨rfl, rfl⟩, .inl ⟨rfl, rfl⟩, .inl ⟨rfl, rfl⟩, .inl ⟨?_, rfl⟩, trivial⟩, by dsimp only; omega⟩
   · dsimp only
     rw [show N - (acc ++ [v]).length = r by omega]
     exact congrArg (fun x => some (OB.mk _ _ x)) hset
   · show AV.v (.int .i64 ((acc.length : Int) + 1)) = AV.v (.int .i64 ((acc ++ [v]).length : Int))
     rw [hl]; rfl
 · left
   have d2 := d2 rfl
   refine yE ?_
   conv => whnf
   repeat ((refine qz ?_; conv => whnf))
   refine yE ?_
   conv => whnf
   refine yw (jW (yE ?_))
   conv => whnf
   refine uI ?_
   conv => whnf
   exact zT (zx [0] d2 rfl rfl (by first | exact ⟨rfl, trivial⟩ | exact ⟨rfl, rfl, trivial⟩ | exact ⟨rfl, rfl, rfl, trivial⟩) rfl rfl rfl rfl rfl rfl) rfl rfl
end Go.Proofs.YtfomjajdfaoogaaGreatDoor.AM
namespace Go.Proofs.YtfomjajdfaoogaaGreatDoor.AM
open Go Go.RowKit
theorem aTa {P : Program} {t : TypeId} {x y : Operand} {k : IntKind} {a b : Int} : yh P .eql t x y (.int k a) (.int k b) (.bool (decide (a = b))) := by
 by_cases h : a = b
 · rw [decide_eq_true h]; exact qK h
 · rw [decide_eq_false h]; exact aAv h
attribute [local irreducible] xI xO xQ xX yG Pre ACG
set_option maxHeartbeats 16000000 in
theorem aMT {t : ByteArray} (ht : t.size ≤ 65536) : AC Tryz.prog 54 [.v (.string t)] ⟨.tup [yA (if dK t = 0 then dB t else ⟨[], []⟩), .v (.int .i64 (dK t))], []⟩ := by
 cases hh : zo t
 · have eK : dK t = 3 := by unfold dK; rw [if_pos hh]
   rw [eK, if_neg (by decide)]
   by_cases h3 : 3 ≤ t.size
   · have hne : t.extract 0 3 ≠ brB := fun e => by unfold zo at hh; rw [decide_eq_true h3, decide_eq_true e] at hh; cases hh
     refine qrf Tryz.func54 Tryz.ntmps54 Tryz.results54 ?_; conv => whnf
     repeat ((first | refine qp (aAQ (j := 3) h3 rfl rfl) ?_ | refine qp (xC (aQt hne) rfl rfl rfl) ?_ | refine qz ?_ | refine qst ?_); conv => whnf)
     exact vI rfl rfl rfl rfl trivial rfl
   · refine qrf Tryz.func54 Tryz.ntmps54 Tryz.results54 ?_; conv => whnf
     repeat ((first | refine qz ?_ | refine qst ?_); conv => whnf)
     exact vI rfl rfl rfl rfl trivial rfl
 have h3 : 3 ≤ t.size := by unfold zo at hh; simp only [Bool.and_eq_true, decide_eq_true_eq] at hh; exact hh.1
 have hne : t.extract 0 3 = brB := by unfold zo at hh; simp only [Bool.and_eq_true, decide_eq_true_eq] at hh; exact hh.2
 have hok : zL t (3, false) := ⟨by omega, h3⟩
 have c1 := aDv (m := 60) hok (by omega)
 have b1 := zY (m := 60) hok
 obtain ⟨⟨n1, s1⟩, e1⟩ : ∃ R, rdC t 60 (3, false) = R := ⟨_, rfl⟩
 rw [e1] at c1 b1
 obtain ⟨⟨CL, CS⟩, e2⟩ : ∃ R, vJ t n1 s1 = R := ⟨_, rfl⟩
 have edC : dC t = (CL, CS) := by unfold dC; rw [e1]; exact e2
 have b2 := aEt (n := n1) b1.1
 rw [e2] at b2
 dsimp only at c1 b1 b2
 have c3 := aDv (m := 8) b2.1 (by omega)
 have b3 := zY (m := 8) b2.1
 obtain ⟨⟨n2, s3⟩, e3⟩ : ∃ R, rdC t 8 CS = R := ⟨_, rfl⟩
 rw [e3] at c3 b3
 obtain ⟨⟨RL, RS⟩, e4⟩ : ∃ R, vK t n2 s3 = R := ⟨_, rfl⟩
 have edR : dR t = (RL, RS) := by unfold dR; rw [edC, e3]; exact e4
 have b4 := aEv (n := n2) b3.1
 rw [e4] at b4
 dsimp only at c3 b3 b4
 have c6 := aCh b4.1
 have b6 := uw b4.1
 obtain ⟨⟨sm, at_, bd⟩, e6⟩ : ∃ R, rdN t RS = R := ⟨_, rfl⟩
 have edS : dS t = (sm, at_, bd) := by unfold dS; rw [edR]; exact e6
 rw [e6] at c6 b6
 dsimp only at c6 b6
 have hbo : (⟨CL, RL⟩ : Bas).ok maxLen := ⟨(by show CL.length ≤ maxLen; unfold maxLen; omega), b2.2.2, (by show RL.length ≤ maxLen; unfold maxLen; omega), b4.2.2⟩
 have c8 := aJS hbo
 have edB : dB t = ⟨CL, RL⟩ := by unfold dB; rw [edC, edR]
 have eK : dK t = (if bd = true ∨ at_ ≠ t.size then 3 else if (sm : Int) ≠ uV (t.extract 0 RS.1) then 13 else if uL ⟨CL, RL⟩ = true then 0 else 1) := by
  unfold dK; rw [hh, if_neg (by simp), edS, edR, edB]
 rw [eK, edB]
 have hRS := b4.1.2
 have c7 := aDu (t := t.extract 0 RS.1) (by rw [ByteArray.size_extract]; unfold maxLen; omega)
 clear hh eK edB edS edR edC hbo
 refine qrf Tryz.func54 Tryz.ntmps54 Tryz.results54 ?_; conv => whnf
 repeat ((first | refine qp (aAQ (j := 3) h3 rfl rfl) ?_ | refine qp (xC (aHQ hne) rfl rfl rfl) ?_ | refine qz ?_); conv => whnf)
 refine qr (uo rfl ⟨⟨_, _, rfl, rfl, rfl⟩, ⟨_, _, rfl, rfl, rfl⟩, trivial⟩ rfl) ?_
 conv => whnf
 repeat ((first | refine qz ?_ | refine qr (yJ rfl rfl rfl rfl rfl rfl) ?_ | refine qgV [23] (c1) ?_); conv => whnf)
 refine xZ (ι := { p : Nat × List Cmt × Rds // p.1 ≤ 60 ∧ zL t p.2.2 ∧ p.2.1.length + p.1 ≤ 60 ∧ p.2.1 ++ (vJ t p.1 p.2.2).1 = CL ∧ (vJ t p.1 p.2.2).2 = CS }) (fun p => ⟨[(0, .v (.string t)), (2, .optr 3 0 [] 0), (4, .optr 23 0 [] 0), (5, .optr 6 0 [] 0), (6, .v (.int .i64 (p.1.1 : Int)))], [(3, ⟨.z 41, 2, [.agg [.lst 2 [], .lst 4 []]]⟩), (6, ⟨.o (some 41) 0 (.mix [.own 24, .own 25]), 2, [.agg [.lst 2 [], .lst 4 []]]⟩), (23, aAS t p.1.2.2), (24, ⟨33, 2, p.1.2.1.map xS⟩), (25, ⟨86, 4, []⟩)]⟩) (fun p => p.1.1) ⟨(n1, [], s1), b1.2, b1.1, by simpa using b1.2, by simp [e2], by simp [e2]⟩ (by exact qle) ?_
 rintro ⟨⟨k, l, a2, bad⟩, hk, hs2, hl, hp1, hp2⟩
 dsimp only at hk hs2 hl hp1 hp2 ⊢
 conv => whnf
 by_cases hgo : 0 < k ∧ bad = false
 · obtain ⟨hk0, rfl⟩ := hgo
   obtain ⟨k, rfl⟩ : ∃ j, k = j + 1 := ⟨k - 1, by omega⟩
   rw [vJ, if_neg (by simp)] at hp1 hp2
   have c2 := aQe hs2
   have hb2 := aEU hs2
   generalize rdM t (a2, false) = R at c2 hb2 hp1 hp2
   obtain ⟨m, s3'⟩ := R
   dsimp only at c2 hb2 hp1 hp2
   repeat ((refine qz ?_; conv => whnf))
   (refine qdr ?_; conv => whnf)
   repeat ((refine qz ?_; conv => whnf))
   refine vS (wO [23] c2 rfl rfl (by first | exact ⟨rfl, trivial⟩ | exact ⟨rfl, rfl, trivial⟩ | exact ⟨rfl, rfl, rfl, trivial⟩) rfl rfl (by first | exact trivial | exact ⟨⟨rfl, rfl, rfl⟩, trivial⟩ | exact ⟨⟨rfl, rfl, rfl⟩, ⟨rfl, rfl, rfl⟩, trivial⟩ | exact ⟨⟨rfl, rfl, rfl⟩, ⟨rfl, rfl, rfl⟩, ⟨rfl, rfl, rfl⟩, trivial⟩) rfl rfl rfl (.inl rfl) rfl) rfl rfl (fun _ => .inr (.inr (jR (l := 23) (by kernel_rfl) (by kernel_rfl)))) ?_
   conv => whnf
   refine vS (aBz rfl rfl rfl rfl rfl rfl) rfl rfl (fun _ => .inr (.inr (jR (by kernel_rfl) (by kernel_rfl)))) ?_
   conv => whnf
   refine vS (vH (f := xS) (xs := l) m (l ++ [m]) rfl (by omega) rfl rfl rfl rfl rfl rfl rfl) rfl rfl (fun _ => .inr (.inr (aFt (by kernel_rfl) (by kernel_rfl)))) ?_
   conv => whnf
   repeat ((first | refine qp (xC (yU (c := (k : Int)) (by omega) (by omega) (by omega)) rfl rfl rfl) ?_ | refine qz ?_ | refine qr (yJ rfl rfl rfl rfl rfl rfl) ?_); conv => whnf)
   exact ⟨⟨(k, l ++ [m], s3'), by dsimp only; omega, hb2.1, by simp; omega, by simpa using hp1, hp2⟩, by exact qle, by dsimp only; omega⟩
 have hex : vJ t k (a2, bad) = ([], (a2, bad)) := by
  cases k with
  | zero => rfl
  | succ k =>
   have : bad = true := by cases bad; exact absurd ⟨Nat.succ_pos _, rfl⟩ hgo; rfl
   rw [vJ, if_pos this]
 rw [hex] at hp1 hp2
 simp only [List.append_nil] at hp1 hp2
 subst hp1 hp2
 have hcd : k = 0 ∨ (0 < k ∧ bad = true) := by
  rcases Nat.eq_zero_or_pos k with h | h
  · exact .inl h
  · right
    cases bad
    · exact absurd ⟨h, rfl⟩ hgo
    · exact ⟨h, rfl⟩
 rcases hcd with hk0 | ⟨hk0, rfl⟩
 all_goals
  repeat ((first | refine qz ?_ | refine qgV [23] (c3) ?_); conv => whnf)
  refine xZ (ι := { p : Nat × List Rf × Rds // p.1 ≤ 8 ∧ zL t p.2.2 ∧ p.2.1.length + p.1 ≤ 8 ∧ p.2.1 ++ (vK t p.1 p.2.2).1 = RL ∧ (vK t p.1 p.2.2).2 = RS }) (fun p => ⟨[(0, .v (.string t)), (2, .optr 3 0 [] 0), (4, .optr 23 0 [] 0), (5, .optr 6 0 [] 0), (7, .v (.int .i64 (p.1.1 : Int)))], [(3, ⟨.z 41, 2, [.agg [.lst 2 [], .lst 4 []]]⟩), (6, ⟨.o (some 41) 0 (.mix [.own 24, .own 25]), 2, [.agg [.lst 2 [], .lst 4 []]]⟩), (23, aAS t p.1.2.2), (24, ⟨33, 2, l.map xS⟩), (25, ⟨86, 4, p.1.2.1.map yL⟩)]⟩) (fun p => p.1.1) ⟨(n2, [], s3), b3.2, b3.1, by simpa using b3.2, by simp [e4], by simp [e4]⟩ (by exact qle) ?_
  rintro ⟨⟨k', l', a2', bad'⟩, hk', hs2', hl', hp1, hp2⟩
  dsimp only at hk' hs2' hl' hp1 hp2 ⊢
  conv => whnf
  by_cases hgo' : 0 < k' ∧ bad' = false
  · obtain ⟨hk0', rfl⟩ := hgo'
    obtain ⟨k', rfl⟩ : ∃ j, k' = j + 1 := ⟨k' - 1, by omega⟩
    rw [vK, if_neg (by simp)] at hp1 hp2
    have q1 := aNX hs2'
    have w1 := aAR hs2'
    unfold zM at hp1 hp2
    dsimp only at hp1 hp2
    generalize rdW t (a2', false) = R at q1 w1 hp1 hp2
    obtain ⟨nm_, s5⟩ := R
    dsimp only at q1 w1 hp1 hp2
    have q2 := aCh w1
    have w2 := uw w1
    generalize rdN t s5 = R at q2 w2 hp1 hp2
    obtain ⟨vr, s6⟩ := R
    dsimp only at q2 w2 hp1 hp2
    have q3 := aCh w2.1
    have w3 := uw w2.1
    generalize rdN t s6 = R at q3 w3 hp1 hp2
    obtain ⟨hd_, s7⟩ := R
    dsimp only at q3 w3 hp1 hp2
    repeat ((first | refine qz ?_ | refine qgV [23] (q1) ?_ | refine qgV [23] (q2) ?_ | refine qgV [23] (q3) ?_ | refine qst ?_ | refine qp (xC aTa rfl rfl rfl) ?_); conv => whnf)
    refine qr (vH (f := yL) (xs := l') (⟨nm_, (hd_ : Int), (vr : Int), decide ((hd_ : Int) = 0)⟩ : Rf) (l' ++ [(⟨nm_, (hd_ : Int), (vr : Int), decide ((hd_ : Int) = 0)⟩ : Rf)]) rfl (by omega) rfl rfl rfl rfl rfl rfl rfl) ?_
    conv => whnf
    repeat ((first | refine qp (xC (yU (c := (k' : Int)) (by omega) (by omega) (by omega)) rfl rfl rfl) ?_ | refine qz ?_ | refine qr (yJ rfl rfl rfl rfl rfl rfl) ?_); conv => whnf)
    exact ⟨⟨(k', l' ++ [(⟨nm_, (hd_ : Int), (vr : Int), decide ((hd_ : Int) = 0)⟩ : Rf)], s7), by dsimp only; omega, w3.1, by simp; omega, by simpa using hp1, hp2⟩, by exact qle, by dsimp only; omega⟩
  have hex' : vK t k' (a2', bad') = ([], (a2', bad')) := by
   cases k' with
   | zero => rfl
   | succ k' =>
    have : bad' = true := by cases bad'; exact absurd ⟨Nat.succ_pos _, rfl⟩ hgo'; rfl
    rw [vK, if_pos this]
  rw [hex'] at hp1 hp2
  simp only [List.append_nil] at hp1 hp2
  subst hp1 hp2
  have hcd' : k' = 0 ∨ (0 < k' ∧ bad' = true) := by
   rcases Nat.eq_zero_or_pos k' with h | h
   · exact .inl h
   · right
     cases bad'
     · exact absurd ⟨h, rfl⟩ hgo'
     · exact ⟨h, rfl⟩
  rcases hcd' with hk0' | ⟨hk0', rfl⟩
  all_goals
   repeat ((first | refine qz ?_ | refine qgV [23] (c6) ?_); conv => whnf)
   by_cases y1 : bd = true ∨ at_ ≠ t.size
   case pos =>
    rw [if_pos y1, if_neg (by decide)]
    rcases y1 with rfl | y1
    · repeat ((first | refine qz ?_ | refine qst ?_); conv => whnf)
      exact vI rfl rfl rfl rfl trivial rfl
    · cases bd
      all_goals
       repeat ((first | refine qz ?_ | refine qst ?_); conv => whnf)
       exact vI rfl rfl rfl rfl trivial rfl
   rw [if_neg y1]
   have y2 : bd = false := by cases bd; rfl; exact absurd (.inl rfl) y1
   have y3 : at_ = t.size := Decidable.byContradiction fun e => y1 (.inr e)
   clear y1
   subst y2
   by_cases y4 : (sm : Int) ≠ uV (t.extract 0 a2')
   case pos =>
    rw [if_pos y4, if_neg (by decide)]
    repeat ((first | refine qp (aAQ (j := a2') hRS rfl rfl) ?_ | refine qz ?_ | refine qc (c7) ?_ | refine qst ?_); conv => whnf)
    exact vI rfl rfl rfl rfl trivial rfl
   rw [if_neg y4]
   have y5 : (sm : Int) = uV (t.extract 0 a2') := Decidable.byContradiction fun e => y4 e
   clear y4
   cases hB : uL ⟨l, l'⟩
   · rw [hB] at c8
     rw [if_neg (by simp), if_neg (by decide)]
     repeat ((first | refine qp (aAQ (j := a2') hRS rfl rfl) ?_ | refine qz ?_ | refine qc (c7) ?_ | refine qc (c8) ?_ | refine qst ?_); conv => whnf)
     exact vI rfl rfl rfl rfl trivial rfl
   · rw [hB] at c8
     rw [if_pos rfl, if_pos rfl]
     repeat ((first | refine qp (aAQ (j := a2') hRS rfl rfl) ?_ | refine qz ?_ | refine qc (c7) ?_ | refine qc (c8) ?_ | refine qr (yJ rfl rfl rfl rfl rfl rfl) ?_ | refine qst ?_); conv => whnf)
     exact aRf rfl rfl rfl rfl rfl rfl rfl
end Go.Proofs.YtfomjajdfaoogaaGreatDoor.AM
