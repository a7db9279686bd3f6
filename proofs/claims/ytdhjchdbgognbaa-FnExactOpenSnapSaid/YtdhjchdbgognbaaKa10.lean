/- Texts of the machine over data, folded. -/
import Derived.Test.YtdhjchdbgognbaaKa5
import Derived.Test.YtdhjchdbgognbaaKa9
import Derived.Test.YtdhjchdbgognbaaKa6
import Derived.WalkSpells
import Derived.Test.YtdhjchdbgognbaaKa8
set_option linter.unusedVariables false
set_option linter.unusedSimpArgs false
set_option maxRecDepth 100000
namespace Go.Proofs.Ytdhjchdbgognbaa.AM
open Go Go.RowKit
theorem aH5 : Try.prog.underlying 68 = some (.struct (Try.prog.fieldsOf 68)) := by kernel_rfl
theorem aIa : Try.prog.stoodInHeld 68 = false := by kernel_rfl
theorem aDO : Try.prog.eqGuardType Try.prog.depth 68 = false := by kernel_rfl
theorem aHx (a b : ByteArray) (x y u v : Int) (g h : Bool) (w : World) : (Op.equalIn 10000 68 (.agg #[.string a, .int .i64 x, .int .i64 u, .bool g]) (.agg #[.string b, .int .i64 y, .int .i64 v, .bool h])).run Try.prog w = .ok (decide (a = b ∧ x = y ∧ u = v ∧ g = h)) w := by
 have hf := Option.some.inj (aH5.symm.trans Try.underlying68)
 injection hf with hf
 rw [run_equalIn_struct w 9999 _ _ _ aH5 aIa, hf]
 have q0 : ∀ (s : ByteArray) (n m : Int) (c : Bool) (w : World), (part 9 #[.string s, .int .i64 n, .int .i64 m, .bool c] 0).run Try.prog w = .ok (.string s) w := fun s n m c w => rfl
 have q1 : ∀ (s : ByteArray) (n m : Int) (c : Bool) (w : World), (part 3 #[.string s, .int .i64 n, .int .i64 m, .bool c] 1).run Try.prog w = .ok (.int .i64 n) w := fun s n m c w => rfl
 have q2 : ∀ (s : ByteArray) (n m : Int) (c : Bool) (w : World), (part 3 #[.string s, .int .i64 n, .int .i64 m, .bool c] 2).run Try.prog w = .ok (.int .i64 m) w := fun s n m c w => rfl
 have q3 : ∀ (s : ByteArray) (n m : Int) (c : Bool) (w : World), (part 4 #[.string s, .int .i64 n, .int .i64 m, .bool c] 3).run Try.prog w = .ok (.bool c) w := fun s n m c w => rfl
 have r0 := fun a b w => run_equalIn_string (P := Try.prog) w 9998 9 a b Try.underlying9
 have r1 := fun a b w => run_equalIn_int (P := Try.prog) w 9998 3 .i64 .i64 a b Try.underlying3
 have r2 := fun a b w => run_equalIn_bool' (P := Try.prog) w 9998 4 a b Try.underlying4
 by_cases h1 : a = b
 · subst h1
   by_cases h2 : x = y
   · subst h2
     by_cases h3 : u = v
     · subst h3
       cases g <;> cases h <;> simp [Op.eqFields, q0, q1, q2, q3, r0, r1, r2, Result.andThen]
     · simp [Op.eqFields, q0, q1, q2, q3, r0, r1, r2, Result.andThen, h3]
   · simp [Op.eqFields, q0, q1, q2, q3, r0, r1, r2, Result.andThen, h2]
 · simp [Op.eqFields, q0, q1, q2, q3, r0, r1, r2, Result.andThen, vY, h1]
instance : DecidableEq Rf := fun a b => decidable_of_iff _ aCq.symm
theorem aFn {a b : Rf} {x y : Operand} {r : Bool} (h : decide (a ≠ b) = r) : y9 Try.prog .neq 68 x y (.agg #[.string a.name, .int .i64 a.head, .int .i64 a.ver, .bool a.gone]) (.agg #[.string b.name, .int .i64 b.head, .int .i64 b.ver, .bool b.gone]) (.bool r) := fun w => by
 rw [Sem.run_bind, run_eqGuard_agg w _ _ _ _ _ _ aDO, Result.andThen_ok, run_neq_struct, aHx, Result.andThen_ok, ← h]
 have : decide (a.name = b.name ∧ a.head = b.head ∧ a.ver = b.ver ∧ a.gone = b.gone) = decide (a = b) := by
  rw [decide_eq_decide]; exact aCq.symm
 rw [this]
 by_cases e : a = b <;> simp [e]
def aA6 (n : Nat) (l : List Rf) : Bool := l.all fun r => decide (r.head ≤ n)
noncomputable def yB (b : Bas) : Bool := aAN b.store && (kK b.refs && aA6 b.store.length b.refs)
theorem aDP {n : Nat} {l : List Rf} {k : Nat} (h : k < l.length) : aA6 n (l.drop k) = (decide (l[k].head ≤ n) && aA6 n (l.drop (k + 1))) := by
 unfold aA6; rw [List.drop_eq_getElem_cons h, List.all_cons]
structure Bas.ok (b : Bas) (N : Nat) : Prop where
 sm : b.store.length ≤ N
 sc : y5 N b.store
 rm : b.refs.length ≤ N
 rk : aKx N b.refs
def szB (b : Bas) (l : Int) : Int := if zk b.store l < 0 then -1 else if szL rSz b.refs (zk b.store l) < 0 then -1 else szL rSz b.refs (zk b.store l)
attribute [local irreducible] xO xU yD zA zJ Pre ACG
theorem uJ {b : Bas} {l : Int} (hb : b.ok maxLen) (h0 : 0 ≤ l) (h1 : l ≤ 1048576) : AC Try.prog 9 [xX b, .v (.int .i64 l)] ⟨.v (.int .i64 (szB b l)), []⟩ := by
 have z1 := aEL hb.sm hb.sc h0 h1
 unfold szB
 by_cases ha : zk b.store l < 0
 · rw [if_pos ha]
   refine qrf Try.func9 Try.ntmps9 Try.results9 ?_; conv => whnf
   repeat ((first | refine qz ?_ | refine qc (z1) ?_ | refine qst ?_); conv => whnf)
   exact xA rfl trivial
 rw [if_neg ha]
 obtain ⟨z0, _, _⟩ := aDC (by omega : 0 ≤ zk b.store l) h1
 have z2 := aHV (l := zk b.store l) hb.rm hb.rk (by omega) (by omega)
 by_cases hn : szL rSz b.refs (zk b.store l) < 0
 · rw [if_pos hn]
   refine qrf Try.func9 Try.ntmps9 Try.results9 ?_; conv => whnf
   repeat ((first | refine qz ?_ | refine qc (z1) ?_ | refine qc (z2) ?_ | refine qst ?_); conv => whnf)
   exact xA rfl trivial
 · rw [if_neg hn]
   refine qrf Try.func9 Try.ntmps9 Try.results9 ?_; conv => whnf
   repeat ((first | refine qz ?_ | refine qc (z1) ?_ | refine qc (z2) ?_ | refine qst ?_); conv => whnf)
   exact xA rfl trivial
theorem wY {b : Bas} {l : Int} (h : 0 ≤ szB b l) (h1 : l ≤ 1048576) : szB b l ≤ 1048576 ∧ b.store.length ≤ 1048576 ∧ y5 1048576 b.store ∧ b.refs.length ≤ 1048576 := by
 unfold szB at h ⊢
 by_cases ha : zk b.store l < 0
 · rw [if_pos ha] at h; omega
 rw [if_neg ha] at h ⊢
 obtain ⟨z0, z1, z2⟩ := aDC (by omega : 0 ≤ zk b.store l) h1
 by_cases hn : szL rSz b.refs (zk b.store l) < 0
 · rw [if_pos hn] at h; omega
 rw [if_neg hn] at h ⊢
 obtain ⟨k1, k2, _⟩ := aIJ h
 exact ⟨by omega, z1, z2, by omega⟩
theorem vC {b : Bas} (hm : b.store.length ≤ 1048576) (hc : y5 1048576 b.store) (hr : b.refs.length ≤ 1048576) : AC Try.prog 11 [xX b] ⟨xX b, []⟩ := by
 have h1 := aEO hm (fun c h => ⟨(hc c h).1, (hc c h).2.1⟩)
 have h2 := aDA hr
 refine qrf Try.func11 Try.ntmps11 Try.results11 ?_; conv => whnf
 repeat (first | (refine qz ?_; conv => whnf) | (refine qf (h1) ?_; conv => whnf) | (refine qf (h2) ?_; conv => whnf) | (refine qr (aD1 rfl rfl rfl rfl rfl rfl rfl rfl) ?_; conv => whnf) | (refine qr (yQ rfl rfl rfl rfl rfl (by conv => lhs; whnf) rfl) ?_; conv => whnf))
 exact aBF (x := xX b) rfl rfl rfl rfl trivial
theorem vB {b : Bas} (hb : b.ok maxLen) : AC Try.prog 14 [xX b, xX b] ⟨.v (.bool true), []⟩ := by
 have h1 := aEC hb.sm (fun c h => ⟨(hb.sc c h).1, (hb.sc c h).2.1⟩)
 have h2 := aHK hb.rm
 refine qrf Try.func14 Try.ntmps14 Try.results14 ?_; conv => whnf
 repeat ((first | refine qz ?_ | refine qc (h1) ?_ | refine qc (h2) ?_ | refine qst ?_); conv => whnf)
 exact xA rfl trivial
set_option maxHeartbeats 1000000 in
theorem jA {b : Bas} (hb : b.ok maxLen) : AC Try.prog 40 [xX b] ⟨.v (.bool (yB b)), []⟩ := by
 have h1 := aFU hb.sm hb.sc
 have h2 := aGX hb.rm hb.rk
 have hm := hb.rm
 have hm2 := hb.sm
 unfold maxLen at hm hm2
 unfold yB
 generalize aAN b.store = x at h1
 generalize kK b.refs = y at h2
 cases x
 case false =>
  refine qrf Try.func40 Try.ntmps40 Try.results40 ?_; conv => whnf
  repeat ((first | refine qz ?_ | refine qc (h1) ?_ | refine qc (h2) ?_); conv => whnf)
  exact xA rfl trivial
 cases y
 case false =>
  refine qrf Try.func40 Try.ntmps40 Try.results40 ?_; conv => whnf
  repeat ((first | refine qz ?_ | refine qc (h1) ?_ | refine qc (h2) ?_); conv => whnf)
  exact xA rfl trivial
 rw [Bool.true_and, Bool.true_and]
 refine qrf Try.func40 Try.ntmps40 Try.results40 ?_; conv => whnf
 repeat ((first | refine qz ?_ | refine qc (h1) ?_ | refine qc (h2) ?_); conv => whnf)
 refine xu (ι := { k : Nat // k ≤ b.refs.length ∧ aA6 b.store.length (b.refs.drop k) = aA6 b.store.length b.refs }) (fun k => ⟨[(1, .optr 2 0 [] 0), (16, .lst 4 (b.refs.map xS)), (17, .v (.int .i64 (b.refs.length : Int))), (18, .v (.int .i64 (k.1 : Int)))], [(2, ⟨34, 2, [xX b]⟩)]⟩) (fun k => b.refs.length - k.1) ⟨0, Nat.zero_le _, rfl⟩ (by exact qle) ?_
 rintro ⟨k, hk, hd⟩
 dsimp only at hk hd ⊢
 conv => whnf
 by_cases hlt : k < b.refs.length
 · rw [aDP hlt] at hd
   by_cases he : b.refs[k].head ≤ b.store.length
   · rw [decide_eq_true he, Bool.true_and] at hd
     repeat ((first | refine qz ?_ | refine qst ?_); conv => whnf)
     exact ⟨⟨k + 1, hlt, hd⟩, by exact qle, by simp; omega⟩
   · rw [decide_eq_false he, Bool.false_and] at hd
     rw [← hd]
     repeat ((first | refine qz ?_ | refine qst ?_); conv => whnf)
     exact xA rfl trivial
 · rw [← hd, List.drop_eq_nil_of_le (by omega)]
   repeat ((refine qz ?_; conv => whnf))
   exact xA rfl trivial
set_option maxHeartbeats 1000000 in
theorem wD {b : Bas} (hb : b.ok maxLen) : AC Try.prog 36 [xX b] ⟨.v (.bool (yB b)), []⟩ := by
 have h1 := aIS hb.sm hb.sc
 have h2 := aIT hb.rm hb.rk
 have hm := hb.rm
 have hm2 := hb.sm
 unfold maxLen at hm hm2
 unfold yB
 generalize aAN b.store = x at h1
 generalize kK b.refs = y at h2
 cases x
 case false =>
  refine qrf Try.func36 Try.ntmps36 Try.results36 ?_; conv => whnf
  repeat ((first | refine qz ?_ | refine qc (h1) ?_ | refine qc (h2) ?_); conv => whnf)
  exact xA rfl trivial
 cases y
 case false =>
  refine qrf Try.func36 Try.ntmps36 Try.results36 ?_; conv => whnf
  repeat ((first | refine qz ?_ | refine qc (h1) ?_ | refine qc (h2) ?_); conv => whnf)
  exact xA rfl trivial
 rw [Bool.true_and, Bool.true_and]
 refine qrf Try.func36 Try.ntmps36 Try.results36 ?_; conv => whnf
 repeat ((first | refine qz ?_ | refine qc (h1) ?_ | refine qc (h2) ?_); conv => whnf)
 refine xu (ι := { k : Nat // k ≤ b.refs.length ∧ aA6 b.store.length (b.refs.drop k) = aA6 b.store.length b.refs }) (fun k => ⟨[(1, .optr 2 0 [] 0), (3, .v (.int .i64 (k.1 : Int)))], [(2, ⟨34, 2, [xX b]⟩)]⟩) (fun k => b.refs.length - k.1) ⟨0, Nat.zero_le _, rfl⟩ (by exact qle) ?_
 rintro ⟨k, hk, hd⟩
 dsimp only at hk hd ⊢
 conv => whnf
 by_cases hlt : k < b.refs.length
 · rw [aDP hlt] at hd
   by_cases he : b.refs[k].head ≤ b.store.length
   · rw [decide_eq_true he, Bool.true_and] at hd
     repeat ((refine qz ?_; conv => whnf))
     refine .inl ⟨by kernel_rfl, ?_⟩
     conv => whnf
     repeat ((first | refine qz ?_ | refine qst ?_); conv => whnf)
     exact ⟨⟨k + 1, hlt, hd⟩, by exact qle, by simp; omega⟩
   · rw [decide_eq_false he, Bool.false_and] at hd
     rw [← hd]
     repeat ((refine qz ?_; conv => whnf))
     refine .inl ⟨by kernel_rfl, ?_⟩
     conv => whnf
     repeat ((first | refine qz ?_ | refine qst ?_); conv => whnf)
     exact xA rfl trivial
 · rw [← hd, List.drop_eq_nil_of_le (by omega)]
   repeat ((refine qz ?_; conv => whnf))
   exact xA rfl trivial
theorem aJK {a b : Bas} : a = b ↔ a.store = b.store ∧ a.refs = b.refs := by cases a; cases b; simp
instance : DecidableEq Bas := fun a b => decidable_of_iff _ aJK.symm
end Go.Proofs.Ytdhjchdbgognbaa.AM
namespace Go.Proofs.Ytdhjchdbgognbaa.AM
open Go Go.RowKit
def aGa (ops : Array Oper) (k : Nat) (s : St) (ls : List Nat) : Bool :=
 (List.range ops.size).all fun j => Nat.beq j k || (vJ ops j k || (match ops[j]? with
  | some o => (tmpsOf o).all fun t => ((List.range ops.size).any fun j' => match (ops[j']?).bind (·.dst) with
   | some t' => Nat.beq t' t && (!(Nat.blt j' k) && !(aA8 ops j'))
   | none => false) || ls.all fun l => !((s.sl t).names l)
  | none => true))
theorem aI2 {ops : Array Oper} {k : Nat} {s : St} {ls : List Nat} (h : aGa ops k s ls = true) : ∀ j o, ops[j]? = some o → j ≠ k → vJ ops j k = false → ∀ t, t ∈ tmpsOf o → (∀ j' o', ops[j']? = some o' → o'.dst = some t → Nat.blt j' k = true ∨ aA8 ops j' = true) → ∀ l ∈ ls, (s.sl t).names l = false := by
 intro j o hj hne hor t ht hL l hl
 have h1 := List.all_eq_true.1 h j (List.mem_range.2 (Array.getElem?_eq_some_iff.1 hj).1)
 simp only [xg hne, hor, Bool.false_or, hj] at h1
 have h2 := List.all_eq_true.1 h1 t ht
 rw [Bool.or_eq_true] at h2
 rcases h2 with h2 | h2
 · obtain ⟨j', hj', h3⟩ := List.any_eq_true.1 h2
   cases ho' : ops[j']? with
   | none => rw [ho'] at h3; cases h3
   | some o' =>
    rw [ho'] at h3
    cases hd : o'.dst with
    | none => simp only [Option.bind_some, hd] at h3; cases h3
    | some t' =>
     simp only [Option.bind_some, hd, Bool.and_eq_true, Bool.not_eq_true'] at h3
     have : t' = t := Nat.eq_of_beq_eq_true h3.1
     subst this
     rcases hL j' o' ho' hd with h4 | h4 <;> rw [h4] at h3 <;> simp at h3
 · have := List.all_eq_true.1 h2 l hl
   simpa using this
theorem aH0 {ops : Array Oper} {k : Nat} {s : St} {ls : List Nat} (h : aGa ops k s ls = true) : ∀ j o, ops[j]? = some o → j ≠ k → vJ ops j k = false → ∀ t, t ∈ tmpsOf o → (∀ j' o', ops[j']? = some o' → o'.dst = some t → Nat.blt j' k = true) → ∀ l ∈ ls, (s.sl t).names l = false :=
 fun j o h1 h2 h3 t ht hL => aI2 h j o h1 h2 h3 t ht fun j' o' a b => .inl (hL j' o' a b)
section
variable {Θ : Tab} {ops : Array Oper} {k : Nat} {s : St}
theorem aFE {l : Nat} {o : Option OB} {v : AV} (hs : soft Θ ops true k = true) (hc : aGa ops k s [l] = true) : vN Θ ops (fun j => Nat.blt j k) k s ⟨v, some fun s' => s'.set l o⟩ :=
 ⟨true, [l], _, id, fun hp j => bif Nat.beq j l then o else hp j, fun mp j => bif Nat.beq j l then none else mp j, rfl, hs, fun s => rfl, fun x _ => rfl, fun _ => ⟨fun x => rfl, fun hp j hj => by
  have : j ≠ l := by simpa using hj
  show (bif Nat.beq j l then o else hp j) = hp j
  rw [xg this]; rfl⟩, aH0 hc⟩
end
section
variable {P : Program} {Θ : Tab} {s : St} {ty : TypeId} {pos : String} {after : Array Edge} {g : Option (Nat × Bool)}
end
mutual
def qC : AV → List Nat
 | .own l => [l]
 | .optr l _ _ _ => [l]
 | .mapv l => [l]
 | .tup xs => aAD xs
 | .mix xs => aAD xs
 | .fn _ xs ys => aAD xs ++ aAD ys
 | .ifc _ x => qC x
 | _ => []
def aAD : List AV → List Nat
 | [] => []
 | x :: xs => qC x ++ aAD xs
end
mutual
theorem aCO {l : Nat} : ∀ x : AV, x.names l = true → l ∈ qC x
 | .own l', h => by simp only [AV.names] at h; simp [qC, Nat.eq_of_beq_eq_true h]
 | .optr l' _ _ _, h => by simp only [AV.names] at h; simp [qC, Nat.eq_of_beq_eq_true h]
 | .mapv l', h => by simp only [AV.names] at h; simp [qC, Nat.eq_of_beq_eq_true h]
 | .tup xs, h => by simp only [AV.names] at h; unfold qC; exact ve xs h
 | .mix xs, h => by simp only [AV.names] at h; unfold qC; exact ve xs h
 | .fn _ xs ys, h => by
  simp only [AV.names, Bool.or_eq_true] at h; unfold qC
  exact List.mem_append.2 (h.imp (ve xs) (ve ys))
 | .ifc _ x, h => by simp only [AV.names] at h; unfold qC; exact aCO x h
 | .any, h => by simp [AV.names] at h
 | .v _, h => by simp [AV.names] at h
 | .agg _, h => by simp [AV.names] at h
 | .lst _ _, h => by simp [AV.names] at h
 | .ptr _, h => by simp [AV.names] at h
 | .rd _, h => by simp [AV.names] at h
theorem ve {l : Nat} : ∀ xs : List AV, xK l xs = true → l ∈ aAD xs
 | [], h => by simp [xK] at h
 | x :: xs, h => by
  simp only [xK, Bool.or_eq_true] at h; unfold aAD
  exact List.mem_append.2 (h.imp (aCO x) (ve xs))
end
section
variable {P : Program} {Θ : Tab} {n : Nat} {ops : Array Oper} {k : Nat} {s : St} {o : Oper} {u : AV} {ks : List Nat} {nu : List (Nat × Option OB)}
end
abbrev wV (x : AV) : Bool := x.within (fun _ => false)
mutual
theorem aDD (s s' : St) : ∀ x : AV, wV x = true → s'.dat x = s.dat x
 | .own l, h => by simp [wV, AV.within] at h
 | .optr l _ _ _, h => by simp [wV, AV.within] at h
 | .mix xs, h => by unfold St.dat; rw [aBv s s' xs (by simpa [wV, AV.within] using h)]
 | .ifc t x, h => by unfold St.dat; rw [aDD s s' x (by simpa [wV, AV.within] using h)]
 | .mapv l, h => by simp [wV, AV.within] at h
 | .tup xs, h => by simp [St.dat]
 | .fn _ xs ys, h => by simp [St.dat]
 | .any, h => by simp [St.dat]
 | .v _, h => by simp [St.dat]
 | .agg _, h => by simp [St.dat]
 | .lst _ _, h => by simp [St.dat]
 | .ptr _, h => by simp [St.dat]
 | .rd _, h => by simp [St.dat]
theorem aBv (s s' : St) : ∀ xs : List AV, xq (fun _ => false) xs = true → s'.datL xs = s.datL xs
 | [], _ => by simp [St.datL]
 | x :: xs, h => by
  simp only [xq, Bool.and_eq_true] at h
  simp only [St.datL]; rw [aDD s s' x h.1, aBv s s' xs h.2]
end
mutual
theorem aE1 (s s' : St) : ∀ x : AV, wV x = true → xH s' x = xH s x
 | .own l, h => by simp [wV, AV.within] at h
 | .optr l _ _ _, h => by simp [wV, AV.within] at h
 | .mix xs, h => by unfold xH; rw [aAQ s s' xs (by simpa [wV, AV.within] using h)]
 | .ifc t x, h => by simp [xH]
 | .mapv l, h => by simp [wV, AV.within] at h
 | .tup xs, h => by simp [xH]
 | .fn _ xs ys, h => by simp [xH]
 | .any, h => by simp [xH]
 | .v _, h => by simp [xH]
 | .agg _, h => by simp [xH]
 | .lst _ _, h => by simp [xH]
 | .ptr _, h => by simp [xH]
 | .rd _, h => by simp [xH]
theorem aAQ (s s' : St) : ∀ xs : List AV, xq (fun _ => false) xs = true → zT s' xs = zT s xs
 | [], _ => by simp [zT]
 | x :: xs, h => by
  simp only [xq, Bool.and_eq_true] at h
  simp only [zT]; rw [aE1 s s' x h.1, aAQ s s' xs h.2]
end
section
variable {P : Program} {Θ : Tab} {s : St} {ty : TypeId} {pos : String} {after : Array Edge} {g : Option (Nat × Bool)}
end
section
variable {P : Program} {Θ : Tab} {s : St} {ty : TypeId} {pos : String} {after : Array Edge} {g : Option (Nat × Bool)}
end
section
variable {P : Program} {Θ : Tab} {s : St} {ty : TypeId} {pos : String} {after : Array Edge} {g : Option (Nat × Bool)}
end
mutual
theorem aFr {s s' : St} : ∀ x : AV, (∀ l, x.names l = true → s'.hp l = s.hp l) → s'.dat x = s.dat x ∧ xH s' x = xH s x
 | .own l, h => by
  have := h l (by simp [AV.names])
  simp only [St.dat, xH, this, and_self]
 | .optr l i p c, h => by
  have := h l (by simp [AV.names])
  simp only [St.dat, xH, this, and_self]
 | .mix xs, h => by
  obtain ⟨h1, h2⟩ := aES xs (fun l hl => h l (by simpa [AV.names] using hl))
  simp only [St.dat, xH, h1, h2, and_self]
 | .ifc t x, h => by
  obtain ⟨h1, _⟩ := aFr x (fun l hl => h l (by simpa [AV.names] using hl))
  simp only [St.dat, xH, h1, and_self]
 | .rd x, _ => ⟨rfl, rfl⟩
 | .any, _ => ⟨rfl, rfl⟩
 | .v _, _ => ⟨rfl, rfl⟩
 | .agg _, _ => ⟨rfl, rfl⟩
 | .lst _ _, _ => ⟨rfl, rfl⟩
 | .ptr _, _ => ⟨rfl, rfl⟩
 | .tup _, _ => ⟨rfl, rfl⟩
 | .mapv _, _ => ⟨rfl, rfl⟩
 | .fn _ _ _, _ => ⟨rfl, rfl⟩
theorem aES {s s' : St} : ∀ xs : List AV, (∀ l, xK l xs = true → s'.hp l = s.hp l) → s'.datL xs = s.datL xs ∧ zT s' xs = zT s xs
 | [], _ => ⟨rfl, rfl⟩
 | x :: xs, h => by
  obtain ⟨h1, h2⟩ := aFr x (fun l hl => h l (by simp [xK, hl]))
  obtain ⟨h3, h4⟩ := aES xs (fun l hl => h l (by simp [xK, hl]))
  simp only [St.datL, zT, h1, h2, h3, h4, and_self]
end
section
variable {P : Program} {Θ : Tab} {s : St} {ty : TypeId} {pos : String} {after : Array Edge} {g : Option (Nat × Bool)}
end
section
variable {P : Program} {Θ : Tab} {s : St} {ty : TypeId} {pos : String} {after : Array Edge} {g : Option (Nat × Bool)}
end
end Go.Proofs.Ytdhjchdbgognbaa.AM
namespace Go.Proofs.Ytdhjchdbgognbaa
open Go.RowKit
end Go.Proofs.Ytdhjchdbgognbaa
namespace Go.Proofs.Ytdhjchdbgognbaa
open Go Go.RowKit
end Go.Proofs.Ytdhjchdbgognbaa
namespace Go.Proofs.Ytdhjchdbgognbaa.AM
open Go Go.RowKit
section
variable {w : World}
end
section
variable {P : Program} {Θ : Tab} {s : St} {ty : TypeId} {pos : String} {after : Array Edge} {g : Option (Nat × Bool)}
theorem aAe {d : Option Tmp} {t : TypeId} {x y : Operand} {l i c : Nat} {p : List Nat} {ob : OB} {q z v : AV} (hq : ob.xs[i]? = some q) (hx : s.ev x = .optr l i p c) (ho : s.hp l = some ob) (hg : xN q p 0 = some (z, c)) (hs : ((Θ.look t).known && (Nat.beq (asz z) (Θ.look t).size && Nat.beq (asz v) (asz z))) = true) (hy : s.ev y = v) (hv : yo v = true) (hd : ob.e.deep = true := by rfl) (hc : cOK y = true := by rfl) :
 Pre P Θ ⟨d, .store t x y, ty, pos, after, g⟩ s ⟨.any, some fun s' => s'.set l (some ⟨ob.e, ob.sz, ob.xs.set i (zi q p v)⟩)⟩ := by
 simp only [Bool.and_eq_true] at hs
 exact ⟨uW hc, hs.1, l, i, p, c, ob, hx, ho, .inr (.inr (.inl ⟨q, z, v, hd, hq, hg, Nat.eq_of_beq_eq_true hs.2.1, hy, hv, Nat.eq_of_beq_eq_true hs.2.2, rfl⟩))⟩
theorem qP {d : Option Tmp} {x : Operand} {t : TypeId} {l m : Nat} {ob : OB} (hx : s.ev x = .own l) (ho : s.hp l = some ob) (hm : ob.xs.length = m) (hok : ∃ e sz b z, Θ.look t = .slice e sz b z) : Pre P Θ ⟨d, .call ⟨.builtin .len, #[x], #[t]⟩, ty, pos, after, g⟩ s ⟨.v (.int .i64 (m : Int)), none⟩ :=
 aDy hx (by simp [wU, ho, hm]) hok
theorem aGy (hΘ : yJ P Θ) (hm : P.follows .mixedOrders = true) {f : FuncId} {fn : Func} {c : Code} {n r : Nat} (hf : P.funcs[f]? = some fn) (hb : fn.body = some c) (hnt : fn.ntmps = n) (hrs : fn.results = #[.tmp r]) (hnm : (fn.name == "runtime.NumGoroutine") = false)
 {args : List AV} {ob : OB} {xs' : List AV} {v : Value} (hlen : Nat.ble (args.length + 1) n = true) (h : kg P Θ n c (zJ r ob.e ob.sz xs' v) (St.initM ob args)) (hsh : ob.e.shut = true := by rfl) : ACM P f ob xs' args v := by
 have hw : ∀ (e : ET) (p : Nat → Bool), e.shut = true → zV p e = true := fun e p h => by cases e <;> first | rfl | cases h
 refine aBo (rs := [.tmp r]) hΘ hm hf hb hnt (by rw [hrs]) hnm (Nat.le_of_ble_eq_true hlen) rfl ?_ (jB _ _ (fun e s he => ?_) (zO _ _ _ h))
 · simp only [List.all_cons, List.all_nil, hw _ _ hsh]; rfl
 · have key : (s.sl r = .v v ∧ s.hp 0 = some ⟨ob.e, ob.sz, xs'⟩) → Ret Θ [.tmp r] [⟨ob.e, ob.sz, xs'⟩] ⟨.v v, []⟩ s := fun ⟨h1, h2⟩ => ⟨⟨h2, trivial⟩, [], by simp, trivial, ⟨trivial, trivial⟩, trivial, ⟨.inl ⟨h1, rfl⟩, trivial⟩⟩
   cases e with
   | normal => exact key he
   | ret => exact key he
   | exit id => exact he.elim
theorem aGD {a t l l1 l2 : Nat} {ob o1 o2 : OB} {t' : Option Nat} {Θ : Tab} (h1 : s.sl a = .optr l 0 [] 0) (ho : s.hp l = some ob) (hop : ob.e.open_ = false) (hoe : yE ob.e ob.xs 0 = some (.o t' 0 (.mix [.own l1, .own l2]))) (ho1 : s.hp l1 = some o1) (ho2 : s.hp l2 = some o2) (hn : Nat.beq l1 l2 = false) (hk : ((Θ.look t).known && (Θ.look t).isAgg && Nat.beq 2 (Θ.look t).size) = true) (hok1 : okL l1 = true := by rfl) (hok2 : okL l2 = true := by rfl) (hs1 : o1.e.shut = true := by rfl) (hs2 : o2.e.shut = true := by rfl) :
 qb Θ [.cell a t] ⟨.mix [.own 0, .own 1], [o1, o2]⟩ .ret s := by
 have hr : rvA s (.cell a t) = .mix [.own l1, .own l2] := by
  simp only [rvA, h1, ho, hop, hoe, cond_false]; rfl
 simp only [Bool.and_eq_true] at hk
 have hne : l1 ≠ l2 := fun e => by rw [e] at hn; simp at hn
 refine ⟨trivial, [l1, l2], by simp [hne], ⟨⟨ho1, hok1, hs1⟩, ⟨ho2, hok2, hs2⟩, trivial⟩, ⟨⟨hk.1.1, by rw [hr]; exact hk.1.2.symm, by rw [hr]; exact Nat.eq_of_beq_eq_true hk.2, .inl ⟨l, ob, _, h1, ho, .inr ⟨hop, _, _, hoe, rfl⟩⟩⟩, trivial⟩, trivial, ⟨.inl ⟨?_, rfl⟩, trivial⟩⟩
 rw [hr]; rfl
end
theorem aJY {l : List Int} : ∀ x ∈ l.map yC, yo x = true := fun x hx => by obtain ⟨_, _, rfl⟩ := List.mem_map.1 hx; rfl
theorem aJX {l : List Ent} : ∀ x ∈ l.map xD, yo x = true := fun x hx => by obtain ⟨_, _, rfl⟩ := List.mem_map.1 hx; rfl
def yj : Nat → Int → List Int
 | 0, _ => []
 | n + 1, k => k :: yj n (k + 1)
theorem vT : ∀ (n : Nat) (k : Int), (yj n k).length = n
 | 0, _ => rfl
 | n + 1, k => by simp [yj, vT n (k + 1)]
theorem aA9 : ∀ (n : Nat) (k : Int), yj (n + 1) k = yj n k ++ [k + n]
 | 0, k => by simp [yj]
 | n + 1, k => by
  rw [yj, aA9 n (k + 1), yj]
  have e : k + 1 + (n : Int) = k + ((n + 1 : Nat) : Int) := by omega
  rw [e]; rfl
def aC3 (c : Cmt) (k : Int) : Int := k + c.1.length + 2 * c.2.length
def aDu (c : Cmt) (k : Int) : Cmt := (yj c.1.length k, marked c.2.length (k + c.1.length))
def kA : List Cmt → Int → Int
 | [], k => k
 | c :: cs, k => kA cs (aC3 c k)
def y8 : List Cmt → Int → List Cmt
 | [], _ => []
 | c :: cs, k => aDu c k :: y8 cs (aC3 c k)
theorem aH8 : ∀ (a b : List Cmt) (k : Int), kA (a ++ b) k = kA b (kA a k)
 | [], b, k => rfl
 | c :: a, b, k => by simp only [List.cons_append, kA]; exact aH8 a b _
theorem aBY : ∀ (a b : List Cmt) (k : Int), y8 (a ++ b) k = y8 a k ++ y8 b (kA a k)
 | [], b, k => rfl
 | c :: a, b, k => by simp only [List.cons_append, y8, kA]; rw [aBY a b _]
theorem qN : ∀ (l : List Cmt) (k : Int), (y8 l k).length = l.length
 | [], _ => rfl
 | c :: l, k => by simp [y8, qN l _]
theorem aEf {l : List Cmt} {i : Nat} {k : Int} (h : i < l.length) : y8 (l.take (i + 1)) k = y8 (l.take i) k ++ [aDu l[i] (kA (l.take i) k)] := by
 rw [List.take_succ_eq_append_getElem h, aBY]; rfl
theorem aJW {l : List Cmt} {i : Nat} {k : Int} (h : i < l.length) : kA (l.take (i + 1)) k = aC3 l[i] (kA (l.take i) k) := by
 rw [List.take_succ_eq_append_getElem h, aH8]; rfl
def u7 : List Cmt → Nat
 | [] => 0
 | c :: cs => c.1.length + c.2.length + u7 cs
theorem aDc : ∀ (l : List Cmt) (i : Nat), u7 (l.take i) ≤ u7 l
 | [], i => by simp [u7]
 | c :: l, 0 => by simp [u7]
 | c :: l, i + 1 => by have := aDc l i; simp only [List.take_succ_cons, u7]; omega
theorem aGP : ∀ (l : List Cmt) (i : Nat) (h : i < l.length), l[i].1.length + l[i].2.length ≤ u7 l
 | c :: l, 0, h => by simp [u7]
 | c :: l, i + 1, h => by have := aGP l i (by simpa using h); simp only [List.getElem_cons_succ, u7]; omega
theorem aDt : ∀ (l : List Cmt) (k : Int), k ≤ kA l k ∧ kA l k ≤ k + 2 * u7 l
 | [], k => by simp [kA, u7]
 | c :: l, k => by
  have := aDt l (aC3 c k)
  simp only [kA, u7]
  unfold aC3 at *
  omega
theorem aJc {c : Cmt} {l : Int} (h : 0 ≤ szC c l) : szC c l ≤ l - c.1.length - c.2.length := by
 unfold szC at h ⊢
 by_cases h1 : szI c.1.length l < 0
 · rw [if_pos h1] at h; omega
 · rw [if_neg h1] at h ⊢
   by_cases h2 : szL eSz c.2 (szI c.1.length l) < 0
   · rw [if_pos h2] at h; omega
   · rw [if_neg h2] at h ⊢
     have h3 : szI c.1.length l = l - c.1.length := by unfold szI at h1 ⊢; split <;> rename_i hh <;> simp_all
     rw [h3] at h h2 ⊢
     unfold szL at h ⊢
     split at h
     · omega
     · rename_i hn
       rw [if_neg hn]
       have := (aC6 h).1
       omega
attribute [local irreducible] xO xU yD zA zJ Pre ACG
theorem aEN {c : Cmt} (hm : c.1.length ≤ 1048576) (hm2 : c.2.length ≤ 1048576) : AC Try.prog 68 [xL c] ⟨.mix [.own 0, .own 1], [⟨3, 1, c.1.map yC⟩, ⟨88, 2, c.2.map xD⟩]⟩ := by
 refine qrf Try.func68 Try.ntmps68 Try.results68 ?_; conv => whnf
 repeat ((first | refine qz ?_ | refine qc (aCz hm) ?_ | refine qc (aBP hm2) ?_ | refine qr (kR rfl rfl rfl rfl rfl rfl) ?_); conv => whnf)
 exact aGD rfl rfl rfl rfl rfl rfl rfl rfl
theorem aDk {l : List Cmt} (hm : l.length ≤ 1048576) (hc : ∀ c ∈ l, c.1.length ≤ 1048576 ∧ c.2.length ≤ 1048576) : AC Try.prog 38 [.lst 2 (l.map xL)] ⟨.own 0, [⟨.d 83, 2, l.map xL⟩]⟩ := by
 refine qrf Try.func38 Try.ntmps38 Try.results38 ?_; conv => whnf
 repeat (first | (refine qz ?_; conv => whnf) | (refine aEt (aCS (n := l.length) (by omega) (by omega) (by simp; rfl) (by simp; rfl) rfl rfl) rfl rfl (fun e => by cases e) (Gh.z2d 8 rfl (Gh.done ?_)); conv => whnf))
 have hrow : List.replicate l.length (AV.agg [.lst 1 [], .lst 2 []]) = (l.take 0 ++ List.replicate (l.length - 0) jw).map xL := by simp [xL]
 refine xu (ι := { k : Nat // k ≤ l.length }) (fun k => ⟨[(0, .lst 2 (l.map xL)), (3, .own 8), (4, .v (.int .i64 (k.1 : Int)))], [(8, ⟨.d 83, 2, (l.take k.1 ++ List.replicate (l.length - k.1) jw).map xL⟩)]⟩) (fun k => l.length - k.1) ⟨0, Nat.zero_le _⟩ ⟨⟨congrArg (fun x => some (OB.mk _ _ x)) hrow, trivial⟩, .inl ⟨rfl, rfl⟩, .inl ⟨rfl, rfl⟩, .inl ⟨rfl, rfl⟩, trivial⟩ ?_
 rintro ⟨k, hk⟩
 dsimp only
 conv => whnf
 by_cases hlt : k < l.length
 · obtain ⟨q1, q2⟩ := hc _ (List.getElem_mem hlt)
   have hlt2 : k < (l.take k ++ List.replicate (l.length - k) jw).length := by simp; omega
   have hset := congrArg (List.map xL) (qw l jw k hlt)
   rw [List.map_set] at hset
   have hopn : yE (.d 83) ((l.take k ++ List.replicate (l.length - k) jw).map xL) k = some (.o (some 83) k (xL (l.take k ++ List.replicate (l.length - k) jw)[k])) := by
    simp only [yE, jS xL hlt2]
   repeat ((first | refine qz ?_ | refine qc (aEN q1 q2) ?_ | refine qp (vk (by simpa using hlt2) rfl rfl rfl rfl rfl) ?_); conv => whnf)
   refine aEt (kR rfl rfl hopn rfl rfl rfl) rfl rfl (fun e => by cases e) (Gh.s2d 21 rfl aJY (Gh.s2d 1021 rfl aJX (Gh.fold 8 21 [0] rfl rfl rfl rfl rfl rfl (Gh.fold 8 1021 [1] rfl rfl rfl rfl rfl rfl (Gh.shut 8 (z := .agg [.lst 1 [], .lst 2 []]) (y' := xL l[k]) rfl rfl (Gh.done ?_))))))
   conv => whnf
   repeat ((refine qz ?_; conv => whnf))
   exact ⟨⟨k + 1, hlt⟩, ⟨⟨congrArg (fun x => some (OB.mk _ _ x)) hset, trivial⟩, .inl ⟨rfl, rfl⟩, .inl ⟨rfl, rfl⟩, .inl ⟨rfl, rfl⟩, trivial⟩, by simp; omega⟩
 · have hkk : k = l.length := by omega
   subst hkk
   repeat ((refine qz ?_; conv => whnf))
   exact aCV rfl (by show some (OB.mk _ _ _) = _; rw [List.take_length, Nat.sub_self, List.replicate_zero, List.append_nil])
theorem aFY {l : List Int} {k0 : Int} (hm : l.length ≤ 1048600) (h0 : 0 ≤ k0) (h1 : k0 ≤ 8388608) : ACM Try.prog 87 ⟨.u, 1, l.map yC⟩ ((yj l.length k0).map yC) [.v (.int .i64 k0)] (.int .i64 (k0 + l.length)) := by
 refine aGy aAn (by kernel_rfl) Try.func87 rfl Try.ntmps87 Try.results87 (by kernel_rfl) rfl ?_
 conv => whnf
 refine xu (ι := { k : Nat // k ≤ l.length }) (fun k => ⟨[(0, .own 0), (1, .v (.int .i64 (k0 + (k.1 : Int)))), (5, .v (.int .i64 (k.1 : Int)))], [(0, ⟨.u, 1, (yj k.1 k0 ++ l.drop k.1).map yC⟩)]⟩) (fun k => l.length - k.1) ⟨0, Nat.zero_le _⟩ (by
  refine ⟨⟨rfl, trivial⟩, .inl ⟨rfl, rfl⟩, .inl ⟨?_, rfl⟩, .inl ⟨rfl, rfl⟩, trivial⟩
  show AV.v (.int .i64 k0) = _
  simp) ?_
 rintro ⟨k, hk⟩
 dsimp only
 have hml : (yj k k0 ++ l.drop k).length = l.length := by simp [vT]; omega
 have hml2 : ((yj k k0 ++ l.drop k).map yC).length = l.length := by rw [List.length_map]; exact hml
 conv => whnf
 by_cases hlt : k < l.length
 · have hlt' : k < (yj k k0 ++ l.drop k).length := by omega
   have hset : (yj k k0 ++ l.drop k).set k (k0 + k) = yj (k + 1) k0 ++ l.drop (k + 1) := by
    rw [List.set_append_right _ _ (by rw [vT]; exact Nat.le_refl _), vT, Nat.sub_self, List.drop_eq_getElem_cons hlt, List.set_cons_zero, aA9, List.append_assoc]; rfl
   have hset' : ((yj k k0 ++ l.drop k).map yC).set k (yC (k0 + k)) = (yj (k + 1) k0 ++ l.drop (k + 1)).map yC := by rw [← List.map_set, hset]
   repeat ((first | refine qp (qP (m := l.length) rfl rfl hml2 ⟨_, _, _, _, rfl⟩) ?_ | refine qz ?_ | refine qp (vk (by simpa using hlt') rfl rfl rfl rfl rfl) ?_ | refine qr (aAe (jS _ hlt') rfl rfl rfl rfl rfl rfl) ?_); conv => whnf)
   refine ⟨⟨k + 1, hlt⟩, ⟨⟨?_, trivial⟩, .inl ⟨rfl, rfl⟩, .inl ⟨?_, rfl⟩, .inl ⟨rfl, rfl⟩, trivial⟩, by simp; omega⟩
   · exact congrArg (fun x => some (OB.mk _ _ x)) hset'
   · show AV.v (.int .i64 (k0 + k + 1)) = _
     congr 2
     simp; omega
 · have hkk : k = l.length := by omega
   subst hkk
   repeat (first | (refine qp (qP (m := l.length) rfl rfl hml2 ⟨_, _, _, _, rfl⟩) ?_; conv => whnf) | (refine qz ?_; conv => whnf) | (rw [hml]))
   exact aCW rfl (by show some (OB.mk _ _ _) = _; simp)
end Go.Proofs.Ytdhjchdbgognbaa.AM
namespace Go.Proofs.Ytdhjchdbgognbaa.AM
open Go Go.RowKit
section
variable {P : Program} {Θ : Tab} {s : St} {ty : TypeId} {pos : String} {after : Array Edge} {g : Option (Nat × Bool)}
end
attribute [local irreducible] xO xU yD zA zJ Pre ACG
end Go.Proofs.Ytdhjchdbgognbaa.AM
namespace Go.Proofs.Ytdhjchdbgognbaa.AM
open Go Go.RowKit
section
variable {P : Program} {Θ : Tab} {s : St} {ty : TypeId} {pos : String} {after : Array Edge} {g : Option (Nat × Bool)}
end
attribute [local irreducible] xO xU yD zA zJ Pre ACG
end Go.Proofs.Ytdhjchdbgognbaa.AM
namespace Go.Proofs.Ytdhjchdbgognbaa.AM
open Go Go.RowKit
theorem aDK {α : Type} (l : List α) (k : Nat) (a b : α) : (l.set k a).set k b = l.set k b := by simp [List.set_set]
attribute [local irreducible] xO xU yD zA zJ Pre ACG
theorem aDi {l : List Ent} {k0 : Int} (hm : l.length ≤ 1048600) (h0 : 0 ≤ k0) (h1 : k0 ≤ 8388608) : ACM Try.prog 25 ⟨.u, 2, l.map xD⟩ ((marked l.length k0).map xD) [.v (.int .i64 k0)] (.int .i64 (k0 + 2 * l.length)) := by
 refine aGy aAn (by kernel_rfl) Try.func25 rfl Try.ntmps25 Try.results25 (by kernel_rfl) rfl ?_
 conv => whnf
 refine xu (ι := { k : Nat // k ≤ l.length }) (fun k => ⟨[(0, .own 0), (1, .v (.int .i64 (k0 + 2 * (k.1 : Int)))), (5, .v (.int .i64 (k.1 : Int)))], [(0, ⟨.u, 2, (marked k.1 k0 ++ l.drop k.1).map xD⟩)]⟩) (fun k => l.length - k.1) ⟨0, Nat.zero_le _⟩ (by
  refine ⟨⟨rfl, trivial⟩, .inl ⟨rfl, rfl⟩, .inl ⟨?_, rfl⟩, .inl ⟨rfl, rfl⟩, trivial⟩
  show AV.v (.int .i64 k0) = _
  simp) ?_
 rintro ⟨k, hk⟩
 dsimp only
 have hml : (marked k k0 ++ l.drop k).length = l.length := by simp [zh]; omega
 have hml2 : ((marked k k0 ++ l.drop k).map xD).length = l.length := by rw [List.length_map]; exact hml
 conv => whnf
 by_cases hlt : k < l.length
 · have hlt' : k < (marked k k0 ++ l.drop k).length := by omega
   have hset : (marked k k0 ++ l.drop k).set k (zL (k0 + 2 * k), k0 + 2 * k + 1) = marked (k + 1) k0 ++ l.drop (k + 1) := by
    rw [List.set_append_right _ _ (by rw [zh]; exact Nat.le_refl _), zh, Nat.sub_self, List.drop_eq_getElem_cons hlt, List.set_cons_zero, aBZ, List.append_assoc]; rfl
   have hset' : ((marked k k0 ++ l.drop k).map xD).set k (xD (zL (k0 + 2 * k), k0 + 2 * k + 1)) = (marked (k + 1) k0 ++ l.drop (k + 1)).map xD := by rw [← List.map_set, hset]
   repeat ((first | refine qp (qP (m := l.length) rfl rfl hml2 ⟨_, _, _, _, rfl⟩) ?_ | refine qz ?_ | refine qc (jr (k := k0 + 2 * (k : Int)) (by omega) (by omega)) ?_ | refine qp (vk (by simpa using hlt') rfl rfl rfl rfl rfl) ?_ | refine qr (aAe (jS _ hlt') rfl rfl rfl rfl rfl rfl) ?_ | refine qr (aAe (aC1 (by simpa using hlt')) rfl rfl rfl rfl rfl rfl) ?_); conv => whnf)
   refine ⟨⟨k + 1, hlt⟩, ⟨⟨?_, trivial⟩, .inl ⟨rfl, rfl⟩, .inl ⟨?_, rfl⟩, .inl ⟨rfl, rfl⟩, trivial⟩, by simp; omega⟩
   · exact congrArg (fun x => some (OB.mk _ _ x)) (Eq.trans (aDK _ _ _ _) hset')
   · show AV.v (.int .i64 (k0 + 2 * k + 1 + 1)) = _
     congr 2
     simp; omega
 · have hkk : k = l.length := by omega
   subst hkk
   repeat (first | (refine qp (qP (m := l.length) rfl rfl hml2 ⟨_, _, _, _, rfl⟩) ?_; conv => whnf) | (refine qz ?_; conv => whnf) | (rw [hml]))
   exact aCW rfl (by show some (OB.mk _ _ _) = _; simp)
set_option maxHeartbeats 1000000 in
theorem aCa {l : List Cmt} {k0 : Int} (hm : l.length ≤ 1048600) (ht : u7 l ≤ 1048600) (h0 : 0 ≤ k0) (h1 : k0 ≤ 4194304) : ACM Try.prog 52 ⟨.d 83, 2, l.map xL⟩ ((y8 l k0).map xL) [.v (.int .i64 k0)] (.int .i64 (kA l k0)) := by
 refine aGy aAn (by kernel_rfl) Try.func52 rfl Try.ntmps52 Try.results52 (by kernel_rfl) rfl ?_
 conv => whnf
 refine xu (ι := { k : Nat // k ≤ l.length }) (fun k => ⟨[(0, .own 0), (1, .v (.int .i64 (kA (l.take k.1) k0))), (5, .v (.int .i64 (k.1 : Int)))], [(0, ⟨.d 83, 2, (y8 (l.take k.1) k0 ++ l.drop k.1).map xL⟩)]⟩) (fun k => l.length - k.1) ⟨0, Nat.zero_le _⟩ ⟨⟨rfl, trivial⟩, .inl ⟨rfl, rfl⟩, .inl ⟨rfl, rfl⟩, .inl ⟨rfl, rfl⟩, trivial⟩ ?_
 rintro ⟨i, hi⟩
 dsimp only
 have hmt : (y8 (l.take i) k0).length = i := by rw [qN, List.length_take]; omega
 have hml : (y8 (l.take i) k0 ++ l.drop i).length = l.length := by rw [List.length_append, hmt, List.length_drop]; omega
 have hml2 : ((y8 (l.take i) k0 ++ l.drop i).map xL).length = l.length := by rw [List.length_map]; exact hml
 conv => whnf
 by_cases hlt : i < l.length
 case neg =>
  have hkk : i = l.length := by omega
  subst hkk
  repeat ((first | refine qp (qP (m := l.length) rfl rfl hml2 ⟨_, _, _, _, rfl⟩) ?_ | refine qz ?_); conv => whnf)
  exact aCW (by show AV.v (.int .i64 (kA (l.take l.length) k0)) = _; rw [List.take_length]) (by show some (OB.mk _ _ _) = _; rw [List.take_length, List.drop_length, List.append_nil])
 have hb := aDt (l.take i) k0
 have hb2 := aDc l i
 have hb3 := aGP l i hlt
 have hlt' : i < (y8 (l.take i) k0 ++ l.drop i).length := by omega
 have hat : (y8 (l.take i) k0 ++ l.drop i)[i]? = some l[i] := by
  rw [List.getElem?_append_right (by omega), hmt, Nat.sub_self, List.drop_eq_getElem_cons hlt]; rfl
 have hset : ((y8 (l.take i) k0 ++ l.drop i).map xL).set i (xL (aDu l[i] (kA (l.take i) k0))) = (y8 (l.take (i + 1)) k0 ++ l.drop (i + 1)).map xL := by
  rw [← List.map_set, List.set_append_right _ _ (by omega), hmt, Nat.sub_self, List.drop_eq_getElem_cons hlt, List.set_cons_zero, aEf hlt, List.append_assoc]; rfl
 have hstep := aJW (k := k0) hlt
 generalize hX : (y8 (l.take i) k0 ++ l.drop i).map xL = X at *
 generalize hK : kA (l.take i) k0 = K at *
 have hXl : i < X.length := by omega
 have hXi : X[i]? = some (xL l[i]) := by rw [← hX, List.getElem?_map, hat]; rfl
 have hopn : yE (.d 83) X i = some (.o (some 83) i (xL l[i])) := by simp only [yE, hXi]
 have hX2 : ∀ y : AV, (X.set i y)[i]? = some y := fun y => aC1 hXl
 have hopn2 : ∀ y : AV, yE (.d 83) (X.set i y) i = some (.o (some 83) i y) := fun y => by simp only [yE, hX2 y]
 have hml3 : ∀ y : AV, i < (X.set i y).length := fun y => by rw [List.length_set]; exact hXl
 repeat ((first | refine qp (qP (m := l.length) rfl rfl hml2 ⟨_, _, _, _, rfl⟩) ?_ | refine qz ?_); conv => whnf)
 refine aCQ (vk hXl rfl rfl rfl rfl rfl) rfl rfl (aCQ (aEo rfl rfl rfl) rfl rfl ?_)
 refine qr (aHl rfl rfl hopn rfl rfl rfl) ?_
 conv => whnf
 refine aEt (jJ (aFY (l := (l[i]).1) (k0 := K) (by omega) (by omega) (by omega)) rfl rfl rfl rfl rfl rfl rfl) rfl rfl (fun e => by cases e) (Gh.fold 0 17 [0] rfl rfl rfl rfl rfl rfl (Gh.shut 0 (z := .agg [.lst 1 [], .lst 2 []]) (y' := .agg [.lst 1 ((yj (l[i]).1.length K).map yC), .lst 2 ((l[i]).2.map xD)]) rfl rfl (Gh.done ?_)))
 conv => whnf
 repeat ((refine qz ?_; conv => whnf))
 refine aCQ (vk (hml3 _) rfl rfl rfl rfl rfl) rfl rfl (aCQ (aEo rfl rfl rfl) rfl rfl ?_)
 refine qr (aHl rfl rfl (hopn2 _) rfl rfl rfl) ?_
 conv => whnf
 refine aEt (jJ (aDi (l := (l[i]).2) (k0 := K + (l[i]).1.length) (by omega) (by omega) (by omega)) rfl rfl rfl rfl rfl rfl rfl) rfl rfl (fun e => by cases e) (Gh.fold 0 24 [1] rfl rfl rfl rfl rfl rfl (Gh.shut 0 (z := .agg [.lst 1 [], .lst 2 []]) (y' := xL (aDu l[i] K)) rfl rfl (Gh.done ?_)))
 conv => whnf
 repeat ((refine qz ?_; conv => whnf))
 refine ⟨⟨i + 1, hlt⟩, ⟨⟨?_, trivial⟩, .inl ⟨rfl, rfl⟩, .inl ⟨?_, rfl⟩, .inl ⟨rfl, rfl⟩, trivial⟩, by simp; omega⟩
 · exact congrArg (fun x => some (OB.mk _ _ x)) (Eq.trans (aDK _ _ _ _) hset)
 · show AV.v (.int .i64 (K + (l[i]).1.length + 2 * (l[i]).2.length)) = _
   rw [hstep]; rfl
end Go.Proofs.Ytdhjchdbgognbaa.AM
namespace Go.Proofs.Ytdhjchdbgognbaa.AM
open Go Go.RowKit
theorem aJ5 {s : St} {Θ : Tab} {r : Nat} {v : Value} {o1 o2 : OB} (h1 : s.sl r = .v v) (h2 : s.hp 0 = some o1) (h3 : s.hp 1000000 = some o2) : zA Θ [.tmp r] [o1, o2] ⟨.v v, []⟩ .ret s := ⟨⟨h2, h3, trivial⟩, [], by simp, trivial, ⟨trivial, trivial⟩, trivial, ⟨.inl ⟨h1, rfl⟩, trivial⟩⟩
attribute [local irreducible] xO xU yD zA zJ Pre ACG
theorem aDa : ∀ {es : List Cmt} {l : Int}, 0 ≤ szG szC es l → szG szC es l ≤ l - u7 es
 | [], l, h => by simp [szG, u7]
 | c :: cs, l, h => by
  unfold szG at h ⊢
  split at h
  · omega
  · rename_i hn
    rw [if_neg hn]
    have h1 := aDa h
    have h2 := aJc (by omega : 0 ≤ szC c l)
    simp only [u7]; omega
theorem aIH {cs : List Cmt} {l : Int} (h : 0 ≤ zk cs l) : zk cs l ≤ l - cs.length - u7 cs := by
 unfold zk at h ⊢
 split at h
 · omega
 · rename_i hn
   rw [if_neg hn]
   have := aDa h; omega
theorem aIq {α : Type} {g : α → Nat} {es : List α} {l : Int} (h : 0 ≤ szL g es l) : szL g es l ≤ l - es.length := by
 unfold szL at h ⊢
 split at h
 · omega
 · rename_i hn
   rw [if_neg hn]
   have := (aC6 h).1; omega
theorem aFH {B : Bas} {l : Int} (h : 0 ≤ szB B l) : szB B l ≤ l - B.store.length - u7 B.store - B.refs.length := by
 unfold szB at h ⊢
 by_cases ha : zk B.store l < 0
 · rw [if_pos ha] at h; omega
 rw [if_neg ha] at h ⊢
 have z1 := aIH (by omega : 0 ≤ zk B.store l)
 by_cases hn : szL rSz B.refs (zk B.store l) < 0
 · rw [if_pos hn] at h; omega
 rw [if_neg hn] at h ⊢
 have z2 := aIq (by omega : 0 ≤ szL rSz B.refs (zk B.store l))
 omega
theorem aBn {B : Bas} (hm : B.store.length ≤ 1048576) (hc : ∀ c ∈ B.store, c.1.length ≤ 1048576 ∧ c.2.length ≤ 1048576) (hr : B.refs.length ≤ 1048576) : AC Try.prog 11 [xX B] ⟨.mix [.own 0, .own 1], [⟨.d 83, 2, B.store.map xL⟩, ⟨68, 4, B.refs.map xS⟩]⟩ := by
 have h1 := aDk hm hc
 have h2 := aDA hr
 refine qrf Try.func11 Try.ntmps11 Try.results11 ?_; conv => whnf
 repeat ((first | refine qz ?_ | refine qc (h1) ?_ | refine qc (h2) ?_ | refine qr (kR rfl rfl rfl rfl rfl rfl) ?_); conv => whnf)
 exact aGD rfl rfl rfl rfl rfl rfl rfl rfl
theorem aAV {L : List Cmt} {R : List Rf} {k0 : Int} (hm : L.length ≤ 1048600) (ht : u7 L ≤ 1048600) (hR : R.length ≤ 1048600) (h0 : 0 ≤ k0) (h1 : k0 ≤ 4194304) (h2 : 0 ≤ kA L k0) (h3 : kA L k0 ≤ 8388608) :
 ACG Try.prog 24 [.mix [.own 0, .own 1000000], .v (.int .i64 k0)] [⟨.d 83, 2, L.map xL⟩, ⟨68, 4, R.map xS⟩] [⟨.d 83, 2, (y8 L k0).map xL⟩, ⟨68, 4, (yw R.length (kA L k0)).map xS⟩] ⟨.v (.int .i64 (kA L k0 + 4 * R.length)), []⟩ := by
 refine aBo (rs := [.tmp 4]) aAn (by kernel_rfl) Try.func24 rfl Try.ntmps24 (by rw [Try.results24]) (by kernel_rfl) (by simp) rfl rfl (zO _ _ _ ?_)
 conv => whnf
 repeat ((first | refine qz ?_ | refine qr (aKT rfl rfl rfl) ?_ | refine qr (jJ (aCa (l := L) (k0 := k0) (by omega) (by omega) (by omega) (by omega)) rfl rfl rfl rfl rfl rfl rfl) ?_ | refine qr (jJ (aFZ (l := R) (k0 := kA L k0) (by omega) (by omega) (by omega)) rfl rfl rfl rfl rfl rfl rfl) ?_); conv => whnf)
 exact aJ5 rfl rfl rfl
end Go.Proofs.Ytdhjchdbgognbaa.AM
namespace Go.Proofs.Ytdhjchdbgognbaa.AM
open Go Go.RowKit
section
variable {P : Program} {t : TypeId} {x y : Operand} {a b : ByteArray}
theorem aDs {r : Bool} (h : klt a b = r) : y9 P .lss t x y (.string a) (.string b) (.bool r) := aAr fun w => by subst h; rfl
theorem aDr {r : Bool} (h : klt a b = !r) : y9 P .geq t x y (.string a) (.string b) (.bool r) := aAr fun w => by
 have : r = !klt a b := by cases r <;> simp_all
 subst this
 show Result.ok _ _ = _
 congr 2
end
def z8 (n : Nat) (s : Ent) : Bool := okN s.1 && decide (1 ≤ s.2 ∧ s.2 ≤ (n : Int))
attribute [local irreducible] xO xU yD zA zJ Pre ACG
theorem uV {s : Ent} {l : Int} (hk : s.1.size ≤ maxLen) (h0 : 0 ≤ l) (h1 : l ≤ 1048576) : AC Try.prog 15 [xD s, .v (.int .i64 l)] ⟨.v (.int .i64 (if l - s.1.size < 0 then -1 else l - s.1.size)), []⟩ := by
 unfold maxLen at hk
 by_cases hn : l - s.1.size < 0
 · rw [if_pos hn]
   refine qrf Try.func15 Try.ntmps15 Try.results15 ?_; conv => whnf
   repeat ((refine qz ?_; conv => whnf))
   exact xA rfl trivial
 · rw [if_neg hn]
   refine qrf Try.func15 Try.ntmps15 Try.results15 ?_; conv => whnf
   repeat ((refine qz ?_; conv => whnf))
   exact xA rfl trivial
theorem kN {s : Ent} : AC Try.prog 17 [xD s] ⟨xD s, []⟩ := by
 refine qrf Try.func17 Try.ntmps17 Try.results17 ?_; conv => whnf
 repeat ((first | refine qz ?_ | refine qst ?_); conv => whnf)
 exact aBF (x := xD s) rfl rfl rfl rfl trivial
theorem aHL {s : Ent} : AC Try.prog 13 [xD s, xD s] ⟨.v (.bool true), []⟩ := by
 refine qrf Try.func13 Try.ntmps13 Try.results13 ?_; conv => whnf
 repeat ((first | refine qp (xR (wo rfl) rfl rfl rfl) ?_ | refine qz ?_ | refine qst ?_); conv => whnf)
 exact xA rfl trivial
theorem wM {b : Bas} {s : Ent} (hs : s.1.size ≤ maxLen) (hb : b.store.length ≤ maxLen) : AC Try.prog 44 [xX b, xD s] ⟨.v (.bool (z8 b.store.length s)), []⟩ := by
 unfold maxLen at hb
 unfold z8
 cases hw : okN s.1 with
 | false =>
  have h1 := zK hs hw
  refine qrf Try.func44 Try.ntmps44 Try.results44 ?_; conv => whnf
  repeat ((first | refine qz ?_ | refine qc (h1) ?_ | refine qst ?_); conv => whnf)
  exact xA rfl trivial
 | true =>
  have h1 := zK hs hw
  by_cases hi : 1 ≤ s.2 ∧ s.2 ≤ (b.store.length : Int)
  · rw [decide_eq_true hi]
    refine qrf Try.func44 Try.ntmps44 Try.results44 ?_; conv => whnf
    repeat ((first | refine qz ?_ | refine qc (h1) ?_ | refine qc (uS hi.1 hi.2) ?_ | refine qst ?_ | refine qdr ?_); conv => whnf)
    exact xA rfl trivial
  · rw [decide_eq_false hi]
    refine qrf Try.func44 Try.ntmps44 Try.results44 ?_; conv => whnf
    repeat ((first | refine qz ?_ | refine qc (h1) ?_ | refine qc (qI hi) ?_ | refine qst ?_ | refine qdr ?_); conv => whnf)
    exact xA rfl trivial
theorem aI7 {es : List Ent} {k : ByteArray} {i : Nat} (h : i < es.length) (hb : ∀ j, (hj : j < i) → es[j].1 ≠ k) : (∀ j, (hj : j < i + 1) → es[j].1 ≠ k) ↔ es[i].1 ≠ k :=
 ⟨fun h' => h' i (by omega), fun h' j hj => by
  rcases Nat.lt_or_ge j i with q | q
  · exact hb j q
  · have : j = i := by omega
    subst this; exact h'⟩
theorem aIQ {es : List Ent} {k : ByteArray} (hm : es.length ≤ maxLen) : AC Try.prog 79 [.lst 2 (es.map xD), .v (.string k)] ⟨.v (.int .i64 (atI es k)), []⟩ := by
 unfold maxLen at hm
 refine qrf Try.func79 Try.ntmps79 Try.results79 ?_; conv => whnf
 refine xu (ι := { i : Nat // ∃ h : i ≤ es.length, ∀ j, (hj : j < i) → es[j].1 ≠ k }) (fun i => ⟨[(0, .lst 2 (es.map xD)), (1, .v (.string k)), (5, .v (.int .i64 (i.1 : Int)))], []⟩) (fun i => es.length - i.1) ⟨0, Nat.zero_le _, fun j hj => absurd hj (by omega)⟩ (by exact qle) ?_
 rintro ⟨i, hi, hf⟩
 dsimp only
 conv => whnf
 by_cases hlt : i < es.length
 · by_cases hk : es[i].1 = k
   · have e : atI es k = (i : Int) := by unfold atI; rw [aEW hlt hk hf]
     rw [e]
     repeat ((first | refine qz ?_ | refine qp (xR (wm hk) rfl rfl rfl) ?_); conv => whnf)
     exact xA rfl trivial
   · repeat ((first | refine qz ?_ | refine qp (xR (wh hk) rfl rfl rfl) ?_); conv => whnf)
     exact ⟨⟨i + 1, hlt, (aI7 hlt hf).2 hk⟩, by exact qle, by simp; omega⟩
 · have e : atI es k = -1 := by
    unfold atI; rw [aEV fun j hj => hf j (by omega)]
   rw [e]
   repeat ((refine qz ?_; conv => whnf))
   exact xA rfl trivial
theorem aHR {es : List Ent} {k : ByteArray} (hm : es.length ≤ maxLen) (hk : ∀ e ∈ es, e.1.size ≤ maxLen) (hx : k.size ≤ maxLen) : AC Try.prog 78 [.lst 2 (es.map xD), .v (.string k)] ⟨.v (.int .i64 (uH es k)), []⟩ := by
 unfold uH
 have hm' := hm
 have hx' := hx
 unfold maxLen at hm' hx'
 by_cases h1 : 4096 < es.length
 · rw [if_pos (.inl h1)]
   refine qrf Try.func78 Try.ntmps78 Try.results78 ?_; conv => whnf
   repeat ((refine qz ?_; conv => whnf))
   exact xA rfl trivial
 by_cases h2 : 65536 < k.size
 · rw [if_pos (.inr h2)]
   refine qrf Try.func78 Try.ntmps78 Try.results78 ?_; conv => whnf
   repeat ((refine qz ?_; conv => whnf))
   exact xA rfl trivial
 rw [if_neg (by omega)]
 cases ha : xW es with
 | false =>
  rw [if_neg (by simp)]
  have c1 := zq ha hm hk
  refine qrf Try.func78 Try.ntmps78 Try.results78 ?_; conv => whnf
  repeat ((first | refine qz ?_ | refine qc (c1) ?_); conv => whnf)
  exact xA rfl trivial
 | true =>
  have c1 := zq ha hm hk
  cases hw : nm k with
  | false =>
   rw [if_neg (by simp)]
   have c2 := zK (b := false) hx hw
   refine qrf Try.func78 Try.ntmps78 Try.results78 ?_; conv => whnf
   repeat ((first | refine qz ?_ | refine qc (c1) ?_ | refine qc (c2) ?_); conv => whnf)
   exact xA rfl trivial
  | true =>
   rw [if_pos (by simp)]
   have c2 := zK (b := true) hx hw
   refine qrf Try.func78 Try.ntmps78 Try.results78 ?_; conv => whnf
   repeat ((first | refine qz ?_ | refine qc (c1) ?_ | refine qc (c2) ?_); conv => whnf)
   exact xA rfl trivial
theorem aKL {es : List Ent} {k : ByteArray} {i : Nat} (h : fnd es k = some i) : i < es.length := by
 unfold fnd at h
 exact (List.findIdx?_eq_some_iff_getElem.1 h).1
theorem aJG {es : List Ent} {k : ByteArray} (hm : es.length ≤ maxLen) (hk : ∀ e ∈ es, e.1.size ≤ maxLen) (hx : k.size ≤ maxLen) : AC Try.prog 46 [.lst 2 (es.map xD), .v (.string k)] ⟨.tup [.v (.int .i64 (getM es k).1), .v (.int .i64 (getM es k).2)], []⟩ := by
 have hm' := hm
 have hx' := hx
 unfold maxLen at hm' hx'
 have c1 := aHR hm hk hx
 have c2 := aIQ (k := k) hm
 unfold getM
 by_cases h1 : 4096 < es.length ∨ 65536 < k.size
 · have hc : uH es k = 2 := by unfold uH; rw [if_pos h1]
   rw [hc, if_neg (by omega)]
   rcases h1 with h1 | h1
   · refine qrf Try.func46 Try.ntmps46 Try.results46 ?_; conv => whnf
     repeat ((refine qz ?_; conv => whnf))
     exact yS rfl rfl
   · by_cases h0 : 4096 < es.length
     · refine qrf Try.func46 Try.ntmps46 Try.results46 ?_; conv => whnf
       repeat ((refine qz ?_; conv => whnf))
       exact yS rfl rfl
     · refine qrf Try.func46 Try.ntmps46 Try.results46 ?_; conv => whnf
       repeat ((refine qz ?_; conv => whnf))
       exact yS rfl rfl
 by_cases hc : uH es k = 0
 · rw [hc] at c1
   rw [if_pos hc]
   cases hf : fnd es k with
   | none =>
    have e : atI es k = -1 := by unfold atI; rw [hf]
    rw [e] at c2
    refine qrf Try.func46 Try.ntmps46 Try.results46 ?_; conv => whnf
    repeat ((first | refine qz ?_ | refine qc (c1) ?_ | refine qc (c2) ?_); conv => whnf)
    exact yS rfl rfl
   | some i =>
    have hi := aKL hf
    have e : atI es k = (i : Int) := by unfold atI; rw [hf]
    rw [e] at c2
    refine qrf Try.func46 Try.ntmps46 Try.results46 ?_; conv => whnf
    repeat ((first | refine qz ?_ | refine qc (c1) ?_ | refine qc (c2) ?_); conv => whnf)
    exact yS (by show AV.v (.int .i64 (es[i]).2) = _; simp [hi]) rfl
 · rw [if_neg hc]
   refine qrf Try.func46 Try.ntmps46 Try.results46 ?_; conv => whnf
   repeat ((first | refine qz ?_ | refine qc (c1) ?_); conv => whnf)
   exact yS rfl rfl
theorem aHG {es : List Ent} {a b : ByteArray} {i : Nat} (h : i < es.length) : kL (es.take (i + 1)) a b = if inR a b es[i] then kL (es.take i) a b ++ [es[i]] else kL (es.take i) a b := by
 unfold kL
 rw [List.take_succ_eq_append_getElem h, List.filter_append]
 by_cases c : inR a b es[i] <;> simp [List.filter_cons, c]
theorem aFC {es : List Ent} {a b : ByteArray} : (kL es a b).length ≤ es.length := List.length_filter_le _ _
theorem aIY {es : List Ent} {a b : ByteArray} (hm : es.length ≤ maxLen) (hk : ∀ e ∈ es, e.1.size ≤ maxLen) (ha : a.size ≤ maxLen) (hb : b.size ≤ maxLen) : AC Try.prog 49 [.lst 2 (es.map xD), .v (.string a), .v (.string b)] ⟨.tup [.own 0, .v (.int .i64 (jo es a b).2)], [⟨88, 2, (jo es a b).1.map xD⟩]⟩ := by
 unfold jo
 have hm' := hm
 have ha' := ha
 have hb' := hb
 unfold maxLen at hm' ha' hb'
 by_cases h1 : 4096 < es.length
 · rw [if_pos (.inl h1)]
   refine qrf Try.func49 Try.ntmps49 Try.results49 ?_; conv => whnf
   repeat ((refine qz ?_; conv => whnf))
   exact yR rfl rfl rfl
 by_cases h2 : 65536 < a.size
 · rw [if_pos (.inr (.inl h2))]
   refine qrf Try.func49 Try.ntmps49 Try.results49 ?_; conv => whnf
   repeat ((refine qz ?_; conv => whnf))
   exact yR rfl rfl rfl
 by_cases h3 : 65536 < b.size
 · rw [if_pos (.inr (.inr h3))]
   refine qrf Try.func49 Try.ntmps49 Try.results49 ?_; conv => whnf
   repeat ((refine qz ?_; conv => whnf))
   exact yR rfl rfl rfl
 rw [if_neg (by omega)]
 cases hmo : xW es
 case false =>
  rw [if_neg (by simp)]
  have c1 := zq hmo hm hk
  refine qrf Try.func49 Try.ntmps49 Try.results49 ?_; conv => whnf
  repeat ((first | refine qz ?_ | refine qc (c1) ?_); conv => whnf)
  exact yR rfl rfl rfl
 rw [if_pos rfl]
 have c1 := zq hmo hm hk
 refine qrf Try.func49 Try.ntmps49 Try.results49 ?_; conv => whnf
 repeat ((first | refine qz ?_ | refine qc (c1) ?_); conv => whnf)
 refine xu (ι := { i : Nat // i ≤ es.length }) (fun i => ⟨[(0, .lst 2 (es.map xD)), (1, .v (.string a)), (2, .v (.string b)), (8, .own 29), (9, .v (.int .i64 (i.1 : Int)))], [(29, ⟨88, 2, (kL (es.take i.1) a b).map xD⟩)]⟩) (fun i => es.length - i.1) ⟨0, Nat.zero_le _⟩ (by exact qle) ?_
 rintro ⟨i, hi⟩
 dsimp only
 conv => whnf
 by_cases hlt : i < es.length
 · have hs := aHG (a := a) (b := b) hlt
   have hl := aFC (es := es.take i) (a := a) (b := b)
   rw [List.length_take] at hl
   by_cases hin : inR a b es[i] = true
   · rw [if_pos hin] at hs
     unfold inR at hin
     simp only [Bool.and_eq_true, Bool.or_eq_true, Bool.not_eq_true', decide_eq_true_eq] at hin
     obtain ⟨hA, hB⟩ := hin
     have hA' : klt es[i].1 a = !true := hA
     by_cases hb0 : b.size = 0
     · have hbe : b = ⟨#[]⟩ := ByteArray.size_eq_zero_iff.1 hb0
       repeat ((first | refine qz ?_ | refine qp (xR (aDr hA') rfl rfl rfl) ?_ | refine qp (xR (wm hbe) rfl rfl rfl) ?_); conv => whnf)
       refine qr (aGC _ _ hs.symm (by omega) rfl rfl rfl rfl rfl rfl rfl) ?_
       conv => whnf
       repeat ((refine qz ?_; conv => whnf))
       exact ⟨⟨i + 1, hlt⟩, by exact qle, by simp; omega⟩
     · have hbe : b ≠ ⟨#[]⟩ := fun e => hb0 (by rw [e]; rfl)
       have hC : klt es[i].1 b = true := by rcases hB with h | h; exact absurd h hb0; exact h
       repeat ((first | refine qz ?_ | refine qp (xR (aDr hA') rfl rfl rfl) ?_ | refine qp (xR (wh hbe) rfl rfl rfl) ?_ | refine qp (xR (aDs hC) rfl rfl rfl) ?_); conv => whnf)
       refine qr (aGC _ _ hs.symm (by omega) rfl rfl rfl rfl rfl rfl rfl) ?_
       conv => whnf
       repeat ((refine qz ?_; conv => whnf))
       exact ⟨⟨i + 1, hlt⟩, by exact qle, by simp; omega⟩
   · rw [if_neg hin] at hs
     rw [← hs]
     cases hA : klt es[i].1 a with
     | true =>
      have hA' : klt es[i].1 a = !false := hA
      repeat ((first | refine qz ?_ | refine qp (xR (aDr hA') rfl rfl rfl) ?_); conv => whnf)
      exact ⟨⟨i + 1, hlt⟩, by exact qle, by simp; omega⟩
     | false =>
      have hA' : klt es[i].1 a = !true := hA
      have hb0 : b ≠ ⟨#[]⟩ := fun e => hin (by unfold inR; rw [hA, e]; rfl)
      have hC : klt es[i].1 b = false := by
       cases hC : klt es[i].1 b with
       | false => rfl
       | true => exact absurd (by unfold inR; rw [hA, hC]; simp) hin
      repeat ((first | refine qz ?_ | refine qp (xR (aDr hA') rfl rfl rfl) ?_ | refine qp (xR (wh hb0) rfl rfl rfl) ?_ | refine qp (xR (aDs hC) rfl rfl rfl) ?_); conv => whnf)
      exact ⟨⟨i + 1, hlt⟩, by exact qle, by simp; omega⟩
 · have hkk : i = es.length := by omega
   subst hkk
   repeat ((refine qz ?_; conv => whnf))
   exact yR rfl rfl (by show some (OB.mk _ _ _) = _; rw [List.take_length])
end Go.Proofs.Ytdhjchdbgognbaa.AM
namespace Go.Proofs.Ytdhjchdbgognbaa.AM
open Go Go.RowKit
def zSn : Ent := (ByteArray.empty, 0)
noncomputable def uO (b : Bas) (x : ByteArray) : Ent × Int := if 65536 < x.size then (zSn, 2) else if yB b = true then (if uQ b.refs x < 0 then (zSn, 10) else ((x, ((b.refs[(uQ b.refs x).toNat]?).map (·.head)).getD 0), 0)) else (zSn, 1)
theorem aFu {l : List Rf} {x : ByteArray} (h : ¬ uQ l x < 0) : ∃ j, ∃ hj : j < l.length, uQ l x = (j : Int) := by
 by_cases h0 : rAt l x 0 < 0
 · rw [jk h0] at h; omega
 · obtain ⟨j, hj, e, _⟩ := aCU (by omega : 0 ≤ rAt l x 0)
   rw [aAx hj e] at h ⊢
   cases hg : l[j].gone with
   | true => rw [hg, if_pos rfl] at h; omega
   | false => exact ⟨j, hj, by simp⟩
theorem aHk {b : Bas} {x : ByteArray} {j : Nat} (hj : j < b.refs.length) (h0 : ¬ 65536 < x.size) (hb : yB b = true) (e : uQ b.refs x = (j : Int)) : uO b x = ((x, (b.refs[j]).head), 0) := by
 unfold uO
 rw [if_neg h0, if_pos hb, if_neg (by omega), e]
 simp [hj]
def mapOf (b : Bas) (s : Ent) : List Ent := ((b.store[(s.2 - 1).toNat]?).map (·.2)).getD []
theorem vo {b : Bas} {s : Ent} (h : z8 b.store.length s = true) : ∃ j, ∃ hj : j < b.store.length, s.2 = (j : Int) + 1 ∧ mapOf b s = (b.store[j]).2 := by
 unfold z8 at h
 simp only [Bool.and_eq_true, decide_eq_true_eq] at h
 obtain ⟨_, h1, h2⟩ := h
 have hj : (s.2 - 1).toNat < b.store.length := by omega
 exact ⟨(s.2 - 1).toNat, hj, by omega, by unfold mapOf; rw [List.getElem?_eq_getElem hj]; rfl⟩
theorem wu {b : Bas} (h : yB b = true) {j : Nat} (hj : j < b.store.length) : (b.store[j]).2.length ≤ 12 := by
 unfold yB aAN at h
 simp only [Bool.and_eq_true] at h
 have := aB6 h.1.2 j hj
 unfold jO at this
 rw [Bool.and_eq_true] at this
 have := this.1
 unfold xW at this
 simp only [Bool.and_eq_true, decide_eq_true_eq] at this
 exact this.1
theorem map_ok {b : Bas} (hb : b.ok maxLen) {j : Nat} (hj : j < b.store.length) : (b.store[j]).2.length ≤ maxLen ∧ ∀ e ∈ (b.store[j]).2, e.1.size ≤ maxLen :=
 have h := hb.sc _ (List.getElem_mem hj)
 ⟨h.2.1, h.2.2⟩
noncomputable def rdR (b : Bas) (s : Ent) (k : ByteArray) : Int × Int := if 65536 < k.size then (0, 2) else if (yB b && z8 b.store.length s) = true then getM (mapOf b s) k else (0, 1)
noncomputable def scR (b : Bas) (s : Ent) (x y : ByteArray) : List Ent × Int := if 65536 < x.size ∨ 65536 < y.size then ([], 2) else if (yB b && z8 b.store.length s) = true then jo (mapOf b s) x y else ([], 1)
noncomputable def dfR (b : Bas) (s t : Ent) : List Edt × Int := if (yB b && (z8 b.store.length s && z8 b.store.length t)) = true then (y7 (mapOf b s) (mapOf b t), 0) else ([], 1)
attribute [local irreducible] xO xU yD zA zJ Pre ACG
theorem aIW {b : Bas} {x : ByteArray} (hb : b.ok maxLen) (hx : x.size ≤ maxLen) : AC Try.prog 10 [xX b, .v (.string x)] ⟨.tup [xD (uO b x).1, .v (.int .i64 (uO b x).2)], []⟩ := by
 have c1 := wD hb
 have c2 := aG3 (x := x) hb.rm
 have hx' := hx
 unfold maxLen at hx'
 by_cases h0 : 65536 < x.size
 · have e : uO b x = (zSn, 2) := by unfold uO; rw [if_pos h0]
   rw [e]
   refine qrf Try.func10 Try.ntmps10 Try.results10 ?_; conv => whnf
   repeat ((first | refine qz ?_ | refine qst ?_); conv => whnf)
   exact uo rfl rfl rfl rfl trivial rfl
 cases hbb : yB b with
 | false =>
  have e : uO b x = (zSn, 1) := by unfold uO; rw [if_neg h0, if_neg (by rw [hbb]; simp)]
  rw [e]
  rw [hbb] at c1
  refine qrf Try.func10 Try.ntmps10 Try.results10 ?_; conv => whnf
  repeat ((first | refine qz ?_ | refine qc (c1) ?_ | refine qst ?_); conv => whnf)
  exact uo rfl rfl rfl rfl trivial rfl
 | true =>
  rw [hbb] at c1
  by_cases hl : uQ b.refs x < 0
  · have e : uO b x = (zSn, 10) := by unfold uO; rw [if_neg h0, if_pos hbb, if_pos hl]
    rw [e]
    refine qrf Try.func10 Try.ntmps10 Try.results10 ?_; conv => whnf
    repeat ((first | refine qz ?_ | refine qc (c1) ?_ | refine qc (c2) ?_ | refine qst ?_ | refine qdr ?_); conv => whnf)
    exact uo rfl rfl rfl rfl trivial rfl
  · obtain ⟨j, hj, ej⟩ := aFu hl
    rw [aHk hj h0 hbb ej]
    rw [ej] at c2
    refine qrf Try.func10 Try.ntmps10 Try.results10 ?_; conv => whnf
    repeat ((first | refine qz ?_ | refine qc (c1) ?_ | refine qc (c2) ?_ | refine qst ?_ | refine qdr ?_); conv => whnf)
    exact uo rfl rfl rfl rfl trivial rfl
theorem aG5 {b : Bas} {s : Ent} (hb : b.ok maxLen) (hs : s.1.size ≤ maxLen) : AC Try.prog 16 [xX b, xD s] ⟨.v (.bool (yB b && z8 b.store.length s)), []⟩ := by
 have c1 := wD hb
 have c2 := wM (b := b) hs hb.sm
 generalize yB b = x at c1 ⊢
 generalize z8 b.store.length s = y at c2 ⊢
 cases x <;> cases y
 all_goals
  refine qrf Try.func16 Try.ntmps16 Try.results16 ?_; conv => whnf
  repeat ((first | refine qz ?_ | refine qc (c1) ?_ | refine qc (c2) ?_ | refine qdr ?_); conv => whnf)
  exact xA rfl trivial
theorem aIX {b : Bas} {s : Ent} {k : ByteArray} (hb : b.ok maxLen) (hs : s.1.size ≤ maxLen) (hk : k.size ≤ maxLen) : AC Try.prog 19 [xX b, xD s, .v (.string k)] ⟨.tup [.v (.int .i64 (rdR b s k).1), .v (.int .i64 (rdR b s k).2)], []⟩ := by
 have c1 := wD hb
 have c2 := wM (b := b) hs hb.sm
 have hk' := hk
 have hsm := hb.sm
 unfold maxLen at hk' hsm
 unfold rdR
 by_cases h0 : 65536 < k.size
 · rw [if_pos h0]
   refine qrf Try.func19 Try.ntmps19 Try.results19 ?_; conv => whnf
   repeat ((refine qz ?_; conv => whnf))
   exact yS rfl rfl
 rw [if_neg h0]
 cases hx : yB b <;> cases hy : z8 b.store.length s
 case true.true =>
  rw [hx] at c1
  rw [hy] at c2
  obtain ⟨j, hj, ej, em⟩ := vo hy
  obtain ⟨m1, m2⟩ := map_ok hb hj
  rw [if_pos (show (true && true) = true from rfl), em]
  have c3 := aJG m1 m2 hk
  refine qrf Try.func19 Try.ntmps19 Try.results19 ?_; conv => whnf
  repeat ((first | refine qp (xR (aAs (c := (j : Int)) (by omega) (by omega) (by omega)) rfl rfl rfl) ?_ | refine qz ?_ | refine qc (c1) ?_ | refine qc (c2) ?_ | refine qc (c3) ?_ | refine qst ?_ | refine qdr ?_); conv => whnf)
  exact yS rfl rfl
 all_goals
  rw [hx] at c1
  rw [hy] at c2
  rw [if_neg (by simp)]
  refine qrf Try.func19 Try.ntmps19 Try.results19 ?_; conv => whnf
  repeat ((first | refine qz ?_ | refine qc (c1) ?_ | refine qc (c2) ?_ | refine qdr ?_); conv => whnf)
  exact yS rfl rfl
theorem aHU {b : Bas} {s : Ent} {x y : ByteArray} (hb : b.ok maxLen) (hs : s.1.size ≤ maxLen) (hx : x.size ≤ maxLen) (hy : y.size ≤ maxLen) : AC Try.prog 21 [xX b, xD s, .v (.string x), .v (.string y)] ⟨.tup [.own 0, .v (.int .i64 (scR b s x y).2)], [⟨88, 2, (scR b s x y).1.map xD⟩]⟩ := by
 have c1 := wD hb
 have c2 := wM (b := b) hs hb.sm
 have hx' := hx
 have hy' := hy
 have hsm := hb.sm
 unfold maxLen at hx' hy' hsm
 unfold scR
 by_cases h0 : 65536 < x.size
 · rw [if_pos (.inl h0)]
   refine qrf Try.func21 Try.ntmps21 Try.results21 ?_; conv => whnf
   repeat ((refine qz ?_; conv => whnf))
   exact yR rfl rfl rfl
 by_cases h1 : 65536 < y.size
 · rw [if_pos (.inr h1)]
   refine qrf Try.func21 Try.ntmps21 Try.results21 ?_; conv => whnf
   repeat ((refine qz ?_; conv => whnf))
   exact yR rfl rfl rfl
 rw [if_neg (by omega)]
 cases hu : yB b <;> cases hv : z8 b.store.length s
 case true.true =>
  rw [hu] at c1
  rw [hv] at c2
  obtain ⟨j, hj, ej, em⟩ := vo hv
  obtain ⟨m1, m2⟩ := map_ok hb hj
  rw [if_pos (show (true && true) = true from rfl), em]
  have c3 := aIY m1 m2 hx hy
  refine qrf Try.func21 Try.ntmps21 Try.results21 ?_; conv => whnf
  repeat ((first | refine qp (xR (aAs (c := (j : Int)) (by omega) (by omega) (by omega)) rfl rfl rfl) ?_ | refine qz ?_ | refine qc (c1) ?_ | refine qc (c2) ?_ | refine qc (c3) ?_ | refine qst ?_ | refine qdr ?_); conv => whnf)
  exact yR rfl rfl rfl
 all_goals
  rw [hu] at c1
  rw [hv] at c2
  rw [if_neg (by simp)]
  refine qrf Try.func21 Try.ntmps21 Try.results21 ?_; conv => whnf
  repeat ((first | refine qz ?_ | refine qc (c1) ?_ | refine qc (c2) ?_ | refine qdr ?_); conv => whnf)
  exact yR rfl rfl rfl
theorem aHS {b : Bas} {s t : Ent} (hb : b.ok maxLen) (hs : s.1.size ≤ maxLen) (ht : t.1.size ≤ maxLen) : AC Try.prog 27 [xX b, xD s, xD t] ⟨.tup [.own 0, .v (.int .i64 (dfR b s t).2)], [⟨96, 3, (dfR b s t).1.map uw⟩]⟩ := by
 have c1 := wD hb
 have c2 := wM (b := b) hs hb.sm
 have c4 := wM (b := b) ht hb.sm
 have hsm := hb.sm
 unfold maxLen at hsm
 unfold dfR
 cases hu : yB b <;> cases hv : z8 b.store.length s <;> cases hw : z8 b.store.length t
 case true.true.true =>
  rw [hu] at c1
  rw [hv] at c2
  rw [hw] at c4
  obtain ⟨j, hj, ej, em⟩ := vo hv
  obtain ⟨i, hi, ei, en⟩ := vo hw
  have b1 := wu hu hj
  have b2 := wu hu hi
  rw [if_pos (show (true && (true && true)) = true from rfl), em, en]
  have c3 := aG0 (es := (b.store[j]).2) (es' := (b.store[i]).2) (by omega) (by omega)
  refine qrf Try.func27 Try.ntmps27 Try.results27 ?_; conv => whnf
  repeat ((first | refine qp (xR (aAs (c := (j : Int)) (by omega) (by omega) (by omega)) rfl rfl rfl) ?_ | refine qp (xR (aAs (c := (i : Int)) (by omega) (by omega) (by omega)) rfl rfl rfl) ?_ | refine qz ?_ | refine qc (c1) ?_ | refine qc (c2) ?_ | refine qc (c4) ?_ | refine qc (c3) ?_ | refine qst ?_ | refine qdr ?_); conv => whnf)
  exact yR rfl rfl rfl
 all_goals
  rw [hu] at c1
  rw [hv] at c2
  rw [hw] at c4
  rw [if_neg (by simp)]
  refine qrf Try.func27 Try.ntmps27 Try.results27 ?_; conv => whnf
  repeat ((first | refine qz ?_ | refine qc (c1) ?_ | refine qc (c2) ?_ | refine qc (c4) ?_ | refine qdr ?_); conv => whnf)
  exact yR rfl rfl rfl
end Go.Proofs.Ytdhjchdbgognbaa.AM
namespace Go.Proofs.Ytdhjchdbgognbaa.AM
open Go Go.RowKit
def rgG (r s : Rf) : Bool := decide (s.name = r.name) && (decide (r.ver ≤ s.ver) && (!decide (s.ver = r.ver) || decide (s = r)))
def rgB : List Rf → List Rf → Bool
 | r :: a, s :: b => rgG r s && rgB a b
 | _, _ => true
theorem aEw {l m : List Rf} {k : Nat} (h : k < l.length) (h' : k < m.length) : rgB (l.drop k) (m.drop k) = (rgG l[k] m[k] && rgB (l.drop (k + 1)) (m.drop (k + 1))) := by
 rw [List.drop_eq_getElem_cons h, List.drop_eq_getElem_cons h', rgB]
theorem aBG (l : List Rf) : rgB [] l = true := by cases l <;> rfl
def qy (a b : Bas) : Bool := decide (a.store.length ≤ b.store.length) && (decide (a.refs.length ≤ b.refs.length) && (decide (a.store = b.store.take a.store.length) && rgB a.refs b.refs))
theorem aIz {r s : Rf} (h1 : s.name = r.name) (h2 : r.ver ≤ s.ver) (h3 : s.ver = r.ver → s = r) : rgG r s = true := by
 unfold rgG
 by_cases h4 : s.ver = r.ver
 · rw [h3 h4]; simp
 · simp [h1, h2, h4]
theorem aHD {r s : Rf} (h : ¬ (s.name = r.name ∧ r.ver ≤ s.ver ∧ (s.ver = r.ver → s = r))) : rgG r s = false := by
 unfold rgG
 cases hx : (decide (s.name = r.name) && (decide (r.ver ≤ s.ver) && (!decide (s.ver = r.ver) || decide (s = r)))) with
 | false => rfl
 | true =>
  simp only [Bool.and_eq_true, decide_eq_true_eq, Bool.or_eq_true, Bool.not_eq_true', decide_eq_false_iff_not] at hx
  exact absurd ⟨hx.1, hx.2.1, fun e => by rcases hx.2.2 with q | q; exact absurd e q; exact q⟩ h
attribute [local irreducible] xO xU yD zA zJ Pre ACG
set_option maxHeartbeats 4000000 in
theorem aFX {a b : Bas} (ha : a.ok maxLen) (hb : b.ok maxLen) : AC Try.prog 58 [xX a, xX b] ⟨.v (.bool (qy a b)), []⟩ := by
 have c1 := aG2 (a := a.store) (b := b.store.take a.store.length) ha.sm (by rw [List.length_take]; have := ha.sm; omega) ha.sc (fun c hc => hb.sc c (List.mem_of_mem_take hc))
 have m1 := ha.sm
 have m2 := hb.sm
 have m3 := ha.rm
 have m4 := hb.rm
 unfold maxLen at m1 m2 m3 m4
 unfold qy
 by_cases h1 : a.store.length ≤ b.store.length
 case neg =>
  rw [decide_eq_false h1, Bool.false_and]
  refine qrf Try.func58 Try.ntmps58 Try.results58 ?_; conv => whnf
  repeat ((first | refine qz ?_ | refine qdr ?_); conv => whnf)
  exact xA rfl trivial
 rw [decide_eq_true h1, Bool.true_and]
 by_cases h2 : a.refs.length ≤ b.refs.length
 case neg =>
  rw [decide_eq_false h2, Bool.false_and]
  refine qrf Try.func58 Try.ntmps58 Try.results58 ?_; conv => whnf
  repeat ((first | refine qz ?_ | refine qdr ?_); conv => whnf)
  exact xA rfl trivial
 rw [decide_eq_true h2, Bool.true_and]
 cases h3 : decide (a.store = b.store.take a.store.length)
 case false =>
  rw [h3] at c1
  rw [Bool.false_and]
  refine qrf Try.func58 Try.ntmps58 Try.results58 ?_; conv => whnf
  repeat ((first | refine qz ?_ | refine qdr ?_ | refine qp (vg (h := a.store.length) (xs := b.store) (f := xL) h1 rfl rfl rfl) ?_ | refine qc (c1) ?_); conv => whnf)
  exact xA rfl trivial
 rw [h3] at c1
 rw [Bool.true_and]
 refine qrf Try.func58 Try.ntmps58 Try.results58 ?_; conv => whnf
 repeat ((first | refine qz ?_ | refine qdr ?_ | refine qp (vg (h := a.store.length) (xs := b.store) (f := xL) h1 rfl rfl rfl) ?_ | refine qc (c1) ?_); conv => whnf)
 refine xu (ι := { i : Nat // i ≤ a.refs.length ∧ rgB (a.refs.drop i) (b.refs.drop i) = rgB a.refs b.refs }) (fun i => ⟨[(2, .optr 3 0 [] 0), (3, .optr 4 0 [] 0), (5, .v (.int .i64 (i.1 : Int)))], [(3, ⟨34, 2, [xX a]⟩), (4, ⟨34, 2, [xX b]⟩)]⟩) (fun i => a.refs.length - i.1) ⟨0, Nat.zero_le _, rfl⟩ (by exact qle) ?_
 rintro ⟨i, hi, hd⟩
 dsimp only at hi hd ⊢
 conv => whnf
 by_cases hlt : i < a.refs.length
 case neg =>
  rw [← hd, List.drop_eq_nil_of_le (by omega), aBG]
  repeat ((refine qz ?_; conv => whnf))
  exact xA rfl trivial
 have hlt' : i < b.refs.length := by omega
 rw [aEw hlt hlt'] at hd
 repeat ((refine qz ?_; conv => whnf))
 (refine qdr ?_; conv => whnf)
 by_cases n1 : (b.refs[i]).name = (a.refs[i]).name
 case neg =>
  rw [aHD fun h => n1 h.1, Bool.false_and] at hd
  rw [← hd]
  repeat ((first | refine qp (xR (aFo n1) rfl rfl rfl) ?_ | refine qz ?_); conv => whnf)
  exact xA rfl trivial
 by_cases n2 : (a.refs[i]).ver ≤ (b.refs[i]).ver
 case neg =>
  rw [aHD fun h => n2 h.2.1, Bool.false_and] at hd
  rw [← hd]
  repeat ((first | refine qp (xR (wo n1) rfl rfl rfl) ?_ | refine qz ?_); conv => whnf)
  exact xA rfl trivial
 by_cases n3 : (b.refs[i]).ver = (a.refs[i]).ver
 case neg =>
  rw [aIz n1 n2 fun h => absurd h n3, Bool.true_and] at hd
  repeat ((first | refine qp (xR (wo n1) rfl rfl rfl) ?_ | refine qz ?_); conv => whnf)
  exact ⟨⟨i + 1, hlt, hd⟩, by exact qle, by simp; omega⟩
 by_cases n4 : b.refs[i] = a.refs[i]
 · rw [aIz n1 n2 fun _ => n4, Bool.true_and] at hd
   repeat ((first | refine qp (xR (wo n1) rfl rfl rfl) ?_ | refine qz ?_ | refine qp (qO (aFn (a := b.refs[i]) (b := a.refs[i]) (r := false) (by simp [n4])) rfl rfl rfl) ?_); conv => whnf)
   exact ⟨⟨i + 1, hlt, hd⟩, by exact qle, by simp; omega⟩
 · rw [aHD fun h => n4 (h.2.2 n3), Bool.false_and] at hd
   rw [← hd]
   repeat ((first | refine qp (xR (wo n1) rfl rfl rfl) ?_ | refine qz ?_ | refine qp (qO (aFn (a := b.refs[i]) (b := a.refs[i]) (r := true) (by simp [n4])) rfl rfl rfl) ?_); conv => whnf)
   exact xA rfl trivial
theorem aHT {a b : Bas} (ha : a.ok maxLen) (hb : b.ok maxLen) : AC Try.prog 32 [xX a, xX b] ⟨.tup [.v (.bool (yB a && (yB b && qy a b))), .v (.int .i64 (if (yB a && yB b) = true then 0 else 1))], []⟩ := by
 have c1 := wD ha
 have c2 := wD hb
 have c3 := aFX ha hb
 generalize yB a = x at c1 ⊢
 generalize yB b = y at c2 ⊢
 generalize qy a b = z at c3 ⊢
 cases x <;> cases y
 all_goals
  refine qrf Try.func32 Try.ntmps32 Try.results32 ?_; conv => whnf
  repeat ((first | refine qz ?_ | refine qc (c1) ?_ | refine qc (c2) ?_ | refine qc (c3) ?_ | refine qdr ?_); conv => whnf)
  exact yS rfl rfl
end Go.Proofs.Ytdhjchdbgognbaa.AM
namespace Go.Proofs.Ytdhjchdbgognbaa.AM
open Go Go.RowKit
theorem aJ8 (b : Bas) (s : Ent) (x y : ByteArray) : (scR b s x y).1.length ≤ 4096 := by
 unfold scR
 split
 · simp
 · split
   · unfold jo
     split
     · simp
     · rename_i h
       split
       · have := aFC (es := mapOf b s) (a := x) (b := y)
         show (kL _ _ _).length ≤ 4096
         omega
       · simp
   · simp
theorem aJN (b : Bas) (s t : Ent) : (dfR b s t).1.length ≤ 4096 := by
 unfold dfR
 split
 · rename_i h
   simp only [Bool.and_eq_true] at h
   obtain ⟨j, hj, _, em⟩ := vo h.2.1
   obtain ⟨i, hi, _, en⟩ := vo h.2.2
   have b1 := wu h.1 hj
   have b2 := wu h.1 hi
   have := aH1 (mapOf b s) (mapOf b t)
   rw [em, en] at this
   show (y7 (mapOf b s) (mapOf b t)).length ≤ 4096
   rw [em, en]
   omega
 · simp
attribute [local irreducible] xO xU yD zA zJ Pre ACG
theorem aE7 {b : Bas} (hs : b.store.length ≤ maxLen ∧ y5 maxLen b.store) (hr : b.refs.length ≤ maxLen) (hk : ∀ r ∈ b.refs, r.name.size ≤ maxLen) {x : ByteArray} (hx : x.size ≤ maxLen)
 (h2 : AC Try.prog 12 [xX b, .v (.string x)] ⟨.tup [xD (uO b x).1, .v (.int .i64 (uO b x).2)], []⟩) : AC Try.prog 3 [xX b, .v (.string x)] ⟨.v (.bool true), []⟩ := by
 have hb : b.ok maxLen := ⟨hs.1, hs.2, hr, hk⟩
 have hx' := hx
 unfold maxLen at hx'
 by_cases hxl : 1048576 < x.size
 · refine qrf Try.func3 Try.ntmps3 Try.results3 ?_; conv => whnf
   repeat ((first | refine qz ?_ | refine qdr ?_); conv => whnf)
   exact xA rfl trivial
 have hz := uJ hb (l := 1048576) (by omega) (by omega)
 by_cases hsz : szB b 1048576 < 0
 · refine qrf Try.func3 Try.ntmps3 Try.results3 ?_; conv => whnf
   repeat ((first | refine qz ?_ | refine qc (hz) ?_); conv => whnf)
   exact xA rfl trivial
 obtain ⟨m0, m1, m2, m3⟩ := wY (by omega : 0 ≤ szB b 1048576) (by omega)
 have h1 := aIW hb hx
 have h3 := vC m1 m2 m3
 have h4 := vB hb
 generalize uO b x = R at h1 h2
 have h5 := aHL (s := R.1)
 refine qrf Try.func3 Try.ntmps3 Try.results3 ?_; conv => whnf
 repeat ((first | refine qz ?_ | refine qc (hz) ?_ | refine qc (h3) ?_ | refine qc (h1) ?_ | refine qc (h2) ?_ | refine qc (h5) ?_ | refine qc (h4) ?_ | refine qst ?_ | refine qdr ?_); conv => whnf)
 exact xA rfl trivial
theorem aGl {b : Bas} (hs : b.store.length ≤ maxLen ∧ y5 maxLen b.store) (hr : b.refs.length ≤ maxLen) (hk : ∀ r ∈ b.refs, r.name.size ≤ maxLen) {s : Ent} (hx : s.1.size ≤ maxLen)
 (h2 : AC Try.prog 18 [xX b, xD s] ⟨.v (.bool (yB b && z8 b.store.length s)), []⟩) : AC Try.prog 4 [xX b, xD s] ⟨.v (.bool true), []⟩ := by
 have hb : b.ok maxLen := ⟨hs.1, hs.2, hr, hk⟩
 have hz := uJ hb (l := 1048576) (by omega) (by omega)
 by_cases hsz : szB b 1048576 < 0
 · refine qrf Try.func4 Try.ntmps4 Try.results4 ?_; conv => whnf
   repeat ((first | refine qz ?_ | refine qc (hz) ?_); conv => whnf)
   exact xA rfl trivial
 obtain ⟨m0, m1, m2, m3⟩ := wY (by omega : 0 ≤ szB b 1048576) (by omega)
 have hzs := uV (l := szB b 1048576) hx (by omega) (by omega)
 by_cases hss : szB b 1048576 - s.1.size < 0
 · rw [if_pos hss] at hzs
   refine qrf Try.func4 Try.ntmps4 Try.results4 ?_; conv => whnf
   repeat ((first | refine qz ?_ | refine qc (hz) ?_ | refine qc (hzs) ?_); conv => whnf)
   exact xA rfl trivial
 rw [if_neg hss] at hzs
 have h1 := aG5 hb hx
 have h3 := vC m1 m2 m3
 have h4 := vB hb
 have h5 := kN (s := s)
 generalize (yB b && z8 b.store.length s) = R at h1 h2
 cases R
 all_goals
  refine qrf Try.func4 Try.ntmps4 Try.results4 ?_; conv => whnf
  repeat ((first | refine qz ?_ | refine qc (hz) ?_ | refine qc (hzs) ?_ | refine qc (h3) ?_ | refine qc (h5) ?_ | refine qc (h1) ?_ | refine qc (h2) ?_ | refine qc (h4) ?_ | refine qst ?_ | refine qdr ?_ | refine qp (xR (wN Try.underlying4) rfl rfl rfl) ?_); conv => whnf)
  exact xA rfl trivial
theorem aE8 {b : Bas} (hs : b.store.length ≤ maxLen ∧ y5 maxLen b.store) (hr : b.refs.length ≤ maxLen) (hk : ∀ r ∈ b.refs, r.name.size ≤ maxLen) {s : Ent} (hx : s.1.size ≤ maxLen) {k : ByteArray} (hkx : k.size ≤ maxLen)
 (h2 : AC Try.prog 20 [xX b, xD s, .v (.string k)] ⟨.tup [.v (.int .i64 (rdR b s k).1), .v (.int .i64 (rdR b s k).2)], []⟩) : AC Try.prog 5 [xX b, xD s, .v (.string k)] ⟨.v (.bool true), []⟩ := by
 have hb : b.ok maxLen := ⟨hs.1, hs.2, hr, hk⟩
 have hx' := hkx
 unfold maxLen at hx'
 by_cases hxl : 1048576 < k.size
 · refine qrf Try.func5 Try.ntmps5 Try.results5 ?_; conv => whnf
   repeat ((first | refine qz ?_ | refine qdr ?_); conv => whnf)
   exact xA rfl trivial
 have hz := uJ hb (l := 1048576) (by omega) (by omega)
 by_cases hsz : szB b 1048576 < 0
 · refine qrf Try.func5 Try.ntmps5 Try.results5 ?_; conv => whnf
   repeat ((first | refine qz ?_ | refine qc (hz) ?_); conv => whnf)
   exact xA rfl trivial
 obtain ⟨m0, m1, m2, m3⟩ := wY (by omega : 0 ≤ szB b 1048576) (by omega)
 have hzs := uV (l := szB b 1048576) hx (by omega) (by omega)
 by_cases hss : szB b 1048576 - s.1.size < 0
 · rw [if_pos hss] at hzs
   refine qrf Try.func5 Try.ntmps5 Try.results5 ?_; conv => whnf
   repeat ((first | refine qz ?_ | refine qc (hz) ?_ | refine qc (hzs) ?_); conv => whnf)
   exact xA rfl trivial
 rw [if_neg hss] at hzs
 have h1 := aIX hb hx hkx
 have h3 := vC m1 m2 m3
 have h4 := vB hb
 have h5 := kN (s := s)
 generalize rdR b s k = R at h1 h2
 refine qrf Try.func5 Try.ntmps5 Try.results5 ?_; conv => whnf
 repeat ((first | refine qz ?_ | refine qc (hz) ?_ | refine qc (hzs) ?_ | refine qc (h3) ?_ | refine qc (h5) ?_ | refine qc (h1) ?_ | refine qc (h2) ?_ | refine qc (h4) ?_ | refine qst ?_ | refine qdr ?_); conv => whnf)
 exact xA rfl trivial
theorem aDn {a b : Bas} (hs : a.store.length ≤ maxLen ∧ y5 maxLen a.store) (hr : a.refs.length ≤ maxLen) (hk : ∀ r ∈ a.refs, r.name.size ≤ maxLen) (hs' : b.store.length ≤ maxLen ∧ y5 maxLen b.store) (hr' : b.refs.length ≤ maxLen) (hk' : ∀ r ∈ b.refs, r.name.size ≤ maxLen)
 (h2 : AC Try.prog 33 [xX a, xX b] ⟨.tup [.v (.bool (yB a && (yB b && qy a b))), .v (.int .i64 (if (yB a && yB b) = true then 0 else 1))], []⟩) : AC Try.prog 8 [xX a, xX b] ⟨.v (.bool true), []⟩ := by
 have ha : a.ok maxLen := ⟨hs.1, hs.2, hr, hk⟩
 have hb : b.ok maxLen := ⟨hs'.1, hs'.2, hr', hk'⟩
 have hz := uJ ha (l := 1048576) (by omega) (by omega)
 by_cases hsz : szB a 1048576 < 0
 · refine qrf Try.func8 Try.ntmps8 Try.results8 ?_; conv => whnf
   repeat ((first | refine qz ?_ | refine qc (hz) ?_); conv => whnf)
   exact xA rfl trivial
 obtain ⟨m0, m1, m2, m3⟩ := wY (by omega : 0 ≤ szB a 1048576) (by omega)
 have hz' := uJ hb (l := szB a 1048576) (by omega) (by omega)
 by_cases hsz' : szB b (szB a 1048576) < 0
 · refine qrf Try.func8 Try.ntmps8 Try.results8 ?_; conv => whnf
   repeat ((first | refine qz ?_ | refine qc (hz) ?_ | refine qc (hz') ?_); conv => whnf)
   exact xA rfl trivial
 obtain ⟨_, n1, n2, n3⟩ := wY (by omega : 0 ≤ szB b (szB a 1048576)) (by omega)
 have h1 := aHT ha hb
 have h3 := vC m1 m2 m3
 have h3' := vC n1 n2 n3
 have h4 := vB ha
 have h4' := vB hb
 generalize (yB a && (yB b && qy a b)) = R at h1 h2
 generalize (if (yB a && yB b) = true then (0 : Int) else 1) = c at h1 h2
 cases R
 all_goals
  refine qrf Try.func8 Try.ntmps8 Try.results8 ?_; conv => whnf
  repeat ((first | refine qz ?_ | refine qc (hz) ?_ | refine qc (hz') ?_ | refine qc (h3) ?_ | refine qc (h3') ?_ | refine qc (h1) ?_ | refine qc (h2) ?_ | refine qc (h4) ?_ | refine qc (h4') ?_ | refine qst ?_ | refine qdr ?_ | refine qp (xR (wN Try.underlying4) rfl rfl rfl) ?_); conv => whnf)
  exact xA rfl trivial
end Go.Proofs.Ytdhjchdbgognbaa.AM
