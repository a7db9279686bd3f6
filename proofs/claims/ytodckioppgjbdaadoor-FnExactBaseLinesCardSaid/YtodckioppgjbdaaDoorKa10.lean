/- Texts of the machine over data, folded. -/
import Derived.Test.YtodckioppgjbdaaDoorKa6
import Derived.Test.YtodckioppgjbdaaDoorKa7
import Derived.WalkSpells
import Derived.Test.YtodckioppgjbdaaDoorKa5
import Derived.Test.YtodckioppgjbdaaDoorKa8
import Derived.Test.YtodckioppgjbdaaDoorKa9
set_option linter.unusedVariables false
set_option linter.unusedSimpArgs false
set_option maxRecDepth 100000
namespace Go.Proofs.YtodckioppgjbdaaDoor
open Go.RowKit
end Go.Proofs.YtodckioppgjbdaaDoor
namespace Go.Proofs.YtodckioppgjbdaaDoor
open Go Go.RowKit
end Go.Proofs.YtodckioppgjbdaaDoor
namespace Go.Proofs.YtodckioppgjbdaaDoor.AM
open Go Go.RowKit
section
variable {w : World}
end
section
variable {P : Program} {Θ : Tab} {s : St} {ty : TypeId} {pos : String} {after : Array Edge} {g : Option (Nat × Bool)}
theorem aA1 {d : Option Tmp} {t : TypeId} {x y : Operand} {l i c : Nat} {p : List Nat} {ob : OB} {q z v : AV} (hq : ob.xs[i]? = some q) (hx : s.ev x = .optr l i p c) (ho : s.hp l = some ob) (hg : xK q p 0 = some (z, c)) (hs : ((Θ.look t).known && (Nat.beq (asz z) (Θ.look t).size && Nat.beq (asz v) (asz z))) = true) (hy : s.ev y = v) (hv : yg v = true) (hd : ob.e.deep = true := by rfl) (hc : cOK y = true := by rfl) :
 Pre P Θ ⟨d, .store t x y, ty, pos, after, g⟩ s ⟨.any, some fun s' => s'.set l (some ⟨ob.e, ob.sz, ob.xs.set i (zV q p v)⟩)⟩ := by
 simp only [Bool.and_eq_true] at hs
 exact ⟨uF hc, hs.1, l, i, p, c, ob, hx, ho, .inr (.inr (.inl ⟨q, z, v, hd, hq, hg, Nat.eq_of_beq_eq_true hs.2.1, hy, hv, Nat.eq_of_beq_eq_true hs.2.2, rfl⟩))⟩
theorem jy {d : Option Tmp} {x : Operand} {t : TypeId} {l m : Nat} {ob : OB} (hx : s.ev x = .own l) (ho : s.hp l = some ob) (hm : ob.xs.length = m) (hok : ∃ e sz b z, Θ.look t = .slice e sz b z) : Pre P Θ ⟨d, .call ⟨.builtin .len, #[x], #[t]⟩, ty, pos, after, g⟩ s ⟨.v (.int .i64 (m : Int)), none⟩ :=
 aDg hx (by simp [wH, ho, hm]) hok
theorem aG6 (hΘ : yI P Θ) (hm : P.follows .mixedOrders = true) {f : FuncId} {fn : Func} {c : Code} {n r : Nat} (hf : P.funcs[f]? = some fn) (hb : fn.body = some c) (hnt : fn.ntmps = n) (hrs : fn.results = #[.tmp r]) (hnm : (fn.name == "runtime.NumGoroutine") = false)
 {args : List AV} {ob : OB} {xs' : List AV} {v : Value} (hlen : Nat.ble (args.length + 1) n = true) (h : kE P Θ n c (yH r ob.e ob.sz xs' v) (St.initM ob args)) (hsh : ob.e.shut = true := by rfl) : ACM P f ob xs' args v := by
 have hw : ∀ (e : ET) (p : Nat → Bool), e.shut = true → zK p e = true := fun e p h => by cases e <;> first | rfl | cases h
 refine aBe (rs := [.tmp r]) hΘ hm hf hb hnt (by rw [hrs]) hnm (Nat.le_of_ble_eq_true hlen) rfl ?_ (kH _ _ (fun e s he => ?_) (zD _ _ _ h))
 · simp only [List.all_cons, List.all_nil, hw _ _ hsh]; rfl
 · have key : (s.sl r = .v v ∧ s.hp 0 = some ⟨ob.e, ob.sz, xs'⟩) → Ret Θ [.tmp r] [⟨ob.e, ob.sz, xs'⟩] ⟨.v v, []⟩ s := fun ⟨h1, h2⟩ => ⟨⟨h2, trivial⟩, [], by simp, trivial, ⟨trivial, trivial⟩, trivial, ⟨.inl ⟨h1, rfl⟩, trivial⟩⟩
   cases e with
   | normal => exact key he
   | ret => exact key he
   | exit id => exact he.elim
theorem aFc {a t l l1 l2 : Nat} {ob o1 o2 : OB} {t' : Option Nat} {Θ : Tab} (h1 : s.sl a = .optr l 0 [] 0) (ho : s.hp l = some ob) (hop : ob.e.open_ = false) (hoe : yC ob.e ob.xs 0 = some (.o t' 0 (.mix [.own l1, .own l2]))) (ho1 : s.hp l1 = some o1) (ho2 : s.hp l2 = some o2) (hn : Nat.beq l1 l2 = false) (hk : ((Θ.look t).known && (Θ.look t).isAgg && Nat.beq 2 (Θ.look t).size) = true) (hok1 : okL l1 = true := by rfl) (hok2 : okL l2 = true := by rfl) (hs1 : o1.e.shut = true := by rfl) (hs2 : o2.e.shut = true := by rfl) :
 aBP Θ [.cell a t] ⟨.mix [.own 0, .own 1], [o1, o2]⟩ .ret s := by
 have hr : rvA s (.cell a t) = .mix [.own l1, .own l2] := by
  simp only [rvA, h1, ho, hop, hoe, cond_false]; rfl
 simp only [Bool.and_eq_true] at hk
 have hne : l1 ≠ l2 := fun e => by rw [e] at hn; simp at hn
 refine ⟨trivial, [l1, l2], by simp [hne], ⟨⟨ho1, hok1, hs1⟩, ⟨ho2, hok2, hs2⟩, trivial⟩, ⟨⟨hk.1.1, by rw [hr]; exact hk.1.2.symm, by rw [hr]; exact Nat.eq_of_beq_eq_true hk.2, .inl ⟨l, ob, _, h1, ho, .inr ⟨hop, _, _, hoe, rfl⟩⟩⟩, trivial⟩, trivial, ⟨.inl ⟨?_, rfl⟩, trivial⟩⟩
 rw [hr]; rfl
end
theorem aIt {l : List Int} : ∀ x ∈ l.map yN, yg x = true := fun x hx => by obtain ⟨_, _, rfl⟩ := List.mem_map.1 hx; rfl
theorem aIs {l : List Ent} : ∀ x ∈ l.map yT, yg x = true := fun x hx => by obtain ⟨_, _, rfl⟩ := List.mem_map.1 hx; rfl
def yc : Nat → Int → List Int
 | 0, _ => []
 | n + 1, k => k :: yc n (k + 1)
theorem vH : ∀ (n : Nat) (k : Int), (yc n k).length = n
 | 0, _ => rfl
 | n + 1, k => by simp [yc, vH n (k + 1)]
theorem aAS : ∀ (n : Nat) (k : Int), yc (n + 1) k = yc n k ++ [k + n]
 | 0, k => by simp [yc]
 | n + 1, k => by
  rw [yc, aAS n (k + 1), yc]
  have e : k + 1 + (n : Int) = k + ((n + 1 : Nat) : Int) := by omega
  rw [e]; rfl
def aCN (c : Cmt) (k : Int) : Int := k + c.1.length + 2 * c.2.length
def aDd (c : Cmt) (k : Int) : Cmt := (yc c.1.length k, marked c.2.length (k + c.1.length))
def kA : List Cmt → Int → Int
 | [], k => k
 | c :: cs, k => kA cs (aCN c k)
def yZ : List Cmt → Int → List Cmt
 | [], _ => []
 | c :: cs, k => aDd c k :: yZ cs (aCN c k)
theorem aGw : ∀ (a b : List Cmt) (k : Int), kA (a ++ b) k = kA b (kA a k)
 | [], b, k => rfl
 | c :: a, b, k => by simp only [List.cons_append, kA]; exact aGw a b _
theorem aBK : ∀ (a b : List Cmt) (k : Int), yZ (a ++ b) k = yZ a k ++ yZ b (kA a k)
 | [], b, k => rfl
 | c :: a, b, k => by simp only [List.cons_append, yZ, kA]; rw [aBK a b _]
theorem jv : ∀ (l : List Cmt) (k : Int), (yZ l k).length = l.length
 | [], _ => rfl
 | c :: l, k => by simp [yZ, jv l _]
theorem aEW {l : List Cmt} {i : Nat} {k : Int} (h : i < l.length) : yZ (l.take (i + 1)) k = yZ (l.take i) k ++ [aDd l[i] (kA (l.take i) k)] := by
 rw [List.take_succ_eq_append_getElem h, aBK]; rfl
theorem aIr {l : List Cmt} {i : Nat} {k : Int} (h : i < l.length) : kA (l.take (i + 1)) k = aCN l[i] (kA (l.take i) k) := by
 rw [List.take_succ_eq_append_getElem h, aGw]; rfl
def uR : List Cmt → Nat
 | [] => 0
 | c :: cs => c.1.length + c.2.length + uR cs
theorem aDX : ∀ (l : List Cmt) (i : Nat), uR (l.take i) ≤ uR l
 | [], i => by simp [uR]
 | c :: l, 0 => by simp [uR]
 | c :: l, i + 1 => by have := aDX l i; simp only [List.take_succ_cons, uR]; omega
theorem aFt : ∀ (l : List Cmt) (i : Nat) (h : i < l.length), l[i].1.length + l[i].2.length ≤ uR l
 | c :: l, 0, h => by simp [uR]
 | c :: l, i + 1, h => by have := aFt l i (by simpa using h); simp only [List.getElem_cons_succ, uR]; omega
theorem aGM : ∀ (l : List Cmt) (k : Int), k ≤ kA l k ∧ kA l k ≤ k + 2 * uR l
 | [], k => by simp [kA, uR]
 | c :: l, k => by
  have := aGM l (aCN c k)
  simp only [kA, uR]
  unfold aCN at *
  omega
theorem aJJ {c : Cmt} {l : Int} (h : 0 ≤ szC c l) : szC c l ≤ l - c.1.length - c.2.length := by
 unfold szC at h ⊢
 by_cases h1 : szI c.1.length l < 0
 · rw [if_pos h1] at h; omega
 · rw [if_neg h1] at h ⊢
   by_cases h2 : szL eSz c.2 (szI c.1.length l) < 0
   · rw [if_pos h2] at h; omega
   · rw [if_neg h2] at h ⊢
     have h3 : szI c.1.length l = l - c.1.length := by unfold szI at h1 ⊢; split <;> rename_i hh <;> simp_all
     rw [h3] at h h2 ⊢
     unfold szL at h ⊢
     split at h
     · omega
     · rename_i hn
       rw [if_neg hn]
       have := (aCQ h).1
       omega
attribute [local irreducible] xI xJ xL yF yH Pre ACG
theorem aDv {c : Cmt} (hm : c.1.length ≤ 1048576) (hm2 : c.2.length ≤ 1048576) : AC Tryd.prog 128 [xP c] ⟨.mix [.own 0, .own 1], [⟨3, 1, c.1.map yN⟩, ⟨89, 2, c.2.map yT⟩]⟩ := by
 refine qrf Tryd.func128 Tryd.ntmps128 Tryd.results128 ?_; conv => whnf
 repeat ((first | refine qz ?_ | refine qc (aCo hm) ?_ | refine qc (aBB hm2) ?_ | refine qr (jW rfl rfl rfl rfl rfl rfl) ?_); conv => whnf)
 exact aFc rfl rfl rfl rfl rfl rfl rfl rfl
theorem aD5 {l : List Cmt} (hm : l.length ≤ 1048576) (hc : ∀ c ∈ l, c.1.length ≤ 1048576 ∧ c.2.length ≤ 1048576) : AC Tryd.prog 79 [.lst 2 (l.map xP)] ⟨.own 0, [⟨.d 122, 2, l.map xP⟩]⟩ := by
 refine qrf Tryd.func79 Tryd.ntmps79 Tryd.results79 ?_; conv => whnf
 repeat (first | (refine qz ?_; conv => whnf) | (refine aE7 (aAZ (n := l.length) (by omega) (by omega) (by simp; rfl) (by simp; rfl) rfl rfl) rfl rfl (fun e => by cases e) (Gh.z2d 8 rfl (Gh.done ?_)); conv => whnf))
 have hrow : List.replicate l.length (AV.agg [.lst 1 [], .lst 2 []]) = (l.take 0 ++ List.replicate (l.length - 0) ja).map xP := by simp [xP]
 refine xX (ι := { k : Nat // k ≤ l.length }) (fun k => ⟨[(0, .lst 2 (l.map xP)), (3, .own 8), (4, .v (.int .i64 (k.1 : Int)))], [(8, ⟨.d 122, 2, (l.take k.1 ++ List.replicate (l.length - k.1) ja).map xP⟩)]⟩) (fun k => l.length - k.1) ⟨0, Nat.zero_le _⟩ ⟨⟨congrArg (fun x => some (OB.mk _ _ x)) hrow, trivial⟩, .inl ⟨rfl, rfl⟩, .inl ⟨rfl, rfl⟩, .inl ⟨rfl, rfl⟩, trivial⟩ ?_
 rintro ⟨k, hk⟩
 dsimp only
 conv => whnf
 by_cases hlt : k < l.length
 · obtain ⟨q1, q2⟩ := hc _ (List.getElem_mem hlt)
   have hlt2 : k < (l.take k ++ List.replicate (l.length - k) ja).length := by simp; omega
   have hset := congrArg (List.map xP) (kZ l ja k hlt)
   rw [List.map_set] at hset
   have hopn : yC (.d 122) ((l.take k ++ List.replicate (l.length - k) ja).map xP) k = some (.o (some 122) k (xP (l.take k ++ List.replicate (l.length - k) ja)[k])) := by
    simp only [yC, wO xP hlt2]
   repeat ((first | refine qz ?_ | refine qc (aDv q1 q2) ?_ | refine qp (uT (by simpa using hlt2) rfl rfl rfl rfl rfl) ?_); conv => whnf)
   refine aE7 (jW rfl rfl hopn rfl rfl rfl) rfl rfl (fun e => by cases e) (Gh.s2d 21 rfl aIt (Gh.s2d 1021 rfl aIs (Gh.fold 8 21 [0] rfl rfl rfl rfl rfl rfl (Gh.fold 8 1021 [1] rfl rfl rfl rfl rfl rfl (Gh.shut 8 (z := .agg [.lst 1 [], .lst 2 []]) (y' := xP l[k]) rfl rfl (Gh.done ?_))))))
   conv => whnf
   repeat ((refine qz ?_; conv => whnf))
   exact ⟨⟨k + 1, hlt⟩, ⟨⟨congrArg (fun x => some (OB.mk _ _ x)) hset, trivial⟩, .inl ⟨rfl, rfl⟩, .inl ⟨rfl, rfl⟩, .inl ⟨rfl, rfl⟩, trivial⟩, by simp; omega⟩
 · have hkk : k = l.length := by omega
   subst hkk
   repeat ((refine qz ?_; conv => whnf))
   exact aA4 rfl (by show some (OB.mk _ _ _) = _; rw [List.take_length, Nat.sub_self, List.replicate_zero, List.append_nil])
theorem aFB {l : List Int} {k0 : Int} (hm : l.length ≤ 1048600) (h0 : 0 ≤ k0) (h1 : k0 ≤ 8388608) : ACM Tryd.prog 134 ⟨.u, 1, l.map yN⟩ ((yc l.length k0).map yN) [.v (.int .i64 k0)] (.int .i64 (k0 + l.length)) := by
 refine aG6 qJ (by kernel_rfl) Tryd.func134 rfl Tryd.ntmps134 Tryd.results134 (by kernel_rfl) rfl ?_
 conv => whnf
 refine xX (ι := { k : Nat // k ≤ l.length }) (fun k => ⟨[(0, .own 0), (1, .v (.int .i64 (k0 + (k.1 : Int)))), (5, .v (.int .i64 (k.1 : Int)))], [(0, ⟨.u, 1, (yc k.1 k0 ++ l.drop k.1).map yN⟩)]⟩) (fun k => l.length - k.1) ⟨0, Nat.zero_le _⟩ (by
  refine ⟨⟨rfl, trivial⟩, .inl ⟨rfl, rfl⟩, .inl ⟨?_, rfl⟩, .inl ⟨rfl, rfl⟩, trivial⟩
  show AV.v (.int .i64 k0) = _
  simp) ?_
 rintro ⟨k, hk⟩
 dsimp only
 have hml : (yc k k0 ++ l.drop k).length = l.length := by simp [vH]; omega
 have hml2 : ((yc k k0 ++ l.drop k).map yN).length = l.length := by rw [List.length_map]; exact hml
 conv => whnf
 by_cases hlt : k < l.length
 · have hlt' : k < (yc k k0 ++ l.drop k).length := by omega
   have hset : (yc k k0 ++ l.drop k).set k (k0 + k) = yc (k + 1) k0 ++ l.drop (k + 1) := by
    rw [List.set_append_right _ _ (by rw [vH]; exact Nat.le_refl _), vH, Nat.sub_self, List.drop_eq_getElem_cons hlt, List.set_cons_zero, aAS, List.append_assoc]; rfl
   have hset' : ((yc k k0 ++ l.drop k).map yN).set k (yN (k0 + k)) = (yc (k + 1) k0 ++ l.drop (k + 1)).map yN := by rw [← List.map_set, hset]
   repeat ((first | refine qp (jy (m := l.length) rfl rfl hml2 ⟨_, _, _, _, rfl⟩) ?_ | refine qz ?_ | refine qp (uT (by simpa using hlt') rfl rfl rfl rfl rfl) ?_ | refine qr (aA1 (wO _ hlt') rfl rfl rfl rfl rfl rfl) ?_); conv => whnf)
   refine ⟨⟨k + 1, hlt⟩, ⟨⟨?_, trivial⟩, .inl ⟨rfl, rfl⟩, .inl ⟨?_, rfl⟩, .inl ⟨rfl, rfl⟩, trivial⟩, by simp; omega⟩
   · exact congrArg (fun x => some (OB.mk _ _ x)) hset'
   · show AV.v (.int .i64 (k0 + k + 1)) = _
     congr 2
     simp; omega
 · have hkk : k = l.length := by omega
   subst hkk
   repeat (first | (refine qp (jy (m := l.length) rfl rfl hml2 ⟨_, _, _, _, rfl⟩) ?_; conv => whnf) | (refine qz ?_; conv => whnf) | (rw [hml]))
   exact aA5 rfl (by show some (OB.mk _ _ _) = _; simp)
end Go.Proofs.YtodckioppgjbdaaDoor.AM
namespace Go.Proofs.YtodckioppgjbdaaDoor.AM
open Go Go.RowKit
section
variable {P : Program} {Θ : Tab} {s : St} {ty : TypeId} {pos : String} {after : Array Edge} {g : Option (Nat × Bool)}
end
attribute [local irreducible] xI xJ xL yF yH Pre ACG
end Go.Proofs.YtodckioppgjbdaaDoor.AM
namespace Go.Proofs.YtodckioppgjbdaaDoor.AM
open Go Go.RowKit
section
variable {P : Program} {Θ : Tab} {s : St} {ty : TypeId} {pos : String} {after : Array Edge} {g : Option (Nat × Bool)}
end
attribute [local irreducible] xI xJ xL yF yH Pre ACG
end Go.Proofs.YtodckioppgjbdaaDoor.AM
namespace Go.Proofs.YtodckioppgjbdaaDoor.AM
open Go Go.RowKit
theorem aCx {α : Type} (l : List α) (k : Nat) (a b : α) : (l.set k a).set k b = l.set k b := by simp [List.set_set]
attribute [local irreducible] xI xJ xL yF yH Pre ACG
theorem aD2 {l : List Ent} {k0 : Int} (hm : l.length ≤ 1048600) (h0 : 0 ≤ k0) (h1 : k0 ≤ 8388608) : ACM Tryd.prog 17 ⟨.u, 2, l.map yT⟩ ((marked l.length k0).map yT) [.v (.int .i64 k0)] (.int .i64 (k0 + 2 * l.length)) := by
 refine aG6 qJ (by kernel_rfl) Tryd.func17 rfl Tryd.ntmps17 Tryd.results17 (by kernel_rfl) rfl ?_
 conv => whnf
 refine xX (ι := { k : Nat // k ≤ l.length }) (fun k => ⟨[(0, .own 0), (1, .v (.int .i64 (k0 + 2 * (k.1 : Int)))), (5, .v (.int .i64 (k.1 : Int)))], [(0, ⟨.u, 2, (marked k.1 k0 ++ l.drop k.1).map yT⟩)]⟩) (fun k => l.length - k.1) ⟨0, Nat.zero_le _⟩ (by
  refine ⟨⟨rfl, trivial⟩, .inl ⟨rfl, rfl⟩, .inl ⟨?_, rfl⟩, .inl ⟨rfl, rfl⟩, trivial⟩
  show AV.v (.int .i64 k0) = _
  simp) ?_
 rintro ⟨k, hk⟩
 dsimp only
 have hml : (marked k k0 ++ l.drop k).length = l.length := by simp [wz]; omega
 have hml2 : ((marked k k0 ++ l.drop k).map yT).length = l.length := by rw [List.length_map]; exact hml
 conv => whnf
 by_cases hlt : k < l.length
 · have hlt' : k < (marked k k0 ++ l.drop k).length := by omega
   have hset : (marked k k0 ++ l.drop k).set k (zn (k0 + 2 * k), k0 + 2 * k + 1) = marked (k + 1) k0 ++ l.drop (k + 1) := by
    rw [List.set_append_right _ _ (by rw [wz]; exact Nat.le_refl _), wz, Nat.sub_self, List.drop_eq_getElem_cons hlt, List.set_cons_zero, aFK, List.append_assoc]; rfl
   have hset' : ((marked k k0 ++ l.drop k).map yT).set k (yT (zn (k0 + 2 * k), k0 + 2 * k + 1)) = (marked (k + 1) k0 ++ l.drop (k + 1)).map yT := by rw [← List.map_set, hset]
   repeat ((first | refine qp (jy (m := l.length) rfl rfl hml2 ⟨_, _, _, _, rfl⟩) ?_ | refine qz ?_ | refine qc (vO (k := k0 + 2 * (k : Int)) (by omega) (by omega)) ?_ | refine qp (uT (by simpa using hlt') rfl rfl rfl rfl rfl) ?_ | refine qr (aA1 (wO _ hlt') rfl rfl rfl rfl rfl rfl) ?_ | refine qr (aA1 (aCM (by simpa using hlt')) rfl rfl rfl rfl rfl rfl) ?_); conv => whnf)
   refine ⟨⟨k + 1, hlt⟩, ⟨⟨?_, trivial⟩, .inl ⟨rfl, rfl⟩, .inl ⟨?_, rfl⟩, .inl ⟨rfl, rfl⟩, trivial⟩, by simp; omega⟩
   · exact congrArg (fun x => some (OB.mk _ _ x)) (Eq.trans (aCx _ _ _ _) hset')
   · show AV.v (.int .i64 (k0 + 2 * k + 1 + 1)) = _
     congr 2
     simp; omega
 · have hkk : k = l.length := by omega
   subst hkk
   repeat (first | (refine qp (jy (m := l.length) rfl rfl hml2 ⟨_, _, _, _, rfl⟩) ?_; conv => whnf) | (refine qz ?_; conv => whnf) | (rw [hml]))
   exact aA5 rfl (by show some (OB.mk _ _ _) = _; simp)
set_option maxHeartbeats 1000000 in
theorem aCW {l : List Cmt} {k0 : Int} (hm : l.length ≤ 1048600) (ht : uR l ≤ 1048600) (h0 : 0 ≤ k0) (h1 : k0 ≤ 4194304) : ACM Tryd.prog 86 ⟨.d 122, 2, l.map xP⟩ ((yZ l k0).map xP) [.v (.int .i64 k0)] (.int .i64 (kA l k0)) := by
 refine aG6 qJ (by kernel_rfl) Tryd.func86 rfl Tryd.ntmps86 Tryd.results86 (by kernel_rfl) rfl ?_
 conv => whnf
 refine xX (ι := { k : Nat // k ≤ l.length }) (fun k => ⟨[(0, .own 0), (1, .v (.int .i64 (kA (l.take k.1) k0))), (5, .v (.int .i64 (k.1 : Int)))], [(0, ⟨.d 122, 2, (yZ (l.take k.1) k0 ++ l.drop k.1).map xP⟩)]⟩) (fun k => l.length - k.1) ⟨0, Nat.zero_le _⟩ ⟨⟨rfl, trivial⟩, .inl ⟨rfl, rfl⟩, .inl ⟨rfl, rfl⟩, .inl ⟨rfl, rfl⟩, trivial⟩ ?_
 rintro ⟨i, hi⟩
 dsimp only
 have hmt : (yZ (l.take i) k0).length = i := by rw [jv, List.length_take]; omega
 have hml : (yZ (l.take i) k0 ++ l.drop i).length = l.length := by rw [List.length_append, hmt, List.length_drop]; omega
 have hml2 : ((yZ (l.take i) k0 ++ l.drop i).map xP).length = l.length := by rw [List.length_map]; exact hml
 conv => whnf
 by_cases hlt : i < l.length
 case neg =>
  have hkk : i = l.length := by omega
  subst hkk
  repeat ((first | refine qp (jy (m := l.length) rfl rfl hml2 ⟨_, _, _, _, rfl⟩) ?_ | refine qz ?_); conv => whnf)
  exact aA5 (by show AV.v (.int .i64 (kA (l.take l.length) k0)) = _; rw [List.take_length]) (by show some (OB.mk _ _ _) = _; rw [List.take_length, List.drop_length, List.append_nil])
 have hb := aGM (l.take i) k0
 have hb2 := aDX l i
 have hb3 := aFt l i hlt
 have hlt' : i < (yZ (l.take i) k0 ++ l.drop i).length := by omega
 have hat : (yZ (l.take i) k0 ++ l.drop i)[i]? = some l[i] := by
  rw [List.getElem?_append_right (by omega), hmt, Nat.sub_self, List.drop_eq_getElem_cons hlt]; rfl
 have hset : ((yZ (l.take i) k0 ++ l.drop i).map xP).set i (xP (aDd l[i] (kA (l.take i) k0))) = (yZ (l.take (i + 1)) k0 ++ l.drop (i + 1)).map xP := by
  rw [← List.map_set, List.set_append_right _ _ (by omega), hmt, Nat.sub_self, List.drop_eq_getElem_cons hlt, List.set_cons_zero, aEW hlt, List.append_assoc]; rfl
 have hstep := aIr (k := k0) hlt
 generalize hX : (yZ (l.take i) k0 ++ l.drop i).map xP = X at *
 generalize hK : kA (l.take i) k0 = K at *
 have hXl : i < X.length := by omega
 have hXi : X[i]? = some (xP l[i]) := by rw [← hX, List.getElem?_map, hat]; rfl
 have hopn : yC (.d 122) X i = some (.o (some 122) i (xP l[i])) := by simp only [yC, hXi]
 have hX2 : ∀ y : AV, (X.set i y)[i]? = some y := fun y => aCM hXl
 have hopn2 : ∀ y : AV, yC (.d 122) (X.set i y) i = some (.o (some 122) i y) := fun y => by simp only [yC, hX2 y]
 have hml3 : ∀ y : AV, i < (X.set i y).length := fun y => by rw [List.length_set]; exact hXl
 repeat ((first | refine qp (jy (m := l.length) rfl rfl hml2 ⟨_, _, _, _, rfl⟩) ?_ | refine qz ?_); conv => whnf)
 refine aCH (uT hXl rfl rfl rfl rfl rfl) rfl rfl (aCH (aA0 rfl rfl rfl) rfl rfl ?_)
 refine qr (aHP rfl rfl hopn rfl rfl rfl) ?_
 conv => whnf
 refine aE7 (jw (aFB (l := (l[i]).1) (k0 := K) (by omega) (by omega) (by omega)) rfl rfl rfl rfl rfl rfl rfl) rfl rfl (fun e => by cases e) (Gh.fold 0 17 [0] rfl rfl rfl rfl rfl rfl (Gh.shut 0 (z := .agg [.lst 1 [], .lst 2 []]) (y' := .agg [.lst 1 ((yc (l[i]).1.length K).map yN), .lst 2 ((l[i]).2.map yT)]) rfl rfl (Gh.done ?_)))
 conv => whnf
 repeat ((refine qz ?_; conv => whnf))
 refine aCH (uT (hml3 _) rfl rfl rfl rfl rfl) rfl rfl (aCH (aA0 rfl rfl rfl) rfl rfl ?_)
 refine qr (aHP rfl rfl (hopn2 _) rfl rfl rfl) ?_
 conv => whnf
 refine aE7 (jw (aD2 (l := (l[i]).2) (k0 := K + (l[i]).1.length) (by omega) (by omega) (by omega)) rfl rfl rfl rfl rfl rfl rfl) rfl rfl (fun e => by cases e) (Gh.fold 0 24 [1] rfl rfl rfl rfl rfl rfl (Gh.shut 0 (z := .agg [.lst 1 [], .lst 2 []]) (y' := xP (aDd l[i] K)) rfl rfl (Gh.done ?_)))
 conv => whnf
 repeat ((refine qz ?_; conv => whnf))
 refine ⟨⟨i + 1, hlt⟩, ⟨⟨?_, trivial⟩, .inl ⟨rfl, rfl⟩, .inl ⟨?_, rfl⟩, .inl ⟨rfl, rfl⟩, trivial⟩, by simp; omega⟩
 · exact congrArg (fun x => some (OB.mk _ _ x)) (Eq.trans (aCx _ _ _ _) hset)
 · show AV.v (.int .i64 (K + (l[i]).1.length + 2 * (l[i]).2.length)) = _
   rw [hstep]; rfl
end Go.Proofs.YtodckioppgjbdaaDoor.AM
namespace Go.Proofs.YtodckioppgjbdaaDoor.AM
open Go Go.RowKit
theorem aJA {s : St} {Θ : Tab} {r : Nat} {v : Value} {o1 o2 : OB} (h1 : s.sl r = .v v) (h2 : s.hp 0 = some o1) (h3 : s.hp 1000000 = some o2) : yF Θ [.tmp r] [o1, o2] ⟨.v v, []⟩ .ret s := ⟨⟨h2, h3, trivial⟩, [], by simp, trivial, ⟨trivial, trivial⟩, trivial, ⟨.inl ⟨h1, rfl⟩, trivial⟩⟩
attribute [local irreducible] xI xJ xL yF yH Pre ACG
theorem aDW : ∀ {es : List Cmt} {l : Int}, 0 ≤ szG szC es l → szG szC es l ≤ l - uR es
 | [], l, h => by simp [szG, uR]
 | c :: cs, l, h => by
  unfold szG at h ⊢
  split at h
  · omega
  · rename_i hn
    rw [if_neg hn]
    have h1 := aDW h
    have h2 := aJJ (by omega : 0 ≤ szC c l)
    simp only [uR]; omega
theorem aH9 {cs : List Cmt} {l : Int} (h : 0 ≤ zW cs l) : zW cs l ≤ l - cs.length - uR cs := by
 unfold zW at h ⊢
 split at h
 · omega
 · rename_i hn
   rw [if_neg hn]
   have := aDW h; omega
theorem aIT {α : Type} {g : α → Nat} {es : List α} {l : Int} (h : 0 ≤ szL g es l) : szL g es l ≤ l - es.length := by
 unfold szL at h ⊢
 split at h
 · omega
 · rename_i hn
   rw [if_neg hn]
   have := (aCQ h).1; omega
theorem aIR {B : Bas} {l : Int} (h : 0 ≤ szB B l) : szB B l ≤ l - B.store.length - uR B.store - B.refs.length := by
 unfold szB at h ⊢
 by_cases ha : zW B.store l < 0
 · rw [if_pos ha] at h; omega
 rw [if_neg ha] at h ⊢
 have z1 := aH9 (by omega : 0 ≤ zW B.store l)
 by_cases hn : szL rSz B.refs (zW B.store l) < 0
 · rw [if_pos hn] at h; omega
 rw [if_neg hn] at h ⊢
 have z2 := aIT (by omega : 0 ≤ szL rSz B.refs (zW B.store l))
 omega
theorem aGC {B : Bas} (hm : B.store.length ≤ 1048576) (hc : ∀ c ∈ B.store, c.1.length ≤ 1048576 ∧ c.2.length ≤ 1048576) (hr : B.refs.length ≤ 1048576) : AC Tryd.prog 35 [zL B] ⟨.mix [.own 0, .own 1], [⟨.d 122, 2, B.store.map xP⟩, ⟨125, 4, B.refs.map xV⟩]⟩ := by
 have h1 := aD5 hm hc
 have h2 := aCp hr
 refine qrf Tryd.func35 Tryd.ntmps35 Tryd.results35 ?_; conv => whnf
 repeat ((first | refine qz ?_ | refine qc (h1) ?_ | refine qc (h2) ?_ | refine qr (jW rfl rfl rfl rfl rfl rfl) ?_); conv => whnf)
 exact aFc rfl rfl rfl rfl rfl rfl rfl rfl
theorem aDr {L : List Cmt} {R : List Rf} {k0 : Int} (hm : L.length ≤ 1048600) (ht : uR L ≤ 1048600) (hR : R.length ≤ 1048600) (h0 : 0 ≤ k0) (h1 : k0 ≤ 4194304) (h2 : 0 ≤ kA L k0) (h3 : kA L k0 ≤ 8388608) :
 ACG Tryd.prog 39 [.mix [.own 0, .own 1000000], .v (.int .i64 k0)] [⟨.d 122, 2, L.map xP⟩, ⟨125, 4, R.map xV⟩] [⟨.d 122, 2, (yZ L k0).map xP⟩, ⟨125, 4, (yt R.length (kA L k0)).map xV⟩] ⟨.v (.int .i64 (kA L k0 + 4 * R.length)), []⟩ := by
 refine aBe (rs := [.tmp 4]) qJ (by kernel_rfl) Tryd.func39 rfl Tryd.ntmps39 (by rw [Tryd.results39]) (by kernel_rfl) (by simp) rfl rfl (zD _ _ _ ?_)
 conv => whnf
 repeat ((first | refine qz ?_ | refine qr (aKA rfl rfl rfl) ?_ | refine qr (jw (aCW (l := L) (k0 := k0) (by omega) (by omega) (by omega) (by omega)) rfl rfl rfl rfl rfl rfl rfl) ?_ | refine qr (jw (aFC (l := R) (k0 := kA L k0) (by omega) (by omega) (by omega)) rfl rfl rfl rfl rfl rfl rfl) ?_); conv => whnf)
 exact aJA rfl rfl rfl
end Go.Proofs.YtodckioppgjbdaaDoor.AM
namespace Go.Proofs.YtodckioppgjbdaaDoor.AM
open Go Go.RowKit
theorem aHq (b : Bas) : (j5 b).1.length ≤ 4096 := by
 unfold j5
 split
 · rename_i h
   have := aBi h
   show (aBR b).length ≤ 4096
   rw [aHp]
   have := this.sl
   have h2 := (aBi h).rl
   omega
 · simp
attribute [local irreducible] xI xJ xL yF yH Pre ACG
theorem aFJ {b : Bas} {R : List ByteArray} {code : Int} (hb : b.ok maxLen) (hsz : 0 ≤ szB b 1048576) (hR : R.length ≤ 4096)
 (h1 : AC Tryd.prog 34 [zL b] ⟨.tup [.own 0, .v (.int .i64 code)], [⟨9, 1, R.map yB⟩]⟩)
 (h2 : AC Tryd.prog 36 [zL b] ⟨.tup [.own 0, .v (.int .i64 code)], [⟨9, 1, R.map yB⟩]⟩) : AC Tryd.prog 8 [zL b] ⟨.v (.bool true), []⟩ := by
 obtain ⟨q0, q1, q2, q3⟩ := aKR hsz (by omega)
 have tt := aIR hsz
 have hz := aCn hb (l := 1048576) (by omega) (by omega)
 have t0 := aGl q1 q2 q3
 have t1 := aGC (B := b) q1 (fun c h => ⟨(q2 c h).1, (q2 c h).2.1⟩) q3
 have e0 := aGg hb
 have hRm : R.length ≤ maxLen := by unfold maxLen; omega
 have e1 := aDn hRm
 have kb := aGM b.store 1
 obtain ⟨K1, hK1⟩ : ∃ K, kA b.store 1 = K := ⟨_, rfl⟩
 rw [hK1] at kb
 have m1 := aDr (L := b.store) (R := b.refs) (k0 := 1) (by omega) (by omega) (by omega) (by omega) (by omega) (by omega) (by omega)
 rw [hK1] at m1
 have m0 := aCX (l := R) (k0 := 1) (by omega) (by omega) (by omega)
 have d0 := aCU (n := R.length) (k0 := 1) (by omega) (by omega) (by omega)
 have pK : 0 ≤ K1 + 4 * (b.refs.length : Int) := by omega
 clear hK1 kb tt
 refine qrf Tryd.func8 Tryd.ntmps8 Tryd.results8 ?_; conv => whnf
 repeat ((first | refine qz ?_ | refine qc (hz) ?_); conv => whnf)
 (refine qc (t0) ?_; conv => whnf)
 repeat ((first | refine qz ?_ | refine qc (h1) ?_); conv => whnf)
 (refine qc (t1) ?_; conv => whnf)
 repeat ((first | refine qz ?_ | refine qdr ?_ | refine qc (h2) ?_ | refine qr (jW rfl rfl rfl rfl rfl rfl) ?_ | refine qc (e1) ?_); conv => whnf)
 repeat ((first | refine qz ?_ | refine qdr ?_ | refine qc (t0) ?_ | refine qc (e0) ?_); conv => whnf)
 refine qr (aFb [27, 1027] m1 rfl rfl ⟨rfl, rfl, trivial⟩ rfl rfl trivial rfl rfl rfl (.inl rfl) rfl) ?_
 conv => whnf
 repeat ((first | refine qz ?_ | refine qdr ?_ | refine qc (e1) ?_ | refine qr (jw (m0) rfl rfl rfl rfl rfl rfl rfl) ?_); conv => whnf)
 repeat ((first | refine qz ?_ | refine qdr ?_ | refine qc (d0) ?_ | refine qc (t0) ?_ | refine qc (h2) ?_ | refine qc (e1) ?_); conv => whnf)
 exact xA rfl trivial
theorem aD7 {b : Bas} (hs : b.store.length ≤ maxLen ∧ wC maxLen b.store) (hr : b.refs.length ≤ maxLen) (hk : ∀ r ∈ b.refs, r.name.size ≤ maxLen)
 (h2 : AC Tryd.prog 36 [zL b] ⟨.tup [.own 0, .v (.int .i64 (j5 b).2)], [⟨9, 1, (j5 b).1.map yB⟩]⟩) : AC Tryd.prog 8 [zL b] ⟨.v (.bool true), []⟩ := by
 have hb : b.ok maxLen := ⟨hs.1, hs.2, hr, hk⟩
 have hz := aCn hb (l := 1048576) (by omega) (by omega)
 by_cases hsz : szB b 1048576 < 0
 · refine qrf Tryd.func8 Tryd.ntmps8 Tryd.results8 ?_; conv => whnf
   repeat ((first | refine qz ?_ | refine qc (hz) ?_); conv => whnf)
   exact xA rfl trivial
 exact aFJ hb (by omega) (aHq b) (aD4 hb) h2
end Go.Proofs.YtodckioppgjbdaaDoor.AM
namespace Go.Proofs.YtodckioppgjbdaaDoor.AM
open Go Go.RowKit
theorem aGp (n : Nat) : 0 < (kX n).size := by
 show 0 < (kY n).length
 by_cases h : n < 10
 · rw [aBn h]; simp
 · rw [aEE h]; simp
theorem jA {n : Int} : ¬ (yO n).size = 0 := by
 unfold yO
 split
 · rw [ByteArray.size_append, qM]; omega
 · have := aGp n.toNat; omega
theorem aGr {e : Ent} : 0 < (zM e).size := by
 unfold zM
 rw [ByteArray.size_append, ByteArray.size_append, qM]
 omega
theorem aFZ {sep : ByteArray} {g : Nat → ByteArray} (h0 : 0 < (g 0).size) : ∀ {n : Nat}, 0 < n → 0 < (jn sep g n).size
 | 0, h => by omega
 | i + 1, _ => by
  rw [jn, ByteArray.size_append]
  by_cases hi : i = 0
  · subst hi; omega
  · rw [if_neg hi, ByteArray.size_append]
    have := aFZ (sep := sep) h0 (n := i) (by omega)
    omega
theorem aIE {m : List Ent} : ¬ (vN m).size = 0 := by
 unfold vN
 by_cases h : m.length = 0
 · rw [if_pos h]; decide
 · rw [if_neg h]
   have := aFZ (sep := ⟨#[44]⟩) (g := fun i => zM ((m[i]?).getD zEn)) aGr (n := m.length) (by omega)
   omega
def kD (I : ByteArray) (l : List Int) : List ByteArray := [⟨#[99, 111, 109, 109, 105, 116]⟩, I] ++ l.flatMap fun p => [⟨#[111, 102]⟩, yO p]
theorem aKH {I : ByteArray} {l : List Int} {k : Nat} (h : k < l.length) : kD I (l.take k) ++ [⟨#[111, 102]⟩, yO l[k]] = kD I (l.take (k + 1)) := by
 unfold kD
 rw [List.take_succ_eq_append_getElem h, List.flatMap_append, List.append_assoc]; rfl
theorem aFX {a : ByteArray} : ∀ (l : List Int), (l.flatMap fun p => [a, yO p]).length = 2 * l.length
 | [] => rfl
 | p :: l => by rw [List.flatMap_cons, List.length_append, aFX l]; simp only [List.length_cons, List.length_nil]; omega
theorem aE4 {I : ByteArray} {l : List Int} : (kD I l).length = 2 + 2 * l.length := by
 unfold kD
 rw [List.length_append, aFX]; rfl
theorem aKp : ((⟨#[32]⟩ ++ ⟨#[111, 102]⟩) ++ ⟨#[32]⟩ : ByteArray) = ⟨#[32, 111, 102, 32]⟩ := ByteArray.ext (by simp [ByteArray.data_append])
theorem aJ9 : (⟨#[99, 111, 109, 109, 105, 116]⟩ ++ ⟨#[32]⟩ : ByteArray) = ⟨#[99, 111, 109, 109, 105, 116, 32]⟩ := ByteArray.ext (by simp [ByteArray.data_append])
theorem aJa : ((⟨#[32]⟩ ++ ⟨#[109, 97, 112]⟩) ++ ⟨#[32]⟩ : ByteArray) = ⟨#[32, 109, 97, 112, 32]⟩ := ByteArray.ext (by simp [ByteArray.data_append])
theorem aKX : (⟨#[98, 114, 97, 110, 99, 104]⟩ ++ ⟨#[32]⟩ : ByteArray) = ⟨#[98, 114, 97, 110, 99, 104, 32]⟩ := ByteArray.ext (by simp [ByteArray.data_append])
theorem aK1 : ((⟨#[32]⟩ ++ ⟨#[118, 101, 114, 115, 105, 111, 110]⟩) ++ ⟨#[32]⟩ : ByteArray) = ⟨#[32, 118, 101, 114, 115, 105, 111, 110, 32]⟩ := ByteArray.ext (by simp [ByteArray.data_append])
theorem aKZ : (⟨#[32]⟩ ++ ⟨#[103, 111, 110, 101]⟩ : ByteArray) = ⟨#[32, 103, 111, 110, 101]⟩ := ByteArray.ext (by simp [ByteArray.data_append])
theorem aK0 : ((⟨#[32]⟩ ++ ⟨#[104, 101, 97, 100]⟩) ++ ⟨#[32]⟩ : ByteArray) = ⟨#[32, 104, 101, 97, 100, 32]⟩ := ByteArray.ext (by simp [ByteArray.data_append])
theorem aH8 : ∀ (l : List Int) (a : ByteArray), spA a (l.flatMap fun p => [⟨#[111, 102]⟩, yO p]) = jH a l
 | [], a => rfl
 | p :: l, a => by
  rw [List.flatMap_cons, aFq, vU (by decide), vU jA, kS, aH8 l]
  show _ = jH (a ++ (⟨#[32, 111, 102, 32]⟩ ++ yO p)) l
  rw [← aKp]
  simp only [kV]
theorem aJc {i : Nat} {c : Cmt} : kG (kD (yO ((i + 1 : Nat) : Int)) c.1 ++ [⟨#[109, 97, 112]⟩, vN c.2]) = aBS i c := by
 unfold kD
 rw [List.append_assoc]
 show kG (⟨#[99, 111, 109, 109, 105, 116]⟩ :: yO ((i + 1 : Nat) : Int) :: ((c.1.flatMap fun p => [⟨#[111, 102]⟩, yO p]) ++ [⟨#[109, 97, 112]⟩, vN c.2])) = _
 rw [aEj (by decide), vU jA, aFq, aH8, vU (by decide), vU aIE, kS]
 unfold aBS
 rw [← aJ9, ← aJa]
 simp only [kV]
section
variable {P : Program} {Θ : Tab} {s : St} {ty : TypeId} {pos : String} {after : Array Edge} {g : Option (Nat × Bool)} {d : Option Tmp}
theorem aHO {α : Type} {x y : Operand} {t el sz b l l' : Nat} {e0 e' : ET} {z : AV} {xs : List α} {f : α → AV} (ys zs : List α) (hz : xs ++ ys = zs) (hb : (xs.length + ys.length) * b ≤ 140737488355328) (hx : s.ev x = .own l) (hy : s.ev y = .own l') (ho : s.hp l = some ⟨e0, sz, xs.map f⟩) (ho' : s.hp l' = some ⟨e', sz, ys.map f⟩) (hn : (Nat.beq l' l || Nat.beq l 0) = false) (ht : Θ.look t = .slice el sz b z) (hb1 : Nat.ble 1 b = true) (he : (e0 = .s el ∨ e0 = .z el) := by first | exact .inl rfl | exact .inr rfl) (he' : e'.open_ = true := by rfl) (hok : okL l = true := by rfl) :
 Pre P Θ ⟨d, .call ⟨.builtin .append, #[x, y], #[t, t]⟩, ty, pos, after, g⟩ s ⟨.own l, some fun s => (s.kill l).set l (some ⟨.s el, sz, zs.map f⟩)⟩ := by
 subst hz
 simp only [Bool.or_eq_false_iff] at hn
 have n1 : l' ≠ l := fun h => by rw [h] at hn; simp at hn
 have hb1' := Nat.le_of_ble_eq_true hb1
 have hm : xs.length + ys.length ≤ maxLen := by
  have : (xs.length + ys.length) * 1 ≤ (xs.length + ys.length) * b := Nat.mul_le_mul_left _ hb1'
  unfold maxLen; omega
 exact ⟨x, y, t, el, sz, b, z, l, _, ys.map f, rfl, rfl, ht, hx, ho, hok, rfl, by simpa using hb, by simpa using hm, .inl ⟨el, he, rfl, .inr ⟨l', _, hy, n1, ho', he', rfl, rfl⟩, by rw [List.map_append]⟩⟩
end
attribute [local irreducible] xI xJ xL yF yH Pre ACG
theorem aDY {i : Nat} {c : Cmt} (hi : i < 60) (hS : CmtS c ∧ c.1.length ≤ 2 ∧ c.2.length ≤ 12) : AC Tryd.prog 82 [.v (.int .i64 ((i + 1 : Nat) : Int)), xP c] ⟨.v (.string (aBS i c)), []⟩ := by
 obtain ⟨hc, hp2, hm2⟩ := hS
 have n1 := jh (n := ((i + 1 : Nat) : Int)) (by omega) (by omega)
 have z1 := zq (n := ((i + 1 : Nat) : Int)) (by omega) (by omega)
 have hmz := aF2 hc.me
 have c4 := aGA (es := c.2) (by omega) hc.me
 have hpl := aE4 (I := yO ((i + 1 : Nat) : Int)) (l := c.1)
 have hsp := aJc (i := i) (c := c)
 have c5 := aAC (ps := kD (yO ((i + 1 : Nat) : Int)) c.1 ++ [⟨#[109, 97, 112]⟩, vN c.2]) (by rw [List.length_append, hpl]; simp; omega) (by
  intro p hp
  rcases List.mem_append.1 hp with hp | hp
  · unfold kD at hp
    rcases List.mem_append.1 hp with hp | hp
    · simp only [List.mem_cons, List.not_mem_nil, or_false] at hp
      rcases hp with rfl | rfl
      · show 6 ≤ 1000000; omega
      · omega
    · obtain ⟨q, hq, hp⟩ := List.mem_flatMap.1 hp
      have hq' := hc.pp q hq
      simp only [List.mem_cons, List.not_mem_nil, or_false] at hp
      rcases hp with rfl | rfl
      · show 2 ≤ 1000000; omega
      · exact Nat.le_trans (zq (by omega) (by omega)) (by omega)
  · simp only [List.mem_cons, List.not_mem_nil, or_false] at hp
    rcases hp with rfl | rfl
    · show 3 ≤ 1000000; omega
    · omega)
 rw [hsp] at c5
 generalize aBS i c = R at *
 generalize yO ((i + 1 : Nat) : Int) = I at *
 refine qrf Tryd.func82 Tryd.ntmps82 Tryd.results82 ?_; conv => whnf
 repeat (first | (refine qz ?_; conv => whnf) | (refine qc (n1) ?_; conv => whnf) | (refine qr (aAY [.const (.string ⟨#[99, 111, 109, 109, 105, 116]⟩), .tmp 9] [.string ⟨#[99, 111, 109, 109, 105, 116]⟩, .string I] rfl rfl rfl rfl rfl rfl rfl (by intro c hc; simp only [List.mem_cons, List.not_mem_nil, or_false] at hc; rcases hc with rfl | rfl <;> rfl)) ?_; conv => whnf))
 refine xX (ι := { k : Nat // k ≤ c.1.length }) (fun k => ⟨[(3, .optr 4 0 [] 0), (5, .own 11), (12, .lst 1 (c.1.map yN)), (13, .v (.int .i64 (c.1.length : Int))), (14, .v (.int .i64 (k.1 : Int)))], [(4, ⟨122, 2, [xP c]⟩), (11, ⟨9, 1, (kD I (c.1.take k.1)).map yB⟩)]⟩) (fun k => c.1.length - k.1) ⟨0, Nat.zero_le _⟩ (by exact qle) ?_
 rintro ⟨k, hk⟩
 dsimp only
 conv => whnf
 by_cases hlt : k < c.1.length
 · have hp := hc.pp _ (List.getElem_mem hlt)
   have c3 := jh (n := c.1[k]) (by omega) (by omega)
   have hps := aKH (I := I) hlt
   have hpl2 := aE4 (I := I) (l := c.1.take k)
   rw [List.length_take] at hpl2
   generalize yO c.1[k] = J at *
   repeat (first | (refine qz ?_; conv => whnf) | (refine qc (c3) ?_; conv => whnf) | (refine qr (aAY [.const (.string ⟨#[111, 102]⟩), .tmp 20] [.string ⟨#[111, 102]⟩, .string J] rfl rfl rfl rfl rfl rfl rfl (by intro c hc; simp only [List.mem_cons, List.not_mem_nil, or_false] at hc; rcases hc with rfl | rfl <;> rfl)) ?_; conv => whnf) | (refine qr (aHO (f := yB) (xs := kD I (c.1.take k)) [⟨#[111, 102]⟩, J] _ hps (by simp; omega) rfl rfl rfl rfl rfl rfl rfl) ?_; conv => whnf))
   exact ⟨⟨k + 1, hlt⟩, by exact qle, by simp; omega⟩
 · have e : k = c.1.length := by omega
   subst e
   rw [List.take_length]
   generalize vN c.2 = M at *
   repeat (first | (refine qz ?_; conv => whnf) | (refine qc (c4) ?_; conv => whnf) | (refine qc (c5) ?_; conv => whnf) | (refine qr (aAY [.const (.string ⟨#[109, 97, 112]⟩), .tmp 27] [.string ⟨#[109, 97, 112]⟩, .string M] rfl rfl rfl rfl rfl rfl rfl (by intro c hc; simp only [List.mem_cons, List.not_mem_nil, or_false] at hc; rcases hc with rfl | rfl <;> rfl)) ?_; conv => whnf) | (refine qr (aHO (f := yB) (xs := kD I c.1) [⟨#[109, 97, 112]⟩, M] _ rfl (by simp; omega) rfl rfl rfl rfl rfl rfl rfl) ?_; conv => whnf))
   exact xA rfl trivial
theorem aIc {b : Bas} (h : kW b = true) : ∀ r ∈ b.refs, 0 < r.name.size := by
 intro r hrm
 unfold kW at h
 simp only [Bool.and_eq_true] at h
 obtain ⟨_, hr, _⟩ := h
 obtain ⟨i, hi, rfl⟩ := List.getElem_of_mem hrm
 obtain ⟨_, g, _⟩ := (aEa hr).2 i hi
 unfold vY at g
 rw [Bool.and_eq_true] at g
 have h1 := g.1
 unfold okN Nm.nameOK at h1
 have e : (b.refs[i]).name.size = (b.refs[i]).name.data.toList.length := by rw [Array.length_toList]; rfl
 rw [e]
 split at h1
 · cases h1
 · rename_i c cs hc
   rw [hc]; simp
def stT (r : Rf) : ByteArray := if r.gone = true then ⟨#[103, 111, 110, 101]⟩ else aBY ⟨#[104, 101, 97, 100]⟩ (yO r.head)
theorem aKJ {r : Rf} (hn : 0 < r.name.size) : kG [⟨#[98, 114, 97, 110, 99, 104]⟩, r.name, ⟨#[118, 101, 114, 115, 105, 111, 110]⟩, yO r.ver, stT r] = aB7 r := by
 have e1 : kG [⟨#[98, 114, 97, 110, 99, 104]⟩, r.name, ⟨#[118, 101, 114, 115, 105, 111, 110]⟩, yO r.ver, stT r] = spA (aE9 r) [stT r] := by
  rw [aEj (by decide), vU (by omega), vU (by decide), vU jA]
  congr 1
  unfold aE9
  rw [← aKX, ← aK1]
  simp only [kV]
 rw [e1]
 unfold aB7 stT
 by_cases hg : r.gone = true
 · rw [if_pos hg, if_pos hg, vU (by decide), kS, ← aKZ]
   simp only [kV]
 · rw [if_neg hg, if_neg hg]
   unfold aBY
   rw [if_neg jA, aEj (by decide), vU jA, kS, vU (by simp only [ByteArray.size_append]; have : (⟨#[104, 101, 97, 100]⟩ : ByteArray).size = 4 := rfl; omega), kS, ← aK0]
   simp only [kV]
theorem aGB {r : Rf} (hS : RfS r) (hn : 0 < r.name.size) : AC Tryd.prog 83 [xV r] ⟨.v (.string (aB7 r)), []⟩ := by
 obtain ⟨s1, s2, s3, s4, s5⟩ := hS
 have n1 := jh (n := r.ver) (by omega) (by omega)
 have z1 := zq (n := r.ver) (by omega) (by omega)
 have n2 := jh (n := r.head) (by omega) (by omega)
 have z2 := zq (n := r.head) (by omega) (by omega)
 have n3 := aJR (l := ⟨#[104, 101, 97, 100]⟩) (t := yO r.head) (by decide) (by omega)
 have hsp := aKJ hn
 have z3 : (stT r).size ≤ 1000 := by
  unfold stT
  split
  · decide
  · unfold aBY
    split
    · decide
    · have := aFr (ps := [⟨#[104, 101, 97, 100]⟩, yO r.head]) (B := 14) (by
       intro p hp; simp only [List.mem_cons, List.not_mem_nil, or_false] at hp
       rcases hp with rfl | rfl
       · decide
       · omega)
      simp only [List.length_cons, List.length_nil] at this; omega
 have c5 := aAC (ps := [⟨#[98, 114, 97, 110, 99, 104]⟩, r.name, ⟨#[118, 101, 114, 115, 105, 111, 110]⟩, yO r.ver, stT r]) (by simp) (by
  intro p hp; simp only [List.mem_cons, List.not_mem_nil, or_false] at hp
  rcases hp with rfl | rfl | rfl | rfl | rfl
  · show 6 ≤ 1000000; omega
  · omega
  · show 7 ≤ 1000000; omega
  · omega
  · omega)
 rw [hsp] at c5
 generalize aB7 r = R at *
 generalize yO r.ver = V at *
 cases hg : r.gone with
 | true =>
  have he : xV r = .agg [.v (.string r.name), .v (.int .i64 r.head), .v (.int .i64 r.ver), .v (.bool true)] := by unfold xV; rw [hg]
  have hst : stT r = ⟨#[103, 111, 110, 101]⟩ := by unfold stT; rw [if_pos hg]
  rw [hst] at c5
  rw [he]
  refine qrf Tryd.func83 Tryd.ntmps83 Tryd.results83 ?_; conv => whnf
  repeat ((refine qz ?_; conv => whnf))
  refine .inr ⟨by kernel_rfl, aB4 (by kernel_rfl), ?_⟩
  repeat (first
   | refine uH (aA0 rfl rfl rfl) rfl rfl rfl (.inl rfl) (by kernel_rfl) ?_
   | refine uH (aG0 rfl rfl rfl rfl rfl rfl rfl) rfl rfl rfl (.inr rfl) (by kernel_rfl) ?_
   | refine uH (aGZ rfl) rfl rfl rfl (.inl rfl) (by kernel_rfl) ?_
   | refine uI (aBa n1 rfl rfl rfl trivial rfl rfl rfl) aAP rfl rfl (by kernel_rfl) ?_
   | refine uI (aEg [.const (.string ⟨#[98, 114, 97, 110, 99, 104]⟩), .tmp 12, .const (.string ⟨#[118, 101, 114, 115, 105, 111, 110]⟩), .tmp 15, .tmp 16] [.string ⟨#[98, 114, 97, 110, 99, 104]⟩, .string r.name, .string ⟨#[118, 101, 114, 115, 105, 111, 110]⟩, .string V, .string ⟨#[103, 111, 110, 101]⟩] rfl rfl rfl rfl rfl rfl rfl (by intro c hc; simp only [List.mem_cons, List.not_mem_nil, or_false] at hc; rcases hc with rfl | rfl | rfl | rfl | rfl <;> rfl)) aGK rfl rfl (by kernel_rfl) ?_
   | refine uI (aDU c5 rfl ⟨by simp [xu, y9], aAj⟩ trivial rfl rfl rfl) aAP rfl rfl (by kernel_rfl) ?_
   | refine uI (aCh rfl) aBq rfl rfl (by kernel_rfl) ?_)
  refine aE0 ?_
  conv => whnf
  repeat ((refine qz ?_; conv => whnf))
  exact xA rfl trivial
 | false =>
  have he : xV r = .agg [.v (.string r.name), .v (.int .i64 r.head), .v (.int .i64 r.ver), .v (.bool false)] := by unfold xV; rw [hg]
  have hst : stT r = aBY ⟨#[104, 101, 97, 100]⟩ (yO r.head) := by unfold stT; rw [if_neg (by rw [hg]; decide)]
  rw [hst] at c5
  rw [he]
  generalize aBY ⟨#[104, 101, 97, 100]⟩ (yO r.head) = L at *
  generalize yO r.head = H at *
  refine qrf Tryd.func83 Tryd.ntmps83 Tryd.results83 ?_; conv => whnf
  repeat ((first | refine qz ?_ | refine qc (n2) ?_ | refine qc (n3) ?_); conv => whnf)
  refine .inr ⟨by kernel_rfl, aB4 (by kernel_rfl), ?_⟩
  repeat (first
   | refine uH (aA0 rfl rfl rfl) rfl rfl rfl (.inl rfl) (by kernel_rfl) ?_
   | refine uH (aG0 rfl rfl rfl rfl rfl rfl rfl) rfl rfl rfl (.inr rfl) (by kernel_rfl) ?_
   | refine uH (aGZ rfl) rfl rfl rfl (.inl rfl) (by kernel_rfl) ?_
   | refine uI (aBa n1 rfl rfl rfl trivial rfl rfl rfl) aAP rfl rfl (by kernel_rfl) ?_
   | refine uI (aEg [.const (.string ⟨#[98, 114, 97, 110, 99, 104]⟩), .tmp 12, .const (.string ⟨#[118, 101, 114, 115, 105, 111, 110]⟩), .tmp 15, .tmp 16] [.string ⟨#[98, 114, 97, 110, 99, 104]⟩, .string r.name, .string ⟨#[118, 101, 114, 115, 105, 111, 110]⟩, .string V, .string L] rfl rfl rfl rfl rfl rfl rfl (by intro c hc; simp only [List.mem_cons, List.not_mem_nil, or_false] at hc; rcases hc with rfl | rfl | rfl | rfl | rfl <;> rfl)) aGK rfl rfl (by kernel_rfl) ?_
   | refine uI (aDU c5 rfl ⟨by simp [xu, y9], aAj⟩ trivial rfl rfl rfl) aAP rfl rfl (by kernel_rfl) ?_
   | refine uI (aCh rfl) aBq rfl rfl (by kernel_rfl) ?_)
  refine aE0 ?_
  conv => whnf
  repeat ((refine qz ?_; conv => whnf))
  exact xA rfl trivial
theorem aD1 {b : Bas} (hb : b.ok maxLen) : AC Tryd.prog 36 [zL b] ⟨.tup [.own 0, .v (.int .i64 (j5 b).2)], [⟨9, 1, (j5 b).1.map yB⟩]⟩ := by
 have c1 := aFx hb
 unfold j5
 cases hx : kW b
 case false =>
  rw [hx] at c1
  rw [if_neg (by decide)]
  refine qrf Tryd.func36 Tryd.ntmps36 Tryd.results36 ?_; conv => whnf
  repeat ((first | refine qz ?_ | refine qc (c1) ?_); conv => whnf)
  exact aAs rfl rfl rfl
 rw [hx] at c1
 rw [if_pos rfl]
 have h := aBi hx
 have hnm := aIc hx
 have hsl := h.sl
 have hrl := h.rl
 refine qrf Tryd.func36 Tryd.ntmps36 Tryd.results36 ?_; conv => whnf
 repeat ((first | refine qz ?_ | refine qc (c1) ?_); conv => whnf)
 refine xX (ι := { i : Nat // i ≤ b.store.length }) (fun i => ⟨[(1, .optr 2 0 [] 0), (4, .own 5), (13, .lst 2 (b.store.map xP)), (14, .v (.int .i64 (b.store.length : Int))), (15, .v (.int .i64 (i.1 : Int)))], [(2, ⟨64, 2, [zL b]⟩), (5, ⟨9, 1, (vD b.store i.1).map yB⟩)]⟩) (fun i => b.store.length - i.1) ⟨0, Nat.zero_le _⟩ (by exact qle) ?_
 rintro ⟨i, hi⟩
 dsimp only
 conv => whnf
 by_cases hlt : i < b.store.length
 · have c2 := aDY (i := i) (by omega) (h.sc _ (List.getElem_mem hlt))
   have hcs := aFV hlt
   have hcl := vk (l := b.store) (i := i)
   repeat ((first | refine qp (xk (aAe (c := ((i + 1 : Nat) : Int)) (by omega) (by omega) (by omega)) rfl rfl rfl) ?_ | refine qz ?_ | refine qst ?_ | refine qdr ?_ | refine qc (c2) ?_ | refine qr (kR (f := yB) (xs := vD b.store i) _ _ hcs.symm (by omega) rfl rfl rfl rfl rfl rfl rfl) ?_); conv => whnf)
   exact ⟨⟨i + 1, hlt⟩, by exact qle, by simp; omega⟩
 have e : i = b.store.length := by omega
 subst e
 repeat ((refine qz ?_; conv => whnf))
 have hcl := vk (l := b.store) (i := b.store.length)
 unfold aBR
 generalize vD b.store b.store.length = L at hcl ⊢
 refine xX (ι := { i : Nat // i ≤ b.refs.length }) (fun i => ⟨[(4, .own 5), (29, .lst 4 (b.refs.map xV)), (30, .v (.int .i64 (b.refs.length : Int))), (31, .v (.int .i64 (i.1 : Int)))], [(2, ⟨64, 2, [zL b]⟩), (5, ⟨9, 1, (wK L b.refs i.1).map yB⟩)]⟩) (fun i => b.refs.length - i.1) ⟨0, Nat.zero_le _⟩ (by exact qle) ?_
 rintro ⟨i, hi⟩
 dsimp only
 conv => whnf
 by_cases hlt : i < b.refs.length
 · have c3 := aGB (h.rr _ (List.getElem_mem hlt)) (hnm _ (List.getElem_mem hlt))
   have hcs := aFe (a := L) hlt
   have hrl' := jY (a := L) (l := b.refs) (i := i)
   repeat ((first | refine qz ?_ | refine qst ?_ | refine qdr ?_ | refine qc (c3) ?_ | refine qr (kR (f := yB) (xs := wK L b.refs i) _ _ hcs.symm (by omega) rfl rfl rfl rfl rfl rfl rfl) ?_); conv => whnf)
   exact ⟨⟨i + 1, hlt⟩, by exact qle, by simp; omega⟩
 have e : i = b.refs.length := by omega
 subst e
 repeat ((refine qz ?_; conv => whnf))
 exact aAs rfl rfl rfl
theorem law_BaseLinesP {b : Bas} (hs : b.store.length ≤ maxLen ∧ wC maxLen b.store) (hr : b.refs.length ≤ maxLen) (hk : ∀ r ∈ b.refs, r.name.size ≤ maxLen) : AC Tryd.prog 8 [zL b] ⟨.v (.bool true), []⟩ := aD7 hs hr hk (aD1 ⟨hs.1, hs.2, hr, hk⟩)
end Go.Proofs.YtodckioppgjbdaaDoor.AM
