/- Texts of the machine over data, folded. -/
import Derived.Test.YtoaifonjemlfcaaDoorKa5
import Derived.Test.YtoaifonjemlfcaaDoorKa6
import Derived.Test.YtoaifonjemlfcaaDoorKa7
import Derived.WalkSpells
import Derived.Test.YtoaifonjemlfcaaDoorKa8
set_option linter.unusedVariables false
set_option linter.unusedSimpArgs false
set_option maxRecDepth 100000
namespace Go.Proofs.YtoaifonjemlfcaaDoor.AM
open Go Go.RowKit
def aE0 (ops : Array Oper) (k : Nat) (s : St) (ls : List Nat) : Bool :=
 (List.range ops.size).all fun j => Nat.beq j k || (vX ops j k || (match ops[j]? with
  | some o => (tmpsOf o).all fun t => ((List.range ops.size).any fun j' => match (ops[j']?).bind (·.dst) with
   | some t' => Nat.beq t' t && (!(Nat.blt j' k) && !(aBB ops j'))
   | none => false) || ls.all fun l => !((s.sl t).names l)
  | none => true))
theorem aI9 {ops : Array Oper} {k : Nat} {s : St} {ls : List Nat} (h : aE0 ops k s ls = true) : ∀ j o, ops[j]? = some o → j ≠ k → vX ops j k = false → ∀ t, t ∈ tmpsOf o → (∀ j' o', ops[j']? = some o' → o'.dst = some t → Nat.blt j' k = true ∨ aBB ops j' = true) → ∀ l ∈ ls, (s.sl t).names l = false := by
 intro j o hj hne hor t ht hL l hl
 have h1 := List.all_eq_true.1 h j (List.mem_range.2 (Array.getElem?_eq_some_iff.1 hj).1)
 simp only [yB hne, hor, Bool.false_or, hj] at h1
 have h2 := List.all_eq_true.1 h1 t ht
 rw [Bool.or_eq_true] at h2
 rcases h2 with h2 | h2
 · obtain ⟨j', hj', h3⟩ := List.any_eq_true.1 h2
   cases ho' : ops[j']? with
   | none => rw [ho'] at h3; cases h3
   | some o' =>
    rw [ho'] at h3
    cases hd : o'.dst with
    | none => simp only [Option.bind_some, hd] at h3; cases h3
    | some t' =>
     simp only [Option.bind_some, hd, Bool.and_eq_true, Bool.not_eq_true'] at h3
     have : t' = t := Nat.eq_of_beq_eq_true h3.1
     subst this
     rcases hL j' o' ho' hd with h4 | h4 <;> rw [h4] at h3 <;> simp at h3
 · have := List.all_eq_true.1 h2 l hl
   simpa using this
theorem aDj {ops : Array Oper} {k : Nat} {s : St} {ls : List Nat} (h : aE0 ops k s ls = true) : ∀ j o, ops[j]? = some o → j ≠ k → vX ops j k = false → ∀ t, t ∈ tmpsOf o → (∀ j' o', ops[j']? = some o' → o'.dst = some t → Nat.blt j' k = true) → ∀ l ∈ ls, (s.sl t).names l = false :=
 fun j o h1 h2 h3 t ht hL => aI9 h j o h1 h2 h3 t ht fun j' o' a b => .inl (hL j' o' a b)
section
variable {Θ : Tab} {ops : Array Oper} {k : Nat} {s : St}
theorem uY {l : Nat} {o : Option OB} {v : AV} (hs : soft Θ ops true k = true) (hc : aE0 ops k s [l] = true) : vo Θ ops (fun j => Nat.blt j k) k s ⟨v, some fun s' => s'.set l o⟩ :=
 ⟨true, [l], _, id, fun hp j => bif Nat.beq j l then o else hp j, fun mp j => bif Nat.beq j l then none else mp j, rfl, hs, fun s => rfl, fun x _ => rfl, fun _ => ⟨fun x => rfl, fun hp j hj => by
  have : j ≠ l := by simpa using hj
  show (bif Nat.beq j l then o else hp j) = hp j
  rw [yB this]; rfl⟩, aDj hc⟩
theorem qK {l : Nat} {ob : OB} {v : AV} (hs : soft Θ ops false k = true) (hc : aE0 ops k s [l] = true) : vo Θ ops (fun j => Nat.blt j k) k s ⟨v, some fun s' => (s'.kill l).set l (some ob)⟩ :=
 ⟨false, [l], _, fun x => bif x.names l then .any else x, fun hp j => bif Nat.beq j l then some ob else xR l (hp j), fun mp j => bif Nat.beq j l then none else mp j, rfl, hs, fun s => rfl, (fun x h => by show (bif AV.names l x then AV.any else x) = x; rw [h l (by simp)]; rfl), (fun h => by cases h), aDj hc⟩
end
section
variable {P : Program} {Θ : Tab} {s : St} {ty : TypeId} {pos : String} {after : Array Edge} {g : Option (Nat × Bool)}
theorem aBH {d : Nat} {t : TypeId} {x : Operand} {el sz b : Nat} {z y : AV} (hf : s.hp (d + 1) = none) (ht : Θ.look t = .slice el sz b z) (hx : s.ev x = y) (hk : (match y with | .v c => c.oneCell' | .agg _ => true | .lst _ _ => true | .ptr _ => true | _ => false) = true) (hz : Nat.beq (asz y) (asz z) = true) (hsz : Nat.ble sz 65536 = true) (hok : okL (d + 1) = true := by rfl) :
 Pre P Θ ⟨some d, .buildSlice t 1 #[(0, x)], ty, pos, after, g⟩ s ⟨.own (d + 1), some fun s' => s'.set (d + 1) (some ⟨.s el, sz, [y]⟩)⟩ := by
 have hd : s.dat (s.ev x) = y := by rw [hx]; cases y <;> first | rfl | cases hk
 have ho : yJ (s.ev x) = [] := by rw [hx]; cases y <;> first | rfl | cases hk
 have hda : xK s (s.ev x) = true := by rw [hx]; cases y <;> first | exact hk | rfl | cases hk
 refine ⟨d, el, sz, b, z, rfl, hf, hok, ht, by rw [Nat.one_mul]; exact Nat.le_of_ble_eq_true hsz, .inl ⟨⟨⟨z, rfl, by rw [hd]; exact Nat.eq_of_beq_eq_true hz⟩, hda, trivial⟩, fun y' hy c e => ?_, ?_, ?_⟩⟩
 · simp at hy
   subst hy; subst e
   simp only [St.ev] at hx; subst hx; exact hk
 · simp [yg, xY, ho]
 · have h1 : yg s (([(0, x)] : List (Nat × Operand)).map (·.2)) = [] := by simp [yg, xY, ho]
   show _ = Eff.mk _ (aAw (yg s (([(0, x)] : List (Nat × Operand)).map (·.2))) _)
   rw [h1]
   show _ = Eff.mk _ (some _)
   congr 2
   funext s'
   show s'.set (d + 1) (some ⟨.s el, sz, [y]⟩) = s'.set (d + 1) (some ⟨.s el, sz, [s.dat (s.ev x)]⟩)
   rw [hd]
theorem qE {d : Option Tmp} {t : TypeId} {ps : Array (Nat × Operand)} {fs : List (Nat × Nat)} {z : List AV} (ht : Θ.look t = .struct fs z) (hm : aA7 s (w9 z) ps.toList) (hc : kJ (ps.toList.map (·.2)) = true) :
 Pre P Θ ⟨d, .build t ps, ty, pos, after, g⟩ s ⟨.mix (vD s (w9 z) ps.toList), none⟩ := ⟨fs, z, ht, .inr ⟨hm, zb hc, rfl⟩⟩
end
mutual
def qd : AV → List Nat
 | .own l => [l]
 | .optr l _ _ _ => [l]
 | .mapv l => [l]
 | .tup xs => aA3 xs
 | .mix xs => aA3 xs
 | .fn _ xs ys => aA3 xs ++ aA3 ys
 | .ifc _ x => qd x
 | _ => []
def aA3 : List AV → List Nat
 | [] => []
 | x :: xs => qd x ++ aA3 xs
end
mutual
theorem aCs {l : Nat} : ∀ x : AV, x.names l = true → l ∈ qd x
 | .own l', h => by simp only [AV.names] at h; simp [qd, Nat.eq_of_beq_eq_true h]
 | .optr l' _ _ _, h => by simp only [AV.names] at h; simp [qd, Nat.eq_of_beq_eq_true h]
 | .mapv l', h => by simp only [AV.names] at h; simp [qd, Nat.eq_of_beq_eq_true h]
 | .tup xs, h => by simp only [AV.names] at h; unfold qd; exact wT xs h
 | .mix xs, h => by simp only [AV.names] at h; unfold qd; exact wT xs h
 | .fn _ xs ys, h => by
  simp only [AV.names, Bool.or_eq_true] at h; unfold qd
  exact List.mem_append.2 (h.imp (wT xs) (wT ys))
 | .ifc _ x, h => by simp only [AV.names] at h; unfold qd; exact aCs x h
 | .any, h => by simp [AV.names] at h
 | .v _, h => by simp [AV.names] at h
 | .agg _, h => by simp [AV.names] at h
 | .lst _ _, h => by simp [AV.names] at h
 | .ptr _, h => by simp [AV.names] at h
 | .rd _, h => by simp [AV.names] at h
theorem wT {l : Nat} : ∀ xs : List AV, xL l xs = true → l ∈ aA3 xs
 | [], h => by simp [xL] at h
 | x :: xs, h => by
  simp only [xL, Bool.or_eq_true] at h; unfold aA3
  exact List.mem_append.2 (h.imp (aCs x) (wT xs))
end
section
variable {P : Program} {Θ : Tab} {n : Nat} {ops : Array Oper} {k : Nat} {s : St} {o : Oper} {u : AV} {ks : List Nat} {nu : List (Nat × Option OB)}
end
abbrev kP (x : AV) : Bool := x.within (fun _ => false)
mutual
theorem aDk (s s' : St) : ∀ x : AV, kP x = true → s'.dat x = s.dat x
 | .own l, h => by simp [kP, AV.within] at h
 | .optr l _ _ _, h => by simp [kP, AV.within] at h
 | .mix xs, h => by unfold St.dat; rw [aC9 s s' xs (by simpa [kP, AV.within] using h)]
 | .ifc t x, h => by unfold St.dat; rw [aDk s s' x (by simpa [kP, AV.within] using h)]
 | .mapv l, h => by simp [kP, AV.within] at h
 | .tup xs, h => by simp [St.dat]
 | .fn _ xs ys, h => by simp [St.dat]
 | .any, h => by simp [St.dat]
 | .v _, h => by simp [St.dat]
 | .agg _, h => by simp [St.dat]
 | .lst _ _, h => by simp [St.dat]
 | .ptr _, h => by simp [St.dat]
 | .rd _, h => by simp [St.dat]
theorem aC9 (s s' : St) : ∀ xs : List AV, yC (fun _ => false) xs = true → s'.datL xs = s.datL xs
 | [], _ => by simp [St.datL]
 | x :: xs, h => by
  simp only [yC, Bool.and_eq_true] at h
  simp only [St.datL]; rw [aDk s s' x h.1, aC9 s s' xs h.2]
end
mutual
theorem aFA (s s' : St) : ∀ x : AV, kP x = true → xK s' x = xK s x
 | .own l, h => by simp [kP, AV.within] at h
 | .optr l _ _ _, h => by simp [kP, AV.within] at h
 | .mix xs, h => by unfold xK; rw [aAl s s' xs (by simpa [kP, AV.within] using h)]
 | .ifc t x, h => by simp [xK]
 | .mapv l, h => by simp [kP, AV.within] at h
 | .tup xs, h => by simp [xK]
 | .fn _ xs ys, h => by simp [xK]
 | .any, h => by simp [xK]
 | .v _, h => by simp [xK]
 | .agg _, h => by simp [xK]
 | .lst _ _, h => by simp [xK]
 | .ptr _, h => by simp [xK]
 | .rd _, h => by simp [xK]
theorem aAl (s s' : St) : ∀ xs : List AV, yC (fun _ => false) xs = true → zY s' xs = zY s xs
 | [], _ => by simp [zY]
 | x :: xs, h => by
  simp only [yC, Bool.and_eq_true] at h
  simp only [zY]; rw [aFA s s' x h.1, aAl s s' xs h.2]
end
section
variable {P : Program} {Θ : Tab} {s : St} {ty : TypeId} {pos : String} {after : Array Edge} {g : Option (Nat × Bool)}
end
section
variable {P : Program} {Θ : Tab} {s : St} {ty : TypeId} {pos : String} {after : Array Edge} {g : Option (Nat × Bool)}
end
section
variable {P : Program} {Θ : Tab} {s : St} {ty : TypeId} {pos : String} {after : Array Edge} {g : Option (Nat × Bool)}
end
mutual
theorem aGA {s s' : St} : ∀ x : AV, (∀ l, x.names l = true → s'.hp l = s.hp l) → s'.dat x = s.dat x ∧ xK s' x = xK s x
 | .own l, h => by
  have := h l (by simp [AV.names])
  simp only [St.dat, xK, this, and_self]
 | .optr l i p c, h => by
  have := h l (by simp [AV.names])
  simp only [St.dat, xK, this, and_self]
 | .mix xs, h => by
  obtain ⟨h1, h2⟩ := aEs xs (fun l hl => h l (by simpa [AV.names] using hl))
  simp only [St.dat, xK, h1, h2, and_self]
 | .ifc t x, h => by
  obtain ⟨h1, _⟩ := aGA x (fun l hl => h l (by simpa [AV.names] using hl))
  simp only [St.dat, xK, h1, and_self]
 | .rd x, _ => ⟨rfl, rfl⟩
 | .any, _ => ⟨rfl, rfl⟩
 | .v _, _ => ⟨rfl, rfl⟩
 | .agg _, _ => ⟨rfl, rfl⟩
 | .lst _ _, _ => ⟨rfl, rfl⟩
 | .ptr _, _ => ⟨rfl, rfl⟩
 | .tup _, _ => ⟨rfl, rfl⟩
 | .mapv _, _ => ⟨rfl, rfl⟩
 | .fn _ _ _, _ => ⟨rfl, rfl⟩
theorem aEs {s s' : St} : ∀ xs : List AV, (∀ l, xL l xs = true → s'.hp l = s.hp l) → s'.datL xs = s.datL xs ∧ zY s' xs = zY s xs
 | [], _ => ⟨rfl, rfl⟩
 | x :: xs, h => by
  obtain ⟨h1, h2⟩ := aGA x (fun l hl => h l (by simp [xL, hl]))
  obtain ⟨h3, h4⟩ := aEs xs (fun l hl => h l (by simp [xL, hl]))
  simp only [St.datL, zY, h1, h2, h3, h4, and_self]
end
section
variable {P : Program} {Θ : Tab} {s : St} {ty : TypeId} {pos : String} {after : Array Edge} {g : Option (Nat × Bool)}
end
section
variable {P : Program} {Θ : Tab} {s : St} {ty : TypeId} {pos : String} {after : Array Edge} {g : Option (Nat × Bool)}
end
end Go.Proofs.YtoaifonjemlfcaaDoor.AM
namespace Go.Proofs.YtoaifonjemlfcaaDoor
open Go.RowKit
end Go.Proofs.YtoaifonjemlfcaaDoor
namespace Go.Proofs.YtoaifonjemlfcaaDoor
open Go Go.RowKit
end Go.Proofs.YtoaifonjemlfcaaDoor
namespace Go.Proofs.YtoaifonjemlfcaaDoor.AM
open Go Go.RowKit
section
variable {w : World}
end
section
variable {P : Program} {Θ : Tab} {s : St} {ty : TypeId} {pos : String} {after : Array Edge} {g : Option (Nat × Bool)}
theorem vY {d : Option Tmp} {t : TypeId} {x y : Operand} {l i c : Nat} {p : List Nat} {ob : OB} {q z v : AV} (hq : ob.xs[i]? = some q) (hx : s.ev x = .optr l i p c) (ho : s.hp l = some ob) (hg : xQ q p 0 = some (z, c)) (hs : ((Θ.look t).known && (Nat.beq (asz z) (Θ.look t).size && Nat.beq (asz v) (asz z))) = true) (hy : s.ev y = v) (hv : yx v = true) (hd : ob.e.deep = true := by rfl) (hc : cOK y = true := by rfl) :
 Pre P Θ ⟨d, .store t x y, ty, pos, after, g⟩ s ⟨.any, some fun s' => s'.set l (some ⟨ob.e, ob.sz, ob.xs.set i (zy q p v)⟩)⟩ := by
 simp only [Bool.and_eq_true] at hs
 exact ⟨uz hc, hs.1, l, i, p, c, ob, hx, ho, .inr (.inr (.inl ⟨q, z, v, hd, hq, hg, Nat.eq_of_beq_eq_true hs.2.1, hy, hv, Nat.eq_of_beq_eq_true hs.2.2, rfl⟩))⟩
theorem zf {d : Option Tmp} {x : Operand} {t : TypeId} {l m : Nat} {ob : OB} (hx : s.ev x = .own l) (ho : s.hp l = some ob) (hm : ob.xs.length = m) (hok : ∃ e sz b z, Θ.look t = .slice e sz b z) : Pre P Θ ⟨d, .call ⟨.builtin .len, #[x], #[t]⟩, ty, pos, after, g⟩ s ⟨.v (.int .i64 (m : Int)), none⟩ :=
 aAa hx (by simp [kN, ho, hm]) hok
theorem aE6 (hΘ : yF P Θ) (hm : P.follows .mixedOrders = true) {f : FuncId} {fn : Func} {c : Code} {n r : Nat} (hf : P.funcs[f]? = some fn) (hb : fn.body = some c) (hnt : fn.ntmps = n) (hrs : fn.results = #[.tmp r]) (hnm : (fn.name == "runtime.NumGoroutine") = false)
 {args : List AV} {ob : OB} {xs' : List AV} {v : Value} (hlen : Nat.ble (args.length + 1) n = true) (h : kT P Θ n c (y7 r ob.e ob.sz xs' v) (St.initM ob args)) (hsh : ob.e.shut = true := by rfl) : ACM P f ob xs' args v := by
 have hw : ∀ (e : ET) (p : Nat → Bool), e.shut = true → zO p e = true := fun e p h => by cases e <;> first | rfl | cases h
 refine xX (rs := [.tmp r]) hΘ hm hf hb hnt (by rw [hrs]) hnm (Nat.le_of_ble_eq_true hlen) rfl ?_ (uw _ _ (fun e s he => ?_) (xE _ _ _ h))
 · simp only [List.all_cons, List.all_nil, hw _ _ hsh]; rfl
 · have key : (s.sl r = .v v ∧ s.hp 0 = some ⟨ob.e, ob.sz, xs'⟩) → Ret Θ [.tmp r] [⟨ob.e, ob.sz, xs'⟩] ⟨.v v, []⟩ s := fun ⟨h1, h2⟩ => ⟨⟨h2, trivial⟩, [], by simp, trivial, ⟨trivial, trivial⟩, trivial, ⟨.inl ⟨h1, rfl⟩, trivial⟩⟩
   cases e with
   | normal => exact key he
   | ret => exact key he
   | exit id => exact he.elim
theorem aJn {a t l l1 l2 : Nat} {ob o1 o2 : OB} {t' : Option Nat} {Θ : Tab} (h1 : s.sl a = .optr l 0 [] 0) (ho : s.hp l = some ob) (hop : ob.e.open_ = false) (hoe : xk ob.e ob.xs 0 = some (.o t' 0 (.mix [.own l1, .own l2]))) (ho1 : s.hp l1 = some o1) (ho2 : s.hp l2 = some o2) (hn : Nat.beq l1 l2 = false) (hk : ((Θ.look t).known && (Θ.look t).isAgg && Nat.beq 2 (Θ.look t).size) = true) (hok1 : okL l1 = true := by rfl) (hok2 : okL l2 = true := by rfl) (hs1 : o1.e.shut = true := by rfl) (hs2 : o2.e.shut = true := by rfl) :
 jd Θ [.cell a t] ⟨.mix [.own 0, .own 1], [o1, o2]⟩ .ret s := by
 have hr : rvA s (.cell a t) = .mix [.own l1, .own l2] := by
  simp only [rvA, h1, ho, hop, hoe, cond_false]; rfl
 simp only [Bool.and_eq_true] at hk
 have hne : l1 ≠ l2 := fun e => by rw [e] at hn; simp at hn
 refine ⟨trivial, [l1, l2], by simp [hne], ⟨⟨ho1, hok1, hs1⟩, ⟨ho2, hok2, hs2⟩, trivial⟩, ⟨⟨hk.1.1, by rw [hr]; exact hk.1.2.symm, by rw [hr]; exact Nat.eq_of_beq_eq_true hk.2, .inl ⟨l, ob, _, h1, ho, .inr ⟨hop, _, _, hoe, rfl⟩⟩⟩, trivial⟩, trivial, ⟨.inl ⟨?_, rfl⟩, trivial⟩⟩
 rw [hr]; rfl
end
theorem aDW {l : List Int} : ∀ x ∈ l.map xu, yx x = true := fun x hx => by obtain ⟨_, _, rfl⟩ := List.mem_map.1 hx; rfl
theorem aDV {l : List Ent} : ∀ x ∈ l.map yP, yx x = true := fun x hx => by obtain ⟨_, _, rfl⟩ := List.mem_map.1 hx; rfl
def yG : Nat → Int → List Int
 | 0, _ => []
 | n + 1, k => k :: yG n (k + 1)
theorem uF : ∀ (n : Nat) (k : Int), (yG n k).length = n
 | 0, _ => rfl
 | n + 1, k => by simp [yG, uF n (k + 1)]
theorem aBr : ∀ (n : Nat) (k0 : Int) (k : Nat) (h : k < n), (yG n k0)[k]'(by rw [uF]; exact h) = k0 + k
 | n + 1, k0, 0, h => by simp [yG]
 | n + 1, k0, k + 1, h => by
  have := aBr n (k0 + 1) k (by omega)
  simp only [yG, List.getElem_cons_succ]
  rw [this]; omega
theorem aBE : ∀ (n : Nat) (k : Int), yG (n + 1) k = yG n k ++ [k + n]
 | 0, k => by simp [yG]
 | n + 1, k => by
  rw [yG, aBE n (k + 1), yG]
  have e : k + 1 + (n : Int) = k + ((n + 1 : Nat) : Int) := by omega
  rw [e]; rfl
def aDE (c : Cmt) (k : Int) : Int := k + c.1.length + 2 * c.2.length
def aA4 (c : Cmt) (k : Int) : Cmt := (yG c.1.length k, marked c.2.length (k + c.1.length))
def kA : List Cmt → Int → Int
 | [], k => k
 | c :: cs, k => kA cs (aDE c k)
def xw : List Cmt → Int → List Cmt
 | [], _ => []
 | c :: cs, k => aA4 c k :: xw cs (aDE c k)
theorem aHf : ∀ (a b : List Cmt) (k : Int), kA (a ++ b) k = kA b (kA a k)
 | [], b, k => rfl
 | c :: a, b, k => by simp only [List.cons_append, kA]; exact aHf a b _
theorem qg : ∀ (a b : List Cmt) (k : Int), xw (a ++ b) k = xw a k ++ xw b (kA a k)
 | [], b, k => rfl
 | c :: a, b, k => by simp only [List.cons_append, xw, kA]; rw [qg a b _]
theorem uf : ∀ (l : List Cmt) (k : Int), (xw l k).length = l.length
 | [], _ => rfl
 | c :: l, k => by simp [xw, uf l _]
theorem aFJ {l : List Cmt} {i : Nat} {k : Int} (h : i < l.length) : xw (l.take (i + 1)) k = xw (l.take i) k ++ [aA4 l[i] (kA (l.take i) k)] := by
 rw [List.take_succ_eq_append_getElem h, qg]; rfl
theorem aGH {l : List Cmt} {i : Nat} {k : Int} (h : i < l.length) : kA (l.take (i + 1)) k = aDE l[i] (kA (l.take i) k) := by
 rw [List.take_succ_eq_append_getElem h, aHf]; rfl
theorem aFp {l : List Cmt} {i : Nat} {k : Int} (h : i < l.length) : (xw l k)[i]'(by rw [uf]; exact h) = aA4 l[i] (kA (l.take i) k) := by
 have h1 : l = l.take i ++ l.drop i := (List.take_append_drop i l).symm
 have h2 : xw l k = xw (l.take i) k ++ xw (l.drop i) (kA (l.take i) k) := by rw [← qg, List.take_append_drop]
 have h3 : (xw (l.take i) k).length = i := by rw [uf, List.length_take]; omega
 have h4 : (xw l k)[i]? = some (aA4 l[i] (kA (l.take i) k)) := by
  rw [h2, List.getElem?_append_right (by omega), h3, Nat.sub_self, List.drop_eq_getElem_cons h]; rfl
 obtain ⟨_, h5⟩ := List.getElem?_eq_some_iff.1 h4
 exact h5
def uo : List Cmt → Nat
 | [] => 0
 | c :: cs => c.1.length + c.2.length + uo cs
theorem aBN : ∀ (l : List Cmt) (i : Nat), uo (l.take i) ≤ uo l
 | [], i => by simp [uo]
 | c :: l, 0 => by simp [uo]
 | c :: l, i + 1 => by have := aBN l i; simp only [List.take_succ_cons, uo]; omega
theorem aDa : ∀ (l : List Cmt) (i : Nat) (h : i < l.length), l[i].1.length + l[i].2.length ≤ uo l
 | c :: l, 0, h => by simp [uo]
 | c :: l, i + 1, h => by have := aDa l i (by simpa using h); simp only [List.getElem_cons_succ, uo]; omega
theorem aE2 : ∀ (l : List Cmt) (k : Int), k ≤ kA l k ∧ kA l k ≤ k + 2 * uo l
 | [], k => by simp [kA, uo]
 | c :: l, k => by
  have := aE2 l (aDE c k)
  simp only [kA, uo]
  unfold aDE at *
  omega
attribute [local irreducible] xM xO xg yE y7 Pre ACG
theorem aBj {l : List Int} {k0 : Int} (hm : l.length ≤ 1048600) (h0 : 0 ≤ k0) (h1 : k0 ≤ 8388608) : ACM Tryd.prog 28 ⟨.u, 1, l.map xu⟩ ((yG l.length k0).map xu) [.v (.int .i64 k0)] (.int .i64 (k0 + l.length)) := by
 refine aE6 xJ (by kernel_rfl) Tryd.func28 rfl Tryd.ntmps28 Tryd.results28 (by kernel_rfl) rfl ?_
 conv => whnf
 refine xZ (ι := { k : Nat // k ≤ l.length }) (fun k => ⟨[(0, .own 0), (1, .v (.int .i64 (k0 + (k.1 : Int)))), (5, .v (.int .i64 (k.1 : Int)))], [(0, ⟨.u, 1, (yG k.1 k0 ++ l.drop k.1).map xu⟩)]⟩) (fun k => l.length - k.1) ⟨0, Nat.zero_le _⟩ (by
  refine ⟨⟨rfl, trivial⟩, .inl ⟨rfl, rfl⟩, .inl ⟨?_, rfl⟩, .inl ⟨rfl, rfl⟩, trivial⟩
  show AV.v (.int .i64 k0) = _
  simp) ?_
 rintro ⟨k, hk⟩
 dsimp only
 have hml : (yG k k0 ++ l.drop k).length = l.length := by simp [uF]; omega
 have hml2 : ((yG k k0 ++ l.drop k).map xu).length = l.length := by rw [List.length_map]; exact hml
 conv => whnf
 by_cases hlt : k < l.length
 · have hlt' : k < (yG k k0 ++ l.drop k).length := by omega
   have hset : (yG k k0 ++ l.drop k).set k (k0 + k) = yG (k + 1) k0 ++ l.drop (k + 1) := by
    rw [List.set_append_right _ _ (by rw [uF]; exact Nat.le_refl _), uF, Nat.sub_self, List.drop_eq_getElem_cons hlt, List.set_cons_zero, aBE, List.append_assoc]; rfl
   have hset' : ((yG k k0 ++ l.drop k).map xu).set k (xu (k0 + k)) = (yG (k + 1) k0 ++ l.drop (k + 1)).map xu := by rw [← List.map_set, hset]
   repeat ((first | refine qp (zf (m := l.length) rfl rfl hml2 ⟨_, _, _, _, rfl⟩) ?_ | refine qz ?_ | refine qp (uU (by simpa using hlt') rfl rfl rfl rfl rfl) ?_ | refine qr (vY (vB _ hlt') rfl rfl rfl rfl rfl rfl) ?_); conv => whnf)
   refine ⟨⟨k + 1, hlt⟩, ⟨⟨?_, trivial⟩, .inl ⟨rfl, rfl⟩, .inl ⟨?_, rfl⟩, .inl ⟨rfl, rfl⟩, trivial⟩, by simp; omega⟩
   · exact congrArg (fun x => some (OB.mk _ _ x)) hset'
   · show AV.v (.int .i64 (k0 + k + 1)) = _
     congr 2
     simp; omega
 · have hkk : k = l.length := by omega
   subst hkk
   repeat (first | (refine qp (zf (m := l.length) rfl rfl hml2 ⟨_, _, _, _, rfl⟩) ?_; conv => whnf) | (refine qz ?_; conv => whnf) | (rw [hml]))
   exact aCx rfl (by show some (OB.mk _ _ _) = _; simp)
theorem aBh {n : Nat} {k0 : Int} (hm : n ≤ 1048600) (h0 : 0 ≤ k0) (h1 : k0 ≤ 8388608) : AC Tryd.prog 30 [.lst 1 ((yG n k0).map xu), .v (.int .i64 k0)] ⟨.v (.int .i64 (k0 + n)), []⟩ := by
 have hml := uF n k0
 refine qrf Tryd.func30 Tryd.ntmps30 Tryd.results30 ?_; conv => whnf
 refine xZ (ι := { k : Nat // k ≤ n }) (fun k => ⟨[(0, .lst 1 ((yG n k0).map xu)), (1, .v (.int .i64 (k0 + (k.1 : Int)))), (5, .v (.int .i64 (k.1 : Int)))], []⟩) (fun k => n - k.1) ⟨0, Nat.zero_le _⟩ (by
  refine ⟨trivial, .inl ⟨rfl, rfl⟩, .inl ⟨?_, rfl⟩, .inl ⟨rfl, rfl⟩, trivial⟩
  show AV.v (.int .i64 k0) = _
  simp) ?_
 rintro ⟨k, hk⟩
 dsimp only
 conv => whnf
 by_cases hlt : k < n
 · have hlt' : k < (yG n k0).length := by omega
   have hg := aBr n k0 k hlt
   repeat ((first | refine qz ?_ | refine qdr ?_ | refine qp (xG (jB hg) rfl rfl rfl) ?_); conv => whnf)
   refine ⟨⟨k + 1, hlt⟩, ⟨trivial, .inl ⟨rfl, rfl⟩, .inl ⟨?_, rfl⟩, .inl ⟨rfl, rfl⟩, trivial⟩, by simp; omega⟩
   show AV.v (.int .i64 (k0 + k + 1)) = _
   congr 2
   simp; omega
 · have hkk : k = n := by omega
   subst hkk
   repeat (first | (refine qz ?_; conv => whnf) | (refine qdr ?_; conv => whnf) | (rw [hml]))
   exact xA rfl trivial
end Go.Proofs.YtoaifonjemlfcaaDoor.AM
namespace Go.Proofs.YtoaifonjemlfcaaDoor.AM
open Go Go.RowKit
section
variable {P : Program} {Θ : Tab} {s : St} {ty : TypeId} {pos : String} {after : Array Edge} {g : Option (Nat × Bool)}
end
attribute [local irreducible] xM xO xg yE y7 Pre ACG
end Go.Proofs.YtoaifonjemlfcaaDoor.AM
namespace Go.Proofs.YtoaifonjemlfcaaDoor.AM
open Go Go.RowKit
section
variable {P : Program} {Θ : Tab} {s : St} {ty : TypeId} {pos : String} {after : Array Edge} {g : Option (Nat × Bool)}
end
attribute [local irreducible] xM xO xg yE y7 Pre ACG
end Go.Proofs.YtoaifonjemlfcaaDoor.AM
namespace Go.Proofs.YtoaifonjemlfcaaDoor.AM
open Go Go.RowKit
theorem aDo {α : Type} (l : List α) (k : Nat) (a b : α) : (l.set k a).set k b = l.set k b := by simp [List.set_set]
attribute [local irreducible] xM xO xg yE y7 Pre ACG
theorem aAk {l : List Ent} {k0 : Int} (hm : l.length ≤ 1048600) (h0 : 0 ≤ k0) (h1 : k0 ≤ 8388608) : ACM Tryd.prog 29 ⟨.u, 2, l.map yP⟩ ((marked l.length k0).map yP) [.v (.int .i64 k0)] (.int .i64 (k0 + 2 * l.length)) := by
 refine aE6 xJ (by kernel_rfl) Tryd.func29 rfl Tryd.ntmps29 Tryd.results29 (by kernel_rfl) rfl ?_
 conv => whnf
 refine xZ (ι := { k : Nat // k ≤ l.length }) (fun k => ⟨[(0, .own 0), (1, .v (.int .i64 (k0 + 2 * (k.1 : Int)))), (5, .v (.int .i64 (k.1 : Int)))], [(0, ⟨.u, 2, (marked k.1 k0 ++ l.drop k.1).map yP⟩)]⟩) (fun k => l.length - k.1) ⟨0, Nat.zero_le _⟩ (by
  refine ⟨⟨rfl, trivial⟩, .inl ⟨rfl, rfl⟩, .inl ⟨?_, rfl⟩, .inl ⟨rfl, rfl⟩, trivial⟩
  show AV.v (.int .i64 k0) = _
  simp) ?_
 rintro ⟨k, hk⟩
 dsimp only
 have hml : (marked k k0 ++ l.drop k).length = l.length := by simp [uP]; omega
 have hml2 : ((marked k k0 ++ l.drop k).map yP).length = l.length := by rw [List.length_map]; exact hml
 conv => whnf
 by_cases hlt : k < l.length
 · have hlt' : k < (marked k k0 ++ l.drop k).length := by omega
   have hset : (marked k k0 ++ l.drop k).set k (uT (k0 + 2 * k), k0 + 2 * k + 1) = marked (k + 1) k0 ++ l.drop (k + 1) := by
    rw [List.set_append_right _ _ (by rw [uP]; exact Nat.le_refl _), uP, Nat.sub_self, List.drop_eq_getElem_cons hlt, List.set_cons_zero, aFq, List.append_assoc]; rfl
   have hset' : ((marked k k0 ++ l.drop k).map yP).set k (yP (uT (k0 + 2 * k), k0 + 2 * k + 1)) = (marked (k + 1) k0 ++ l.drop (k + 1)).map yP := by rw [← List.map_set, hset]
   repeat ((first | refine qp (zf (m := l.length) rfl rfl hml2 ⟨_, _, _, _, rfl⟩) ?_ | refine qz ?_ | refine qc (wL (k := k0 + 2 * (k : Int)) (by omega) (by omega)) ?_ | refine qp (uU (by simpa using hlt') rfl rfl rfl rfl rfl) ?_ | refine qr (vY (vB _ hlt') rfl rfl rfl rfl rfl rfl) ?_ | refine qr (vY (aDD (by simpa using hlt')) rfl rfl rfl rfl rfl rfl) ?_); conv => whnf)
   refine ⟨⟨k + 1, hlt⟩, ⟨⟨?_, trivial⟩, .inl ⟨rfl, rfl⟩, .inl ⟨?_, rfl⟩, .inl ⟨rfl, rfl⟩, trivial⟩, by simp; omega⟩
   · exact congrArg (fun x => some (OB.mk _ _ x)) (Eq.trans (aDo _ _ _ _) hset')
   · show AV.v (.int .i64 (k0 + 2 * k + 1 + 1)) = _
     congr 2
     simp; omega
 · have hkk : k = l.length := by omega
   subst hkk
   repeat (first | (refine qp (zf (m := l.length) rfl rfl hml2 ⟨_, _, _, _, rfl⟩) ?_; conv => whnf) | (refine qz ?_; conv => whnf) | (rw [hml]))
   exact aCx rfl (by show some (OB.mk _ _ _) = _; simp)
theorem aDK {l : List Cmt} {k0 : Int} (hm : l.length ≤ 1048600) (ht : uo l ≤ 1048600) (h0 : 0 ≤ k0) (h1 : k0 ≤ 4194304) : AC Tryd.prog 42 [.lst 2 ((xw l k0).map xP), .v (.int .i64 k0)] ⟨.v (.int .i64 (kA l k0)), []⟩ := by
 have hml := uf l k0
 refine qrf Tryd.func42 Tryd.ntmps42 Tryd.results42 ?_; conv => whnf
 refine xZ (ι := { k : Nat // k ≤ l.length }) (fun k => ⟨[(0, .lst 2 ((xw l k0).map xP)), (1, .v (.int .i64 (kA (l.take k.1) k0))), (5, .v (.int .i64 (k.1 : Int)))], []⟩) (fun k => l.length - k.1) ⟨0, Nat.zero_le _⟩ (by exact qle) ?_
 rintro ⟨i, hi⟩
 dsimp only
 conv => whnf
 by_cases hlt : i < l.length
 case neg =>
  have hkk : i = l.length := by omega
  subst hkk
  rw [List.take_length]
  repeat (first | (refine qz ?_; conv => whnf) | (refine qdr ?_; conv => whnf) | (rw [hml]))
  exact xA rfl trivial
 have hb := aE2 (l.take i) k0
 have hb2 := aBN l i
 have hb3 := aDa l i hlt
 have hstep := aGH (k := k0) hlt
 have hgi : ((xw l k0).map xP)[i]? = some (xP (aA4 l[i] (kA (l.take i) k0))) := by
  rw [List.getElem?_map, List.getElem?_eq_getElem (by omega), aFp hlt]; rfl
 generalize hK : kA (l.take i) k0 = K at *
 have hh1 := aBh (n := (l[i]).1.length) (k0 := K) (by omega) (by omega) (by omega)
 have hh2 := aAj (n := (l[i]).2.length) (k := K + (l[i]).1.length) (by omega) (by omega) (by omega)
 repeat ((first | refine qp (jU hgi rfl rfl rfl) ?_ | refine qz ?_ | refine qdr ?_ | refine qc (hh1) ?_ | refine qc (hh2) ?_); conv => whnf)
 refine ⟨⟨i + 1, hlt⟩, ⟨trivial, .inl ⟨rfl, rfl⟩, .inl ⟨?_, rfl⟩, .inl ⟨rfl, rfl⟩, trivial⟩, by simp; omega⟩
 show AV.v (.int .i64 (K + (l[i]).1.length + 2 * (l[i]).2.length)) = _
 rw [hstep]; rfl
end Go.Proofs.YtoaifonjemlfcaaDoor.AM
namespace Go.Proofs.YtoaifonjemlfcaaDoor.AM
open Go Go.RowKit
theorem aIo {s : St} {Θ : Tab} {r : Nat} {v : Value} {o1 o2 : OB} (h1 : s.sl r = .v v) (h2 : s.hp 0 = some o1) (h3 : s.hp 1000000 = some o2) : yE Θ [.tmp r] [o1, o2] ⟨.v v, []⟩ .ret s := ⟨⟨h2, h3, trivial⟩, [], by simp, trivial, ⟨trivial, trivial⟩, trivial, ⟨.inl ⟨h1, rfl⟩, trivial⟩⟩
attribute [local irreducible] xM xO xg yE y7 Pre ACG
end Go.Proofs.YtoaifonjemlfcaaDoor.AM
