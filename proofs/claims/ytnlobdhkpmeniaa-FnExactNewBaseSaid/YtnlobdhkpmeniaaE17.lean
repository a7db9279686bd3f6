/- Commits in depth: copies whose lists are the call's own, marks, what is held. -/
import Derived.Test.YtnlobdhkpmeniaaE5
import Derived.Test.YtnlobdhkpmeniaaF1
namespace Go.Proofs.Ytnlobdhkpmeniaa.AM
open Go Go.RowKit
set_option linter.unusedVariables false
set_option linter.unusedSimpArgs false
set_option maxRecDepth 100000
section
variable {P : Program} {Θ : Tab} {s : St} {ty : TypeId} {pos : String} {after : Array Edge} {g : Option (Nat × Bool)}
/-- a plain datum stored into a row that owns its lists -/
theorem p_ostored {d : Option Tmp} {t : TypeId} {x y : Operand} {l i c : Nat} {p : List Nat} {ob : OB} {q z v : AV} (hq : ob.xs[i]? = some q) (hx : s.ev x = .optr l i p c) (ho : s.hp l = some ob) (hg : getP q p 0 = some (z, c)) (hs : ((Θ.look t).known && (Nat.beq (asz z) (Θ.look t).size && Nat.beq (asz v) (asz z))) = true) (hy : s.ev y = v) (hv : noLst v = true) (hd : ob.e.deep = true := by rfl) (hc : cOK y = true := by rfl) :
    Pre P Θ ⟨d, .store t x y, ty, pos, after, g⟩ s ⟨.any, some fun s' => s'.set l (some ⟨ob.e, ob.sz, ob.xs.set i (setP q p v)⟩)⟩ := by
  simp only [Bool.and_eq_true] at hs
  exact ⟨cOK_spec hc, hs.1, l, i, p, c, ob, hx, ho, .inr (.inr (.inl ⟨q, z, v, hd, hq, hg, Nat.eq_of_beq_eq_true hs.2.1, hy, hv, Nat.eq_of_beq_eq_true hs.2.2, rfl⟩))⟩
theorem p_leno {d : Option Tmp} {x : Operand} {t : TypeId} {l m : Nat} {ob : OB} (hx : s.ev x = .own l) (ho : s.hp l = some ob) (hm : ob.xs.length = m) (hok : ∃ e sz b z, Θ.look t = .slice e sz b z) : Pre P Θ ⟨d, .call ⟨.builtin .len, #[x], #[t]⟩, ty, pos, after, g⟩ s ⟨.v (.int .i64 (m : Int)), none⟩ :=
  p_len hx (by simp [lenA, ho, hm]) hok
/-- a body that writes into a row, of whatever kind -/
theorem r_ofN (hΘ : TabOK P Θ) (hm : P.follows .mixedOrders = true) {f : FuncId} {fn : Func} {c : Code} {n r : Nat} (hf : P.funcs[f]? = some fn) (hb : fn.body = some c) (hnt : fn.ntmps = n) (hrs : fn.results = #[.tmp r]) (hnm : (fn.name == "runtime.NumGoroutine") = false)
    {args : List AV} {ob : OB} {xs' : List AV} {v : Value} (hlen : Nat.ble (args.length + 1) n = true) (h : runC P Θ n c (RetM r ob.e ob.sz xs' v) (St.initM ob args)) (hsh : ob.e.shut = true := by rfl) : ACM P f ob xs' args v := by
  have hw : ∀ (e : ET) (p : Nat → Bool), e.shut = true → withinE p e = true := fun e p h => by cases e <;> first | rfl | cases h
  refine acg_of (rs := [.tmp r]) hΘ hm hf hb hnt (by rw [hrs]) hnm (Nat.le_of_ble_eq_true hlen) rfl ?_ (acode_mono _ _ (fun e s he => ?_) (runC_sound _ _ _ h))
  · simp only [List.all_cons, List.all_nil, hw _ _ hsh]; rfl
  · have key : (s.sl r = .v v ∧ s.hp 0 = some ⟨ob.e, ob.sz, xs'⟩) → Ret Θ [.tmp r] [⟨ob.e, ob.sz, xs'⟩] ⟨.v v, []⟩ s := fun ⟨h1, h2⟩ => ⟨⟨h2, trivial⟩, [], by simp, trivial, ⟨trivial, trivial⟩, trivial, ⟨.inl ⟨h1, rfl⟩, trivial⟩⟩
    cases e with
    | normal => exact key he
    | ret => exact key he
    | exit id => exact he.elim
/-- a struct with two own lists is the result -/
theorem r_cellM {a t l l1 l2 : Nat} {ob o1 o2 : OB} {t' : Option Nat} {Θ : Tab} (h1 : s.sl a = .optr l 0 [] 0) (ho : s.hp l = some ob) (hop : ob.e.open_ = false) (hoe : openE ob.e ob.xs 0 = some (.o t' 0 (.mix [.own l1, .own l2]))) (ho1 : s.hp l1 = some o1) (ho2 : s.hp l2 = some o2) (hn : Nat.beq l1 l2 = false) (hk : ((Θ.look t).known && (Θ.look t).isAgg && Nat.beq 2 (Θ.look t).size) = true) (hok1 : okL l1 = true := by rfl) (hok2 : okL l2 = true := by rfl) (hs1 : o1.e.shut = true := by rfl) (hs2 : o2.e.shut = true := by rfl) :
    RetQ Θ [.cell a t] ⟨.mix [.own 0, .own 1], [o1, o2]⟩ .ret s := by
  have hr : rvA s (.cell a t) = .mix [.own l1, .own l2] := by
    simp only [rvA, h1, ho, hop, hoe, cond_false]; rfl
  simp only [Bool.and_eq_true] at hk
  have hne : l1 ≠ l2 := fun e => by rw [e] at hn; simp at hn
  refine ⟨trivial, [l1, l2], by simp [hne], ⟨⟨ho1, hok1, hs1⟩, ⟨ho2, hok2, hs2⟩, trivial⟩, ⟨⟨hk.1.1, by rw [hr]; exact hk.1.2.symm, by rw [hr]; exact Nat.eq_of_beq_eq_true hk.2, .inl ⟨l, ob, _, h1, ho, .inr ⟨hop, _, _, hoe, rfl⟩⟩⟩, trivial⟩, trivial, ⟨.inl ⟨?_, rfl⟩, trivial⟩⟩
  rw [hr]; rfl
end
theorem noL_ent {l : List Ent} : ∀ x ∈ l.map entA, noLst x = true := fun x hx => by obtain ⟨_, _, rfl⟩ := List.mem_map.1 hx; rfl
def markedI : Nat → Int → List Int
  | 0, _ => []
  | n + 1, k => k :: markedI n (k + 1)
theorem markedI_length : ∀ (n : Nat) (k : Int), (markedI n k).length = n
  | 0, _ => rfl
  | n + 1, k => by simp [markedI, markedI_length n (k + 1)]
theorem markedI_get : ∀ (n : Nat) (k0 : Int) (k : Nat) (h : k < n), (markedI n k0)[k]'(by rw [markedI_length]; exact h) = k0 + k
  | n + 1, k0, 0, h => by simp [markedI]
  | n + 1, k0, k + 1, h => by
    have := markedI_get n (k0 + 1) k (by omega)
    simp only [markedI, List.getElem_cons_succ]
    rw [this]; omega
theorem markedI_snoc : ∀ (n : Nat) (k : Int), markedI (n + 1) k = markedI n k ++ [k + n]
  | 0, k => by simp [markedI]
  | n + 1, k => by
    rw [markedI, markedI_snoc n (k + 1), markedI]
    have e : k + 1 + (n : Int) = k + ((n + 1 : Nat) : Int) := by omega
    rw [e]; rfl
def stepC (c : Cmt) (k : Int) : Int := k + c.1.length + 2 * c.2.length
def markC (c : Cmt) (k : Int) : Cmt := (markedI c.1.length k, marked c.2.length (k + c.1.length))
def kA : List Cmt → Int → Int
  | [], k => k
  | c :: cs, k => kA cs (stepC c k)
def markedC : List Cmt → Int → List Cmt
  | [], _ => []
  | c :: cs, k => markC c k :: markedC cs (stepC c k)
theorem kA_app : ∀ (a b : List Cmt) (k : Int), kA (a ++ b) k = kA b (kA a k)
  | [], b, k => rfl
  | c :: a, b, k => by simp only [List.cons_append, kA]; exact kA_app a b _
theorem markedC_app : ∀ (a b : List Cmt) (k : Int), markedC (a ++ b) k = markedC a k ++ markedC b (kA a k)
  | [], b, k => rfl
  | c :: a, b, k => by simp only [List.cons_append, markedC, kA]; rw [markedC_app a b _]
theorem markedC_length : ∀ (l : List Cmt) (k : Int), (markedC l k).length = l.length
  | [], _ => rfl
  | c :: l, k => by simp [markedC, markedC_length l _]
theorem markedC_snoc {l : List Cmt} {i : Nat} {k : Int} (h : i < l.length) : markedC (l.take (i + 1)) k = markedC (l.take i) k ++ [markC l[i] (kA (l.take i) k)] := by
  rw [List.take_succ_eq_append_getElem h, markedC_app]; rfl
theorem kA_snoc {l : List Cmt} {i : Nat} {k : Int} (h : i < l.length) : kA (l.take (i + 1)) k = stepC l[i] (kA (l.take i) k) := by
  rw [List.take_succ_eq_append_getElem h, kA_app]; rfl
theorem markedC_get {l : List Cmt} {i : Nat} {k : Int} (h : i < l.length) : (markedC l k)[i]'(by rw [markedC_length]; exact h) = markC l[i] (kA (l.take i) k) := by
  have h1 : l = l.take i ++ l.drop i := (List.take_append_drop i l).symm
  have h2 : markedC l k = markedC (l.take i) k ++ markedC (l.drop i) (kA (l.take i) k) := by rw [← markedC_app, List.take_append_drop]
  have h3 : (markedC (l.take i) k).length = i := by rw [markedC_length, List.length_take]; omega
  have h4 : (markedC l k)[i]? = some (markC l[i] (kA (l.take i) k)) := by
    rw [h2, List.getElem?_append_right (by omega), h3, Nat.sub_self, List.drop_eq_getElem_cons h]; rfl
  obtain ⟨_, h5⟩ := List.getElem?_eq_some_iff.1 h4
  exact h5
def totC : List Cmt → Nat
  | [] => 0
  | c :: cs => c.1.length + c.2.length + totC cs
theorem totC_take : ∀ (l : List Cmt) (i : Nat), totC (l.take i) ≤ totC l
  | [], i => by simp [totC]
  | c :: l, 0 => by simp [totC]
  | c :: l, i + 1 => by have := totC_take l i; simp only [List.take_succ_cons, totC]; omega
theorem totC_at : ∀ (l : List Cmt) (i : Nat) (h : i < l.length), l[i].1.length + l[i].2.length ≤ totC l
  | c :: l, 0, h => by simp [totC]
  | c :: l, i + 1, h => by have := totC_at l i (by simpa using h); simp only [List.getElem_cons_succ, totC]; omega
theorem kA_le : ∀ (l : List Cmt) (k : Int), k ≤ kA l k ∧ kA l k ≤ k + 2 * totC l
  | [], k => by simp [kA, totC]
  | c :: l, k => by
    have := kA_le l (stepC c k)
    simp only [kA, totC]
    unfold stepC at *
    omega
attribute [local irreducible] ACode AOps AOps2 RetG RetM Pre ACG
theorem ac_markIntU {l : List Int} {k0 : Int} (hm : l.length ≤ 1048600) (h0 : 0 ≤ k0) (h1 : k0 ≤ 8388608) : ACM Try.prog 84 ⟨.u, 1, l.map intA⟩ ((markedI l.length k0).map intA) [.v (.int .i64 k0)] (.int .i64 (k0 + l.length)) := by
  refine r_ofN Th_ok (by kernel_rfl) Try.func84 rfl Try.ntmps84 Try.results84 (by kernel_rfl) rfl ?_
  conv => whnf
  refine r_loop (ι := { k : Nat // k ≤ l.length }) (fun k => ⟨[(0, .own 0), (1, .v (.int .i64 (k0 + (k.1 : Int)))), (5, .v (.int .i64 (k.1 : Int)))], [(0, ⟨.u, 1, (markedI k.1 k0 ++ l.drop k.1).map intA⟩)]⟩) (fun k => l.length - k.1) ⟨0, Nat.zero_le _⟩ (by
    refine ⟨⟨rfl, trivial⟩, .inl ⟨rfl, rfl⟩, .inl ⟨?_, rfl⟩, .inl ⟨rfl, rfl⟩, trivial⟩
    show AV.v (.int .i64 k0) = _
    simp) ?_
  rintro ⟨k, hk⟩
  dsimp only
  have hml : (markedI k k0 ++ l.drop k).length = l.length := by simp [markedI_length]; omega
  have hml2 : ((markedI k k0 ++ l.drop k).map intA).length = l.length := by rw [List.length_map]; exact hml
  conv => whnf
  by_cases hlt : k < l.length
  · have hlt' : k < (markedI k k0 ++ l.drop k).length := by omega
    have hset : (markedI k k0 ++ l.drop k).set k (k0 + k) = markedI (k + 1) k0 ++ l.drop (k + 1) := by
      rw [List.set_append_right _ _ (by rw [markedI_length]; exact Nat.le_refl _), markedI_length, Nat.sub_self, List.drop_eq_getElem_cons hlt, List.set_cons_zero, markedI_snoc, List.append_assoc]; rfl
    have hset' : ((markedI k k0 ++ l.drop k).map intA).set k (intA (k0 + k)) = (markedI (k + 1) k0 ++ l.drop (k + 1)).map intA := by rw [← List.map_set, hset]
    repeat (first | (refine r_put (p_leno (m := l.length) rfl rfl hml2 ⟨_, _, _, _, rfl⟩) rfl rfl ?_; conv => whnf) | first | (refine r_put (p_bin (by first | exact b_lt_t (by omega) | exact b_lt_f (by omega) | exact b_le_t (by omega) | exact b_le_f (by omega) | exact b_gt_t (by omega) | exact b_gt_f (by omega) | exact b_ge_t (by omega) | exact b_ge_f (by omega) | exact b_eq_t (by omega) | exact b_eq_f (by omega) | exact b_ne_t (by omega) | exact b_ne_f (by omega) | exact b_sub rfl (by omega) (by omega) | exact b_add rfl (by omega) (by omega)) rfl rfl rfl) rfl rfl ?_; conv => whnf) | (refine r_put (p_idx (getA _ (by assumption)) rfl rfl rfl) rfl rfl ?_; conv => whnf) | (refine r_put (p_lenm rfl ⟨_, _, _, _, rfl⟩) rfl rfl ?_; conv => whnf) | (refine r_put (p_lenom rfl rfl ⟨_, _, _, _, rfl⟩) rfl rfl ?_; conv => whnf) | (refine r_put (p_len (y := .v (.string _)) rfl rfl rfl) rfl rfl ?_; conv => whnf) | (refine r_put (p_len rfl rfl ⟨_, _, _, _, rfl⟩) rfl rfl ?_; conv => whnf) | (refine r_put (p_oidx (by simpa using hlt') rfl rfl rfl rfl rfl) rfl rfl ?_; conv => whnf) | (refine r_step (p_ostored (getA _ hlt') rfl rfl rfl rfl rfl rfl) rfl rfl (fun e => by first | exact .inl rfl | contradiction | exact .inr (.inl (by kernel_rfl))) ?_; conv => whnf))
    refine ⟨⟨k + 1, hlt⟩, ⟨⟨?_, trivial⟩, .inl ⟨rfl, rfl⟩, .inl ⟨?_, rfl⟩, .inl ⟨rfl, rfl⟩, trivial⟩, by simp; omega⟩
    · exact congrArg (fun x => some (OB.mk _ _ x)) hset'
    · show AV.v (.int .i64 (k0 + k + 1)) = _
      congr 2
      simp; omega
  · have hkk : k = l.length := by omega
    subst hkk
    repeat (first | (refine r_put (p_leno (m := l.length) rfl rfl hml2 ⟨_, _, _, _, rfl⟩) rfl rfl ?_; conv => whnf) | first | (refine r_put (p_bin (by first | exact b_lt_t (by omega) | exact b_lt_f (by omega) | exact b_le_t (by omega) | exact b_le_f (by omega) | exact b_gt_t (by omega) | exact b_gt_f (by omega) | exact b_ge_t (by omega) | exact b_ge_f (by omega) | exact b_eq_t (by omega) | exact b_eq_f (by omega) | exact b_ne_t (by omega) | exact b_ne_f (by omega) | exact b_sub rfl (by omega) (by omega) | exact b_add rfl (by omega) (by omega)) rfl rfl rfl) rfl rfl ?_; conv => whnf) | (refine r_put (p_idx (getA _ (by assumption)) rfl rfl rfl) rfl rfl ?_; conv => whnf) | (refine r_put (p_lenm rfl ⟨_, _, _, _, rfl⟩) rfl rfl ?_; conv => whnf) | (refine r_put (p_lenom rfl rfl ⟨_, _, _, _, rfl⟩) rfl rfl ?_; conv => whnf) | (refine r_put (p_len (y := .v (.string _)) rfl rfl rfl) rfl rfl ?_; conv => whnf) | (refine r_put (p_len rfl rfl ⟨_, _, _, _, rfl⟩) rfl rfl ?_; conv => whnf) | (rw [hml]))
    exact r_retM rfl (by show some (OB.mk _ _ _) = _; simp)
theorem ac_heldIntS {n : Nat} {k0 : Int} (hm : n ≤ 1048600) (h0 : 0 ≤ k0) (h1 : k0 ≤ 8388608) : AC Try.prog 85 [.lst 1 ((markedI n k0).map intA), .v (.int .i64 k0)] ⟨.v (.int .i64 (k0 + n)), []⟩ := by
  have hml := markedI_length n k0
  refine r_of Th_ok (by kernel_rfl) Try.func85 rfl Try.ntmps85 Try.results85 (by kernel_rfl) rfl ?_; conv => whnf
  refine r_loop (ι := { k : Nat // k ≤ n }) (fun k => ⟨[(0, .lst 1 ((markedI n k0).map intA)), (1, .v (.int .i64 (k0 + (k.1 : Int)))), (5, .v (.int .i64 (k.1 : Int)))], []⟩) (fun k => n - k.1) ⟨0, Nat.zero_le _⟩ (by
    refine ⟨trivial, .inl ⟨rfl, rfl⟩, .inl ⟨?_, rfl⟩, .inl ⟨rfl, rfl⟩, trivial⟩
    show AV.v (.int .i64 k0) = _
    simp) ?_
  rintro ⟨k, hk⟩
  dsimp only
  conv => whnf
  by_cases hlt : k < n
  · have hlt' : k < (markedI n k0).length := by omega
    have hg := markedI_get n k0 k hlt
    repeat (first | first | (refine r_put (p_bin (by first | exact b_lt_t (by omega) | exact b_lt_f (by omega) | exact b_le_t (by omega) | exact b_le_f (by omega) | exact b_gt_t (by omega) | exact b_gt_f (by omega) | exact b_ge_t (by omega) | exact b_ge_f (by omega) | exact b_eq_t (by omega) | exact b_eq_f (by omega) | exact b_ne_t (by omega) | exact b_ne_f (by omega) | exact b_sub rfl (by omega) (by omega) | exact b_add rfl (by omega) (by omega)) rfl rfl rfl) rfl rfl ?_; conv => whnf) | (refine r_put (p_idx (getA _ (by assumption)) rfl rfl rfl) rfl rfl ?_; conv => whnf) | (refine r_put (p_lenm rfl ⟨_, _, _, _, rfl⟩) rfl rfl ?_; conv => whnf) | (refine r_put (p_lenom rfl rfl ⟨_, _, _, _, rfl⟩) rfl rfl ?_; conv => whnf) | (refine r_put (p_len (y := .v (.string _)) rfl rfl rfl) rfl rfl ?_; conv => whnf) | (refine r_put (p_len rfl rfl ⟨_, _, _, _, rfl⟩) rfl rfl ?_; conv => whnf) | (refine .inl (And.intro (by kernel_rfl) ?_); conv => whnf) | (refine r_put (p_bin (b_ne_f hg) rfl rfl rfl) rfl rfl ?_; conv => whnf))
    refine ⟨⟨k + 1, hlt⟩, ⟨trivial, .inl ⟨rfl, rfl⟩, .inl ⟨?_, rfl⟩, .inl ⟨rfl, rfl⟩, trivial⟩, by simp; omega⟩
    show AV.v (.int .i64 (k0 + k + 1)) = _
    congr 2
    simp; omega
  · have hkk : k = n := by omega
    subst hkk
    repeat (first | first | (refine r_put (p_bin (by first | exact b_lt_t (by omega) | exact b_lt_f (by omega) | exact b_le_t (by omega) | exact b_le_f (by omega) | exact b_gt_t (by omega) | exact b_gt_f (by omega) | exact b_ge_t (by omega) | exact b_ge_f (by omega) | exact b_eq_t (by omega) | exact b_eq_f (by omega) | exact b_ne_t (by omega) | exact b_ne_f (by omega) | exact b_sub rfl (by omega) (by omega) | exact b_add rfl (by omega) (by omega)) rfl rfl rfl) rfl rfl ?_; conv => whnf) | (refine r_put (p_idx (getA _ (by assumption)) rfl rfl rfl) rfl rfl ?_; conv => whnf) | (refine r_put (p_lenm rfl ⟨_, _, _, _, rfl⟩) rfl rfl ?_; conv => whnf) | (refine r_put (p_lenom rfl rfl ⟨_, _, _, _, rfl⟩) rfl rfl ?_; conv => whnf) | (refine r_put (p_len (y := .v (.string _)) rfl rfl rfl) rfl rfl ?_; conv => whnf) | (refine r_put (p_len rfl rfl ⟨_, _, _, _, rfl⟩) rfl rfl ?_; conv => whnf) | (refine .inl (And.intro (by kernel_rfl) ?_); conv => whnf) | (rw [hml]))
    exact r_ret1 rfl trivial
end Go.Proofs.Ytnlobdhkpmeniaa.AM
