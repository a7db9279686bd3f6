/- The machine over data (E12, E13). -/
import Derived.Test.YtnkceemdnefomaaE11
/- Rules of the machine: soft changes of rows, nodes; the nodes of a store. -/
namespace Go.Proofs.Ytnkceemdnefomaa.AM
open Go Go.RowKit
set_option linter.unusedVariables false
set_option linter.unusedSimpArgs false
set_option maxRecDepth 100000
/-- what is read by operations that are not ordered against the one at k names none of ls -/
def condB (ops : Array Oper) (k : Nat) (s : St) (ls : List Nat) : Bool :=
  (List.range ops.size).all fun j => Nat.beq j k || (ordr ops j k || (match ops[j]? with
    | some o => (tmpsOf o).all fun t => ((List.range ops.size).any fun j' => match (ops[j']?).bind (·.dst) with
        | some t' => Nat.beq t' t && !(Nat.blt j' k)
        | none => false) || ls.all fun l => !((s.sl t).names l)
    | none => true))
theorem condB_ok {ops : Array Oper} {k : Nat} {s : St} {ls : List Nat} (h : condB ops k s ls = true) : ∀ j o, ops[j]? = some o → j ≠ k → ordr ops j k = false → ∀ t, t ∈ tmpsOf o → (∀ j' o', ops[j']? = some o' → o'.dst = some t → Nat.blt j' k = true) → ∀ l ∈ ls, (s.sl t).names l = false := by
  intro j o hj hne hor t ht hL l hl
  have h1 := List.all_eq_true.1 h j (List.mem_range.2 (Array.getElem?_eq_some_iff.1 hj).1)
  simp only [nbne hne, hor, Bool.false_or, hj] at h1
  have h2 := List.all_eq_true.1 h1 t ht
  rw [Bool.or_eq_true] at h2
  rcases h2 with h2 | h2
  · obtain ⟨j', hj', h3⟩ := List.any_eq_true.1 h2
    cases ho' : ops[j']? with
    | none => rw [ho'] at h3; cases h3
    | some o' =>
      rw [ho'] at h3
      cases hd : o'.dst with
      | none => simp only [Option.bind_some, hd] at h3; cases h3
      | some t' =>
        simp only [Option.bind_some, hd, Bool.and_eq_true, Bool.not_eq_true'] at h3
        have : t' = t := Nat.eq_of_beq_eq_true h3.1
        subst this
        rw [hL j' o' ho' hd] at h3
        exact absurd h3.2 (by simp)
  · have := List.all_eq_true.1 h2 l hl
    simpa using this
section
variable {Θ : Tab} {ops : Array Oper} {k : Nat} {s : St}
theorem soft_set {l : Nat} {o : Option OB} {v : AV} (hs : soft Θ ops true k = true) (hc : condB ops k s [l] = true) : SoftE Θ ops (fun j => Nat.blt j k) k s ⟨v, some fun s' => s'.set l o⟩ :=
  ⟨true, [l], _, id, fun hp j => bif Nat.beq j l then o else hp j, fun mp j => bif Nat.beq j l then none else mp j, rfl, hs, fun s => rfl, fun x _ => rfl, fun _ => ⟨fun x => rfl, fun hp j hj => by
    have : j ≠ l := by simpa using hj
    show (bif Nat.beq j l then o else hp j) = hp j
    rw [nbne this]; rfl⟩, condB_ok hc⟩
theorem soft_app {l : Nat} {ob : OB} {v : AV} (hs : soft Θ ops false k = true) (hc : condB ops k s [l] = true) : SoftE Θ ops (fun j => Nat.blt j k) k s ⟨v, some fun s' => (s'.kill l).set l (some ob)⟩ :=
  ⟨false, [l], _, fun x => bif x.names l then .any else x, fun hp j => bif Nat.beq j l then some ob else killO l (hp j), fun mp j => bif Nat.beq j l then none else mp j, rfl, hs, fun s => rfl, (fun x h => by show (bif AV.names l x then AV.any else x) = x; rw [h l (by simp)]; rfl), (fun h => by cases h), condB_ok hc⟩
end
section
variable {P : Program} {Θ : Tab} {s : St} {ty : TypeId} {pos : String} {after : Array Edge} {g : Option (Nat × Bool)}
theorem p_bsl1 {d : Nat} {t : TypeId} {x : Operand} {el sz b : Nat} {z y : AV} (hf : s.hp (d + 1) = none) (ht : Θ.look t = .slice el sz b z) (hx : s.ev x = y) (hk : (match y with | .v c => c.oneCell' | .agg _ => true | .lst _ _ => true | .ptr _ => true | _ => false) = true) (hz : Nat.beq (asz y) (asz z) = true) (hsz : Nat.ble sz 65536 = true) (hok : okL (d + 1) = true := by rfl) :
    Pre P Θ ⟨some d, .buildSlice t 1 #[(0, x)], ty, pos, after, g⟩ s ⟨.own (d + 1), some fun s' => s'.set (d + 1) (some ⟨.s el, sz, [y]⟩)⟩ := by
  have hd : s.dat (s.ev x) = y := by rw [hx]; cases y <;> first | rfl | cases hk
  have ho : ownsA (s.ev x) = [] := by rw [hx]; cases y <;> first | rfl | cases hk
  have hda : isDataA s (s.ev x) = true := by rw [hx]; cases y <;> first | exact hk | rfl | cases hk
  refine ⟨d, el, sz, b, z, rfl, hf, hok, ht, by rw [Nat.one_mul]; exact Nat.le_of_ble_eq_true hsz, .inl ⟨⟨⟨z, rfl, by rw [hd]; exact Nat.eq_of_beq_eq_true hz⟩, hda, trivial⟩, fun y' hy c e => ?_, ?_, ?_⟩⟩
  · simp at hy
    subst hy; subst e
    simp only [St.ev] at hx; subst hx; exact hk
  · simp [ownsOf, ownsAL, ho]
  · have h1 : ownsOf s (([(0, x)] : List (Nat × Operand)).map (·.2)) = [] := by simp [ownsOf, ownsAL, ho]
    show _ = Eff.mk _ (frzT (ownsOf s (([(0, x)] : List (Nat × Operand)).map (·.2))) _)
    rw [h1]
    show _ = Eff.mk _ (some _)
    congr 2
    funext s'
    show s'.set (d + 1) (some ⟨.s el, sz, [y]⟩) = s'.set (d + 1) (some ⟨.s el, sz, [s.dat (s.ev x)]⟩)
    rw [hd]
theorem p_buildm {d : Option Tmp} {t : TypeId} {ps : Array (Nat × Operand)} {fs : List (Nat × Nat)} {z : List AV} (ht : Θ.look t = .struct fs z) (hm : mixOK s (nilL z) ps.toList) (hc : csOK (ps.toList.map (·.2)) = true) :
    Pre P Θ ⟨d, .build t ps, ty, pos, after, g⟩ s ⟨.mix (mixParts s (nilL z) ps.toList), none⟩ := ⟨fs, z, ht, .inr ⟨hm, csOK_spec hc, rfl⟩⟩
theorem p_ostorep {d : Option Tmp} {t : TypeId} {x y : Operand} {l l' i i' c c' : Nat} {p p' : List Nat} {ob ob' : OB} {q z u : AV} (hq : ob.xs[i]? = some q) (hx : s.ev x = .optr l i p c) (ho : s.hp l = some ob) (hg : getP q p 0 = some (z, c)) (hs : ((Θ.look t).known && (Nat.beq (asz z) (Θ.look t).size && Nat.beq 1 (asz z))) = true) (hy : s.ev y = .optr l' i' p' c') (ho' : s.hp l' = some ob') (hr : rowAt ob' i' p' c' = .ptr u) (hn : Nat.beq l l' = false) (hop : ob.e.open_ = true := by rfl) (hsh : ob'.e.shut = true := by rfl) (hok : okL l' = true := by rfl) (hc : cOK y = true := by rfl) :
    Pre P Θ ⟨d, .store t x y, ty, pos, after, g⟩ s ⟨.any, some fun s' => (s'.frz l').set l (some ⟨.s (ob.e.typ.getD 0), ob.sz, ob.xs.set i (setP q p (.ptr u))⟩)⟩ := by
  simp only [Bool.and_eq_true] at hs
  have hd : s.dat (s.ev y) = .ptr u := by rw [hy]; simp [St.dat, ho', hsh, hr]
  have hown : ownsA (s.ev y) = [l'] := by rw [hy]; rfl
  have hda : isDataA s (s.ev y) = true := by rw [hy]; simp [isDataA, ho', hsh, hr]
  obtain ⟨t0, he⟩ : ∃ t0, ob.e = .s t0 ∨ ob.e = .z t0 := by
    cases h : ob.e with
    | s t0 => exact ⟨t0, .inl rfl⟩
    | z t0 => exact ⟨t0, .inr rfl⟩
    | _ => rw [h] at hop; cases hop
  have ht : ob.e.typ.getD 0 = t0 := by rcases he with he | he <;> rw [he] <;> rfl
  have hne : l ≠ l' := fun e => by rw [e] at hn; simp at hn
  refine ⟨cOK_spec hc, hs.1, l, i, p, c, ob, hx, ho, .inl ⟨t0, q, z, he, hq, hg, Nat.eq_of_beq_eq_true hs.2.1, by rw [hd]; exact Nat.eq_of_beq_eq_true hs.2.2, hda, by rw [hown]; simpa using hne, by rw [hown]; simp [hok], ?_⟩⟩
  rw [hd, hown, ht]; rfl
theorem r_retp {t : Nat} {x : AV} (h : s.sl t = .ptr x) : RetQ Θ [.tmp t] ⟨.ptr x, []⟩ .ret s := ⟨trivial, [], by simp, trivial, ⟨trivial, trivial⟩, trivial, ⟨.inl ⟨h, rfl⟩, trivial⟩⟩
end
theorem nodeA_fuel {cs : List Cmt} (hb : stoB cs = true) : ∀ (n m id : Nat), 1 ≤ id → id ≤ n → id ≤ m → id ≤ cs.length → nodeA cs n id = nodeA cs m id := by
  intro n
  induction n with
  | zero => intro m id h1 h2; omega
  | succ n ih =>
    intro m id h1 h2 h3 h4
    obtain ⟨m, rfl⟩ : ∃ m', m = m' + 1 := ⟨m - 1, by omega⟩
    have : (parsN cs id).map (fun p => AV.ptr (nodeA cs n p)) = (parsN cs id).map fun p => .ptr (nodeA cs m p) := List.map_congr_left fun p hp => by
      obtain ⟨q1, q2⟩ := parsN_lt hb h1 h4 p hp
      rw [ih m p q1 (by omega) (by omega) (by omega)]
    simp only [nodeA]
    rw [this]
def ndE (cs : List Cmt) (i j : Nat) : AV := if j < i then .ptr (nodeA cs (j + 1) (j + 1)) else .v (.pointer none)
def ndL (cs : List Cmt) (i n : Nat) : List AV := (List.range n).map (ndE cs i)
theorem ndL_len {cs : List Cmt} {i n : Nat} : (ndL cs i n).length = n := by simp [ndL]
theorem ndL_at {cs : List Cmt} {i n j : Nat} (h : j < n) : (ndL cs i n)[j]? = some (ndE cs i j) := by simp [ndL, h]
theorem ndL_rep {cs : List Cmt} {n : Nat} : List.replicate n (AV.v (.pointer none)) = ndL cs 0 n := by
  apply List.ext_getElem
  · simp [ndL]
  · intro i h1 h2; simp [ndL, ndE]
theorem ndL_set {cs : List Cmt} {i n : Nat} (h : i < n) : (ndL cs i n).set i (.ptr (nodeA cs (i + 1) (i + 1))) = ndL cs (i + 1) n := by
  apply List.ext_getElem
  · simp [ndL]
  · intro j h1 h2
    rw [List.getElem_set]
    split
    · rename_i e; subst e; simp [ndL, ndE]
    · rename_i e
      simp only [ndL, List.getElem_map, List.getElem_range, ndE]
      have : j < i ↔ j < i + 1 := by omega
      simp [this]
theorem ndL_get {cs : List Cmt} (hb : stoB cs = true) {i n p : Nat} (h0 : 1 ≤ p) (h1 : p ≤ i) (h2 : i ≤ n) (h3 : i ≤ cs.length) : (ndL cs i n)[p - 1]? = some (.ptr (nodeA cs i p)) := by
  rw [ndL_at (by omega), ndE, if_pos (by omega)]
  have : p - 1 + 1 = p := by omega
  rw [this, nodeA_fuel hb p i p h0 (Nat.le_refl _) h1 (by omega)]
attribute [local irreducible] ACode AOps RetG RetM Pre ACG
theorem ac_nodeOf {cs : List Cmt} {id : Nat} (hb : stoB cs = true) (h1 : 1 ≤ id) (h2 : id ≤ cs.length) : AC Try.prog 94 [.lst 2 (cs.map comA), .v (.int .i64 (id : Int))] ⟨.ptr (nodeA cs id id), []⟩ := by
  obtain ⟨hl1, hl2⟩ := sto_len hb
  refine r_of Th_ok (by kernel_rfl) Try.func94 rfl Try.ntmps94 Try.results94 (by kernel_rfl) rfl ?_; conv => whnf
  repeat (first | first | (refine r_put (p_bin (by first | exact b_lt_t (by omega) | exact b_lt_f (by omega) | exact b_le_t (by omega) | exact b_le_f (by omega) | exact b_gt_t (by omega) | exact b_gt_f (by omega) | exact b_ge_t (by omega) | exact b_ge_f (by omega) | exact b_eq_t (by omega) | exact b_eq_f (by omega) | exact b_ne_t (by omega) | exact b_ne_f (by omega) | exact b_sub rfl (by omega) (by omega) | exact b_add rfl (by omega) (by omega)) rfl rfl rfl) rfl rfl ?_; conv => whnf) | (refine r_put (p_idx (getA _ (by assumption)) rfl rfl rfl) rfl rfl ?_; conv => whnf) | (refine r_put (p_lenm rfl ⟨_, _, _, _, rfl⟩) rfl rfl ?_; conv => whnf) | (refine r_put (p_lenom rfl rfl ⟨_, _, _, _, rfl⟩) rfl rfl ?_; conv => whnf) | (refine r_put (p_len (y := .v (.string _)) rfl rfl rfl) rfl rfl ?_; conv => whnf) | (refine r_put (p_len rfl rfl ⟨_, _, _, _, rfl⟩) rfl rfl ?_; conv => whnf) | (refine r_step (p_make (n := id) (by omega) (by omega) rfl rfl rfl rfl) rfl rfl (fun e => by first | exact .inl rfl | contradiction | exact .inr (.inl (by kernel_rfl))) ?_; conv => whnf) | (refine r_put (p_lslm (h := id) (xs := cs) (f := comA) h2 rfl rfl rfl) rfl rfl ?_; conv => whnf))
  have hlen : (cs.take id).length = id := by simp; omega
  refine r_loop (ι := { i : Nat // i ≤ id }) (fun i => ⟨[(1, .v (.int .i64 (id : Int))), (5, .own 13), (15, .lst 2 ((cs.take id).map comA)), (16, .v (.int .i64 ((cs.take id).length : Int))), (17, .v (.int .i64 (i.1 : Int)))], [(13, ⟨108, 1, ndL cs i.1 id⟩)]⟩) (fun i => id - i.1) ⟨0, Nat.zero_le _⟩ ⟨⟨congrArg (fun x => some (OB.mk _ _ x)) ndL_rep, trivial⟩, .inl ⟨rfl, rfl⟩, .inl ⟨rfl, rfl⟩, .inl ⟨rfl, rfl⟩, .inl ⟨rfl, rfl⟩, .inl ⟨rfl, rfl⟩, trivial⟩ ?_
  rintro ⟨i, hi⟩
  dsimp only at hi ⊢
  conv => whnf
  by_cases hlt : i < id
  case neg =>
    have hie : i = id := by omega
    subst hie
    have hget := ndL_get hb (n := i) h1 (Nat.le_refl _) (Nat.le_refl _) h2
    repeat (first | (refine r_put (p_bin (b_sub (c := ((i - 1 : Nat) : Int)) (by omega) (by omega) (by omega)) rfl rfl rfl) rfl rfl ?_; conv => whnf) | first | (refine r_put (p_bin (by first | exact b_lt_t (by omega) | exact b_lt_f (by omega) | exact b_le_t (by omega) | exact b_le_f (by omega) | exact b_gt_t (by omega) | exact b_gt_f (by omega) | exact b_ge_t (by omega) | exact b_ge_f (by omega) | exact b_eq_t (by omega) | exact b_eq_f (by omega) | exact b_ne_t (by omega) | exact b_ne_f (by omega) | exact b_sub rfl (by omega) (by omega) | exact b_add rfl (by omega) (by omega)) rfl rfl rfl) rfl rfl ?_; conv => whnf) | (refine r_put (p_idx (getA _ (by assumption)) rfl rfl rfl) rfl rfl ?_; conv => whnf) | (refine r_put (p_lenm rfl ⟨_, _, _, _, rfl⟩) rfl rfl ?_; conv => whnf) | (refine r_put (p_lenom rfl rfl ⟨_, _, _, _, rfl⟩) rfl rfl ?_; conv => whnf) | (refine r_put (p_len (y := .v (.string _)) rfl rfl rfl) rfl rfl ?_; conv => whnf) | (refine r_put (p_len rfl rfl ⟨_, _, _, _, rfl⟩) rfl rfl ?_; conv => whnf) | (refine o_put (p_oidx (j := i - 1) (by rw [ndL_len]; omega) rfl rfl rfl rfl rfl) rfl rfl ?_) | (refine r_put (p_old rfl rfl hget rfl rfl rfl rfl) rfl rfl ?_; conv => whnf))
    exact r_retp rfl
  have hic : i < cs.length := by omega
  have hic2 : i < (cs.take id).length := by omega
  have hgi : ((cs.take id).map comA)[i]? = some (comA cs[i]) := by
    rw [List.getElem?_map, List.getElem?_take, if_pos hlt, List.getElem?_eq_getElem hic]; rfl
  have hpar := sto_par hb hic
  have hpn : parsN cs (i + 1) = (cs[i]).1.map Int.toNat := by
    unfold parsN
    rw [Nat.add_sub_cancel, List.getElem?_eq_getElem hic]
  have hl3 : (cs[i]).1.length ≤ 2 := hpar.1
  first | (refine r_put (p_bin (by first | exact b_lt_t (by omega) | exact b_lt_f (by omega) | exact b_le_t (by omega) | exact b_le_f (by omega) | exact b_gt_t (by omega) | exact b_gt_f (by omega) | exact b_ge_t (by omega) | exact b_ge_f (by omega) | exact b_eq_t (by omega) | exact b_eq_f (by omega) | exact b_ne_t (by omega) | exact b_ne_f (by omega) | exact b_sub rfl (by omega) (by omega) | exact b_add rfl (by omega) (by omega)) rfl rfl rfl) rfl rfl ?_; conv => whnf) | (refine r_put (p_idx (getA _ (by assumption)) rfl rfl rfl) rfl rfl ?_; conv => whnf) | (refine r_put (p_lenm rfl ⟨_, _, _, _, rfl⟩) rfl rfl ?_; conv => whnf) | (refine r_put (p_lenom rfl rfl ⟨_, _, _, _, rfl⟩) rfl rfl ?_; conv => whnf) | (refine r_put (p_len (y := .v (.string _)) rfl rfl rfl) rfl rfl ?_; conv => whnf) | (refine r_put (p_len rfl rfl ⟨_, _, _, _, rfl⟩) rfl rfl ?_; conv => whnf)
  repeat (first | (refine r_put (p_idx hgi rfl rfl rfl) rfl rfl ?_; conv => whnf) | (refine r_step (p_ostore rfl rfl rfl rfl rfl (by conv => lhs; whnf) rfl) rfl rfl (fun e => by first | exact .inl rfl | contradiction | exact .inr (.inl (by kernel_rfl))) ?_; conv => whnf))
  refine o_put (p_bin (a := .int .i64 (i : Int)) (b := .int .i64 1) (b_add (c := ((i + 1 : Nat) : Int)) (by omega) (by omega) (by omega)) rfl rfl rfl) rfl rfl ?_
  refine o_put (p_buildm rfl ⟨⟨_, _, rfl, rfl, rfl⟩, trivial⟩ rfl) rfl rfl ?_
  refine r_gh (p_boxo rfl rfl rfl) rfl rfl (fun e => by cases e) (Gh.nilx 26 0 900000 [1] (.s 108) 1 rfl rfl rfl rfl rfl rfl (by omega) (Gh.done ?_))
  conv => whnf
  repeat (first | (refine r_put (p_bin (by first | exact b_lt_t (by omega) | exact b_lt_f (by omega) | exact b_le_t (by omega) | exact b_le_f (by omega) | exact b_gt_t (by omega) | exact b_gt_f (by omega) | exact b_ge_t (by omega) | exact b_ge_f (by omega) | exact b_eq_t (by omega) | exact b_eq_f (by omega) | exact b_ne_t (by omega) | exact b_ne_f (by omega) | exact b_sub rfl (by omega) (by omega) | exact b_add rfl (by omega) (by omega)) rfl rfl rfl) rfl rfl ?_; conv => whnf) | (refine r_put (p_idx (getA _ (by assumption)) rfl rfl rfl) rfl rfl ?_; conv => whnf) | (refine r_put (p_lenm rfl ⟨_, _, _, _, rfl⟩) rfl rfl ?_; conv => whnf) | (refine r_put (p_lenom rfl rfl ⟨_, _, _, _, rfl⟩) rfl rfl ?_; conv => whnf) | (refine r_put (p_len (y := .v (.string _)) rfl rfl rfl) rfl rfl ?_; conv => whnf) | (refine r_put (p_len rfl rfl ⟨_, _, _, _, rfl⟩) rfl rfl ?_; conv => whnf))
  have hpl : (parsN cs (i + 1)).length = (cs[i]).1.length := by rw [hpn, List.length_map]
  refine r_loop (ι := { k : Nat // k ≤ (cs[i]).1.length }) (fun k => ⟨[(1, .v (.int .i64 (id : Int))), (5, .own 13), (6, .v (.int .i64 (i : Int))), (8, .optr 26 0 [] 0), (15, .lst 2 ((cs.take id).map comA)), (16, .v (.int .i64 ((cs.take id).length : Int))), (17, .v (.int .i64 (i : Int))), (27, .lst 1 ((cs[i]).1.map intA)), (28, .v (.int .i64 ((cs[i]).1.length : Int))), (29, .v (.int .i64 (k.1 : Int)))], [(13, ⟨108, 1, ndL cs i id⟩), (26, ⟨.o (some 129) 0 (.mix [.v (.int .i64 ((i + 1 : Nat) : Int)), .own 900000]), 2, [.mix [.v (.int .i64 ((i + 1 : Nat) : Int)), .v (.slice none 0 0)]]⟩), (900000, ⟨108, 1, ((parsN cs (i + 1)).take k.1).map fun p => .ptr (nodeA cs i p)⟩)]⟩) (fun k => (cs[i]).1.length - k.1) ⟨0, Nat.zero_le _⟩ (by refine ⟨?_, ?_⟩ <;> (repeat (first | trivial | exact ⟨rfl, trivial⟩ | refine ⟨rfl, ?_⟩ | refine ⟨.inl ⟨rfl, rfl⟩, ?_⟩ | refine ⟨.inr ⟨_, _, rfl, rfl, rfl, rfl, rfl⟩, ?_⟩))) ?_
  rintro ⟨k, hk⟩
  dsimp only at hk ⊢
  conv => whnf
  by_cases hlk : k < (cs[i]).1.length
  case neg =>
    have hke : k = (cs[i]).1.length := by omega
    have hgi2 : (ndL cs i id)[i]? = some (.v (.pointer none)) := by rw [ndL_at hlt]; simp [ndE]
    have hrow : (ndL cs i id).set i (.ptr (.agg [.v (.int .i64 ((i + 1 : Nat) : Int)), .lst 1 (((parsN cs (i + 1)).take k).map fun p => .ptr (nodeA cs i p))])) = ndL cs (i + 1) id := by
      rw [← ndL_set hlt, List.take_of_length_le (by omega)]; rfl
    repeat (first | (refine r_put (p_bin (by first | exact b_lt_t (by omega) | exact b_lt_f (by omega) | exact b_le_t (by omega) | exact b_le_f (by omega) | exact b_gt_t (by omega) | exact b_gt_f (by omega) | exact b_ge_t (by omega) | exact b_ge_f (by omega) | exact b_eq_t (by omega) | exact b_eq_f (by omega) | exact b_ne_t (by omega) | exact b_ne_f (by omega) | exact b_sub rfl (by omega) (by omega) | exact b_add rfl (by omega) (by omega)) rfl rfl rfl) rfl rfl ?_; conv => whnf) | (refine r_put (p_idx (getA _ (by assumption)) rfl rfl rfl) rfl rfl ?_; conv => whnf) | (refine r_put (p_lenm rfl ⟨_, _, _, _, rfl⟩) rfl rfl ?_; conv => whnf) | (refine r_put (p_lenom rfl rfl ⟨_, _, _, _, rfl⟩) rfl rfl ?_; conv => whnf) | (refine r_put (p_len (y := .v (.string _)) rfl rfl rfl) rfl rfl ?_; conv => whnf) | (refine r_put (p_len rfl rfl ⟨_, _, _, _, rfl⟩) rfl rfl ?_; conv => whnf))
    refine r_gh (p_oidx (j := i) (by rw [ndL_len]; omega) rfl rfl rfl rfl rfl) rfl rfl (fun e => by cases e) (Gh.foldr 26 900000 [1] rfl rfl rfl rfl rfl rfl (Gh.shuts 26 rfl rfl (Gh.done ?_)))
    conv => whnf
    refine r_step (p_ostorep hgi2 rfl rfl rfl rfl rfl rfl rfl rfl) rfl rfl (fun e => by first | exact .inl rfl | contradiction | exact .inr (.inl (by kernel_rfl))) ?_
    conv => whnf
    repeat (first | (refine r_put (p_bin (by first | exact b_lt_t (by omega) | exact b_lt_f (by omega) | exact b_le_t (by omega) | exact b_le_f (by omega) | exact b_gt_t (by omega) | exact b_gt_f (by omega) | exact b_ge_t (by omega) | exact b_ge_f (by omega) | exact b_eq_t (by omega) | exact b_eq_f (by omega) | exact b_ne_t (by omega) | exact b_ne_f (by omega) | exact b_sub rfl (by omega) (by omega) | exact b_add rfl (by omega) (by omega)) rfl rfl rfl) rfl rfl ?_; conv => whnf) | (refine r_put (p_idx (getA _ (by assumption)) rfl rfl rfl) rfl rfl ?_; conv => whnf) | (refine r_put (p_lenm rfl ⟨_, _, _, _, rfl⟩) rfl rfl ?_; conv => whnf) | (refine r_put (p_lenom rfl rfl ⟨_, _, _, _, rfl⟩) rfl rfl ?_; conv => whnf) | (refine r_put (p_len (y := .v (.string _)) rfl rfl rfl) rfl rfl ?_; conv => whnf) | (refine r_put (p_len rfl rfl ⟨_, _, _, _, rfl⟩) rfl rfl ?_; conv => whnf))
    exact ⟨⟨i + 1, hlt⟩, ⟨⟨congrArg (fun x => some (OB.mk _ _ x)) hrow, trivial⟩, .inl ⟨rfl, rfl⟩, .inl ⟨rfl, rfl⟩, .inl ⟨rfl, rfl⟩, .inl ⟨rfl, rfl⟩, .inl ⟨rfl, rfl⟩, trivial⟩, by simp; omega⟩
  obtain ⟨_, g1, g2, _⟩ := hpar.2.2 k hlk
  obtain ⟨p, hp⟩ : ∃ p : Nat, (cs[i]).1[k] = (p : Int) := ⟨((cs[i]).1[k]).toNat, by omega⟩
  have hget := ndL_get hb (i := i) (n := id) (p := p) (by omega) (by omega) (by omega) (by omega)
  have hsn : (parsN cs (i + 1)).take k ++ [p] = (parsN cs (i + 1)).take (k + 1) := by
    rw [List.take_succ_eq_append_getElem (by omega)]
    congr 2
    have : (parsN cs (i + 1))[k]'(by omega) = ((cs[i]).1[k]).toNat := by simp [hpn]
    rw [this, hp]; rfl
  have hmap : ∀ q : Nat, [AV.ptr (nodeA cs i q)] = [(fun p => AV.ptr (nodeA cs i p)) q] := fun q => rfl
  repeat (first | (refine And.intro (by kernel_rfl) ?_; conv => whnf) | (refine r_put (p_bin (b_sub (c := ((p - 1 : Nat) : Int)) (by omega) (by omega) (by omega)) rfl rfl rfl) rfl rfl ?_; conv => whnf) | first | (refine r_put (p_bin (by first | exact b_lt_t (by omega) | exact b_lt_f (by omega) | exact b_le_t (by omega) | exact b_le_f (by omega) | exact b_gt_t (by omega) | exact b_gt_f (by omega) | exact b_ge_t (by omega) | exact b_ge_f (by omega) | exact b_eq_t (by omega) | exact b_eq_f (by omega) | exact b_ne_t (by omega) | exact b_ne_f (by omega) | exact b_sub rfl (by omega) (by omega) | exact b_add rfl (by omega) (by omega)) rfl rfl rfl) rfl rfl ?_; conv => whnf) | (refine r_put (p_idx (getA _ (by assumption)) rfl rfl rfl) rfl rfl ?_; conv => whnf) | (refine r_put (p_lenm rfl ⟨_, _, _, _, rfl⟩) rfl rfl ?_; conv => whnf) | (refine r_put (p_lenom rfl rfl ⟨_, _, _, _, rfl⟩) rfl rfl ?_; conv => whnf) | (refine r_put (p_len (y := .v (.string _)) rfl rfl rfl) rfl rfl ?_; conv => whnf) | (refine r_put (p_len rfl rfl ⟨_, _, _, _, rfl⟩) rfl rfl ?_; conv => whnf) | (refine o_put (p_oidx (j := p - 1) (by rw [ndL_len]; omega) rfl rfl rfl rfl rfl) rfl rfl ?_) | (refine r_put (p_old rfl rfl hget rfl rfl rfl rfl) rfl rfl ?_; conv => whnf))
  refine r_step (p_bsl1 rfl rfl rfl rfl rfl rfl) rfl rfl (fun _ => .inr (.inr (soft_set (by kernel_rfl) (by kernel_rfl)))) ?_
  conv => whnf
  refine r_step (p_app1r (f := fun p => AV.ptr (nodeA cs i p)) p _ hsn (by rw [List.length_take]; omega) rfl rfl rfl rfl rfl rfl rfl) rfl rfl (fun _ => .inr (.inr (soft_app (by kernel_rfl) (by kernel_rfl)))) ?_
  conv => whnf
  refine r_step (p_ostoreo rfl rfl rfl rfl rfl rfl) rfl rfl (fun e => by first | exact .inl rfl | contradiction | exact .inr (.inl (by kernel_rfl))) ?_
  conv => whnf
  repeat (first | (refine r_put (p_bin (by first | exact b_lt_t (by omega) | exact b_lt_f (by omega) | exact b_le_t (by omega) | exact b_le_f (by omega) | exact b_gt_t (by omega) | exact b_gt_f (by omega) | exact b_ge_t (by omega) | exact b_ge_f (by omega) | exact b_eq_t (by omega) | exact b_eq_f (by omega) | exact b_ne_t (by omega) | exact b_ne_f (by omega) | exact b_sub rfl (by omega) (by omega) | exact b_add rfl (by omega) (by omega)) rfl rfl rfl) rfl rfl ?_; conv => whnf) | (refine r_put (p_idx (getA _ (by assumption)) rfl rfl rfl) rfl rfl ?_; conv => whnf) | (refine r_put (p_lenm rfl ⟨_, _, _, _, rfl⟩) rfl rfl ?_; conv => whnf) | (refine r_put (p_lenom rfl rfl ⟨_, _, _, _, rfl⟩) rfl rfl ?_; conv => whnf) | (refine r_put (p_len (y := .v (.string _)) rfl rfl rfl) rfl rfl ?_; conv => whnf) | (refine r_put (p_len rfl rfl ⟨_, _, _, _, rfl⟩) rfl rfl ?_; conv => whnf))
  exact ⟨⟨k + 1, hlk⟩, by refine ⟨?_, ?_⟩ <;> (repeat (first | trivial | exact ⟨rfl, trivial⟩ | refine ⟨rfl, ?_⟩ | refine ⟨.inl ⟨rfl, rfl⟩, ?_⟩ | refine ⟨.inr ⟨_, _, rfl, rfl, rfl, rfl, rfl⟩, ?_⟩)), by simp; omega⟩
end Go.Proofs.Ytnkceemdnefomaa.AM
/- The commits that a commit is made of: what the program's walk marks. -/
namespace Go.Proofs.Ytnkceemdnefomaa.AM
open Go Go.RowKit
set_option linter.unusedVariables false
set_option linter.unusedSimpArgs false
set_option maxRecDepth 100000
theorem parsN_par {cs : List Cmt} {q p : Nat} (hb : stoB cs = true) (h1 : 1 ≤ q) (h2 : q ≤ cs.length) : p ∈ parsN cs q ↔ Par cs q p := by
  have hi : q - 1 < cs.length := by omega
  unfold parsN
  rw [List.getElem?_eq_getElem hi]
  constructor
  · intro h
    obtain ⟨y, hy, rfl⟩ := List.mem_map.1 h
    obtain ⟨i, hi2, rfl⟩ := List.getElem_of_mem hy
    obtain ⟨_, k1, _⟩ := (sto_par hb hi).2.2 i hi2
    refine ⟨hi, h1, ?_⟩
    rw [Int.toNat_of_nonneg (by omega)]; exact hy
  · rintro ⟨_, _, h⟩
    exact List.mem_map.2 ⟨_, h, by simp⟩
theorem Anc.trans {cs : List Cmt} {a b c : Nat} (h : Anc cs a b) (k : Anc cs b c) : Anc cs a c := by
  induction k with
  | refl => exact h
  | up _ hp ih => exact .up ih hp
theorem Par.anc {cs : List Cmt} {a b : Nat} (h : Par cs a b) : Anc cs a b := .up .refl h
/-- every number that is seen, up to id, has its parents seen -/
def ClosedB (cs : List Cmt) (id : Nat) (f : Nat → Bool) : Prop := ∀ q j, q ≤ id → f q = true → Par cs q j → f j = true
def WalkOK (cs : List Cmt) (id : Nat) (f g : Nat → Bool) : Prop := (∀ j, f j = true → g j = true) ∧ g id = true ∧ (∀ j, g j = true → f j = true ∨ Anc cs id j) ∧ ClosedB cs id g
theorem walk_ok {cs : List Cmt} (hb : stoB cs = true) : ∀ (n id : Nat) (f : Nat → Bool), 1 ≤ id → id ≤ n → id ≤ cs.length → ClosedB cs id f → WalkOK cs id f (walkM cs n id f) := by
  intro n
  induction n with
  | zero => intro id f h1 h2; omega
  | succ n ih =>
    intro id f h1 h2 h3 hc
    cases hf : f id with
    | true =>
      have hw : walkM cs (n + 1) id f = f := by simp [walkM, hf]
      rw [hw]
      exact ⟨fun j h => h, hf, fun j h => .inl h, hc⟩
    | false =>
      have hw : walkM cs (n + 1) id f = (parsN cs id).foldl (fun g p => walkM cs n p g) (mark f id) := by simp [walkM, hf]
      rw [hw]
      have hm : ∀ j, mark f id j = true ↔ (f j = true ∨ j = id) := fun j => by simp [mark]
      have key : ∀ (ps : List Nat) (g : Nat → Bool), (∀ p ∈ ps, Par cs id p) → (∀ q j, q < id → g q = true → Par cs q j → g j = true) →
          (∀ j, g j = true → (ps.foldl (fun g p => walkM cs n p g) g) j = true) ∧ (∀ p ∈ ps, (ps.foldl (fun g p => walkM cs n p g) g) p = true) ∧ (∀ j, (ps.foldl (fun g p => walkM cs n p g) g) j = true → g j = true ∨ Anc cs id j) ∧ (∀ q j, q < id → (ps.foldl (fun g p => walkM cs n p g) g) q = true → Par cs q j → (ps.foldl (fun g p => walkM cs n p g) g) j = true) := by
        intro ps
        induction ps with
        | nil => intro g _ hg; exact ⟨fun j h => h, by simp, fun j h => .inl h, hg⟩
        | cons p ps ihp =>
          intro g hp hg
          have hpp := hp p (by simp)
          obtain ⟨l1, l2, l3⟩ := hpp.lt hb
          obtain ⟨w1, w2, w3, w4⟩ := ih p g l1 (by omega) (by omega) (fun q j hq hgq hpar => hg q j (by omega) hgq hpar)
          have hg' : ∀ q j, q < id → walkM cs n p g q = true → Par cs q j → walkM cs n p g j = true := fun q j hq hw hpar => by
            rcases Nat.lt_or_ge p q with h | h
            · rcases w3 q hw with h5 | h5
              · exact w1 j (hg q j hq h5 hpar)
              · have := (h5.le hb l1).2; omega
            · exact w4 q j h hw hpar
          obtain ⟨k1, k2, k3, k4⟩ := ihp (walkM cs n p g) (fun r hr => hp r (List.mem_cons_of_mem _ hr)) hg'
          simp only [List.foldl_cons]
          refine ⟨fun j h => k1 j (w1 j h), fun r hr => ?_, fun j h => ?_, k4⟩
          · rcases List.mem_cons.1 hr with rfl | hr
            · exact k1 _ w2
            · exact k2 r hr
          · rcases k3 j h with h5 | h5
            · rcases w3 j h5 with h6 | h6
              · exact .inl h6
              · exact .inr (hpp.anc.trans h6)
            · exact .inr h5
      obtain ⟨k1, k2, k3, k4⟩ := key (parsN cs id) (mark f id) (fun p hp => (parsN_par hb h1 h3).1 hp) (fun q j hq hgq hpar => by
        rcases (hm q).1 hgq with h | h
        · exact (hm j).2 (.inl (hc q j (by omega) h hpar))
        · omega)
      refine ⟨fun j h => k1 j ((hm j).2 (.inl h)), k1 id ((hm id).2 (.inr rfl)), fun j h => ?_, fun q j hq hgq hpar => ?_⟩
      · rcases k3 j h with h5 | h5
        · rcases (hm j).1 h5 with h6 | h6
          · exact .inl h6
          · exact .inr (h6 ▸ .refl)
        · exact .inr h5
      · rcases Nat.lt_or_ge q id with h | h
        · exact k4 q j h hgq hpar
        · have : q = id := by omega
          subst this
          exact k2 j ((parsN_par hb h1 h3).2 hpar)
theorem walk_anc {cs : List Cmt} (hb : stoB cs = true) {id : Nat} (h1 : 1 ≤ id) (h2 : id ≤ cs.length) (j : Nat) : walkM cs id id (fun _ => false) j = ancB cs id j := by
  obtain ⟨_, w2, w3, w4⟩ := walk_ok hb id id (fun _ => false) h1 (Nat.le_refl _) h2 (fun q j _ h => by cases h)
  have : walkM cs id id (fun _ => false) j = true ↔ ancB cs id j = true := by
    rw [ancB_t]
    constructor
    · intro h
      rcases w3 j h with h | h
      · cases h
      · exact h
    · intro h
      induction h with
      | refl => exact w2
      | up hq hp ih => exact w4 _ _ (hq.le hb h1).2 ih hp
  cases h3 : walkM cs id id (fun _ => false) j <;> cases h4 : ancB cs id j <;> simp_all
theorem aszs_bA : ∀ l : List Bool, aszs (l.map bA) = l.length
  | [] => rfl
  | b :: l => by simp only [List.map_cons, aszs, List.length_cons, aszs_bA l]; simp [bA, asz]; omega
theorem asz_rng {m : Nat} {f : Nat → Bool} : asz (.agg (rng m f)) = m := by
  simp only [asz, rng, aszs_bA, List.length_map, List.length_range]
theorem rng_all (f : Nat → Bool) {m : Nat} : ∀ x ∈ rng m f, asz x = 1 := fun x hx => by
  unfold rng at hx
  obtain ⟨b, _, rfl⟩ := List.mem_map.1 hx
  rfl
theorem noLst_bA : ∀ l : List Bool, noLstL (l.map bA) = true
  | [] => rfl
  | b :: l => by simp only [List.map_cons, noLstL, noLst_bA l]; rfl
theorem noLst_rng {m : Nat} {f : Nat → Bool} : noLst (.agg (rng m f)) = true := by simp only [noLst, rng, noLst_bA]
section
variable {s : St} {ty : TypeId} {pos : String} {after : Array Edge} {g : Option (Nat × Bool)} {f : Nat → Bool}
theorem p_alla {d : Nat} (hf : s.hp (d + 1) = none) (hok : okL (d + 1) = true := by rfl) : Pre Try.prog Th ⟨some d, .alloc 107, ty, pos, after, g⟩ s ⟨.optr (d + 1) 0 [] 0, some fun s => s.set (d + 1) (some ⟨.s 107, 61, [.agg (rng 61 fun _ => false)]⟩)⟩ := by
  have h := p_allo (P := Try.prog) (Θ := Th) (s := s) (ty := ty) (pos := pos) (after := after) (g := g) (t := 107) (d := d) hf rfl hok
  have e : (⟨kz 107 (Th.look 107).zero, (Th.look 107).size, [(Th.look 107).zero]⟩ : OB) = ⟨.s 107, 61, [.agg (rng 61 fun _ => false)]⟩ := by
    show OB.mk (kz 107 (.agg (List.replicate 61 zB))) (61 * 1) [.agg (List.replicate 61 zB)] = _
    rw [rng_rep]
    unfold kz
    rw [noLst_rng]; rfl
  rw [e] at h
  exact h
theorem p_lda {d : Option Tmp} {x : Operand} {l t0 : Nat} (hx : s.ev x = .optr l 0 [] 0) (ho : s.hp l = some ⟨.s t0, 61, [.agg (rng 61 f)]⟩) : Pre Try.prog Th ⟨d, .load 107 x, ty, pos, after, g⟩ s ⟨.agg (rng 61 f), none⟩ :=
  p_old hx ho rfl rfl rfl rfl asz_rng
theorem p_sta {d : Option Tmp} {x y : Operand} {l t0 : Nat} {f' : Nat → Bool} (hx : s.ev x = .optr l 0 [] 0) (ho : s.hp l = some ⟨.s t0, 61, [.agg (rng 61 f')]⟩) (hy : s.ev y = .agg (rng 61 f)) : Pre Try.prog Th ⟨d, .store 107 x y, ty, pos, after, g⟩ s ⟨.any, some fun s' => s'.set l (some ⟨.s t0, 61, [.agg (rng 61 f)]⟩)⟩ :=
  p_ostore (q := .agg (rng 61 f')) (z := .agg (rng 61 f')) (v := .agg (rng 61 f)) rfl hx ho rfl (by rw [asz_rng, asz_rng]; rfl) hy rfl
theorem p_mkf {d : Option Tmp} {f : FuncId} {fs cs : Array Operand} {xs ys : List AV} (hx : fs.toList.map s.ev = xs) (hy : cs.toList.map s.ev = ys) (hc : csOK (fs.toList ++ cs.toList) = true) : Pre Try.prog Th ⟨d, .makeFunc (.func f) fs cs, ty, pos, after, g⟩ s ⟨.fn f xs ys, none⟩ :=
  ⟨f, rfl, csOK_spec hc, by rw [hx, hy]⟩
end
attribute [local irreducible] rng
attribute [local irreducible] ACode AOps RetG RetM Pre ACG
theorem ac_ancestors {cs : List Cmt} {id : Nat} (hb : stoB cs = true) (h1 : 1 ≤ id) (h2 : id ≤ cs.length) : AC Try.prog 95 [.ptr (nodeA cs id id)] ⟨.agg (rng 61 (ancB cs id)), []⟩ := by
  have hr : rng 61 (walkM cs id id fun _ => false) = rng 61 (ancB cs id) := rng_ext fun j _ => walk_anc hb h1 h2 j
  rw [← hr]
  refine acg_of Th_ok (by kernel_rfl) Try.func95 rfl Try.ntmps95 (rs := [.cell 2 107]) (by rw [Try.results95]) (by kernel_rfl) (Nat.le_of_ble_eq_true rfl) rfl rfl ?_
  refine c_seq (c_reg (o_step rfl rfl (p_alla rfl) (fun e => by cases e) (o_nil (q_then ?_))))
  refine c_seq (c_reg (o_step rfl rfl (p_alla rfl) (fun e => by cases e) (o_nil (q_then ?_))))
  refine c_seq (c_reg (o_step rfl rfl (p_allo rfl rfl) (fun e => by cases e) (o_nil (q_then ?_))))
  refine c_seq (c_reg (o_put (p_mkf (xs := []) (ys := [.optr 4 0 [] 0, .optr 5 0 [] 0]) rfl rfl rfl) rfl rfl ?_))
  refine o_step rfl rfl (p_ostoren (y' := .fn 129 [] [.optr 4 0 [] 0, .optr 5 0 [] 0]) rfl rfl rfl rfl) (fun e => by cases e) (o_nil (q_then ?_))
  refine c_seq (c_reg (o_put (p_oldo rfl rfl rfl rfl rfl rfl rfl rfl) rfl rfl (o_put (p_mv rfl) rfl rfl ?_)))
  refine o_step rfl rfl (p_callg [4, 5] (acg_walk hb (x := .fn 129 [] [.optr 4 0 [] 0, .optr 5 0 [] 0]) id id (fun _ => false) h1 (Nat.le_refl _) h2) rfl rfl ⟨rfl, rfl, trivial⟩ rfl rfl trivial rfl rfl rfl (.inl rfl) rfl) (fun e => by cases e) (o_nil (q_then ?_))
  refine c_seq (c_reg (o_put (p_lda rfl rfl) rfl rfl ?_))
  refine o_step rfl rfl (p_sta rfl rfl rfl) (fun e => by cases e) (o_nil (q_then ?_))
  refine c_ret ?_
  exact r_cell1 (x := .agg (rng 61 (walkM cs id id fun _ => false))) rfl rfl rfl (by rw [asz_rng]; rfl) trivial
end Go.Proofs.Ytnkceemdnefomaa.AM
