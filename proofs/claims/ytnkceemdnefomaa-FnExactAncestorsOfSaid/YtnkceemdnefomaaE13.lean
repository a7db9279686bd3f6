/- The commits that a commit is made of: what the program's walk marks. -/
import Derived.Test.YtnkceemdnefomaaE12
namespace Go.Proofs.Ytnkceemdnefomaa.AM
open Go Go.RowKit
set_option linter.unusedVariables false
set_option linter.unusedSimpArgs false
set_option maxRecDepth 100000
theorem parsN_par {cs : List Cmt} {q p : Nat} (hb : stoB cs = true) (h1 : 1 ≤ q) (h2 : q ≤ cs.length) : p ∈ parsN cs q ↔ Par cs q p := by
  have hi : q - 1 < cs.length := by omega
  unfold parsN
  rw [List.getElem?_eq_getElem hi]
  constructor
  · intro h
    obtain ⟨y, hy, rfl⟩ := List.mem_map.1 h
    obtain ⟨i, hi2, rfl⟩ := List.getElem_of_mem hy
    obtain ⟨_, k1, _⟩ := (sto_par hb hi).2.2 i hi2
    refine ⟨hi, h1, ?_⟩
    rw [Int.toNat_of_nonneg (by omega)]; exact hy
  · rintro ⟨_, _, h⟩
    exact List.mem_map.2 ⟨_, h, by simp⟩
theorem Anc.trans {cs : List Cmt} {a b c : Nat} (h : Anc cs a b) (k : Anc cs b c) : Anc cs a c := by
  induction k with
  | refl => exact h
  | up _ hp ih => exact .up ih hp
theorem Par.anc {cs : List Cmt} {a b : Nat} (h : Par cs a b) : Anc cs a b := .up .refl h
/-- every number that is seen, up to id, has its parents seen -/
def ClosedB (cs : List Cmt) (id : Nat) (f : Nat → Bool) : Prop := ∀ q j, q ≤ id → f q = true → Par cs q j → f j = true
def WalkOK (cs : List Cmt) (id : Nat) (f g : Nat → Bool) : Prop := (∀ j, f j = true → g j = true) ∧ g id = true ∧ (∀ j, g j = true → f j = true ∨ Anc cs id j) ∧ ClosedB cs id g
theorem walk_ok {cs : List Cmt} (hb : stoB cs = true) : ∀ (n id : Nat) (f : Nat → Bool), 1 ≤ id → id ≤ n → id ≤ cs.length → ClosedB cs id f → WalkOK cs id f (walkM cs n id f) := by
  intro n
  induction n with
  | zero => intro id f h1 h2; omega
  | succ n ih =>
    intro id f h1 h2 h3 hc
    cases hf : f id with
    | true =>
      have hw : walkM cs (n + 1) id f = f := by simp [walkM, hf]
      rw [hw]
      exact ⟨fun j h => h, hf, fun j h => .inl h, hc⟩
    | false =>
      have hw : walkM cs (n + 1) id f = (parsN cs id).foldl (fun g p => walkM cs n p g) (mark f id) := by simp [walkM, hf]
      rw [hw]
      have hm : ∀ j, mark f id j = true ↔ (f j = true ∨ j = id) := fun j => by simp [mark]
      have key : ∀ (ps : List Nat) (g : Nat → Bool), (∀ p ∈ ps, Par cs id p) → (∀ q j, q < id → g q = true → Par cs q j → g j = true) →
          (∀ j, g j = true → (ps.foldl (fun g p => walkM cs n p g) g) j = true) ∧ (∀ p ∈ ps, (ps.foldl (fun g p => walkM cs n p g) g) p = true) ∧ (∀ j, (ps.foldl (fun g p => walkM cs n p g) g) j = true → g j = true ∨ Anc cs id j) ∧ (∀ q j, q < id → (ps.foldl (fun g p => walkM cs n p g) g) q = true → Par cs q j → (ps.foldl (fun g p => walkM cs n p g) g) j = true) := by
        intro ps
        induction ps with
        | nil => intro g _ hg; exact ⟨fun j h => h, by simp, fun j h => .inl h, hg⟩
        | cons p ps ihp =>
          intro g hp hg
          have hpp := hp p (by simp)
          obtain ⟨l1, l2, l3⟩ := hpp.lt hb
          obtain ⟨w1, w2, w3, w4⟩ := ih p g l1 (by omega) (by omega) (fun q j hq hgq hpar => hg q j (by omega) hgq hpar)
          have hg' : ∀ q j, q < id → walkM cs n p g q = true → Par cs q j → walkM cs n p g j = true := fun q j hq hw hpar => by
            rcases Nat.lt_or_ge p q with h | h
            · rcases w3 q hw with h5 | h5
              · exact w1 j (hg q j hq h5 hpar)
              · have := (h5.le hb l1).2; omega
            · exact w4 q j h hw hpar
          obtain ⟨k1, k2, k3, k4⟩ := ihp (walkM cs n p g) (fun r hr => hp r (List.mem_cons_of_mem _ hr)) hg'
          simp only [List.foldl_cons]
          refine ⟨fun j h => k1 j (w1 j h), fun r hr => ?_, fun j h => ?_, k4⟩
          · rcases List.mem_cons.1 hr with rfl | hr
            · exact k1 _ w2
            · exact k2 r hr
          · rcases k3 j h with h5 | h5
            · rcases w3 j h5 with h6 | h6
              · exact .inl h6
              · exact .inr (hpp.anc.trans h6)
            · exact .inr h5
      obtain ⟨k1, k2, k3, k4⟩ := key (parsN cs id) (mark f id) (fun p hp => (parsN_par hb h1 h3).1 hp) (fun q j hq hgq hpar => by
        rcases (hm q).1 hgq with h | h
        · exact (hm j).2 (.inl (hc q j (by omega) h hpar))
        · omega)
      refine ⟨fun j h => k1 j ((hm j).2 (.inl h)), k1 id ((hm id).2 (.inr rfl)), fun j h => ?_, fun q j hq hgq hpar => ?_⟩
      · rcases k3 j h with h5 | h5
        · rcases (hm j).1 h5 with h6 | h6
          · exact .inl h6
          · exact .inr (h6 ▸ .refl)
        · exact .inr h5
      · rcases Nat.lt_or_ge q id with h | h
        · exact k4 q j h hgq hpar
        · have : q = id := by omega
          subst this
          exact k2 j ((parsN_par hb h1 h3).2 hpar)
theorem walk_anc {cs : List Cmt} (hb : stoB cs = true) {id : Nat} (h1 : 1 ≤ id) (h2 : id ≤ cs.length) (j : Nat) : walkM cs id id (fun _ => false) j = ancB cs id j := by
  obtain ⟨_, w2, w3, w4⟩ := walk_ok hb id id (fun _ => false) h1 (Nat.le_refl _) h2 (fun q j _ h => by cases h)
  have : walkM cs id id (fun _ => false) j = true ↔ ancB cs id j = true := by
    rw [ancB_t]
    constructor
    · intro h
      rcases w3 j h with h | h
      · cases h
      · exact h
    · intro h
      induction h with
      | refl => exact w2
      | up hq hp ih => exact w4 _ _ (hq.le hb h1).2 ih hp
  cases h3 : walkM cs id id (fun _ => false) j <;> cases h4 : ancB cs id j <;> simp_all
theorem aszs_bA : ∀ l : List Bool, aszs (l.map bA) = l.length
  | [] => rfl
  | b :: l => by simp only [List.map_cons, aszs, List.length_cons, aszs_bA l]; simp [bA, asz]; omega
theorem asz_rng {m : Nat} {f : Nat → Bool} : asz (.agg (rng m f)) = m := by
  simp only [asz, rng, aszs_bA, List.length_map, List.length_range]
theorem rng_all (f : Nat → Bool) {m : Nat} : ∀ x ∈ rng m f, asz x = 1 := fun x hx => by
  unfold rng at hx
  obtain ⟨b, _, rfl⟩ := List.mem_map.1 hx
  rfl
theorem noLst_bA : ∀ l : List Bool, noLstL (l.map bA) = true
  | [] => rfl
  | b :: l => by simp only [List.map_cons, noLstL, noLst_bA l]; rfl
theorem noLst_rng {m : Nat} {f : Nat → Bool} : noLst (.agg (rng m f)) = true := by simp only [noLst, rng, noLst_bA]
section
variable {s : St} {ty : TypeId} {pos : String} {after : Array Edge} {g : Option (Nat × Bool)} {f : Nat → Bool}
theorem p_alla {d : Nat} (hf : s.hp (d + 1) = none) (hok : okL (d + 1) = true := by rfl) : Pre Try.prog Th ⟨some d, .alloc 107, ty, pos, after, g⟩ s ⟨.optr (d + 1) 0 [] 0, some fun s => s.set (d + 1) (some ⟨.s 107, 61, [.agg (rng 61 fun _ => false)]⟩)⟩ := by
  have h := p_allo (P := Try.prog) (Θ := Th) (s := s) (ty := ty) (pos := pos) (after := after) (g := g) (t := 107) (d := d) hf rfl hok
  have e : (⟨kz 107 (Th.look 107).zero, (Th.look 107).size, [(Th.look 107).zero]⟩ : OB) = ⟨.s 107, 61, [.agg (rng 61 fun _ => false)]⟩ := by
    show OB.mk (kz 107 (.agg (List.replicate 61 zB))) (61 * 1) [.agg (List.replicate 61 zB)] = _
    rw [rng_rep]
    unfold kz
    rw [noLst_rng]; rfl
  rw [e] at h
  exact h
theorem p_lda {d : Option Tmp} {x : Operand} {l t0 : Nat} (hx : s.ev x = .optr l 0 [] 0) (ho : s.hp l = some ⟨.s t0, 61, [.agg (rng 61 f)]⟩) : Pre Try.prog Th ⟨d, .load 107 x, ty, pos, after, g⟩ s ⟨.agg (rng 61 f), none⟩ :=
  p_old hx ho rfl rfl rfl rfl asz_rng
theorem p_sta {d : Option Tmp} {x y : Operand} {l t0 : Nat} {f' : Nat → Bool} (hx : s.ev x = .optr l 0 [] 0) (ho : s.hp l = some ⟨.s t0, 61, [.agg (rng 61 f')]⟩) (hy : s.ev y = .agg (rng 61 f)) : Pre Try.prog Th ⟨d, .store 107 x y, ty, pos, after, g⟩ s ⟨.any, some fun s' => s'.set l (some ⟨.s t0, 61, [.agg (rng 61 f)]⟩)⟩ :=
  p_ostore (q := .agg (rng 61 f')) (z := .agg (rng 61 f')) (v := .agg (rng 61 f)) rfl hx ho rfl (by rw [asz_rng, asz_rng]; rfl) hy rfl
theorem p_mkf {d : Option Tmp} {f : FuncId} {fs cs : Array Operand} {xs ys : List AV} (hx : fs.toList.map s.ev = xs) (hy : cs.toList.map s.ev = ys) (hc : csOK (fs.toList ++ cs.toList) = true) : Pre Try.prog Th ⟨d, .makeFunc (.func f) fs cs, ty, pos, after, g⟩ s ⟨.fn f xs ys, none⟩ :=
  ⟨f, rfl, csOK_spec hc, by rw [hx, hy]⟩
end
attribute [local irreducible] rng
attribute [local irreducible] ACode AOps RetG RetM Pre ACG
theorem ac_ancestors {cs : List Cmt} {id : Nat} (hb : stoB cs = true) (h1 : 1 ≤ id) (h2 : id ≤ cs.length) : AC Try.prog 95 [.ptr (nodeA cs id id)] ⟨.agg (rng 61 (ancB cs id)), []⟩ := by
  have hr : rng 61 (walkM cs id id fun _ => false) = rng 61 (ancB cs id) := rng_ext fun j _ => walk_anc hb h1 h2 j
  rw [← hr]
  refine acg_of Th_ok (by kernel_rfl) Try.func95 rfl Try.ntmps95 (rs := [.cell 2 107]) (by rw [Try.results95]) (by kernel_rfl) (Nat.le_of_ble_eq_true rfl) rfl rfl ?_
  refine c_seq (c_reg (o_step rfl rfl (p_alla rfl) (fun e => by cases e) (o_nil (q_then ?_))))
  refine c_seq (c_reg (o_step rfl rfl (p_alla rfl) (fun e => by cases e) (o_nil (q_then ?_))))
  refine c_seq (c_reg (o_step rfl rfl (p_allo rfl rfl) (fun e => by cases e) (o_nil (q_then ?_))))
  refine c_seq (c_reg (o_put (p_mkf (xs := []) (ys := [.optr 4 0 [] 0, .optr 5 0 [] 0]) rfl rfl rfl) rfl rfl ?_))
  refine o_step rfl rfl (p_ostoren (y' := .fn 129 [] [.optr 4 0 [] 0, .optr 5 0 [] 0]) rfl rfl rfl rfl) (fun e => by cases e) (o_nil (q_then ?_))
  refine c_seq (c_reg (o_put (p_oldo rfl rfl rfl rfl rfl rfl rfl rfl) rfl rfl (o_put (p_mv rfl) rfl rfl ?_)))
  refine o_step rfl rfl (p_callg [4, 5] (acg_walk hb (x := .fn 129 [] [.optr 4 0 [] 0, .optr 5 0 [] 0]) id id (fun _ => false) h1 (Nat.le_refl _) h2) rfl rfl ⟨rfl, rfl, trivial⟩ rfl rfl trivial rfl rfl rfl (.inl rfl) rfl) (fun e => by cases e) (o_nil (q_then ?_))
  refine c_seq (c_reg (o_put (p_lda rfl rfl) rfl rfl ?_))
  refine o_step rfl rfl (p_sta rfl rfl rfl) (fun e => by cases e) (o_nil (q_then ?_))
  refine c_ret ?_
  exact r_cell1 (x := .agg (rng 61 (walkM cs id id fun _ => false))) rfl rfl rfl (by rw [asz_rng]; rfl) trivial
end Go.Proofs.Ytnkceemdnefomaa.AM
