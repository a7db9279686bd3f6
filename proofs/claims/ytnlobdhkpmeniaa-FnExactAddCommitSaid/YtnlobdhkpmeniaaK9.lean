/- The machine over data (K6, K7, K8, K9). -/
import Derived.Test.YtnlobdhkpmeniaaKB
/- Rules for regions in which several operations change rows (AOps2): evidence by reckoning; what reads, calls, new lists, append. -/
namespace Go.Proofs.Ytnlobdhkpmeniaa.AM
open Go Go.RowKit
set_option linter.unusedVariables false
set_option linter.unusedSimpArgs false
set_option maxRecDepth 100000
/-- what every operation reads was yielded before it -/
def prodB (ops : Array Oper) : Bool :=
  (List.range ops.size).all fun j => match ops[j]? with
    | some o => (tmpsOf o).all fun t => (List.range ops.size).all fun j' => match (ops[j']?).bind (·.dst) with
      | some t' => !(Nat.beq t' t) || (!(Nat.beq j' j) && ((Region.before ops).getD j 0).testBit j')
      | none => true
    | none => true
theorem prodB_ok {ops : Array Oper} (h : prodB ops = true) : prodOK ops := by
  intro j o ho t ht j' o' ho' hd
  have h1 := List.all_eq_true.1 h j (List.mem_range.2 (Array.getElem?_eq_some_iff.1 ho).1)
  simp only [ho] at h1
  have h2 := List.all_eq_true.1 (List.all_eq_true.1 h1 t ht) j' (List.mem_range.2 (Array.getElem?_eq_some_iff.1 ho').1)
  simp only [ho', Option.bind_some, hd, Nat.beq_refl, Bool.not_true, Bool.false_or, Bool.and_eq_true, Bool.not_eq_true'] at h2
  exact ⟨fun e => by rw [e] at h2; simp at h2, h2.2⟩
mutual
/-- the labels that a datum names -/
def labs : AV → List Nat
  | .own l => [l]
  | .optr l _ _ _ => [l]
  | .mapv l => [l]
  | .tup xs => labsL xs
  | .mix xs => labsL xs
  | .fn _ xs ys => labsL xs ++ labsL ys
  | .ifc _ x => labs x
  | _ => []
def labsL : List AV → List Nat
  | [] => []
  | x :: xs => labs x ++ labsL xs
end
mutual
theorem names_labs {l : Nat} : ∀ x : AV, x.names l = true → l ∈ labs x
  | .own l', h => by simp only [AV.names] at h; simp [labs, Nat.eq_of_beq_eq_true h]
  | .optr l' _ _ _, h => by simp only [AV.names] at h; simp [labs, Nat.eq_of_beq_eq_true h]
  | .mapv l', h => by simp only [AV.names] at h; simp [labs, Nat.eq_of_beq_eq_true h]
  | .tup xs, h => by simp only [AV.names] at h; unfold labs; exact names_labsL xs h
  | .mix xs, h => by simp only [AV.names] at h; unfold labs; exact names_labsL xs h
  | .fn _ xs ys, h => by
    simp only [AV.names, Bool.or_eq_true] at h; unfold labs
    exact List.mem_append.2 (h.imp (names_labsL xs) (names_labsL ys))
  | .ifc _ x, h => by simp only [AV.names] at h; unfold labs; exact names_labs x h
  | .any, h => by simp [AV.names] at h
  | .v _, h => by simp [AV.names] at h
  | .agg _, h => by simp [AV.names] at h
  | .lst _ _, h => by simp [AV.names] at h
  | .ptr _, h => by simp [AV.names] at h
  | .rd _, h => by simp [AV.names] at h
theorem names_labsL {l : Nat} : ∀ xs : List AV, namesL l xs = true → l ∈ labsL xs
  | [], h => by simp [namesL] at h
  | x :: xs, h => by
    simp only [namesL, Bool.or_eq_true] at h; unfold labsL
    exact List.mem_append.2 (h.imp (names_labs x) (names_labsL xs))
end
theorem inNu_mem {l : Nat} : ∀ {nu : List (Nat × Option OB)}, inNu nu l → l ∈ nu.map (·.1)
  | [], ⟨o, h⟩ => by simp [nuAt] at h
  | (m, ob) :: r, ⟨o, h⟩ => by
    simp only [nuAt] at h
    cases e : Nat.beq l m with
    | true => simp [Nat.eq_of_beq_eq_true e]
    | false => rw [e] at h; exact List.mem_cons_of_mem _ (inNu_mem ⟨o, h⟩)
/-- is t not yet yielded, at k? -/
def lateB (ops : Array Oper) (k : Nat) (t : Tmp) : Bool := (List.range ops.size).any fun j' => match (ops[j']?).bind (·.dst) with
  | some t' => Nat.beq t' t && !(Nat.blt j' k)
  | none => false
theorem lateB_ok {ops : Array Oper} {k : Nat} {t : Tmp} (h : lateB ops k t = true) (hf : freshT ops (fun j => Nat.blt j k) t) : False := by
  obtain ⟨j', hj', h3⟩ := List.any_eq_true.1 h
  cases ho' : ops[j']? with
  | none => rw [ho'] at h3; cases h3
  | some o' =>
    rw [ho'] at h3
    cases hd : o'.dst with
    | none => simp only [Option.bind_some, hd] at h3; cases h3
    | some t' =>
      simp only [Option.bind_some, hd, Bool.and_eq_true, Bool.not_eq_true'] at h3
      have : t' = t := Nat.eq_of_beq_eq_true h3.1
      subst this
      have := hf j' o' ho' hd
      simp only at this
      rw [this] at h3
      exact absurd h3.2 (by simp)
/-- what the evidence asks beside the operation's own -/
def evB (ops : Array Oper) (k : Nat) (s : St) (ks ls : List Nat) : Bool :=
  condB ops k s ls &&
  ((ks.isEmpty || (List.range ops.size).all fun j => match ops[j]? with
    | some o => (tmpsOf o).all fun t => lateB ops k t || ((ks.all fun l => !((s.sl t).names l)) || (labs (s.sl t)).all fun l => ls.contains l) &&
        (Nat.beq j k || (ordr ops j k || (labs (s.sl t)).all fun l => match s.hp l with | some ob => ob.e.shut | none => true))
    | none => true) &&
  (List.range ops.size).all fun j => Nat.beq j k || (ordr ops j k || (match (ops[j]?).bind (·.dst) with
    | some d => ls.all fun l => !(Nat.beq (l % 1000) ((d + 1) % 1000))
    | none => true)))
section
variable {P : Program} {Θ : Tab} {n : Nat} {ops : Array Oper} {k : Nat} {s : St} {o : Oper} {u : AV} {ks : List Nat} {nu : List (Nat × Option OB)}
theorem ev_of (hs : Sft P Θ o s u ks nu) (hin : ∀ l ∈ nu.map (·.1), inNu nu l) (hB : evB ops k s ks (nu.map (·.1)) = true) : Ev P Θ ops (fun j => Nat.blt j k) k o s u ks nu := by
  simp only [evB, Bool.and_eq_true] at hB
  obtain ⟨b1, b2, b3⟩ := hB
  have key : ∀ (j : Nat) (o' : Oper), ops[j]? = some o' → ∀ t ∈ tmpsOf o', freshT ops (fun j => Nat.blt j k) t → ks = [] ∨
      (((ks.all fun l => !((s.sl t).names l)) || (labs (s.sl t)).all fun l => (nu.map (·.1)).contains l) = true ∧ (Nat.beq j k || (ordr ops j k || (labs (s.sl t)).all fun l => match s.hp l with | some ob => ob.e.shut | none => true)) = true) := fun j o' ho t ht hf => by
    rcases (Bool.or_eq_true _ _).mp b2 with h | h
    · exact .inl (List.isEmpty_iff.1 h)
    · have h1 := List.all_eq_true.1 h j (List.mem_range.2 (Array.getElem?_eq_some_iff.1 ho).1)
      simp only [ho] at h1
      have h2 := List.all_eq_true.1 h1 t ht
      rcases (Bool.or_eq_true _ _).mp h2 with h3 | h3
      · exact (lateB_ok h3 hf).elim
      · exact .inr (by simpa [Bool.and_eq_true] using h3)
  refine ⟨hs, fun j o' ho hne hor t ht hf l hl => condB_ok b1 j o' ho hne hor t ht hf l (inNu_mem hl), fun j o' ho t ht hf => ?_, fun j o' ho hne hor t ht hf l ob hn hob => ?_, fun j o' ho hne hor d hd l hl => ?_⟩
  · rcases key j o' ho t ht hf with rfl | ⟨h, _⟩
    · exact .inl fun l hl => by cases hl
    · rcases (Bool.or_eq_true _ _).mp h with h | h
      · exact .inl fun l hl => by simpa using List.all_eq_true.1 h l hl
      · exact .inr fun l hl => hin l (by simpa using List.all_eq_true.1 h l (names_labs _ hl))
  · rcases key j o' ho t ht hf with rfl | ⟨_, h⟩
    · exact .inl rfl
    · rw [nbne hne, hor] at h
      simp only [Bool.false_or] at h
      have := List.all_eq_true.1 h l (names_labs _ hn)
      simp only [hob] at this
      exact .inr this
  · have h1 := List.all_eq_true.1 b3 j (List.mem_range.2 (Array.getElem?_eq_some_iff.1 ho).1)
    rw [nbne hne, hor] at h1
    simp only [Bool.false_or, ho, Option.bind_some, hd] at h1
    have := List.all_eq_true.1 h1 l (inNu_mem hl)
    intro e
    rw [e] at this
    simp at this
theorem shp_nil (s : St) : shp [] [] s = s := rfl
theorem inNu_nil {l : Nat} (h : inNu [] l) : False := by obtain ⟨o, h⟩ := h; simp [nuAt] at h
/-- what only reads -/
theorem sft_calm {v : AV} (hp : Pre P Θ o s ⟨v, none⟩) (hc : calm Θ true o = true) (hv : calm1 o = true ∨ v.within (fun _ => false) = true) : Sft P Θ o s v [] [] := by
  refine ⟨fun s' h1 h2 => ⟨⟨v, none⟩, pre_calm (two := true) hc h1 (fun _ l ⟨x, hx, hn⟩ => ?_) hp, fun K hK => .done hK⟩, fun l ob h => by simp [nuAt] at h, fun l hl => (by cases hl), fun l hl => ?_, fun l hl => (inNu_nil hl).elim, fun l ob hl => (inNu_nil hl).elim⟩
  · cases x with
    | tmp t => exact (h2 l (.inr ⟨t, mem_tmps hx, hn⟩)).1
    | _ => simp [St.ev, AV.names, namesL] at hn
  · rcases hv with hv | hv
    · exact .inr (val_calm1 hv hp l hl)
    · have := within_names v hv hl; cases this
theorem o2_nil {K : St → Prop} (h : K s) : AOps2 P Θ n ops k [] s K := Gh.done h
theorem o2_calm {r : List Oper} {K : St → Prop} {v : AV} (hp : Pre P Θ o s ⟨v, none⟩) (hin : inN n o.dst = true) (hg : o.guard = none) (hc : calm Θ true o = true) (hv : calm1 o = true ∨ v.within (fun _ => false) = true) (hB : evB ops k s [] [] = true) (h : AOps2 P Θ n ops (k + 1) r (s.put o.dst v) K) : AOps2 P Θ n ops k (o :: r) s K :=
  ⟨hin, hg, .inl ⟨v, [], [], ev_of (sft_calm hp hc hv) (fun l hl => by cases hl) hB, h⟩⟩
theorem o2_sft {r : List Oper} {K : St → Prop} (hs : Sft P Θ o s u ks nu) (hn : ∀ l ∈ nu.map (·.1), inNu nu l) (hin : inN n o.dst = true) (hg : o.guard = none) (hB : evB ops k s ks (nu.map (·.1)) = true) (h : AOps2 P Θ n ops (k + 1) r ((shp ks nu s).put o.dst u) K) : AOps2 P Θ n ops k (o :: r) s K :=
  ⟨hin, hg, .inl ⟨u, ks, nu, ev_of hs hn hB, h⟩⟩
theorem o2_tied {r : List Oper} {K : St → Prop} {e : Eff} (hp : Pre P Θ o s e) (hin : inN n o.dst = true) (hg : o.guard = none) (ht : tied ops k = true) (h : AOps2 P Θ n ops (k + 1) r (s.app o.dst e) K) : AOps2 P Θ n ops k (o :: r) s K :=
  ⟨hin, hg, .inr ⟨ht, e, hp, .done h⟩⟩
end
end Go.Proofs.Ytnlobdhkpmeniaa.AM
/- Evidence of operations that change rows (AOps2): a call over data, a list without elements, append of a list that is read. -/
namespace Go.Proofs.Ytnlobdhkpmeniaa.AM
open Go Go.RowKit
set_option linter.unusedVariables false
set_option linter.unusedSimpArgs false
set_option maxRecDepth 100000
abbrev noLab (x : AV) : Bool := x.within (fun _ => false)
mutual
theorem dat_nolab (s s' : St) : ∀ x : AV, noLab x = true → s'.dat x = s.dat x
  | .own l, h => by simp [noLab, AV.within] at h
  | .optr l _ _ _, h => by simp [noLab, AV.within] at h
  | .mix xs, h => by unfold St.dat; rw [datL_nolab s s' xs (by simpa [noLab, AV.within] using h)]
  | .ifc t x, h => by unfold St.dat; rw [dat_nolab s s' x (by simpa [noLab, AV.within] using h)]
  | .mapv l, h => by simp [noLab, AV.within] at h
  | .tup xs, h => by simp [St.dat]
  | .fn _ xs ys, h => by simp [St.dat]
  | .any, h => by simp [St.dat]
  | .v _, h => by simp [St.dat]
  | .agg _, h => by simp [St.dat]
  | .lst _ _, h => by simp [St.dat]
  | .ptr _, h => by simp [St.dat]
  | .rd _, h => by simp [St.dat]
theorem datL_nolab (s s' : St) : ∀ xs : List AV, withinL (fun _ => false) xs = true → s'.datL xs = s.datL xs
  | [], _ => by simp [St.datL]
  | x :: xs, h => by
    simp only [withinL, Bool.and_eq_true] at h
    simp only [St.datL]; rw [dat_nolab s s' x h.1, datL_nolab s s' xs h.2]
end
mutual
theorem isData_nolab (s s' : St) : ∀ x : AV, noLab x = true → isDataA s' x = isDataA s x
  | .own l, h => by simp [noLab, AV.within] at h
  | .optr l _ _ _, h => by simp [noLab, AV.within] at h
  | .mix xs, h => by unfold isDataA; rw [isDataL_nolab s s' xs (by simpa [noLab, AV.within] using h)]
  | .ifc t x, h => by simp [isDataA]
  | .mapv l, h => by simp [noLab, AV.within] at h
  | .tup xs, h => by simp [isDataA]
  | .fn _ xs ys, h => by simp [isDataA]
  | .any, h => by simp [isDataA]
  | .v _, h => by simp [isDataA]
  | .agg _, h => by simp [isDataA]
  | .lst _ _, h => by simp [isDataA]
  | .ptr _, h => by simp [isDataA]
  | .rd _, h => by simp [isDataA]
theorem isDataL_nolab (s s' : St) : ∀ xs : List AV, withinL (fun _ => false) xs = true → isDataL s' xs = isDataL s xs
  | [], _ => by simp [isDataL]
  | x :: xs, h => by
    simp only [withinL, Bool.and_eq_true] at h
    simp only [isDataL]; rw [isData_nolab s s' x h.1, isDataL_nolab s s' xs h.2]
end
theorem argA_nolab (s s' : St) (x : AV) (h : noLab x = true) : argA s' x = argA s x := by
  cases x with
  | ifc t y => simp only [argA]; exact isData_nolab s s' y (by simpa [noLab, AV.within] using h)
  | own l => simp [noLab, AV.within] at h
  | optr l i p c => simp [noLab, AV.within] at h
  | mix xs => simp only [argA]; exact isData_nolab s s' (.mix xs) h
  | fn f xs ys => cases xs <;> cases ys <;> simp [argA]
  | _ => simp [argA, isDataA]
theorem argsA_nolab (s s' : St) : ∀ xs : List AV, (xs.all noLab) = true → argsA s' xs = argsA s xs
  | [], _ => rfl
  | x :: xs, h => by
    simp only [List.all_cons, Bool.and_eq_true] at h
    simp only [argsA]; rw [argA_nolab s s' x h.1, argsA_nolab s s' xs h.2]

def nuObs (d : Nat) : Nat → List OB → List (Nat × Option OB)
  | _, [] => []
  | k, ob :: r => (d + 1000 * k, some ob) :: nuObs d (k + 1) r
theorem nuObs_none {d : Nat} : ∀ (r : List OB) (k k' : Nat), k < k' → nuAt (nuObs d k' r) (d + 1000 * k) = none
  | [], _, _, _ => rfl
  | ob :: r, k, k', h => by
    have hne : d + 1000 * k ≠ d + 1000 * k' := by omega
    simp only [nuObs, nuAt]
    rw [nbne hne]; exact nuObs_none r k (k' + 1) (by omega)
theorem nuObs_in {d : Nat} : ∀ (r : List OB) (k l : Nat) (o : Option OB), nuAt (nuObs d k r) l = some o → ∃ j ob, l = d + 1000 * j ∧ o = some ob ∧ ob ∈ r ∧ k ≤ j ∧ r[j - k]? = some ob
  | [], _, _, _, h => by simp [nuObs, nuAt] at h
  | ob :: r, k, l, o, h => by
    simp only [nuObs, nuAt] at h
    cases e : Nat.beq l (d + 1000 * k) with
    | true =>
      rw [e] at h; simp only [cond_true, Option.some.injEq] at h
      exact ⟨k, ob, Nat.eq_of_beq_eq_true e, h.symm, by simp, Nat.le_refl _, by simp⟩
    | false =>
      rw [e] at h
      obtain ⟨j, ob', h1, h2, h3, h4, h5⟩ := nuObs_in r (k + 1) l o h
      exact ⟨j, ob', h1, h2, List.mem_cons_of_mem _ h3, by omega, by
        have : j - k = (j - (k + 1)) + 1 := by omega
        rw [this, List.getElem?_cons_succ]; exact h5⟩
theorem nuObs_free {s : St} {d : Nat} : ∀ (r : List OB) (k : Nat), freeObs s d k r → ∀ j, k ≤ j → j < k + r.length → s.hp (d + 1000 * j) = none
  | [], k, _, j, h1, h2 => by simp at h2; omega
  | ob :: r, k, h, j, h1, h2 => by
    unfold freeObs at h
    rcases Nat.eq_or_lt_of_le h1 with e | e
    · subst e; exact h.1.1
    · exact nuObs_free r (k + 1) h.2 j (by omega) (by simp at h2; omega)
theorem freeObs_loc {s s' : St} {d : Nat} : ∀ (r : List OB) (k : Nat), (∀ j, k ≤ j → j < k + r.length → s'.hp (d + 1000 * j) = s.hp (d + 1000 * j)) → freeObs s d k r → freeObs s' d k r
  | [], _, _, _ => trivial
  | ob :: r, k, hh, h => by
    unfold freeObs at h ⊢
    exact ⟨⟨(hh k (Nat.le_refl _) (by simp)).trans h.1.1, h.1.2⟩, freeObs_loc r (k + 1) (fun j h1 h2 => hh j (by omega) (by simp; omega)) h.2⟩
theorem nuObs_mem {d : Nat} : ∀ (r : List OB) (k j : Nat), k ≤ j → j < k + r.length → inNu (nuObs d k r) (d + 1000 * j)
  | [], k, j, h1, h2 => by simp at h2; omega
  | ob :: r, k, j, h1, h2 => by
    unfold inNu
    simp only [nuObs, nuAt]
    cases e : Nat.beq (d + 1000 * j) (d + 1000 * k) with
    | true => exact ⟨_, rfl⟩
    | false =>
      have hne : j ≠ k := fun h => by subst h; rw [Nat.beq_refl] at e; cases e
      exact nuObs_mem r (k + 1) j (by omega) (by simp at h2; omega)
theorem setObs_shp {d : Nat} : ∀ (r : List OB) (k : Nat) (s : St), setObs d k r s = shp [] (nuObs d k r) s
  | [], k, s => rfl
  | ob :: r, k, s => by
    show setObs d (k + 1) r (s.set (d + 1000 * k) (some ob)) = _
    rw [setObs_shp r (k + 1)]
    unfold shp St.set
    congr 1
    · funext j
      simp only [nuObs, nuAt]
      cases e : Nat.beq j (d + 1000 * k) with
      | true =>
        have := Nat.eq_of_beq_eq_true e
        subst this
        rw [nuObs_none r k (k + 1) (by omega)]; rfl
      | false => rfl
    · funext j
      simp only [nuObs, nuAt]
      cases e : Nat.beq j (d + 1000 * k) with
      | true =>
        have := Nat.eq_of_beq_eq_true e
        subst this
        rw [nuObs_none r k (k + 1) (by omega)]; rfl
      | false => rfl
section
variable {P : Program} {Θ : Tab} {s : St} {ty : TypeId} {pos : String} {after : Array Edge} {g : Option (Nat × Bool)}
/-- a call whose arguments are data -/
theorem sft_call {f : FuncId} {ags : Array Operand} {ts : Array TypeId} {t : Nat} {args : List AV} {out : Out} (hac : AC P f args out) (ha : (ags.toList.map fun x => s.dat (s.ev x)) = args) (hfl : (ownsOf s ags.toList).isEmpty = true) (hw : (ags.toList.map s.ev).all noLab = true) (hfr : freeObs s (t + 1) 0 out.obs) (hok : argsA s (ags.toList.map s.ev) = true) (hc : csOK ags.toList = true)
    (hv : (ren (t + 1) out.val).within (fun l => (nuAt (nuObs (t + 1) 0 out.obs) l).isSome) = true) :
    Sft P Θ ⟨some t, .call ⟨.value (.func f), ags, ts⟩, ty, pos, after, g⟩ s (ren (t + 1) out.val) [] (nuObs (t + 1) 0 out.obs) := by
  have hsh := free_shut out.obs 0 hfr
  refine ⟨fun s' h1 h2 => ?_, fun l ob h => ?_, fun l hl => (by cases hl), fun l hl => ?_, fun l ⟨o, hl⟩ => ?_, fun l ob ⟨o, hl⟩ ho => ?_⟩
  · have hev : ∀ x ∈ ags.toList, s'.ev x = s.ev x := fun x hx => h1 x (by simp [Op.operands, Call.operands] at hx ⊢; exact .inr hx)
    have hmap : ags.toList.map s'.ev = ags.toList.map s.ev := List.map_congr_left hev
    refine ⟨⟨ren (t + 1) out.val, setU (t + 1) out.obs⟩, p_call hac ?_ (.inl ?_) (freeObs_loc out.obs 0 (fun j h3 h4 => (h2 _ (.inl (nuObs_mem out.obs 0 j h3 h4))).1) hfr) ?_ hc, fun K hK => .done ?_⟩
    · rw [← ha]
      refine List.map_congr_left fun x hx => ?_
      rw [hev x hx]
      exact dat_nolab s s' _ (List.all_eq_true.1 hw _ (List.mem_map_of_mem hx))
    · unfold ownsOf at hfl ⊢; rw [hmap]; exact hfl
    · rw [hmap, argsA_nolab s s' _ hw]; exact hok
    · cases ho : out.obs with
      | nil => rw [ho] at hK; exact hK
      | cons ob r =>
        rw [ho] at hK
        show K ((setObs (t + 1) 0 (ob :: r) s').put (some t) (ren (t + 1) out.val))
        rw [setObs_shp]; exact hK
  · obtain ⟨j, ob', _, e, hm, _⟩ := nuObs_in out.obs 0 l _ h
    cases e; exact hsh ob hm
  · have := within_names _ hv hl
    obtain ⟨o, ho⟩ := Option.isSome_iff_exists.1 this
    exact .inl ⟨o, ho⟩
  · obtain ⟨j, ob', e, _⟩ := nuObs_in out.obs 0 l _ hl
    exact .inl ⟨t, rfl, by rw [e]; omega⟩
  · obtain ⟨j, ob', e, _, _, h4, h5⟩ := nuObs_in out.obs 0 l _ hl
    have hj := (List.getElem?_eq_some_iff.1 h5).1
    have := nuObs_free out.obs 0 hfr j h4 (by omega)
    rw [← e, ho] at this; cases this
end
end Go.Proofs.Ytnlobdhkpmeniaa.AM
/- Evidence of operations that change rows (AOps2): a list without elements; append of a list that is read. -/
namespace Go.Proofs.Ytnlobdhkpmeniaa.AM
open Go Go.RowKit
set_option linter.unusedVariables false
set_option linter.unusedSimpArgs false
set_option maxRecDepth 100000
theorem shp_set (l : Nat) (ob : OB) (s : St) : s.set l (some ob) = shp [] [(l, some ob)] s := by
  unfold shp St.set
  congr 1
  · funext j; show (bif Nat.beq j l then some ob else s.hp j) = (match (bif Nat.beq j l then some (some ob) else none) with | some o => o | none => s.hp j)
    cases Nat.beq j l <;> rfl
  · funext j; show (bif Nat.beq j l then none else s.mp j) = (match (bif Nat.beq j l then some (some ob) else none) with | some _ => none | none => s.mp j)
    cases Nat.beq j l <;> rfl
theorem shp_app (l : Nat) (ob : OB) (s : St) : (s.kill l).set l (some ob) = shp [l] [(l, some ob)] s := by
  unfold shp St.set St.kill
  congr 1
  · funext j; show (bif (s.sl j).names l then AV.any else s.sl j) = fgt [l] (s.sl j); unfold fgt; simp
  · funext j; show (bif Nat.beq j l then some ob else killO l (s.hp j)) = (match (bif Nat.beq j l then some (some ob) else none) with | some o => o | none => killO l (s.hp j))
    cases Nat.beq j l <;> rfl
  · funext j; show (bif Nat.beq j l then none else s.mp j) = (match (bif Nat.beq j l then some (some ob) else none) with | some _ => none | none => s.mp j)
    cases Nat.beq j l <;> rfl
theorem nu1 {l m : Nat} {ob : OB} {o : Option OB} (h : nuAt [(l, some ob)] m = some o) : m = l ∧ o = some ob := by
  simp only [nuAt] at h
  cases e : Nat.beq m l with
  | true => rw [e] at h; simp only [cond_true, Option.some.injEq] at h; exact ⟨Nat.eq_of_beq_eq_true e, h.symm⟩
  | false => rw [e] at h; cases h
theorem in1 (l : Nat) (ob : OB) : inNu [(l, some ob)] l := ⟨some ob, by simp [nuAt]⟩
section
variable {P : Program} {Θ : Tab} {s : St} {ty : TypeId} {pos : String} {after : Array Edge} {g : Option (Nat × Bool)}
theorem sft_bsl0 {d : Nat} {t : TypeId} {el sz b : Nat} {z : AV} (hf : s.hp (d + 1) = none) (ht : Θ.look t = .slice el sz b z) (hok : okL (d + 1) = true := by rfl) :
    Sft P Θ ⟨some d, .buildSlice t 0 #[], ty, pos, after, g⟩ s (.own (d + 1)) [] [(d + 1, some ⟨.s el, sz, []⟩)] := by
  refine ⟨fun s' h1 h2 => ⟨⟨.own (d + 1), some fun s'' => s''.set (d + 1) (some ⟨.s el, sz, []⟩)⟩, ?_, fun K hK => .done ?_⟩, fun l ob h => ?_, fun l hl => (by cases hl), fun l hl => .inl ?_, fun l ⟨o, hl⟩ => .inl ?_, fun l ob ⟨o, hl⟩ ho => ?_⟩
  · exact ⟨d, el, sz, b, z, rfl, (h2 _ (.inl (in1 _ _))).1.trans hf, hok, ht, by omega, .inl ⟨trivial, fun x hx => by simp at hx, by simp [ownsOf, ownsAL], by simp [ownsOf, ownsAL, frzT, setParts]⟩⟩
  · rw [app_some, shp_set]; exact hK
  · obtain ⟨_, e⟩ := nu1 h; cases e; rfl
  · simp only [AV.names] at hl; rw [← Nat.eq_of_beq_eq_true hl]; exact in1 _ _
  · obtain ⟨rfl, _⟩ := nu1 hl; exact ⟨d, rfl, rfl⟩
  · obtain ⟨rfl, _⟩ := nu1 hl; rw [hf] at ho; cases ho
theorem sft_appl {d : Option Tmp} {tx : Tmp} {y : Operand} {t el sz b l : Nat} {e0 : ET} {z : AV} {xs ys : List AV} (hx : s.sl tx = .own l) (hy : s.ev y = .lst sz ys) (ho : s.hp l = some ⟨e0, sz, xs⟩) (ht : Θ.look t = .slice el sz b z) (hb : (xs.length + ys.length) * b ≤ 140737488355328) (hb1 : Nat.ble 1 b = true) (he : (e0 = .s el ∨ e0 = .z el) := by first | exact .inl rfl | exact .inr rfl) (hok : okL l = true := by rfl) :
    Sft P Θ ⟨d, .call ⟨.builtin .append, #[.tmp tx, y], #[t, t]⟩, ty, pos, after, g⟩ s (.own l) [l] [(l, some ⟨.s el, sz, xs ++ ys⟩)] := by
  have hb1' := Nat.le_of_ble_eq_true hb1
  have hm : xs.length + ys.length ≤ maxLen := by
    have : (xs.length + ys.length) * 1 ≤ (xs.length + ys.length) * b := Nat.mul_le_mul_left _ hb1'
    unfold maxLen; omega
  have hmem : tx ∈ tmpsOf (⟨d, .call ⟨.builtin .append, #[.tmp tx, y], #[t, t]⟩, ty, pos, after, g⟩ : Oper) := mem_tmps (by simp [Op.operands, Call.operands])
  have hnm : namedBy s (⟨d, .call ⟨.builtin .append, #[.tmp tx, y], #[t, t]⟩, ty, pos, after, g⟩ : Oper) l := ⟨tx, hmem, by rw [hx]; simp [AV.names]⟩
  refine ⟨fun s' h1 h2 => ⟨⟨.own l, some fun s'' => (s''.kill l).set l (some ⟨.s el, sz, xs ++ ys⟩)⟩, ?_, fun K hK => .done ?_⟩, fun m ob h => ?_, fun m hl => ?_, fun m hl => .inl ?_, fun m ⟨o, hl⟩ => .inr ?_, fun m ob ⟨o, hl⟩ hob => ?_⟩
  · have e1 : s'.ev (.tmp tx) = .own l := (h1 _ (by simp [Op.operands, Call.operands])).trans hx
    have e2 : s'.ev y = .lst sz ys := (h1 _ (by simp [Op.operands, Call.operands])).trans hy
    exact ⟨.tmp tx, y, t, el, sz, b, z, l, _, ys, rfl, rfl, ht, e1, (h2 _ (.inl (in1 _ _))).1.trans ho, hok, rfl, hb, hm, .inl ⟨el, he, rfl, .inl e2, rfl⟩⟩
  · rw [app_some, shp_app]; exact hK
  · obtain ⟨_, e⟩ := nu1 h; cases e; rfl
  · rw [List.mem_singleton] at hl; subst hl; exact in1 _ _
  · simp only [AV.names] at hl; rw [← Nat.eq_of_beq_eq_true hl]; exact in1 _ _
  · obtain ⟨rfl, _⟩ := nu1 hl; exact hnm
  · obtain ⟨rfl, _⟩ := nu1 hl
    rw [ho] at hob; cases hob
    rcases he with rfl | rfl <;> rfl
end
end Go.Proofs.Ytnlobdhkpmeniaa.AM
/- Evidence of operations that change rows (AOps2): a list of one struct with own lists, folded; append in depth. -/
namespace Go.Proofs.Ytnlobdhkpmeniaa.AM
open Go Go.RowKit
set_option linter.unusedVariables false
set_option linter.unusedSimpArgs false
set_option maxRecDepth 100000
theorem hp_set {s : St} {l : Nat} {o : Option OB} (j : Nat) : (s.set l o).hp j = bif Nat.beq j l then o else s.hp j := rfl
theorem hp_drop {s : St} {l : Nat} (j : Nat) : (s.drop l).hp j = bif Nat.beq j l then none else killO l (s.hp j) := rfl
theorem killO_s {l : Nat} {t sz : Nat} {xs : List AV} : killO l (some ⟨.s t, sz, xs⟩) = some ⟨.s t, sz, xs⟩ := rfl
theorem killO_d {l : Nat} {t sz : Nat} {xs : List AV} : killO l (some ⟨.d t, sz, xs⟩) = some ⟨.d t, sz, xs⟩ := rfl
section
variable {P : Program} {Θ : Tab} {s : St} {ty : TypeId} {pos : String} {after : Array Edge} {g : Option (Nat × Bool)}
theorem sft_appd {d : Option Tmp} {tx ty' : Tmp} {t el sz b l l' : Nat} {e' : ET} {z : AV} {xs ys : List AV} (hx : s.sl tx = .own l) (hy : s.sl ty' = .own l') (ho : s.hp l = some ⟨.d el, sz, xs⟩) (ho' : s.hp l' = some ⟨e', sz, ys⟩) (hn : Nat.beq l' l = false) (ht : Θ.look t = .slice el sz b z) (hb : (xs.length + ys.length) * b ≤ 140737488355328) (h0 : 0 < ys.length) (hb1 : Nat.ble 1 b = true) (he' : e'.deep = true := by rfl) (hsh : e'.shut = true := by rfl) (hok : okL l = true := by rfl) (hok' : okL l' = true := by rfl) :
    Sft P Θ ⟨d, .call ⟨.builtin .append, #[.tmp tx, .tmp ty'], #[t, t]⟩, ty, pos, after, g⟩ s (.own l) [l, l'] [(l, some ⟨.d el, sz, xs ++ ys⟩), (l', none)] := by
  have hb1' := Nat.le_of_ble_eq_true hb1
  have hm : xs.length + ys.length ≤ maxLen := by
    have : (xs.length + ys.length) * 1 ≤ (xs.length + ys.length) * b := Nat.mul_le_mul_left _ hb1'
    unfold maxLen; omega
  have hne : l' ≠ l := fun e => by rw [e] at hn; simp at hn
  have m1 : tx ∈ tmpsOf (⟨d, .call ⟨.builtin .append, #[.tmp tx, .tmp ty'], #[t, t]⟩, ty, pos, after, g⟩ : Oper) := mem_tmps (by simp [Op.operands, Call.operands])
  have m2 : ty' ∈ tmpsOf (⟨d, .call ⟨.builtin .append, #[.tmp tx, .tmp ty'], #[t, t]⟩, ty, pos, after, g⟩ : Oper) := mem_tmps (by simp [Op.operands, Call.operands])
  have n1 : namedBy s (⟨d, .call ⟨.builtin .append, #[.tmp tx, .tmp ty'], #[t, t]⟩, ty, pos, after, g⟩ : Oper) l := ⟨tx, m1, by rw [hx]; simp [AV.names]⟩
  have n2 : namedBy s (⟨d, .call ⟨.builtin .append, #[.tmp tx, .tmp ty'], #[t, t]⟩, ty, pos, after, g⟩ : Oper) l' := ⟨ty', m2, by rw [hy]; simp [AV.names]⟩
  have i1 : inNu [(l, some (OB.mk (.d el) sz (xs ++ ys))), (l', none)] l := ⟨some (OB.mk (.d el) sz (xs ++ ys)), (by show (bif Nat.beq l l then some _ else _) = _; rw [Nat.beq_refl]; rfl)⟩
  have i2 : inNu [(l, some (OB.mk (.d el) sz (xs ++ ys))), (l', none)] l' := ⟨none, (by show (bif Nat.beq l' l then some _ else (bif Nat.beq l' l' then some none else none)) = some none; rw [hn, Nat.beq_refl]; rfl)⟩
  have cases2 : ∀ m o, nuAt [(l, some (OB.mk (.d el) sz (xs ++ ys))), (l', none)] m = some o → (m = l ∧ o = some (OB.mk (.d el) sz (xs ++ ys))) ∨ (m = l' ∧ o = none) := fun m o h => by
    simp only [nuAt] at h
    cases e1 : Nat.beq m l with
    | true => rw [e1] at h; simp only [cond_true, Option.some.injEq] at h; exact .inl ⟨Nat.eq_of_beq_eq_true e1, h.symm⟩
    | false =>
      rw [e1] at h
      cases e2 : Nat.beq m l' with
      | true => rw [e2] at h; simp only [cond_true, cond_false, Option.some.injEq] at h; exact .inr ⟨Nat.eq_of_beq_eq_true e2, h.symm⟩
      | false => rw [e2] at h; simp at h
  have hshp : ∀ s' : St, ((s'.kill l).drop l').set l (some ⟨.d el, sz, xs ++ ys⟩) = shp [l, l'] [(l, some (OB.mk (.d el) sz (xs ++ ys))), (l', none)] s' := fun s' => by
    unfold shp
    show St.mk _ _ _ = St.mk _ _ _
    congr 1
    · funext j
      show (bif (bif (s'.sl j).names l then AV.any else s'.sl j).names l' then AV.any else (bif (s'.sl j).names l then AV.any else s'.sl j)) = fgt [l, l'] (s'.sl j)
      unfold fgt
      cases h1 : (s'.sl j).names l <;> cases h2 : (s'.sl j).names l' <;> simp [h1, h2, AV.names]
    · funext j
      show (bif Nat.beq j l then some (OB.mk (.d el) sz (xs ++ ys)) else bif Nat.beq j l' then none else killO l' (killO l (s'.hp j))) = _
      simp only [nuAt]
      cases e1 : Nat.beq j l <;> cases e2 : Nat.beq j l' <;> simp [kils]
    · funext j
      show (bif Nat.beq j l then none else bif Nat.beq j l' then none else s'.mp j) = _
      simp only [nuAt]
      cases e1 : Nat.beq j l <;> cases e2 : Nat.beq j l' <;> simp
  refine ⟨fun s' h1 h2 => ⟨⟨.own l, some fun s'' => ((s''.kill l).drop l').set l (some ⟨.d el, sz, xs ++ ys⟩)⟩, ?_, fun K hK => .done ?_⟩, fun m ob h => ?_, fun m hl => ?_, fun m hl => .inl ?_, fun m ⟨o, hl⟩ => .inr ?_, fun m ob ⟨o, hl⟩ hob => ?_⟩
  · have e1 : s'.ev (.tmp tx) = .own l := (h1 _ (by simp [Op.operands, Call.operands])).trans hx
    have e2 : s'.ev (.tmp ty') = .own l' := (h1 _ (by simp [Op.operands, Call.operands])).trans hy
    exact ⟨.tmp tx, .tmp ty', t, el, sz, b, z, l, _, ys, rfl, rfl, ht, e1, (h2 _ (.inl i1)).1.trans ho, hok, rfl, hb, hm, .inr ⟨l', _, .inr (.inl rfl), e2, hne, hok', (h2 _ (.inl i2)).1.trans ho', he', rfl, rfl, h0, rfl⟩⟩
  · rw [app_some, hshp]; exact hK
  · rcases cases2 m _ h with ⟨_, e⟩ | ⟨_, e⟩
    · cases e; rfl
    · cases e
  · simp only [List.mem_cons, List.not_mem_nil, or_false] at hl
    rcases hl with rfl | rfl
    · exact i1
    · exact i2
  · simp only [AV.names] at hl; rw [← Nat.eq_of_beq_eq_true hl]; exact i1
  · rcases cases2 m o hl with ⟨rfl, _⟩ | ⟨rfl, _⟩
    · exact n1
    · exact n2
  · rcases cases2 m o hl with ⟨rfl, _⟩ | ⟨rfl, _⟩
    · rw [ho] at hob; cases hob; rfl
    · rw [ho'] at hob; cases hob; exact hsh
theorem sft_bslm {d : Nat} {tx : Tmp} {t el b l1 l2 t1 t2 z1 z2 : Nat} {z : AV} {xs1 xs2 : List AV} (hx : s.sl tx = .mix [.own l1, .own l2]) (h1 : s.hp l1 = some ⟨.s t1, z1, xs1⟩) (h2 : s.hp l2 = some ⟨.s t2, z2, xs2⟩) (hn1 : ∀ x ∈ xs1, noLst x = true) (hn2 : ∀ x ∈ xs2, noLst x = true) (hf : s.hp (d + 1) = none) (hn : Nat.beq l1 l2 = false) (ht : Θ.look t = .slice el 2 b z) (hok : okL (d + 1) = true := by rfl) (hok1 : okL l1 = true := by rfl) (hok2 : okL l2 = true := by rfl) :
    Sft P Θ ⟨some d, .buildSlice t 1 #[(0, .tmp tx)], ty, pos, after, g⟩ s (.own (d + 1)) [l1, l2] [(d + 1, some ⟨.d el, 2, [.agg [.lst z1 xs1, .lst z2 xs2]]⟩), (l1, none), (l2, none)] := by
  obtain ⟨D, hD⟩ : ∃ D, D = d + 1 := ⟨_, rfl⟩
  rw [← hD] at hf hok ⊢
  have ne12 : l1 ≠ l2 := fun e => by rw [e] at hn; simp at hn
  have ne1 : l1 ≠ D := fun e => by rw [e, hf] at h1; cases h1
  have ne2 : l2 ≠ D := fun e => by rw [e, hf] at h2; cases h2
  have b12 := nbne ne12
  have b21 := nbne (Ne.symm ne12)
  have b1 := nbne ne1
  have b2 := nbne ne2
  have b1' := nbne (Ne.symm ne1)
  have b2' := nbne (Ne.symm ne2)
  have m1 : tx ∈ tmpsOf (⟨some d, .buildSlice t 1 #[(0, .tmp tx)], ty, pos, after, g⟩ : Oper) := mem_tmps (by simp [Op.operands])
  have n1 : namedBy s (⟨some d, .buildSlice t 1 #[(0, .tmp tx)], ty, pos, after, g⟩ : Oper) l1 := ⟨tx, m1, by rw [hx]; simp [AV.names, namesL]⟩
  have n2 : namedBy s (⟨some d, .buildSlice t 1 #[(0, .tmp tx)], ty, pos, after, g⟩ : Oper) l2 := ⟨tx, m1, by rw [hx]; simp [AV.names, namesL]⟩
  obtain ⟨row, hrow⟩ : ∃ row : OB, row = ⟨.d el, 2, [.agg [.lst z1 xs1, .lst z2 xs2]]⟩ := ⟨_, rfl⟩
  rw [← hrow]
  have nuD : nuAt [(D, some row), (l1, none), (l2, none)] D = some (some row) := by simp only [nuAt]; rw [Nat.beq_refl]; rfl
  have nu1' : nuAt [(D, some row), (l1, none), (l2, none)] l1 = some none := by simp only [nuAt]; rw [b1, Nat.beq_refl]; rfl
  have nu2' : nuAt [(D, some row), (l1, none), (l2, none)] l2 = some none := by simp only [nuAt]; rw [b2, b21, Nat.beq_refl]; rfl
  have cases3 : ∀ m o, nuAt [(D, some row), (l1, none), (l2, none)] m = some o → (m = D ∧ o = some row) ∨ (m = l1 ∧ o = none) ∨ (m = l2 ∧ o = none) := fun m o h => by
    simp only [nuAt] at h
    cases e1 : Nat.beq m D with
    | true => rw [e1] at h; simp only [cond_true, Option.some.injEq] at h; exact .inl ⟨Nat.eq_of_beq_eq_true e1, h.symm⟩
    | false =>
      rw [e1] at h
      cases e2 : Nat.beq m l1 with
      | true => rw [e2] at h; simp only [cond_true, cond_false, Option.some.injEq] at h; exact .inr (.inl ⟨Nat.eq_of_beq_eq_true e2, h.symm⟩)
      | false =>
        rw [e2] at h
        cases e3 : Nat.beq m l2 with
        | true => rw [e3] at h; simp only [cond_true, cond_false, Option.some.injEq] at h; exact .inr (.inr ⟨Nat.eq_of_beq_eq_true e3, h.symm⟩)
        | false => rw [e3] at h; simp at h
  have ey1 : killA l1 (setM (.mix [.own l1, .own l2]) [0] (.lst z1 xs1)) = .mix [.lst z1 xs1, .own l2] := by
    simp [setM, killA, killL, b21]
  have ey2 : killA l2 (setM (.mix [.lst z1 xs1, .own l2]) [1] (.lst z2 xs2)) = .mix [.lst z1 xs1, .lst z2 xs2] := by
    simp [setM, killA, killL]
  refine ⟨fun s' k1 k2 => ⟨⟨.own D, some fun s'' => s''.set D (some ⟨.o (some el) 0 (.mix [.own l1, .own l2]), 2, [.mix [.own l1, .own l2]]⟩)⟩, ?_, fun K hK => ?_⟩, fun l ob h => ?_, fun l hl => ?_, fun l hl => .inl ?_, fun l ⟨o, hl⟩ => ?_, fun l ob ⟨o, hl⟩ ho => ?_⟩
  · have e1 : s'.ev (.tmp tx) = .mix [.own l1, .own l2] := (k1 _ (by simp [Op.operands])).trans hx
    exact ⟨d, el, 2, b, z, rfl, hD ▸ (k2 _ (.inl ⟨_, nuD⟩)).1.trans hf, hD ▸ hok, ht, by omega, .inr ⟨.tmp tx, .mix [.own l1, .own l2], rfl, rfl, (fun c e => by cases e), by rw [e1]; rfl, rfl, by rw [hD]⟩⟩
  · have r1 : s'.hp l1 = some ⟨.s t1, z1, xs1⟩ := (k2 _ (.inl ⟨_, nu1'⟩)).1.trans h1
    have r2 : s'.hp l2 = some ⟨.s t2, z2, xs2⟩ := (k2 _ (.inl ⟨_, nu2'⟩)).1.trans h2
    rw [app_some]
    refine .s2d l1 (t := t1) (sz := z1) (xs := xs1) ?_ hn1 ?_
    · rw [hp_put, hp_set, b1]; exact r1
    refine .s2d l2 (t := t2) (sz := z2) (xs := xs2) ?_ hn2 ?_
    · rw [hp_set, b21, hp_put, hp_set, b2]; exact r2
    refine .fold D l1 [0] (t := some el) (i := 0) (sz := 2) (c := 0) (y := .mix [.own l1, .own l2]) (xs := [.mix [.own l1, .own l2]]) (ob' := ⟨.d t1, z1, xs1⟩) ?_ rfl b1 hok1 ?_ rfl ?_
    · rw [hp_set, b2', hp_set, b1', hp_put, hp_set, Nat.beq_refl]; rfl
    · rw [hp_set, b12, hp_set, Nat.beq_refl]; rfl
    rw [ey1]
    refine .fold D l2 [1] (t := some el) (i := 0) (sz := 2) (c := 1) (y := .mix [.lst z1 xs1, .own l2]) (xs := [.mix [.own l1, .own l2]]) (ob' := ⟨.d t2, z2, xs2⟩) ?_ rfl b2 hok2 ?_ rfl ?_
    · rw [hp_set, Nat.beq_refl]; rfl
    · rw [hp_set, b2, hp_drop, b21, hp_set, Nat.beq_refl]; rfl
    rw [ey2]
    refine .shut D (t := some el) (i := 0) (sz := 2) (y := .mix [.lst z1 xs1, .lst z2 xs2]) (z := .agg [.lst z1 [], .lst z2 []]) (y' := .agg [.lst z1 xs1, .lst z2 xs2]) (xs := [.mix [.own l1, .own l2]]) ?_ ?_ (.done ?_)
    · rw [hp_set, Nat.beq_refl]; rfl
    · simp [shutA, shutL]
    · refine cast (congrArg K ?_) hK
      unfold shp St.put
      show St.mk _ _ _ = St.mk _ _ _
      congr 1
      · funext j
        show (bif Nat.beq j d then AV.own D else fgt [l1, l2] (s'.sl j)) = (bif (bif (bif Nat.beq j d then AV.own D else s'.sl j).names l1 then AV.any else (bif Nat.beq j d then AV.own D else s'.sl j)).names l2 then AV.any else (bif (bif Nat.beq j d then AV.own D else s'.sl j).names l1 then AV.any else (bif Nat.beq j d then AV.own D else s'.sl j)))
        cases e : Nat.beq j d with
        | true => simp [AV.names, b1', b2']
        | false =>
          unfold fgt
          cases q1 : (s'.sl j).names l1 <;> cases q2 : (s'.sl j).names l2 <;> simp [q1, q2, AV.names]
      · funext j
        show (match nuAt [(D, some row), (l1, none), (l2, none)] j with | some o => o | none => kils [l1, l2] (s'.hp j)) = (bif Nat.beq j D then _ else bif Nat.beq j D then _ else bif Nat.beq j l2 then none else killO l2 (bif Nat.beq j D then _ else bif Nat.beq j l1 then none else killO l1 (bif Nat.beq j l2 then _ else bif Nat.beq j l1 then _ else bif Nat.beq j D then _ else s'.hp j)))
        simp only [nuAt]
        cases e1 : Nat.beq j D <;> cases e2 : Nat.beq j l1 <;> cases e3 : Nat.beq j l2 <;> simp [kils, hrow, ET.shutd, killO]
      · funext j
        show (match nuAt [(D, some row), (l1, none), (l2, none)] j with | some _ => none | none => s'.mp j) = (bif Nat.beq j D then none else bif Nat.beq j D then none else bif Nat.beq j l2 then none else bif Nat.beq j D then none else bif Nat.beq j l1 then none else bif Nat.beq j l2 then none else bif Nat.beq j l1 then none else bif Nat.beq j D then none else s'.mp j)
        simp only [nuAt]
        cases e1 : Nat.beq j D <;> cases e2 : Nat.beq j l1 <;> cases e3 : Nat.beq j l2 <;> simp
  · rcases cases3 l _ h with ⟨_, e⟩ | ⟨_, e⟩ | ⟨_, e⟩
    · cases e; rw [hrow]; rfl
    · cases e
    · cases e
  · simp only [List.mem_cons, List.not_mem_nil, or_false] at hl
    rcases hl with rfl | rfl
    · exact ⟨_, nu1'⟩
    · exact ⟨_, nu2'⟩
  · simp only [AV.names] at hl; rw [← Nat.eq_of_beq_eq_true hl]; exact ⟨_, nuD⟩
  · rcases cases3 l o hl with ⟨rfl, _⟩ | ⟨rfl, _⟩ | ⟨rfl, _⟩
    · exact .inl ⟨d, rfl, by rw [hD]⟩
    · exact .inr n1
    · exact .inr n2
  · rcases cases3 l o hl with ⟨rfl, _⟩ | ⟨rfl, _⟩ | ⟨rfl, _⟩
    · rw [hf] at ho; cases ho
    · rw [h1] at ho; cases ho; rfl
    · rw [h2] at ho; cases ho; rfl
end
end Go.Proofs.Ytnlobdhkpmeniaa.AM
