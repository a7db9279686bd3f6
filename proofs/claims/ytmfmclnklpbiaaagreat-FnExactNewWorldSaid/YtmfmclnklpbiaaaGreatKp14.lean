/- Texts of the machine over data, folded. -/
import Derived.Test.YtmfmclnklpbiaaaGreatKp12
import Derived.Test.YtmfmclnklpbiaaaGreatKp6
import Derived.Test.YtmfmclnklpbiaaaGreatKp9
import Derived.Test.YtmfmclnklpbiaaaGreatKp11
import Derived.Test.YtmfmclnklpbiaaaGreatKp8
import Derived.Test.YtmfmclnklpbiaaaGreatKp13
import Derived.Conc.LoneCalls
import Derived.Conc.LoneSelect
/- Rules for regions in which several operations change rows (AOps2): evidence by reckoning; what reads, calls, new lists, append. -/
namespace Go.Proofs.YtmfmclnklpbiaaaGreat.AM
open Go Go.RowKit
set_option linter.unusedVariables false
set_option linter.unusedSimpArgs false
set_option maxRecDepth 100000
/-- what every operation reads was yielded before it -/
def prodB (ops : Array Oper) : Bool :=
  (List.range ops.size).all fun j => match ops[j]? with
    | some o => (tmpsOf o).all fun t => (List.range ops.size).all fun j' => match (ops[j']?).bind (·.dst) with
      | some t' => !(Nat.beq t' t) || (!(Nat.beq j' j) && (((Region.before ops).getD j 0).testBit j' || lastOp ops j'))
      | none => true
    | none => true
theorem prodB_ok {ops : Array Oper} (h : prodB ops = true) : prodOK ops := by
  intro j o ho t ht j' o' ho' hd
  have h1 := List.all_eq_true.1 h j (List.mem_range.2 (Array.getElem?_eq_some_iff.1 ho).1)
  simp only [ho] at h1
  have h2 := List.all_eq_true.1 (List.all_eq_true.1 h1 t ht) j' (List.mem_range.2 (Array.getElem?_eq_some_iff.1 ho').1)
  simp only [ho', Option.bind_some, hd, Nat.beq_refl, Bool.not_true, Bool.false_or, Bool.and_eq_true, Bool.not_eq_true', Bool.or_eq_true] at h2
  exact ⟨fun e => by rw [e] at h2; simp at h2, h2.2⟩
mutual
/-- the labels that a datum names -/
def labs : AV → List Nat
  | .own l => [l]
  | .optr l _ _ _ => [l]
  | .mapv l => [l]
  | .tup xs => labsL xs
  | .mix xs => labsL xs
  | .fn _ xs ys => labsL xs ++ labsL ys
  | .ifc _ x => labs x
  | _ => []
def labsL : List AV → List Nat
  | [] => []
  | x :: xs => labs x ++ labsL xs
end
mutual
theorem names_labs {l : Nat} : ∀ x : AV, x.names l = true → l ∈ labs x
  | .own l', h => by simp only [AV.names] at h; simp [labs, Nat.eq_of_beq_eq_true h]
  | .optr l' _ _ _, h => by simp only [AV.names] at h; simp [labs, Nat.eq_of_beq_eq_true h]
  | .mapv l', h => by simp only [AV.names] at h; simp [labs, Nat.eq_of_beq_eq_true h]
  | .tup xs, h => by simp only [AV.names] at h; unfold labs; exact names_labsL xs h
  | .mix xs, h => by simp only [AV.names] at h; unfold labs; exact names_labsL xs h
  | .fn _ xs ys, h => by
    simp only [AV.names, Bool.or_eq_true] at h; unfold labs
    exact List.mem_append.2 (h.imp (names_labsL xs) (names_labsL ys))
  | .ifc _ x, h => by simp only [AV.names] at h; unfold labs; exact names_labs x h
  | .any, h => by simp [AV.names] at h
  | .v _, h => by simp [AV.names] at h
  | .agg _, h => by simp [AV.names] at h
  | .lst _ _, h => by simp [AV.names] at h
  | .ptr _, h => by simp [AV.names] at h
  | .rd _, h => by simp [AV.names] at h
theorem names_labsL {l : Nat} : ∀ xs : List AV, namesL l xs = true → l ∈ labsL xs
  | [], h => by simp [namesL] at h
  | x :: xs, h => by
    simp only [namesL, Bool.or_eq_true] at h; unfold labsL
    exact List.mem_append.2 (h.imp (names_labs x) (names_labsL xs))
end
theorem inNu_mem {l : Nat} : ∀ {nu : List (Nat × Option OB)}, inNu nu l → l ∈ nu.map (·.1)
  | [], ⟨o, h⟩ => by simp [nuAt] at h
  | (m, ob) :: r, ⟨o, h⟩ => by
    simp only [nuAt] at h
    cases e : Nat.beq l m with
    | true => simp [Nat.eq_of_beq_eq_true e]
    | false => rw [e] at h; exact List.mem_cons_of_mem _ (inNu_mem ⟨o, h⟩)
/-- is t not yet yielded, at k? -/
def lateB (ops : Array Oper) (k : Nat) (t : Tmp) : Bool := (List.range ops.size).any fun j' => match (ops[j']?).bind (·.dst) with
  | some t' => Nat.beq t' t && (!(Nat.blt j' k) && !(lastOp ops j'))
  | none => false
theorem lateB_ok {ops : Array Oper} {k : Nat} {t : Tmp} (h : lateB ops k t = true) (hf : freshT ops (fun j => Nat.blt j k) t) : False := by
  obtain ⟨j', hj', h3⟩ := List.any_eq_true.1 h
  cases ho' : ops[j']? with
  | none => rw [ho'] at h3; cases h3
  | some o' =>
    rw [ho'] at h3
    cases hd : o'.dst with
    | none => simp only [Option.bind_some, hd] at h3; cases h3
    | some t' =>
      simp only [Option.bind_some, hd, Bool.and_eq_true, Bool.not_eq_true'] at h3
      have : t' = t := Nat.eq_of_beq_eq_true h3.1
      subst this
      rcases hf j' o' ho' hd with h4 | h4
      · simp only at h4
        rw [h4] at h3; simp at h3
      · rw [h4] at h3; simp at h3
/-- what the evidence asks beside the operation's own -/
def evB (ops : Array Oper) (k : Nat) (s : St) (o : Oper) (ks ls : List Nat) : Bool :=
  (condB ops k s ls && (((ls.isEmpty || (List.range ops.size).all fun j => Nat.beq j k || (ordr ops j k || (match ops[j]? with
    | some o' => (tmpsOf o').all fun t => lateB ops k t || (labs (s.sl t)).all fun l0 => match s.hp l0 with | some ob => ls.all fun l => !(namesE l ob.e) | none => true
    | none => true))) && (ks.isEmpty || (List.range ops.size).all fun j => match ops[j]? with
    | some o' => (tmpsOf o').all fun t => lateB ops k t || (labs (s.sl t)).all fun l => match s.hp l with | some ob => ob.e.shut | none => true
    | none => true)) && ((!(stor o) || (List.range ops.size).all fun j => Nat.beq j k || (ordr ops j k || (match ops[j]? with
    | some o' => noKs o'
    | none => true))) && (!(noKs o) || ks.isEmpty)))) &&
  ((ks.isEmpty || (List.range ops.size).all fun j => match ops[j]? with
    | some o => (tmpsOf o).all fun t => lateB ops k t || ((ks.all fun l => !((s.sl t).names l)) || (labs (s.sl t)).all fun l => ls.contains l) &&
        (Nat.beq j k || (ordr ops j k || (labs (s.sl t)).all fun l => match s.hp l with | some ob => ob.e.shut | none => true))
    | none => true) &&
  (List.range ops.size).all fun j => Nat.beq j k || (ordr ops j k || (match (ops[j]?).bind (·.dst) with
    | some d => ls.all fun l => !(Nat.beq (l % 1000) ((d + 1) % 1000))
    | none => true)))
section
variable {P : Program} {Θ : Tab} {n : Nat} {ops : Array Oper} {k : Nat} {s : St} {o : Oper} {u : AV} {ks : List Nat} {nu : List (Nat × Option OB)}
theorem ev_of (hs : SftG P Θ o s u ks nu) (hin : ∀ l ∈ nu.map (·.1), inNu nu l) (hB : evB ops k s o ks (nu.map (·.1)) = true) : Ev P Θ ops (fun j => Nat.blt j k) k o s u ks nu := by
  simp only [evB, Bool.and_eq_true] at hB
  obtain ⟨⟨b1, ⟨bf, bc⟩, bo, bn⟩, b2, b3⟩ := hB
  have key : ∀ (j : Nat) (o' : Oper), ops[j]? = some o' → ∀ t ∈ tmpsOf o', freshT ops (fun j => Nat.blt j k) t → ks = [] ∨
      (((ks.all fun l => !((s.sl t).names l)) || (labs (s.sl t)).all fun l => (nu.map (·.1)).contains l) = true ∧ (Nat.beq j k || (ordr ops j k || (labs (s.sl t)).all fun l => match s.hp l with | some ob => ob.e.shut | none => true)) = true) := fun j o' ho t ht hf => by
    rcases (Bool.or_eq_true _ _).mp b2 with h | h
    · exact .inl (List.isEmpty_iff.1 h)
    · have h1 := List.all_eq_true.1 h j (List.mem_range.2 (Array.getElem?_eq_some_iff.1 ho).1)
      simp only [ho] at h1
      have h2 := List.all_eq_true.1 h1 t ht
      rcases (Bool.or_eq_true _ _).mp h2 with h3 | h3
      · exact (lateB_ok h3 hf).elim
      · exact .inr (by simpa [Bool.and_eq_true] using h3)
  refine ⟨hs, fun j o' ho hne hor t ht hf l hl => condB_ok b1 j o' ho hne hor t ht hf l (inNu_mem hl), fun j o' ho t ht hf => ?_, fun j o' ho hne hor t ht hf l ob hn hob => ?_, fun j o' ho hne hor d hd l hl => ?_, fun j o' ho hne hor t ht hf l0 ob l hn hob hl => ?_, ?_, fun hst j o' ho hne hor => ?_, fun hnk => ?_⟩
  · rcases key j o' ho t ht hf with rfl | ⟨h, _⟩
    · exact .inl fun l hl => by cases hl
    · rcases (Bool.or_eq_true _ _).mp h with h | h
      · exact .inl fun l hl => by simpa using List.all_eq_true.1 h l hl
      · exact .inr fun l hl => hin l (by simpa using List.all_eq_true.1 h l (names_labs _ hl))
  · rcases key j o' ho t ht hf with rfl | ⟨_, h⟩
    · exact .inl rfl
    · rw [nbne hne, hor] at h
      simp only [Bool.false_or] at h
      have := List.all_eq_true.1 h l (names_labs _ hn)
      simp only [hob] at this
      exact .inr this
  · have h1 := List.all_eq_true.1 b3 j (List.mem_range.2 (Array.getElem?_eq_some_iff.1 ho).1)
    rw [nbne hne, hor] at h1
    simp only [Bool.false_or, ho, Option.bind_some, hd] at h1
    have := List.all_eq_true.1 h1 l (inNu_mem hl)
    intro e
    rw [e] at this
    simp at this
  · have hm := inNu_mem hl
    rcases (Bool.or_eq_true _ _).mp bf with h | h
    · rw [List.isEmpty_iff.1 h] at hm; cases hm
    · have h1 := List.all_eq_true.1 h j (List.mem_range.2 (Array.getElem?_eq_some_iff.1 ho).1)
      rw [nbne hne, hor] at h1
      simp only [Bool.false_or, ho] at h1
      have h2 := List.all_eq_true.1 h1 t ht
      rcases (Bool.or_eq_true _ _).mp h2 with h3 | h3
      · exact (lateB_ok h3 hf).elim
      · have h4 := List.all_eq_true.1 h3 l0 (names_labs _ hn)
        simp only [hob] at h4
        have h5 := List.all_eq_true.1 h4 l hm
        simpa using h5
  · rcases (Bool.or_eq_true _ _).mp bc with h | h
    · exact .inl (List.isEmpty_iff.1 h)
    · refine .inr fun j o' ho t ht hf l0 ob hn hob => ?_
      have h1 := List.all_eq_true.1 h j (List.mem_range.2 (Array.getElem?_eq_some_iff.1 ho).1)
      simp only [ho] at h1
      have h2 := List.all_eq_true.1 h1 t ht
      rcases (Bool.or_eq_true _ _).mp h2 with h3 | h3
      · exact (lateB_ok h3 hf).elim
      · have h4 := List.all_eq_true.1 h3 l0 (names_labs _ hn)
        simp only [hob] at h4
        exact h4
  · rw [hst] at bo
    have h1 := List.all_eq_true.1 bo j (List.mem_range.2 (Array.getElem?_eq_some_iff.1 ho).1)
    rw [nbne hne, hor] at h1
    simpa only [Bool.false_or, ho] using h1
  · rw [hnk] at bn
    exact List.isEmpty_iff.1 bn
theorem inNu_nil {l : Nat} (h : inNu [] l) : False := by obtain ⟨o, h⟩ := h; simp [nuAt] at h
/-- what only reads -/
theorem sft_calm {v : AV} (hp : Pre P Θ o s ⟨v, none⟩) (hc : calm Θ true o = true) (hv : calm1 o = true ∨ v.within (fun _ => false) = true) : Sft P Θ o s v [] [] := by
  refine ⟨fun s' h1 h2 => ⟨⟨v, none⟩, pre_calm (two := true) hc h1 (fun _ l ⟨x, hx, hn⟩ => ?_) hp, fun K hK => .done hK⟩, fun l ob h => by simp [nuAt] at h, fun l hl => (by cases hl), fun l hl => ?_, fun l hl => (inNu_nil hl).elim, fun l ob hl => (inNu_nil hl).elim⟩
  · cases x with
    | tmp t => exact (h2 l (.inr ⟨t, mem_tmps hx, hn⟩)).1
    | _ => simp [St.ev, AV.names, namesL] at hn
  · rcases hv with hv | hv
    · exact .inr (val_calm1 hv hp l hl)
    · have := within_names v hv hl; cases this
theorem o2_nil {K : St → Prop} (h : K s) : AOps2 P Θ n ops k [] s K := Gh.done h
theorem o2_calm {r : List Oper} {K : St → Prop} {v : AV} (hp : Pre P Θ o s ⟨v, none⟩) (hin : inN n o.dst = true) (hg : o.guard = none) (hc : calm Θ true o = true) (hv : calm1 o = true ∨ v.within (fun _ => false) = true) (hB : evB ops k s o [] [] = true) (h : AOps2 P Θ n ops (k + 1) r (s.put o.dst v) K) : AOps2 P Θ n ops k (o :: r) s K :=
  ⟨hin, hg, .inl ⟨v, [], [], ev_of (sft_calm hp hc hv).g (fun l hl => by cases hl) hB, h⟩⟩
theorem o2_sft {r : List Oper} {K : St → Prop} (hs : Sft P Θ o s u ks nu) (hn : ∀ l ∈ nu.map (·.1), inNu nu l) (hin : inN n o.dst = true) (hg : o.guard = none) (hB : evB ops k s o ks (nu.map (·.1)) = true) (h : AOps2 P Θ n ops (k + 1) r ((shp ks nu s).put o.dst u) K) : AOps2 P Θ n ops k (o :: r) s K :=
  ⟨hin, hg, .inl ⟨u, ks, nu, ev_of hs.g hn hB, h⟩⟩
theorem o2_tied {r : List Oper} {K : St → Prop} {e : Eff} (hp : Pre P Θ o s e) (hin : inN n o.dst = true) (hg : o.guard = none) (ht : tied ops k = true) (h : AOps2 P Θ n ops (k + 1) r (s.app o.dst e) K) : AOps2 P Θ n ops k (o :: r) s K :=
  ⟨hin, hg, .inr ⟨ht, e, hp, .done h⟩⟩
end
end Go.Proofs.YtmfmclnklpbiaaaGreat.AM
/- Evidence of operations that change rows (AOps2): a call over data, a list without elements, append of a list that is read. -/
namespace Go.Proofs.YtmfmclnklpbiaaaGreat.AM
open Go Go.RowKit
set_option linter.unusedVariables false
set_option linter.unusedSimpArgs false
set_option maxRecDepth 100000
abbrev noLab (x : AV) : Bool := x.within (fun _ => false)
mutual
theorem dat_nolab (s s' : St) : ∀ x : AV, noLab x = true → s'.dat x = s.dat x
  | .own l, h => by simp [noLab, AV.within] at h
  | .optr l _ _ _, h => by simp [noLab, AV.within] at h
  | .mix xs, h => by unfold St.dat; rw [datL_nolab s s' xs (by simpa [noLab, AV.within] using h)]
  | .ifc t x, h => by unfold St.dat; rw [dat_nolab s s' x (by simpa [noLab, AV.within] using h)]
  | .mapv l, h => by simp [noLab, AV.within] at h
  | .tup xs, h => by simp [St.dat]
  | .fn _ xs ys, h => by simp [St.dat]
  | .any, h => by simp [St.dat]
  | .v _, h => by simp [St.dat]
  | .agg _, h => by simp [St.dat]
  | .lst _ _, h => by simp [St.dat]
  | .ptr _, h => by simp [St.dat]
  | .rd _, h => by simp [St.dat]
theorem datL_nolab (s s' : St) : ∀ xs : List AV, withinL (fun _ => false) xs = true → s'.datL xs = s.datL xs
  | [], _ => by simp [St.datL]
  | x :: xs, h => by
    simp only [withinL, Bool.and_eq_true] at h
    simp only [St.datL]; rw [dat_nolab s s' x h.1, datL_nolab s s' xs h.2]
end
mutual
theorem isData_nolab (s s' : St) : ∀ x : AV, noLab x = true → isDataA s' x = isDataA s x
  | .own l, h => by simp [noLab, AV.within] at h
  | .optr l _ _ _, h => by simp [noLab, AV.within] at h
  | .mix xs, h => by unfold isDataA; rw [isDataL_nolab s s' xs (by simpa [noLab, AV.within] using h)]
  | .ifc t x, h => by simp [isDataA]
  | .mapv l, h => by simp [noLab, AV.within] at h
  | .tup xs, h => by simp [isDataA]
  | .fn _ xs ys, h => by simp [isDataA]
  | .any, h => by simp [isDataA]
  | .v _, h => by simp [isDataA]
  | .agg _, h => by simp [isDataA]
  | .lst _ _, h => by simp [isDataA]
  | .ptr _, h => by simp [isDataA]
  | .rd _, h => by simp [isDataA]
theorem isDataL_nolab (s s' : St) : ∀ xs : List AV, withinL (fun _ => false) xs = true → isDataL s' xs = isDataL s xs
  | [], _ => by simp [isDataL]
  | x :: xs, h => by
    simp only [withinL, Bool.and_eq_true] at h
    simp only [isDataL]; rw [isData_nolab s s' x h.1, isDataL_nolab s s' xs h.2]
end
theorem argA_nolab (s s' : St) (x : AV) (h : noLab x = true) : argA s' x = argA s x := by
  cases x with
  | ifc t y => simp only [argA]; exact isData_nolab s s' y (by simpa [noLab, AV.within] using h)
  | own l => simp [noLab, AV.within] at h
  | optr l i p c => simp [noLab, AV.within] at h
  | mix xs => simp only [argA]; exact isData_nolab s s' (.mix xs) h
  | fn f xs ys => cases xs <;> cases ys <;> simp [argA]
  | _ => simp [argA, isDataA]
theorem argsA_nolab (s s' : St) : ∀ xs : List AV, (xs.all noLab) = true → argsA s' xs = argsA s xs
  | [], _ => rfl
  | x :: xs, h => by
    simp only [List.all_cons, Bool.and_eq_true] at h
    simp only [argsA]; rw [argA_nolab s s' x h.1, argsA_nolab s s' xs h.2]

def nuObs (d : Nat) : Nat → List OB → List (Nat × Option OB)
  | _, [] => []
  | k, ob :: r => (d + 1000 * k, some ob) :: nuObs d (k + 1) r
theorem nuObs_none {d : Nat} : ∀ (r : List OB) (k k' : Nat), k < k' → nuAt (nuObs d k' r) (d + 1000 * k) = none
  | [], _, _, _ => rfl
  | ob :: r, k, k', h => by
    have hne : d + 1000 * k ≠ d + 1000 * k' := by omega
    simp only [nuObs, nuAt]
    rw [nbne hne]; exact nuObs_none r k (k' + 1) (by omega)
theorem nuObs_in {d : Nat} : ∀ (r : List OB) (k l : Nat) (o : Option OB), nuAt (nuObs d k r) l = some o → ∃ j ob, l = d + 1000 * j ∧ o = some ob ∧ ob ∈ r ∧ k ≤ j ∧ r[j - k]? = some ob
  | [], _, _, _, h => by simp [nuObs, nuAt] at h
  | ob :: r, k, l, o, h => by
    simp only [nuObs, nuAt] at h
    cases e : Nat.beq l (d + 1000 * k) with
    | true =>
      rw [e] at h; simp only [cond_true, Option.some.injEq] at h
      exact ⟨k, ob, Nat.eq_of_beq_eq_true e, h.symm, by simp, Nat.le_refl _, by simp⟩
    | false =>
      rw [e] at h
      obtain ⟨j, ob', h1, h2, h3, h4, h5⟩ := nuObs_in r (k + 1) l o h
      exact ⟨j, ob', h1, h2, List.mem_cons_of_mem _ h3, by omega, by
        have : j - k = (j - (k + 1)) + 1 := by omega
        rw [this, List.getElem?_cons_succ]; exact h5⟩
theorem nuObs_free {s : St} {d : Nat} : ∀ (r : List OB) (k : Nat), freeObs s d k r → ∀ j, k ≤ j → j < k + r.length → s.hp (d + 1000 * j) = none
  | [], k, _, j, h1, h2 => by simp at h2; omega
  | ob :: r, k, h, j, h1, h2 => by
    unfold freeObs at h
    rcases Nat.eq_or_lt_of_le h1 with e | e
    · subst e; exact h.1.1
    · exact nuObs_free r (k + 1) h.2 j (by omega) (by simp at h2; omega)
theorem freeObs_loc {s s' : St} {d : Nat} : ∀ (r : List OB) (k : Nat), (∀ j, k ≤ j → j < k + r.length → s'.hp (d + 1000 * j) = s.hp (d + 1000 * j)) → freeObs s d k r → freeObs s' d k r
  | [], _, _, _ => trivial
  | ob :: r, k, hh, h => by
    unfold freeObs at h ⊢
    exact ⟨⟨(hh k (Nat.le_refl _) (by simp)).trans h.1.1, h.1.2⟩, freeObs_loc r (k + 1) (fun j h1 h2 => hh j (by omega) (by simp; omega)) h.2⟩
theorem nuObs_mem {d : Nat} : ∀ (r : List OB) (k j : Nat), k ≤ j → j < k + r.length → inNu (nuObs d k r) (d + 1000 * j)
  | [], k, j, h1, h2 => by simp at h2; omega
  | ob :: r, k, j, h1, h2 => by
    unfold inNu
    simp only [nuObs, nuAt]
    cases e : Nat.beq (d + 1000 * j) (d + 1000 * k) with
    | true => exact ⟨_, rfl⟩
    | false =>
      have hne : j ≠ k := fun h => by subst h; rw [Nat.beq_refl] at e; cases e
      exact nuObs_mem r (k + 1) j (by omega) (by simp at h2; omega)
theorem setObs_shp {d : Nat} : ∀ (r : List OB) (k : Nat) (s : St), setObs d k r s = shp [] (nuObs d k r) s
  | [], k, s => rfl
  | ob :: r, k, s => by
    show setObs d (k + 1) r (s.set (d + 1000 * k) (some ob)) = _
    rw [setObs_shp r (k + 1)]
    unfold shp St.set
    congr 1
    · funext j
      simp only [nuObs, nuAt]
      cases e : Nat.beq j (d + 1000 * k) with
      | true =>
        have := Nat.eq_of_beq_eq_true e
        subst this
        rw [nuObs_none r k (k + 1) (by omega)]; rfl
      | false => rfl
    · funext j
      simp only [nuObs, nuAt]
      cases e : Nat.beq j (d + 1000 * k) with
      | true =>
        have := Nat.eq_of_beq_eq_true e
        subst this
        rw [nuObs_none r k (k + 1) (by omega)]; rfl
      | false => rfl
section
variable {P : Program} {Θ : Tab} {s : St} {ty : TypeId} {pos : String} {after : Array Edge} {g : Option (Nat × Bool)}
/-- a call whose arguments are data -/
theorem sft_call {f : FuncId} {ags : Array Operand} {ts : Array TypeId} {t : Nat} {args : List AV} {out : Out} (hac : AC P f args out) (ha : (ags.toList.map fun x => s.dat (s.ev x)) = args) (hfl : (ownsOf s ags.toList).isEmpty = true) (hw : (ags.toList.map s.ev).all noLab = true) (hfr : freeObs s (t + 1) 0 out.obs) (hok : argsA s (ags.toList.map s.ev) = true) (hc : csOK ags.toList = true)
    (hv : (ren (t + 1) out.val).within (fun l => (nuAt (nuObs (t + 1) 0 out.obs) l).isSome) = true) :
    Sft P Θ ⟨some t, .call ⟨.value (.func f), ags, ts⟩, ty, pos, after, g⟩ s (ren (t + 1) out.val) [] (nuObs (t + 1) 0 out.obs) := by
  have hsh := free_shut out.obs 0 hfr
  refine ⟨fun s' h1 h2 => ?_, fun l ob h => ?_, fun l hl => (by cases hl), fun l hl => ?_, fun l ⟨o, hl⟩ => ?_, fun l ob ⟨o, hl⟩ ho => ?_⟩
  · have hev : ∀ x ∈ ags.toList, s'.ev x = s.ev x := fun x hx => h1 x (by simp [Op.operands, Call.operands] at hx ⊢; exact .inr hx)
    have hmap : ags.toList.map s'.ev = ags.toList.map s.ev := List.map_congr_left hev
    refine ⟨⟨ren (t + 1) out.val, setU (t + 1) out.obs⟩, p_call hac ?_ (.inl ?_) (freeObs_loc out.obs 0 (fun j h3 h4 => (h2 _ (.inl (nuObs_mem out.obs 0 j h3 h4))).1) hfr) ?_ hc, fun K hK => .done ?_⟩
    · rw [← ha]
      refine List.map_congr_left fun x hx => ?_
      rw [hev x hx]
      exact dat_nolab s s' _ (List.all_eq_true.1 hw _ (List.mem_map_of_mem hx))
    · unfold ownsOf at hfl ⊢; rw [hmap]; exact hfl
    · rw [hmap, argsA_nolab s s' _ hw]; exact hok
    · cases ho : out.obs with
      | nil => rw [ho] at hK; exact hK
      | cons ob r =>
        rw [ho] at hK
        show K ((setObs (t + 1) 0 (ob :: r) s').put (some t) (ren (t + 1) out.val))
        rw [setObs_shp]; exact hK
  · obtain ⟨j, ob', _, e, hm, _⟩ := nuObs_in out.obs 0 l _ h
    cases e; exact hsh ob hm
  · have := within_names _ hv hl
    obtain ⟨o, ho⟩ := Option.isSome_iff_exists.1 this
    exact .inl ⟨o, ho⟩
  · obtain ⟨j, ob', e, _⟩ := nuObs_in out.obs 0 l _ hl
    exact .inl ⟨t, rfl, by rw [e]; omega⟩
  · obtain ⟨j, ob', e, _, _, h4, h5⟩ := nuObs_in out.obs 0 l _ hl
    have hj := (List.getElem?_eq_some_iff.1 h5).1
    have := nuObs_free out.obs 0 hfr j h4 (by omega)
    rw [← e, ho] at this; cases this
end
end Go.Proofs.YtmfmclnklpbiaaaGreat.AM
/- Evidence of operations that change rows (AOps2): a list without elements; append of a list that is read. -/
namespace Go.Proofs.YtmfmclnklpbiaaaGreat.AM
open Go Go.RowKit
set_option linter.unusedVariables false
set_option linter.unusedSimpArgs false
set_option maxRecDepth 100000
theorem shp_set (l : Nat) (ob : OB) (s : St) : s.set l (some ob) = shp [] [(l, some ob)] s := by
  unfold shp St.set
  congr 1
  · funext j; show (bif Nat.beq j l then some ob else s.hp j) = (match (bif Nat.beq j l then some (some ob) else none) with | some o => o | none => s.hp j)
    cases Nat.beq j l <;> rfl
  · funext j; show (bif Nat.beq j l then none else s.mp j) = (match (bif Nat.beq j l then some (some ob) else none) with | some _ => none | none => s.mp j)
    cases Nat.beq j l <;> rfl
theorem shp_app (l : Nat) (ob : OB) (s : St) : (s.kill l).set l (some ob) = shp [l] [(l, some ob)] s := by
  unfold shp St.set St.kill
  congr 1
  · funext j; show (bif (s.sl j).names l then AV.any else s.sl j) = fgt [l] (s.sl j); unfold fgt; simp
  · funext j; show (bif Nat.beq j l then some ob else killO l (s.hp j)) = (match (bif Nat.beq j l then some (some ob) else none) with | some o => o | none => killO l (s.hp j))
    cases Nat.beq j l <;> rfl
  · funext j; show (bif Nat.beq j l then none else s.mp j) = (match (bif Nat.beq j l then some (some ob) else none) with | some _ => none | none => s.mp j)
    cases Nat.beq j l <;> rfl
theorem nu1 {l m : Nat} {ob : OB} {o : Option OB} (h : nuAt [(l, some ob)] m = some o) : m = l ∧ o = some ob := by
  simp only [nuAt] at h
  cases e : Nat.beq m l with
  | true => rw [e] at h; simp only [cond_true, Option.some.injEq] at h; exact ⟨Nat.eq_of_beq_eq_true e, h.symm⟩
  | false => rw [e] at h; cases h
theorem in1 (l : Nat) (ob : OB) : inNu [(l, some ob)] l := ⟨some ob, by simp [nuAt]⟩
section
variable {P : Program} {Θ : Tab} {s : St} {ty : TypeId} {pos : String} {after : Array Edge} {g : Option (Nat × Bool)}
theorem sft_bsl0 {d : Nat} {t : TypeId} {el sz b : Nat} {z : AV} (hf : s.hp (d + 1) = none) (ht : Θ.look t = .slice el sz b z) (hok : okL (d + 1) = true := by rfl) :
    Sft P Θ ⟨some d, .buildSlice t 0 #[], ty, pos, after, g⟩ s (.own (d + 1)) [] [(d + 1, some ⟨.s el, sz, []⟩)] := by
  refine ⟨fun s' h1 h2 => ⟨⟨.own (d + 1), some fun s'' => s''.set (d + 1) (some ⟨.s el, sz, []⟩)⟩, ?_, fun K hK => .done ?_⟩, fun l ob h => ?_, fun l hl => (by cases hl), fun l hl => .inl ?_, fun l ⟨o, hl⟩ => .inl ?_, fun l ob ⟨o, hl⟩ ho => ?_⟩
  · exact ⟨d, el, sz, b, z, rfl, (h2 _ (.inl (in1 _ _))).1.trans hf, hok, ht, by omega, .inl ⟨trivial, fun x hx => by simp at hx, by simp [ownsOf, ownsAL], by simp [ownsOf, ownsAL, frzT, setParts]⟩⟩
  · rw [app_some, shp_set]; exact hK
  · obtain ⟨_, e⟩ := nu1 h; cases e; rfl
  · simp only [AV.names] at hl; rw [← Nat.eq_of_beq_eq_true hl]; exact in1 _ _
  · obtain ⟨rfl, _⟩ := nu1 hl; exact ⟨d, rfl, rfl⟩
  · obtain ⟨rfl, _⟩ := nu1 hl; rw [hf] at ho; cases ho
theorem sft_appl {d : Option Tmp} {tx : Tmp} {y : Operand} {t el sz b l : Nat} {e0 : ET} {z : AV} {xs ys : List AV} (hx : s.sl tx = .own l) (hy : s.ev y = .lst sz ys) (ho : s.hp l = some ⟨e0, sz, xs⟩) (ht : Θ.look t = .slice el sz b z) (hb : (xs.length + ys.length) * b ≤ 140737488355328) (hb1 : Nat.ble 1 b = true) (he : (e0 = .s el ∨ e0 = .z el) := by first | exact .inl rfl | exact .inr rfl) (hok : okL l = true := by rfl) :
    Sft P Θ ⟨d, .call ⟨.builtin .append, #[.tmp tx, y], #[t, t]⟩, ty, pos, after, g⟩ s (.own l) [l] [(l, some ⟨.s el, sz, xs ++ ys⟩)] := by
  have hb1' := Nat.le_of_ble_eq_true hb1
  have hm : xs.length + ys.length ≤ maxLen := by
    have : (xs.length + ys.length) * 1 ≤ (xs.length + ys.length) * b := Nat.mul_le_mul_left _ hb1'
    unfold maxLen; omega
  have hmem : tx ∈ tmpsOf (⟨d, .call ⟨.builtin .append, #[.tmp tx, y], #[t, t]⟩, ty, pos, after, g⟩ : Oper) := mem_tmps (by simp [Op.operands, Call.operands])
  have hnm : namedBy s (⟨d, .call ⟨.builtin .append, #[.tmp tx, y], #[t, t]⟩, ty, pos, after, g⟩ : Oper) l := ⟨tx, hmem, by rw [hx]; simp [AV.names]⟩
  refine ⟨fun s' h1 h2 => ⟨⟨.own l, some fun s'' => (s''.kill l).set l (some ⟨.s el, sz, xs ++ ys⟩)⟩, ?_, fun K hK => .done ?_⟩, fun m ob h => ?_, fun m hl => ?_, fun m hl => .inl ?_, fun m ⟨o, hl⟩ => .inr ?_, fun m ob ⟨o, hl⟩ hob => ?_⟩
  · have e1 : s'.ev (.tmp tx) = .own l := (h1 _ (by simp [Op.operands, Call.operands])).trans hx
    have e2 : s'.ev y = .lst sz ys := (h1 _ (by simp [Op.operands, Call.operands])).trans hy
    exact ⟨.tmp tx, y, t, el, sz, b, z, l, _, ys, rfl, rfl, ht, e1, (h2 _ (.inl (in1 _ _))).1.trans ho, hok, rfl, hb, hm, .inl ⟨el, he, rfl, .inl e2, rfl⟩⟩
  · rw [app_some, shp_app]; exact hK
  · obtain ⟨_, e⟩ := nu1 h; cases e; rfl
  · rw [List.mem_singleton] at hl; subst hl; exact in1 _ _
  · simp only [AV.names] at hl; rw [← Nat.eq_of_beq_eq_true hl]; exact in1 _ _
  · obtain ⟨rfl, _⟩ := nu1 hl; exact hnm
  · obtain ⟨rfl, _⟩ := nu1 hl
    rw [ho] at hob; cases hob
    rcases he with rfl | rfl <;> rfl
end
end Go.Proofs.YtmfmclnklpbiaaaGreat.AM
/- Evidence of operations that change rows (AOps2): a list of one struct with own lists, folded; append in depth. -/
namespace Go.Proofs.YtmfmclnklpbiaaaGreat.AM
open Go Go.RowKit
set_option linter.unusedVariables false
set_option linter.unusedSimpArgs false
set_option maxRecDepth 100000
section
variable {P : Program} {Θ : Tab} {s : St} {ty : TypeId} {pos : String} {after : Array Edge} {g : Option (Nat × Bool)}
end
end Go.Proofs.YtmfmclnklpbiaaaGreat.AM
/- Evidence of operations in a region that draws (AOps2): a cell made, a cell filled with something that holds labels, such a cell read, a call that reads rows of the call's own. -/
namespace Go.Proofs.YtmfmclnklpbiaaaGreat.AM
open Go Go.RowKit
set_option linter.unusedVariables false
set_option linter.unusedSimpArgs false
set_option maxRecDepth 100000
mutual
theorem dat_loc {s s' : St} : ∀ x : AV, (∀ l, x.names l = true → s'.hp l = s.hp l) → s'.dat x = s.dat x ∧ isDataA s' x = isDataA s x
  | .own l, h => by
    have := h l (by simp [AV.names])
    simp only [St.dat, isDataA, this, and_self]
  | .optr l i p c, h => by
    have := h l (by simp [AV.names])
    simp only [St.dat, isDataA, this, and_self]
  | .mix xs, h => by
    obtain ⟨h1, h2⟩ := datL_loc xs (fun l hl => h l (by simpa [AV.names] using hl))
    simp only [St.dat, isDataA, h1, h2, and_self]
  | .ifc t x, h => by
    obtain ⟨h1, _⟩ := dat_loc x (fun l hl => h l (by simpa [AV.names] using hl))
    simp only [St.dat, isDataA, h1, and_self]
  | .rd x, _ => ⟨rfl, rfl⟩
  | .any, _ => ⟨rfl, rfl⟩
  | .v _, _ => ⟨rfl, rfl⟩
  | .agg _, _ => ⟨rfl, rfl⟩
  | .lst _ _, _ => ⟨rfl, rfl⟩
  | .ptr _, _ => ⟨rfl, rfl⟩
  | .tup _, _ => ⟨rfl, rfl⟩
  | .mapv _, _ => ⟨rfl, rfl⟩
  | .fn _ _ _, _ => ⟨rfl, rfl⟩
theorem datL_loc {s s' : St} : ∀ xs : List AV, (∀ l, namesL l xs = true → s'.hp l = s.hp l) → s'.datL xs = s.datL xs ∧ isDataL s' xs = isDataL s xs
  | [], _ => ⟨rfl, rfl⟩
  | x :: xs, h => by
    obtain ⟨h1, h2⟩ := dat_loc x (fun l hl => h l (by simp [namesL, hl]))
    obtain ⟨h3, h4⟩ := datL_loc xs (fun l hl => h l (by simp [namesL, hl]))
    simp only [St.datL, isDataL, h1, h2, h3, h4, and_self]
end
theorem kz_shut (t : Nat) (z : AV) : (kz t z).shut = true := by unfold kz; cases noLst z <;> rfl
section
variable {P : Program} {Θ : Tab} {s : St} {ty : TypeId} {pos : String} {after : Array Edge} {g : Option (Nat × Bool)}
/-- a cell is made -/
theorem sft_allo {t : TypeId} {d : Nat} (hf : s.hp (d + 1) = none) (hk : (Θ.look t).known = true) (hok : okL (d + 1) = true := by rfl) :
    Sft P Θ ⟨some d, .alloc t, ty, pos, after, g⟩ s (.optr (d + 1) 0 [] 0) [] [(d + 1, some ⟨kz t (Θ.look t).zero, (Θ.look t).size, [(Θ.look t).zero]⟩)] := by
  refine ⟨fun s' h1 h2 => ⟨⟨.optr (d + 1) 0 [] 0, some fun s => s.set (d + 1) (some ⟨kz t (Θ.look t).zero, (Θ.look t).size, [(Θ.look t).zero]⟩)⟩, p_allo ((h2 _ (.inl (in1 _ _))).1.trans hf) hk hok, fun K hK => .done ?_⟩, fun l ob h => ?_, fun l hl => (by cases hl), fun l hl => .inl ?_, fun l ⟨o, hl⟩ => .inl ?_, fun l ob ⟨o, hl⟩ ho => ?_⟩
  · rw [app_some, shp_set]; exact hK
  · obtain ⟨_, e⟩ := nu1 h; cases e; exact kz_shut _ _
  · simp only [AV.names] at hl; rw [← Nat.eq_of_beq_eq_true hl]; exact in1 _ _
  · obtain ⟨rfl, _⟩ := nu1 hl; exact ⟨d, rfl, rfl⟩
  · obtain ⟨rfl, _⟩ := nu1 hl; rw [hf] at ho; cases ho
end
section
variable {P : Program} {Θ : Tab} {s : St} {ty : TypeId} {pos : String} {after : Array Edge} {g : Option (Nat × Bool)}
end
end Go.Proofs.YtmfmclnklpbiaaaGreat.AM
/- Commits copied, on both sides (AOps2). -/
namespace Go.Proofs.YtmfmclnklpbiaaaGreat.AM
open Go Go.RowKit
set_option linter.unusedVariables false
set_option linter.unusedSimpArgs false
set_option maxRecDepth 100000
attribute [local irreducible] ACode AOps AOps2 RetG RetM Pre ACG
theorem in_nuObs {d k : Nat} {obs : List OB} : ∀ l ∈ (nuObs d k obs).map (·.1), inNu (nuObs d k obs) l := by
  have key : ∀ (obs : List OB) (k : Nat), ∀ l ∈ (nuObs d k obs).map (·.1), ∃ j, l = d + 1000 * j ∧ k ≤ j ∧ j < k + obs.length := by
    intro obs
    induction obs with
    | nil => intro k l hl; simp [nuObs] at hl
    | cons ob r ih =>
      intro k l hl
      simp only [nuObs, List.map_cons, List.mem_cons] at hl
      rcases hl with rfl | hl
      · exact ⟨k, rfl, Nat.le_refl _, by simp⟩
      · obtain ⟨j, h1, h2, h3⟩ := ih (k + 1) l hl
        exact ⟨j, h1, by omega, by simp; omega⟩
  intro l hl
  obtain ⟨j, rfl, h2, h3⟩ := key obs k l hl
  exact nuObs_mem obs k j h2 h3
theorem in_one {l : Nat} {ob : OB} : ∀ m ∈ ([(l, some ob)] : List (Nat × Option OB)).map (·.1), inNu [(l, some ob)] m := fun m hm => by
  simp at hm; subst hm; exact in1 _ _
theorem ac_copyCommit {c : Cmt} (hm : c.1.length ≤ 1048576) (hm2 : c.2.length ≤ 1048576) : AC Tryz.prog 112 [comA c] ⟨.mix [.own 0, .own 1], [⟨3, 1, c.1.map intA⟩, ⟨163, 2, c.2.map entA⟩]⟩ := by
  refine r_of Th_ok (by kernel_rfl) Tryz.func112 rfl Tryz.ntmps112 Tryz.results112 (by kernel_rfl) rfl ?_; conv => whnf
  refine .inr ⟨by kernel_rfl, prodB_ok (by kernel_rfl), ?_⟩
  refine o2_calm (p_ofld rfl rfl rfl) rfl rfl rfl (.inl rfl) (by kernel_rfl) ?_
  refine o2_calm (p_old rfl rfl rfl rfl rfl rfl rfl) rfl rfl rfl (.inr rfl) (by kernel_rfl) ?_
  refine o2_sft (sft_call (ac_cloneInt hm) rfl rfl rfl ⟨⟨rfl, rfl, rfl⟩, trivial⟩ rfl rfl rfl) in_nuObs rfl rfl (by kernel_rfl) ?_
  refine o2_calm (p_ofld rfl rfl rfl) rfl rfl rfl (.inl rfl) (by kernel_rfl) ?_
  refine o2_calm (p_old rfl rfl rfl rfl rfl rfl rfl) rfl rfl rfl (.inr rfl) (by kernel_rfl) ?_
  refine o2_sft (sft_call (ac_cloneEnt hm2) rfl rfl rfl ⟨⟨rfl, rfl, rfl⟩, trivial⟩ rfl rfl rfl) in_nuObs rfl rfl (by kernel_rfl) ?_
  refine o2_tied (p_buildm rfl ⟨⟨_, _, rfl, rfl, rfl⟩, ⟨_, _, rfl, rfl, rfl⟩, trivial⟩ rfl) rfl rfl (by kernel_rfl) ?_
  refine o2_tied (p_ostoreo rfl rfl rfl rfl rfl rfl) rfl rfl (by kernel_rfl) ?_
  refine o2_nil ?_
  conv => whnf
  exact r_cellM rfl rfl rfl rfl rfl rfl rfl rfl
theorem ac_l03Own {c : Cmt} (hm : c.1.length ≤ 1048576) (hm2 : c.2.length ≤ 1048576) : AC Tryz.prog 128 [comA c] ⟨.mix [.own 0, .own 1], [⟨3, 1, c.1.map intA⟩, ⟨163, 2, c.2.map entA⟩]⟩ := by
  refine r_of Th_ok (by kernel_rfl) Tryz.func128 rfl Tryz.ntmps128 Tryz.results128 (by kernel_rfl) rfl ?_; conv => whnf
  refine .inr ⟨by kernel_rfl, prodB_ok (by kernel_rfl), ?_⟩
  refine o2_sft (sft_bsl0 rfl rfl) in_one rfl rfl (by kernel_rfl) ?_
  refine o2_calm (p_ofld rfl rfl rfl) rfl rfl rfl (.inl rfl) (by kernel_rfl) ?_
  refine o2_calm (p_old rfl rfl rfl rfl rfl rfl rfl) rfl rfl rfl (.inr rfl) (by kernel_rfl) ?_
  refine o2_sft (sft_appl rfl rfl rfl rfl (by simp; omega) rfl) in_one rfl rfl (by kernel_rfl) ?_
  refine o2_sft (sft_bsl0 rfl rfl) in_one rfl rfl (by kernel_rfl) ?_
  refine o2_calm (p_ofld rfl rfl rfl) rfl rfl rfl (.inl rfl) (by kernel_rfl) ?_
  refine o2_calm (p_old rfl rfl rfl rfl rfl rfl rfl) rfl rfl rfl (.inr rfl) (by kernel_rfl) ?_
  refine o2_sft (sft_appl rfl rfl rfl rfl (by simp; omega) rfl) in_one rfl rfl (by kernel_rfl) ?_
  refine o2_tied (p_buildm rfl ⟨⟨_, _, rfl, rfl, rfl⟩, ⟨_, _, rfl, rfl, rfl⟩, trivial⟩ rfl) rfl rfl (by kernel_rfl) ?_
  refine o2_tied (p_ostoreo rfl rfl rfl rfl rfl rfl) rfl rfl (by kernel_rfl) ?_
  refine o2_nil ?_
  conv => whnf
  exact r_cellM rfl rfl rfl rfl rfl rfl rfl rfl
end Go.Proofs.YtmfmclnklpbiaaaGreat.AM
/- Stores copied, on both sides. -/
namespace Go.Proofs.YtmfmclnklpbiaaaGreat.AM
open Go Go.RowKit
set_option linter.unusedVariables false
set_option linter.unusedSimpArgs false
set_option maxRecDepth 100000
section
variable {P : Program} {Θ : Tab} {s : St} {ty : TypeId} {pos : String} {after : Array Edge} {g : Option (Nat × Bool)}
theorem p_bsl0 {d : Nat} {t : TypeId} {el sz b : Nat} {z : AV} (hf : s.hp (d + 1) = none) (ht : Θ.look t = .slice el sz b z) (hok : okL (d + 1) = true := by rfl) :
    Pre P Θ ⟨some d, .buildSlice t 0 #[], ty, pos, after, g⟩ s ⟨.own (d + 1), some fun s' => s'.set (d + 1) (some ⟨.s el, sz, []⟩)⟩ :=
  ⟨d, el, sz, b, z, rfl, hf, hok, ht, by omega, .inl ⟨trivial, fun x hx => by simp at hx, by simp [ownsOf, ownsAL], by simp [ownsOf, ownsAL, frzT, setParts]⟩⟩
theorem p_bslm {d : Nat} {t : TypeId} {x : Operand} {el sz b : Nat} {z y : AV} (hf : s.hp (d + 1) = none) (ht : Θ.look t = .slice el sz b z) (hx : toO (s.ev x) = some y) (hz : Nat.beq (asz y) sz = true) (hsz : Nat.ble sz 65536 = true) (hc : cOK x = true := by rfl) (hok : okL (d + 1) = true := by rfl) :
    Pre P Θ ⟨some d, .buildSlice t 1 #[(0, x)], ty, pos, after, g⟩ s ⟨.own (d + 1), some fun s' => s'.set (d + 1) (some ⟨.o (some el) 0 y, sz, [y]⟩)⟩ :=
  ⟨d, el, sz, b, z, rfl, hf, hok, ht, by rw [Nat.one_mul]; exact Nat.le_of_ble_eq_true hsz, .inr ⟨x, y, rfl, rfl, cOK_spec hc, hx, Nat.eq_of_beq_eq_true hz, rfl⟩⟩
end
attribute [local irreducible] ACode AOps AOps2 RetG RetM Pre ACG
theorem ac_copyStore {l : List Cmt} (hm : l.length ≤ 1048576) (hc : ∀ c ∈ l, c.1.length ≤ 1048576 ∧ c.2.length ≤ 1048576) : AC Tryz.prog 72 [.lst 2 (l.map comA)] ⟨.own 0, [⟨.d 123, 2, l.map comA⟩]⟩ := by
  refine r_of Th_ok (by kernel_rfl) Tryz.func72 rfl Tryz.ntmps72 Tryz.results72 (by kernel_rfl) rfl ?_; conv => whnf
  repeat (first | ((first | refine qb rfl rfl ?_ | refine qi (by assumption) rfl rfl ?_ | refine ql rfl ?_ | refine qo rfl rfl ?_ | refine qs rfl rfl ?_ | refine qn rfl rfl ?_); conv => whnf) | (refine r_gh (p_make (n := l.length) (by omega) (by omega) (by simp; rfl) (by simp; rfl) rfl rfl) rfl rfl (fun e => by cases e) (Gh.z2d 9 rfl (Gh.done ?_)); conv => whnf))
  have hrow : List.replicate l.length (AV.agg [.lst 1 [], .lst 2 []]) = (l.take 0 ++ List.replicate (l.length - 0) comZ).map comA := by simp [comA]
  refine r_loop (ι := { k : Nat // k ≤ l.length }) (fun k => ⟨[(9, .lst 2 (l.map comA)), (10, .v (.int .i64 (l.length : Int))), (3, .own 9), (11, .v (.int .i64 (k.1 : Int)))], [(9, ⟨.d 123, 2, (l.take k.1 ++ List.replicate (l.length - k.1) comZ).map comA⟩)]⟩) (fun k => l.length - k.1) ⟨0, Nat.zero_le _⟩ ⟨⟨congrArg (fun x => some (OB.mk _ _ x)) hrow, trivial⟩, .inl ⟨rfl, rfl⟩, .inl ⟨rfl, rfl⟩, .inl ⟨rfl, rfl⟩, .inl ⟨rfl, rfl⟩, trivial⟩ ?_
  rintro ⟨k, hk⟩
  dsimp only
  conv => whnf
  by_cases hlt : k < l.length
  · obtain ⟨q1, q2⟩ := hc _ (List.getElem_mem hlt)
    have hlt2 : k < (l.take k ++ List.replicate (l.length - k) comZ).length := by simp; omega
    have hset := congrArg (List.map comA) (fill_set l comZ k hlt)
    rw [List.map_set] at hset
    have hopn : openE (.d 123) ((l.take k ++ List.replicate (l.length - k) comZ).map comA) k = some (.o (some 123) k (comA (l.take k ++ List.replicate (l.length - k) comZ)[k])) := by
      simp only [openE, getA comA hlt2]
    repeat (first | ((first | refine qb rfl rfl ?_ | refine qi (by assumption) rfl rfl ?_ | refine ql rfl ?_ | refine qo rfl rfl ?_ | refine qs rfl rfl ?_ | refine qn rfl rfl ?_); conv => whnf) | (refine r_step (p_ostore rfl rfl rfl rfl rfl (by conv => lhs; whnf) rfl) rfl rfl (fun e => by first | exact .inl rfl | contradiction | exact .inr (.inl (by kernel_rfl))) ?_; conv => whnf) | (refine qc (ac_copyCommit q1 q2) rfl ?_; conv => whnf) | (refine r_put (p_oidx (by simpa using hlt2) rfl rfl rfl rfl rfl) rfl rfl ?_; conv => whnf))
    refine r_gh (p_ostoreo rfl rfl hopn rfl rfl rfl) rfl rfl (fun e => by cases e) (Gh.s2d 20 rfl noL_int (Gh.s2d 1020 rfl noL_ent (Gh.fold 9 20 [0] rfl rfl rfl rfl rfl rfl (Gh.fold 9 1020 [1] rfl rfl rfl rfl rfl rfl (Gh.shut 9 (z := .agg [.lst 1 [], .lst 2 []]) (y' := comA l[k]) rfl rfl (Gh.done ?_))))))
    conv => whnf
    repeat (((first | refine qb rfl rfl ?_ | refine qi (by assumption) rfl rfl ?_ | refine ql rfl ?_ | refine qo rfl rfl ?_ | refine qs rfl rfl ?_ | refine qn rfl rfl ?_); conv => whnf))
    exact ⟨⟨k + 1, hlt⟩, ⟨⟨congrArg (fun x => some (OB.mk _ _ x)) hset, trivial⟩, .inl ⟨rfl, rfl⟩, .inl ⟨rfl, rfl⟩, .inl ⟨rfl, rfl⟩, .inl ⟨rfl, rfl⟩, trivial⟩, by simp; omega⟩
  · have hkk : k = l.length := by omega
    subst hkk
    repeat (((first | refine qb rfl rfl ?_ | refine qi (by assumption) rfl rfl ?_ | refine ql rfl ?_ | refine qo rfl rfl ?_ | refine qs rfl rfl ?_ | refine qn rfl rfl ?_); conv => whnf))
    exact r_own1 rfl (by show some (OB.mk _ _ _) = _; rw [List.take_length, Nat.sub_self, List.replicate_zero, List.append_nil])
theorem ac_l03Copy {l : List Cmt} (hm : l.length ≤ 1048576) (hc : ∀ c ∈ l, c.1.length ≤ 1048576 ∧ c.2.length ≤ 1048576) : AC Tryz.prog 103 [.lst 2 (l.map comA)] ⟨.own 0, [⟨.d 123, 2, l.map comA⟩]⟩ := by
  refine o_of Th_ok (by kernel_rfl) Tryz.func103 rfl Tryz.ntmps103 Tryz.results103 (by kernel_rfl) rfl ?_
  repeat (first | (refine o_gh rfl rfl (p_bsl0 rfl rfl) (fun e => by cases e) (Gh.s2d 6 rfl (by simp) (Gh.done ?_))) | first | refine o_put (p_mv (by conv => lhs; whnf)) rfl rfl ?_ | refine o_put (p_as (by conv => lhs; whnf)) rfl rfl ?_ | refine o_put (p_asc rfl) rfl rfl ?_ | refine o_put (p_idx (getA _ (by assumption)) rfl rfl rfl) rfl rfl ?_ | refine o_put (p_fld rfl rfl rfl rfl rfl) rfl rfl ?_ | refine o_put (p_ld rfl rfl rfl rfl) rfl rfl ?_ | refine o_put (p_bin (by first | exact b_lt_t (by omega) | exact b_lt_f (by omega) | exact b_le_t (by omega) | exact b_le_f (by omega) | exact b_gt_t (by omega) | exact b_gt_f (by omega) | exact b_ge_t (by omega) | exact b_ge_f (by omega) | exact b_eq_t (by omega) | exact b_eq_f (by omega) | exact b_ne_t (by omega) | exact b_ne_f (by omega) | exact b_sub rfl (by omega) (by omega) | exact b_add rfl (by omega) (by omega)) rfl rfl rfl) rfl rfl ?_ | refine o_put (p_lenm rfl ⟨_, _, _, _, rfl⟩) rfl rfl ?_ | refine o_put (p_lenom rfl rfl ⟨_, _, _, _, rfl⟩) rfl rfl ?_ | refine o_put (p_len (y := .v (.string _)) rfl rfl rfl) rfl rfl ?_ | refine o_put (p_len rfl rfl ⟨_, _, _, _, rfl⟩) rfl rfl ?_ | refine o_put (p_not rfl) rfl rfl ?_ | refine o_put (p_pick (z := .v _) rfl rfl rfl rfl) rfl rfl ?_ | refine o_put (p_pick rfl rfl rfl rfl) rfl rfl ?_ | refine o_put (p_ext rfl (by conv => lhs; whnf)) rfl rfl ?_ | refine o_skip rfl rfl ?_ | refine o_nil (q_then ?_) | refine c_seq ?_ | refine c_reg ?_ | refine c_dreg (by kernel_rfl) ?_ | refine c_cond_t rfl ?_ | refine c_cond_f rfl ?_ | refine c_block ?_ | refine c_skip ?_ | refine q_then ?_ | refine q_thenr ?_ | refine q_thenx ?_ | refine q_blkn ?_ | refine q_blkr ?_ | refine q_blkx ?_ | refine q_blko rfl ?_ | refine c_exit ?_ | refine c_ret ?_ | refine q_ret ?_ | refine q_retn ?_ | refine o_put (p_ofld rfl rfl rfl) rfl rfl ?_ | refine o_put (p_old rfl rfl rfl rfl rfl rfl rfl) rfl rfl ?_ | refine o_put (p_oidx (by simpa using (by assumption)) rfl rfl rfl rfl rfl) rfl rfl ?_ | refine o_step rfl rfl (p_box (y := .agg _) rfl rfl rfl rfl) (fun e => by cases e) ?_ | refine o_step rfl rfl (p_allo rfl rfl) (fun e => by cases e) ?_)
  refine r_loop (ι := { k : Nat // k ≤ l.length }) (fun k => ⟨[(0, .lst 2 (l.map comA)), (3, .own 6), (4, .v (.int .i64 (k.1 : Int)))], [(6, ⟨.d 123, 2, (l.take k.1).map comA⟩)]⟩) (fun k => l.length - k.1) ⟨0, Nat.zero_le _⟩ (by refine ⟨?_, ?_⟩ <;> (repeat (first | trivial | exact ⟨rfl, trivial⟩ | refine ⟨rfl, ?_⟩ | refine ⟨.inl ⟨rfl, rfl⟩, ?_⟩ | refine ⟨.inr ⟨_, _, rfl, rfl, rfl, rfl, rfl⟩, ?_⟩))) ?_
  rintro ⟨k, hk⟩
  dsimp only
  conv => whnf
  by_cases hlt : k < l.length
  · obtain ⟨q1, q2⟩ := hc _ (List.getElem_mem hlt)
    have hsn : (l.take k).map comA ++ [comA l[k]] = (l.take (k + 1)).map comA := by rw [List.take_succ_eq_append_getElem hlt, List.map_append]; rfl
    repeat (first | ((first | refine qb rfl rfl ?_ | refine qi (by assumption) rfl rfl ?_ | refine ql rfl ?_ | refine qo rfl rfl ?_ | refine qs rfl rfl ?_ | refine qn rfl rfl ?_); conv => whnf) | (refine qc (ac_l03Own q1 q2) rfl ?_; conv => whnf))
    refine r_gh (p_bslm rfl rfl rfl rfl rfl) rfl rfl (fun e => by cases e) (Gh.s2d 18 rfl noL_int (Gh.s2d 1018 rfl noL_ent (Gh.fold 19 18 [0] rfl rfl rfl rfl rfl rfl (Gh.fold 19 1018 [1] rfl rfl rfl rfl rfl rfl (Gh.shut 19 (z := .agg [.lst 1 [], .lst 2 []]) (y' := comA l[k]) rfl rfl (Gh.done ?_))))))
    conv => whnf
    refine r_step (p_appd (xs := l.take k) (ys := [l[k]]) (f := comA) (by simp) (by simp; omega) rfl rfl rfl rfl rfl rfl rfl (.inr (.inl rfl))) rfl rfl (fun e => by first | exact .inl rfl | contradiction | exact .inr (.inl (by kernel_rfl))) ?_
    conv => whnf
    repeat (((first | refine qb rfl rfl ?_ | refine qi (by assumption) rfl rfl ?_ | refine ql rfl ?_ | refine qo rfl rfl ?_ | refine qs rfl rfl ?_ | refine qn rfl rfl ?_); conv => whnf))
    exact ⟨⟨k + 1, hlt⟩, ⟨⟨by show some (OB.mk _ _ _) = _; rw [List.map_append]; exact congrArg (fun x => some (OB.mk _ _ x)) hsn, trivial⟩, .inl ⟨rfl, rfl⟩, .inl ⟨rfl, rfl⟩, .inl ⟨rfl, rfl⟩, trivial⟩, by simp; omega⟩
  · have hkk : k = l.length := by omega
    subst hkk
    repeat (first | ((first | refine qb rfl rfl ?_ | refine qi (by assumption) rfl rfl ?_ | refine ql rfl ?_ | refine qo rfl rfl ?_ | refine qs rfl rfl ?_ | refine qn rfl rfl ?_); conv => whnf) | refine c_seq ?_ | refine c_reg ?_ | refine o_put (p_mv (by conv => lhs; whnf)) rfl rfl ?_ | refine o_put (p_as (by conv => lhs; whnf)) rfl rfl ?_ | refine o_nil (q_then ?_) | refine c_ret ?_)
    exact r_own1 rfl (by show some (OB.mk _ _ _) = _; rw [List.take_length])
end Go.Proofs.YtmfmclnklpbiaaaGreat.AM
/- AddCommit of the program, over data. -/
namespace Go.Proofs.YtmfmclnklpbiaaaGreat.AM
open Go Go.RowKit
set_option linter.unusedVariables false
set_option linter.unusedSimpArgs false
set_option maxRecDepth 100000
attribute [local irreducible] ACode AOps AOps2 RetG RetM Pre ACG
end Go.Proofs.YtmfmclnklpbiaaaGreat.AM
/- AddCommit of the document, over data. -/
namespace Go.Proofs.YtmfmclnklpbiaaaGreat.AM
open Go Go.RowKit
set_option linter.unusedVariables false
set_option linter.unusedSimpArgs false
set_option maxRecDepth 100000
section
variable {P : Program} {Θ : Tab} {s : St} {ty : TypeId} {pos : String} {after : Array Edge} {g : Option (Nat × Bool)}
end
attribute [local irreducible] ACode AOps AOps2 RetG RetM Pre ACG
end Go.Proofs.YtmfmclnklpbiaaaGreat.AM
namespace Go.Proofs.YtmfmclnklpbiaaaGreat.AM
open Go Go.RowKit
set_option linter.unusedVariables false
set_option linter.unusedSimpArgs false
set_option maxRecDepth 100000
theorem r_ret2b {s : St} {Θ : Tab} {r : Nat} {v : Value} {o1 o2 : OB} (h1 : s.sl r = .v v) (h2 : s.hp 0 = some o1) (h3 : s.hp 1000000 = some o2) : RetG Θ [.tmp r] [o1, o2] ⟨.v v, []⟩ .ret s := ⟨⟨h2, h3, trivial⟩, [], by simp, trivial, ⟨trivial, trivial⟩, trivial, ⟨.inl ⟨h1, rfl⟩, trivial⟩⟩
attribute [local irreducible] ACode AOps AOps2 RetG RetM Pre ACG
theorem ac_markBaseM {L : List Cmt} {R : List Rf} {k0 : Int} (hm : L.length ≤ 1048600) (ht : totC L ≤ 1048600) (hR : R.length ≤ 1048600) (h0 : 0 ≤ k0) (h1 : k0 ≤ 4194304) (h2 : 0 ≤ kA L k0) (h3 : kA L k0 ≤ 8388608) :
    ACG Tryz.prog 16 [.mix [.own 0, .own 1000000], .v (.int .i64 k0)] [⟨.d 123, 2, L.map comA⟩, ⟨105, 4, R.map refA⟩] [⟨.d 123, 2, (markedC L k0).map comA⟩, ⟨105, 4, (markedR R.length (kA L k0)).map refA⟩] ⟨.v (.int .i64 (kA L k0 + 4 * R.length)), []⟩ := by
  refine acg_of (rs := [.tmp 4]) Th_ok (by kernel_rfl) Tryz.func16 rfl Tryz.ntmps16 (by rw [Tryz.results16]) (by kernel_rfl) (by simp) rfl rfl (runC_sound _ _ _ ?_)
  conv => whnf
  repeat (first | ((first | refine qb rfl rfl ?_ | refine qi (by assumption) rfl rfl ?_ | refine ql rfl ?_ | refine qo rfl rfl ?_ | refine qs rfl rfl ?_ | refine qn rfl rfl ?_); conv => whnf) | (refine r_step (p_boxo rfl rfl rfl) rfl rfl (fun e => by first | exact .inl rfl | contradiction | exact .inr (.inl (by kernel_rfl))) ?_; conv => whnf) | (refine r_step (p_callm (ac_markCommitS (l := L) (k0 := k0) (by omega) (by omega) (by omega) (by omega)) rfl rfl rfl rfl rfl rfl rfl) rfl rfl (fun e => by first | exact .inl rfl | contradiction | exact .inr (.inl (by kernel_rfl))) ?_; conv => whnf) | (refine r_step (p_callm (ac_markRefS (l := R) (k0 := kA L k0) (by omega) (by omega) (by omega)) rfl rfl rfl rfl rfl rfl rfl) rfl rfl (fun e => by first | exact .inl rfl | contradiction | exact .inr (.inl (by kernel_rfl))) ?_; conv => whnf))
  exact r_ret2b rfl rfl rfl
theorem ac_markRefS0 {k0 : Int} : AC Tryz.prog 43 [.lst 4 [], .v (.int .i64 k0)] ⟨.v (.int .i64 k0), []⟩ := by
  refine r_of Th_ok (by kernel_rfl) Tryz.func43 rfl Tryz.ntmps43 Tryz.results43 (by kernel_rfl) rfl ?_; conv => whnf
  refine r_loop (ι := Unit) (fun _ => ⟨[(0, .lst 4 []), (1, .v (.int .i64 k0)), (5, .v (.int .i64 0))], []⟩) (fun _ => 0) () (by refine ⟨?_, ?_⟩ <;> (repeat (first | trivial | exact ⟨rfl, trivial⟩ | refine ⟨rfl, ?_⟩ | refine ⟨.inl ⟨rfl, rfl⟩, ?_⟩ | refine ⟨.inr ⟨_, _, rfl, rfl, rfl, rfl, rfl⟩, ?_⟩))) ?_
  rintro ⟨⟩
  try dsimp only
  conv => whnf
  repeat (first | (refine r_put (p_bin (b_lt_f (by simp)) rfl rfl rfl) rfl rfl ?_; conv => whnf) | ((first | refine qb rfl rfl ?_ | refine qi (by assumption) rfl rfl ?_ | refine ql rfl ?_ | refine qo rfl rfl ?_ | refine qs rfl rfl ?_ | refine qn rfl rfl ?_); conv => whnf))
  exact r_ret1 rfl trivial
theorem ac_markComS0 {k0 : Int} : AC Tryz.prog 42 [.lst 2 [], .v (.int .i64 k0)] ⟨.v (.int .i64 k0), []⟩ := by
  refine r_of Th_ok (by kernel_rfl) Tryz.func42 rfl Tryz.ntmps42 Tryz.results42 (by kernel_rfl) rfl ?_; conv => whnf
  refine r_loop (ι := Unit) (fun _ => ⟨[(0, .lst 2 []), (1, .v (.int .i64 k0)), (5, .v (.int .i64 0))], []⟩) (fun _ => 0) () (by refine ⟨?_, ?_⟩ <;> (repeat (first | trivial | exact ⟨rfl, trivial⟩ | refine ⟨rfl, ?_⟩ | refine ⟨.inl ⟨rfl, rfl⟩, ?_⟩ | refine ⟨.inr ⟨_, _, rfl, rfl, rfl, rfl, rfl⟩, ?_⟩))) ?_
  rintro ⟨⟩
  try dsimp only
  conv => whnf
  repeat (first | (refine r_put (p_bin (b_lt_f (by simp)) rfl rfl rfl) rfl rfl ?_; conv => whnf) | ((first | refine qb rfl rfl ?_ | refine qi (by assumption) rfl rfl ?_ | refine ql rfl ?_ | refine qo rfl rfl ?_ | refine qs rfl rfl ?_ | refine qn rfl rfl ?_); conv => whnf))
  exact r_ret1 rfl trivial
theorem ac_markBase0 {k0 : Int} : AC Tryz.prog 16 [basA ⟨[], []⟩, .v (.int .i64 k0)] ⟨.v (.int .i64 k0), []⟩ := by
  have h1 := ac_markComS0 (k0 := k0)
  have h2 := ac_markRefS0 (k0 := k0)
  refine r_of Th_ok (by kernel_rfl) Tryz.func16 rfl Tryz.ntmps16 Tryz.results16 (by kernel_rfl) rfl ?_; conv => whnf
  repeat (first | ((first | refine qb rfl rfl ?_ | refine qi (by assumption) rfl rfl ?_ | refine ql rfl ?_ | refine qo rfl rfl ?_ | refine qs rfl rfl ?_ | refine qn rfl rfl ?_); conv => whnf) | (refine qc (h1) rfl ?_; conv => whnf) | (refine qc (h2) rfl ?_; conv => whnf))
  exact r_ret1 rfl trivial
theorem ac_heldBase {L : List Cmt} {n : Nat} {k0 : Int} (hm : L.length ≤ 1048600) (ht : totC L ≤ 1048600) (hn : n ≤ 1048600) (h0 : 0 ≤ k0) (h1 : k0 ≤ 4194304) (h2 : 0 ≤ kA L k0) (h3 : kA L k0 ≤ 8388608) : AC Tryz.prog 49 [basA ⟨markedC L k0, markedR n (kA L k0)⟩, .v (.int .i64 k0)] ⟨.v (.int .i64 (kA L k0 + 4 * n)), []⟩ := by
  have h1 := ac_heldCommitS (l := L) (k0 := k0) (by omega) (by omega) (by omega) (by omega)
  have h2 := ac_heldRefS (n := n) (k0 := kA L k0) (by omega) (by omega) (by omega)
  refine r_of Th_ok (by kernel_rfl) Tryz.func49 rfl Tryz.ntmps49 Tryz.results49 (by kernel_rfl) rfl ?_; conv => whnf
  repeat (first | ((first | refine qb rfl rfl ?_ | refine qi (by assumption) rfl rfl ?_ | refine ql rfl ?_ | refine qo rfl rfl ?_ | refine qs rfl rfl ?_ | refine qn rfl rfl ?_); conv => whnf) | (refine qc (h1) rfl ?_; conv => whnf) | (refine qc (h2) rfl ?_; conv => whnf))
  exact r_ret1 rfl trivial
end Go.Proofs.YtmfmclnklpbiaaaGreat.AM
namespace Go.Proofs.YtmfmclnklpbiaaaGreat.AM
open Go Go.RowKit
set_option linter.unusedVariables false
set_option linter.unusedSimpArgs false
set_option maxRecDepth 100000
attribute [local irreducible] ACode AOps AOps2 RetG RetM Pre ACG
theorem ac_markEnt0 {k0 : Int} : AC Tryz.prog 86 [.lst 2 [], .v (.int .i64 k0)] ⟨.v (.int .i64 k0), []⟩ := by
  refine r_of Th_ok (by kernel_rfl) Tryz.func86 rfl Tryz.ntmps86 Tryz.results86 (by kernel_rfl) rfl ?_; conv => whnf
  refine r_loop (ι := Unit) (fun _ => ⟨[(0, .lst 2 []), (1, .v (.int .i64 k0)), (5, .v (.int .i64 0))], []⟩) (fun _ => 0) () (by refine ⟨?_, ?_⟩ <;> (repeat (first | trivial | exact ⟨rfl, trivial⟩ | refine ⟨rfl, ?_⟩ | refine ⟨.inl ⟨rfl, rfl⟩, ?_⟩ | refine ⟨.inr ⟨_, _, rfl, rfl, rfl, rfl, rfl⟩, ?_⟩))) ?_
  rintro ⟨⟩
  try dsimp only
  conv => whnf
  repeat (first | (refine r_put (p_bin (b_lt_f (by simp)) rfl rfl rfl) rfl rfl ?_; conv => whnf) | ((first | refine qb rfl rfl ?_ | refine qi (by assumption) rfl rfl ?_ | refine ql rfl ?_ | refine qo rfl rfl ?_ | refine qs rfl rfl ?_ | refine qn rfl rfl ?_); conv => whnf))
  exact r_ret1 rfl trivial
end Go.Proofs.YtmfmclnklpbiaaaGreat.AM
namespace Go.Proofs.YtmfmclnklpbiaaaGreat.AM
open Go Go.RowKit
set_option linter.unusedVariables false
set_option linter.unusedSimpArgs false
set_option maxRecDepth 100000
/-! ### marks element by element -/
section
variable {α β : Type} {st : α → Int → Int} {mk : α → Int → β} {n : α → Nat}
def kG (st : α → Int → Int) : List α → Int → Int
  | [], k => k
  | c :: cs, k => kG st cs (st c k)
def mG (st : α → Int → Int) (mk : α → Int → β) : List α → Int → List β
  | [], _ => []
  | c :: cs, k => mk c k :: mG st mk cs (st c k)
def sG (n : α → Nat) : List α → Nat
  | [] => 0
  | c :: cs => n c + sG n cs
theorem kG_app : ∀ (a b : List α) (k : Int), kG st (a ++ b) k = kG st b (kG st a k)
  | [], b, k => rfl
  | c :: a, b, k => by simp only [List.cons_append, kG]; exact kG_app a b _
theorem mG_app : ∀ (a b : List α) (k : Int), mG st mk (a ++ b) k = mG st mk a k ++ mG st mk b (kG st a k)
  | [], b, k => rfl
  | c :: a, b, k => by simp only [List.cons_append, mG, kG]; rw [mG_app a b _]
theorem mG_length : ∀ (l : List α) (k : Int), (mG st mk l k).length = l.length
  | [], _ => rfl
  | c :: l, k => by simp [mG, mG_length l _]
theorem mG_snoc {l : List α} {i : Nat} {k : Int} (h : i < l.length) : mG st mk (l.take (i + 1)) k = mG st mk (l.take i) k ++ [mk l[i] (kG st (l.take i) k)] := by
  rw [List.take_succ_eq_append_getElem h, mG_app]; rfl
theorem kG_snoc {l : List α} {i : Nat} {k : Int} (h : i < l.length) : kG st (l.take (i + 1)) k = st l[i] (kG st (l.take i) k) := by
  rw [List.take_succ_eq_append_getElem h, kG_app]; rfl
theorem mG_get {l : List α} {i : Nat} {k : Int} (h : i < l.length) : (mG st mk l k)[i]'(by rw [mG_length]; exact h) = mk l[i] (kG st (l.take i) k) := by
  have h1 : l = l.take i ++ l.drop i := (List.take_append_drop i l).symm
  have h2 : mG st mk l k = mG st mk (l.take i) k ++ mG st mk (l.drop i) (kG st (l.take i) k) := by rw [← mG_app, List.take_append_drop]
  have h3 : (mG st mk (l.take i) k).length = i := by rw [mG_length, List.length_take]; omega
  have h4 : (mG st mk l k)[i]? = some (mk l[i] (kG st (l.take i) k)) := by
    rw [h2, List.getElem?_append_right (by omega), h3, Nat.sub_self, List.drop_eq_getElem_cons h]; rfl
  obtain ⟨_, h5⟩ := List.getElem?_eq_some_iff.1 h4
  exact h5
theorem sG_at : ∀ (l : List α) (i : Nat) (h : i < l.length), sG n (l.take i) + n l[i] ≤ sG n l
  | c :: l, 0, h => by simp [sG]
  | c :: l, i + 1, h => by have := sG_at l i (by simpa using h); simp only [List.getElem_cons_succ, List.take_succ_cons, sG]; omega
theorem kG_sum (h : ∀ c k, st c k = k + n c) : ∀ (l : List α) (k : Int), kG st l k = k + sG n l
  | [], k => by simp [kG, sG]
  | c :: l, k => by rw [kG, kG_sum h l, h]; simp only [sG]; omega
theorem mG_row {A : β → AV} {B : α → AV} {l : List α} {i : Nat} {k0 : Int} (hlt : i < l.length) : (((mG st mk (l.take i) k0).map A) ++ (l.drop i).map B)[i]? = some (B l[i]) := by
  have hmt : ((mG st mk (l.take i) k0).map A).length = i := by rw [List.length_map, mG_length, List.length_take]; omega
  rw [List.getElem?_append_right (by omega), hmt, Nat.sub_self, List.getElem?_map, List.getElem?_drop]; simp [hlt]
theorem mG_set {A : β → AV} {B : α → AV} {l : List α} {i : Nat} {k0 : Int} (hlt : i < l.length) : (((mG st mk (l.take i) k0).map A) ++ (l.drop i).map B).set i (A (mk l[i] (kG st (l.take i) k0))) = (mG st mk (l.take (i + 1)) k0).map A ++ (l.drop (i + 1)).map B := by
  have hmt : ((mG st mk (l.take i) k0).map A).length = i := by rw [List.length_map, mG_length, List.length_take]; omega
  rw [List.set_append_right _ _ (by omega), hmt, Nat.sub_self, List.drop_eq_getElem_cons hlt, List.map_cons, List.set_cons_zero, mG_snoc hlt, List.map_append, List.append_assoc]; rfl
theorem mG_len {A : β → AV} {B : α → AV} {l : List α} {i : Nat} {k0 : Int} (hi : i ≤ l.length) : (((mG st mk (l.take i) k0).map A) ++ (l.drop i).map B).length = l.length := by
  simp only [List.length_append, List.length_map, mG_length, List.length_take, List.length_drop]; omega
end
/-! ### lists of wishes -/
def wssA (ws : List Wsh) : AV := .lst 5 (ws.map wshA)
theorem szGH_tot2 : ∀ {es : List Wsh} {l : Int}, 0 ≤ szG szH es l → szG szH es l ≤ l - totH es
  | [], l, h => by simp [szG, totH]
  | c :: cs, l, h => by
    unfold szG at h ⊢
    split at h
    · omega
    · rename_i hn
      rw [if_neg hn]
      have h1 := szGH_tot2 h
      have h2 := szH_tot (by omega : 0 ≤ szH c l)
      simp only [totH]; omega
theorem szHS_tot2 {cs : List Wsh} {l : Int} (h : 0 ≤ szHS cs l) : szHS cs l ≤ l - cs.length - totH cs := by
  unfold szHS at h ⊢
  split at h
  · omega
  · rename_i hn
    rw [if_neg hn]
    have := szGH_tot2 h; omega
def wsN (ws : List Wsh) : Nat := ws.length + totH ws
def szHW (l : List (List Wsh)) (k : Int) : Int := if k - l.length < 0 then -1 else szG szHS l (k - l.length)
theorem szHW_drop {es : List (List Wsh)} {k : Nat} {l : Int} (h : k < es.length) : szG szHS (es.drop k) l = if szHS es[k] l < 0 then -1 else szG szHS (es.drop (k + 1)) (szHS es[k] l) := by
  rw [List.drop_eq_getElem_cons h, szG]
theorem szGW_tot : ∀ {es : List (List Wsh)} {l : Int}, 0 ≤ szG szHS es l → szG szHS es l ≤ l - sG wsN es
  | [], l, h => by simp [szG, sG]
  | c :: cs, l, h => by
    unfold szG at h ⊢
    split at h
    · omega
    · rename_i hn
      rw [if_neg hn]
      have h1 := szGW_tot h
      have h2 := szHS_tot2 (by omega : 0 ≤ szHS c l)
      simp only [sG, wsN] at h1 ⊢; omega
theorem szHW_tot {cs : List (List Wsh)} {l : Int} (h : 0 ≤ szHW cs l) : szHW cs l ≤ l - cs.length - sG wsN cs := by
  unfold szHW at h ⊢
  split at h
  · omega
  · rename_i hn
    rw [if_neg hn]
    have := szGW_tot h; omega
theorem wsN_at {es : List (List Wsh)} {ws : List Wsh} (h : ws ∈ es) : wsN ws ≤ sG wsN es := by
  obtain ⟨j, hj, rfl⟩ := List.getElem_of_mem h
  have := sG_at (n := wsN) es j hj
  omega
theorem wsN_ed {ws : List Wsh} {c : Wsh} (h : c ∈ ws) : c.edits.length ≤ wsN ws := by
  obtain ⟨j, hj, rfl⟩ := List.getElem_of_mem h
  have := totH_at ws j hj
  unfold wsN; omega
theorem kW_st (ws : List Wsh) (k : Int) : kW ws k = k + ((4 * ws.length + 3 * totH ws : Nat) : Int) := by
  have := (kW_le ws k).2
  omega
attribute [local irreducible] ACode AOps AOps2 RetG RetM Pre ACG
set_option maxHeartbeats 2000000 in
theorem ac_markWishU {l : List Wsh} {k0 : Int} (hm : l.length ≤ 1048600) (ht : totH l ≤ 1048600) (h0 : 0 ≤ k0) (h1 : kW l k0 ≤ 8388608) : ACM Tryz.prog 44 ⟨.u, 5, l.map wshA⟩ ((markedW l k0).map wshA) [.v (.int .i64 k0)] (.int .i64 (kW l k0)) := by
  refine r_ofN Th_ok (by kernel_rfl) Tryz.func44 rfl Tryz.ntmps44 Tryz.results44 (by kernel_rfl) rfl ?_
  conv => whnf
  refine r_loop (ι := { k : Nat // k ≤ l.length }) (fun k => ⟨[(0, .own 0), (1, .v (.int .i64 (kW (l.take k.1) k0))), (5, .v (.int .i64 (k.1 : Int)))], [(0, ⟨.u, 5, (markedW (l.take k.1) k0 ++ l.drop k.1).map wshA⟩)]⟩) (fun k => l.length - k.1) ⟨0, Nat.zero_le _⟩ ⟨⟨rfl, trivial⟩, .inl ⟨rfl, rfl⟩, .inl ⟨rfl, rfl⟩, .inl ⟨rfl, rfl⟩, trivial⟩ ?_
  rintro ⟨i, hi⟩
  dsimp only
  have hmt : (markedW (l.take i) k0).length = i := by rw [markedW_length, List.length_take]; omega
  have hml : (markedW (l.take i) k0 ++ l.drop i).length = l.length := by rw [List.length_append, hmt, List.length_drop]; omega
  have hml2 : ((markedW (l.take i) k0 ++ l.drop i).map wshA).length = l.length := by rw [List.length_map]; exact hml
  conv => whnf
  by_cases hlt : i < l.length
  case neg =>
    have hkk : i = l.length := by omega
    subst hkk
    repeat (first | (refine r_put (p_leno (m := l.length) rfl rfl hml2 ⟨_, _, _, _, rfl⟩) rfl rfl ?_; conv => whnf) | ((first | refine qb rfl rfl ?_ | refine qi (by assumption) rfl rfl ?_ | refine ql rfl ?_ | refine qo rfl rfl ?_ | refine qs rfl rfl ?_ | refine qn rfl rfl ?_); conv => whnf))
    exact r_retM (by show AV.v (.int .i64 (kW (l.take l.length) k0)) = _; rw [List.take_length]) (by show some (OB.mk _ _ _) = _; rw [List.take_length, List.drop_length, List.append_nil])
  have hb := kW_le (l.take i) k0
  have hb0 := kW_le l k0
  have hb2 := totH_take l i
  have hb3 := totH_at l i hlt
  have hb4 : kW l k0 = kW (l.drop i) (kW (l.take i) k0) := by rw [← kW_app, List.take_append_drop]
  have hb5 := kW_le (l.drop i) (kW (l.take i) k0)
  have hb6 : kW (l.drop i) (kW (l.take i) k0) = kW (l.drop (i + 1)) (stepW l[i] (kW (l.take i) k0)) := by rw [List.drop_eq_getElem_cons hlt, kW]
  have hb7 := (kW_le (l.drop (i + 1)) (stepW l[i] (kW (l.take i) k0))).1
  have hb8 : stepW l[i] (kW (l.take i) k0) = kW (l.take i) k0 + 4 + 3 * (l[i]).edits.length := rfl
  have hlt' : i < (markedW (l.take i) k0 ++ l.drop i).length := by omega
  have hat : (markedW (l.take i) k0 ++ l.drop i)[i]? = some l[i] := by
    rw [List.getElem?_append_right (by omega), hmt, Nat.sub_self, List.drop_eq_getElem_cons hlt]; rfl
  have hset : ((markedW (l.take i) k0 ++ l.drop i).map wshA).set i (wshA (markW l[i] (kW (l.take i) k0))) = (markedW (l.take (i + 1)) k0 ++ l.drop (i + 1)).map wshA := by
    rw [← List.map_set, List.set_append_right _ _ (by omega), hmt, Nat.sub_self, List.drop_eq_getElem_cons hlt, List.set_cons_zero, markedW_snoc hlt, List.append_assoc]; rfl
  have hstep := kW_snoc (k := k0) hlt
  generalize hX : (markedW (l.take i) k0 ++ l.drop i).map wshA = X at *
  generalize hK : kW (l.take i) k0 = K at *
  have hK0 : 0 ≤ K := by omega
  have hK1 : K + 4 + 3 * (l[i]).edits.length ≤ 8388608 := by omega
  clear hb hb0 hb4 hb5 hb6 hb7 hb8
  have hXl : i < X.length := by omega
  have hXi : X[i]? = some (wshA l[i]) := by rw [← hX, List.getElem?_map, hat]; rfl
  have hX2 : ∀ y : AV, (X.set i y)[i]? = some y := fun y => set_at hXl
  have hopn2 : ∀ y : AV, openE .u (X.set i y) i = some (.o none i y) := fun y => by simp only [openE, hX2 y]
  have hml3 : ∀ y : AV, i < (X.set i y).length := fun y => by rw [List.length_set]; exact hXl
  have hs2 : ∀ a b : AV, (X.set i a).set i b = X.set i b := fun a b => by rw [List.set_set]
  repeat (first | (refine r_put (p_leno (m := l.length) rfl rfl hml2 ⟨_, _, _, _, rfl⟩) rfl rfl ?_; conv => whnf) | ((first | refine qb rfl rfl ?_ | refine qi (by assumption) rfl rfl ?_ | refine ql rfl ?_ | refine qo rfl rfl ?_ | refine qs rfl rfl ?_ | refine qn rfl rfl ?_); conv => whnf) | (refine qc (ac_markText (k := K + 1) (by omega) (by omega)) rfl ?_; conv => whnf) | (refine qc (ac_markText (k := K + 1 + 1) (by omega) (by omega)) rfl ?_; conv => whnf) | (refine qc (ac_markText (k := K + 1 + 1 + 1) (by omega) (by omega)) rfl ?_; conv => whnf) | (refine o_put (p_oidx (hml3 _) rfl rfl rfl rfl rfl) rfl rfl (o_put (p_ofld rfl rfl rfl) rfl rfl ?_); refine r_step (p_oldu rfl rfl (hopn2 _) rfl rfl rfl) rfl rfl (fun e => by first | exact .inl rfl | contradiction | exact .inr (.inl (by kernel_rfl))) ?_; conv => whnf) | (refine r_put (p_oidx hXl rfl rfl rfl rfl rfl) rfl rfl ?_; conv => whnf) | (refine r_put (p_oidx (hml3 _) rfl rfl rfl rfl rfl) rfl rfl ?_; conv => whnf) | (refine r_step (p_ostored hXi rfl rfl rfl rfl rfl rfl) rfl rfl (fun e => by first | exact .inl rfl | contradiction | exact .inr (.inl (by kernel_rfl))) ?_; conv => whnf) | (refine r_step (p_ostored (hX2 _) rfl rfl rfl rfl rfl rfl) rfl rfl (fun e => by first | exact .inl rfl | contradiction | exact .inr (.inl (by kernel_rfl))) ?_; simp only [hs2]; conv => whnf))
  refine r_gh (p_callm (ac_markEditU (l := (l[i]).edits) (k0 := K + 1 + 1 + 1 + 1) (by omega) (by omega) (by omega)) rfl rfl rfl rfl rfl rfl rfl) rfl rfl (fun e => by cases e) (Gh.fold 0 48 [4] rfl rfl rfl rfl rfl rfl (Gh.shut 0 (z := wshA wshZ) (y' := wshA ⟨K, markB (K + 1), markB (K + 1 + 1), markB (K + 1 + 1 + 1), markedE (l[i]).edits.length (K + 1 + 1 + 1 + 1)⟩) rfl rfl (Gh.done ?_)))
  conv => whnf
  repeat (((first | refine qb rfl rfl ?_ | refine qi (by assumption) rfl rfl ?_ | refine ql rfl ?_ | refine qo rfl rfl ?_ | refine qs rfl rfl ?_ | refine qn rfl rfl ?_); conv => whnf))
  have e4 : K + 1 + 1 + 1 + 1 = K + 4 := by omega
  have e3 : K + 1 + 1 + 1 = K + 3 := by omega
  have e2 : K + 1 + 1 = K + 2 := by omega
  have hmk : (⟨K, markB (K + 1), markB (K + 1 + 1), markB (K + 1 + 1 + 1), markedE (l[i]).edits.length (K + 1 + 1 + 1 + 1)⟩ : Wsh) = markW l[i] K := by rw [e4, e3, e2]; rfl
  refine ⟨⟨i + 1, hlt⟩, ⟨⟨?_, trivial⟩, .inl ⟨rfl, rfl⟩, .inl ⟨?_, rfl⟩, .inl ⟨rfl, rfl⟩, trivial⟩, by simp; omega⟩
  · rw [← hmk] at hset
    exact congrArg (fun x => some (OB.mk _ _ x)) (Eq.trans (by simp only [hs2]) hset)
  · show AV.v (.int .i64 (K + 1 + 1 + 1 + 1 + 3 * (l[i]).edits.length)) = _
    rw [hstep, e4]; rfl
theorem ac_szWishSS {es : List (List Wsh)} {l : Int} (hm : es.length ≤ maxLen) (hc : ∀ ws ∈ es, ws.length ≤ maxLen ∧ ∀ c ∈ ws, c.ok maxLen) (h0 : 0 ≤ l) (h1 : l ≤ 1048576) : AC Tryz.prog 5 [.lst 1 (es.map wssA), .v (.int .i64 l)] ⟨.v (.int .i64 (szHW es l)), []⟩ := by
  unfold maxLen at hm
  by_cases hn : l - es.length < 0
  · rw [szHW, if_pos hn]
    refine r_of Th_ok (by kernel_rfl) Tryz.func5 rfl Tryz.ntmps5 Tryz.results5 (by kernel_rfl) rfl ?_; conv => whnf
    repeat (((first | refine qb rfl rfl ?_ | refine qi (by assumption) rfl rfl ?_ | refine ql rfl ?_ | refine qo rfl rfl ?_ | refine qs rfl rfl ?_ | refine qn rfl rfl ?_); conv => whnf))
    exact r_ret1 rfl trivial
  · rw [szHW, if_neg hn]
    refine r_of Th_ok (by kernel_rfl) Tryz.func5 rfl Tryz.ntmps5 Tryz.results5 (by kernel_rfl) rfl ?_; conv => whnf
    repeat (((first | refine qb rfl rfl ?_ | refine qi (by assumption) rfl rfl ?_ | refine ql rfl ?_ | refine qo rfl rfl ?_ | refine qs rfl rfl ?_ | refine qn rfl rfl ?_); conv => whnf))
    refine r_loop (ι := { p : Nat × Int // p.1 ≤ es.length ∧ 0 ≤ p.2 ∧ p.2 ≤ l ∧ szG szHS (es.drop p.1) p.2 = szG szHS es (l - es.length) }) (fun p => ⟨[(0, .lst 1 (es.map wssA)), (1, .v (.int .i64 p.1.2)), (5, .v (.int .i64 (p.1.1 : Int)))], []⟩) (fun p => es.length - p.1.1) ⟨(0, l - es.length), by simp, by omega, by omega, rfl⟩ (by refine ⟨?_, ?_⟩ <;> (repeat (first | trivial | exact ⟨rfl, trivial⟩ | refine ⟨rfl, ?_⟩ | refine ⟨.inl ⟨rfl, rfl⟩, ?_⟩ | refine ⟨.inr ⟨_, _, rfl, rfl, rfl, rfl, rfl⟩, ?_⟩))) ?_
    rintro ⟨⟨k, cur⟩, hkl, hc0, hc1, hsz⟩
    simp only at hkl hc0 hc1 hsz ⊢
    conv => whnf
    by_cases hlt : k < es.length
    · have hd := szHW_drop (l := cur) hlt
      rw [hsz] at hd
      obtain ⟨q1, q2⟩ := hc _ (List.getElem_mem hlt)
      by_cases hneg : szHS es[k] cur < 0
      · rw [if_pos hneg] at hd
        rw [hd]
        repeat (first | ((first | refine qb rfl rfl ?_ | refine qi (by assumption) rfl rfl ?_ | refine ql rfl ?_ | refine qo rfl rfl ?_ | refine qs rfl rfl ?_ | refine qn rfl rfl ?_); conv => whnf) | (refine qc (ac_szWishS q1 q2 hc0 (by omega)) rfl ?_; conv => whnf))
        exact r_ret1 rfl trivial
      · rw [if_neg hneg] at hd
        have hle := szHS_tot2 (by omega : 0 ≤ szHS es[k] cur)
        repeat (first | ((first | refine qb rfl rfl ?_ | refine qi (by assumption) rfl rfl ?_ | refine ql rfl ?_ | refine qo rfl rfl ?_ | refine qs rfl rfl ?_ | refine qn rfl rfl ?_); conv => whnf) | (refine qc (ac_szWishS q1 q2 hc0 (by omega)) rfl ?_; conv => whnf))
        exact ⟨⟨(k + 1, szHS es[k] cur), by simp; omega, by omega, by omega, hd.symm⟩, by refine ⟨?_, ?_⟩ <;> (repeat (first | trivial | exact ⟨rfl, trivial⟩ | refine ⟨rfl, ?_⟩ | refine ⟨.inl ⟨rfl, rfl⟩, ?_⟩ | refine ⟨.inr ⟨_, _, rfl, rfl, rfl, rfl, rfl⟩, ?_⟩)), by simp; omega⟩
    · have hkk : k = es.length := by omega
      rw [hkk, List.drop_length] at hsz
      rw [← hsz]
      repeat (((first | refine qb rfl rfl ?_ | refine qi (by assumption) rfl rfl ?_ | refine ql rfl ?_ | refine qo rfl rfl ?_ | refine qs rfl rfl ?_ | refine qn rfl rfl ?_); conv => whnf))
      exact r_ret1 rfl trivial
theorem ac_toWishSSD {l : List (List Wsh)} (hm : l.length ≤ 1048576) (hc : ∀ ws ∈ l, wsN ws ≤ 1048576) : AC Tryz.prog 9 [.lst 1 (l.map wssA)] ⟨.own 0, [⟨.d 60, 1, l.map wssA⟩]⟩ := by
  refine r_of Th_ok (by kernel_rfl) Tryz.func9 rfl Tryz.ntmps9 Tryz.results9 (by kernel_rfl) rfl ?_; conv => whnf
  repeat (first | ((first | refine qb rfl rfl ?_ | refine qi (by assumption) rfl rfl ?_ | refine ql rfl ?_ | refine qo rfl rfl ?_ | refine qs rfl rfl ?_ | refine qn rfl rfl ?_); conv => whnf) | (refine r_gh (p_make (n := l.length) (by omega) (by omega) (by simp; rfl) (by simp; rfl) rfl rfl) rfl rfl (fun e => by cases e) (Gh.z2d 8 rfl (Gh.done ?_)); conv => whnf))
  have hrow : List.replicate l.length (AV.lst 5 []) = (l.take 0 ++ List.replicate (l.length - 0) []).map wssA := by simp [wssA]
  refine r_loop (ι := { k : Nat // k ≤ l.length }) (fun k => ⟨[(0, .lst 1 (l.map wssA)), (3, .own 8), (4, .v (.int .i64 (k.1 : Int)))], [(8, ⟨.d 60, 1, (l.take k.1 ++ List.replicate (l.length - k.1) []).map wssA⟩)]⟩) (fun k => l.length - k.1) ⟨0, Nat.zero_le _⟩ ⟨⟨congrArg (fun x => some (OB.mk _ _ x)) hrow, trivial⟩, .inl ⟨rfl, rfl⟩, .inl ⟨rfl, rfl⟩, .inl ⟨rfl, rfl⟩, trivial⟩ ?_
  rintro ⟨k, hk⟩
  dsimp only
  conv => whnf
  by_cases hlt : k < l.length
  · have q1 := hc _ (List.getElem_mem hlt)
    have hlt2 : k < (l.take k ++ List.replicate (l.length - k) []).length := by simp; omega
    have hset := congrArg (List.map wssA) (fill_set l [] k hlt)
    rw [List.map_set] at hset
    have hopn : openE (.d 60) ((l.take k ++ List.replicate (l.length - k) []).map wssA) k = some (.o (some 60) k (wssA (l.take k ++ List.replicate (l.length - k) [])[k])) := by
      simp only [openE, getA wssA hlt2]
    have t0 := ac_toWishSD (l := l[k]) (by unfold wsN at q1; omega) (fun c h => by have := wsN_ed h; omega)
    repeat (first | ((first | refine qb rfl rfl ?_ | refine qi (by assumption) rfl rfl ?_ | refine ql rfl ?_ | refine qo rfl rfl ?_ | refine qs rfl rfl ?_ | refine qn rfl rfl ?_); conv => whnf) | (refine qc (t0) rfl ?_; conv => whnf) | (refine r_put (p_oidx (by simpa using hlt2) rfl rfl rfl rfl rfl) rfl rfl ?_; conv => whnf))
    refine r_gh (p_ostoreo rfl rfl hopn rfl rfl rfl) rfl rfl (fun e => by cases e) (Gh.fold 8 21 [] rfl rfl rfl rfl rfl rfl (Gh.shut 8 (z := .lst 5 []) (y' := wssA l[k]) rfl rfl (Gh.done ?_)))
    conv => whnf
    repeat (((first | refine qb rfl rfl ?_ | refine qi (by assumption) rfl rfl ?_ | refine ql rfl ?_ | refine qo rfl rfl ?_ | refine qs rfl rfl ?_ | refine qn rfl rfl ?_); conv => whnf))
    exact ⟨⟨k + 1, hlt⟩, ⟨⟨congrArg (fun x => some (OB.mk _ _ x)) hset, trivial⟩, .inl ⟨rfl, rfl⟩, .inl ⟨rfl, rfl⟩, .inl ⟨rfl, rfl⟩, trivial⟩, by simp; omega⟩
  · have hkk : k = l.length := by omega
    subst hkk
    repeat (((first | refine qb rfl rfl ?_ | refine qi (by assumption) rfl rfl ?_ | refine ql rfl ?_ | refine qo rfl rfl ?_ | refine qs rfl rfl ?_ | refine qn rfl rfl ?_); conv => whnf))
    exact r_own1 rfl (by show some (OB.mk _ _ _) = _; rw [List.take_length, Nat.sub_self, List.replicate_zero, List.append_nil])
theorem ac_eqWishSS {l : List (List Wsh)} (hm : l.length ≤ maxLen) (hc : ∀ ws ∈ l, ws.length ≤ maxLen ∧ ∀ c ∈ ws, c.edits.length ≤ maxLen) : AC Tryz.prog 14 [.lst 1 (l.map wssA), .lst 1 (l.map wssA)] ⟨.v (.bool true), []⟩ := by
  unfold maxLen at hm
  refine r_of Th_ok (by kernel_rfl) Tryz.func14 rfl Tryz.ntmps14 Tryz.results14 (by kernel_rfl) rfl ?_; conv => whnf
  repeat (((first | refine qb rfl rfl ?_ | refine qi (by assumption) rfl rfl ?_ | refine ql rfl ?_ | refine qo rfl rfl ?_ | refine qs rfl rfl ?_ | refine qn rfl rfl ?_); conv => whnf))
  refine r_loop (ι := { k : Nat // k ≤ l.length }) (fun k => ⟨[(0, .lst 1 (l.map wssA)), (1, .lst 1 (l.map wssA)), (5, .v (.int .i64 (k.1 : Int)))], []⟩) (fun k => l.length - k.1) ⟨0, Nat.zero_le _⟩ (by refine ⟨?_, ?_⟩ <;> (repeat (first | trivial | exact ⟨rfl, trivial⟩ | refine ⟨rfl, ?_⟩ | refine ⟨.inl ⟨rfl, rfl⟩, ?_⟩ | refine ⟨.inr ⟨_, _, rfl, rfl, rfl, rfl, rfl⟩, ?_⟩))) ?_
  rintro ⟨k, hk⟩
  dsimp only
  conv => whnf
  by_cases hlt : k < l.length
  · obtain ⟨q1, q2⟩ := hc _ (List.getElem_mem hlt)
    repeat (((first | refine qb rfl rfl ?_ | refine qi (by assumption) rfl rfl ?_ | refine ql rfl ?_ | refine qo rfl rfl ?_ | refine qs rfl rfl ?_ | refine qn rfl rfl ?_); conv => whnf))
    refine .inl ⟨by kernel_rfl, ?_⟩
    conv => whnf
    repeat (first | ((first | refine qb rfl rfl ?_ | refine qi (by assumption) rfl rfl ?_ | refine ql rfl ?_ | refine qo rfl rfl ?_ | refine qs rfl rfl ?_ | refine qn rfl rfl ?_); conv => whnf) | (refine qc (ac_eqWishS q1 q2) rfl ?_; conv => whnf))
    exact ⟨⟨k + 1, hlt⟩, by refine ⟨?_, ?_⟩ <;> (repeat (first | trivial | exact ⟨rfl, trivial⟩ | refine ⟨rfl, ?_⟩ | refine ⟨.inl ⟨rfl, rfl⟩, ?_⟩ | refine ⟨.inr ⟨_, _, rfl, rfl, rfl, rfl, rfl⟩, ?_⟩)), by simp; omega⟩
  · repeat (((first | refine qb rfl rfl ?_ | refine qi (by assumption) rfl rfl ?_ | refine ql rfl ?_ | refine qo rfl rfl ?_ | refine qs rfl rfl ?_ | refine qn rfl rfl ?_); conv => whnf))
    exact r_ret1 rfl trivial
def mkN (ws : List Wsh) : Nat := 4 * ws.length + 3 * totH ws
set_option maxHeartbeats 2000000 in
theorem ac_markWishSS {l : List (List Wsh)} {k0 : Int} (hm : l.length ≤ 1048600) (hc : ∀ ws ∈ l, wsN ws ≤ 1048576) (h0 : 0 ≤ k0) (h1 : k0 + sG mkN l ≤ 8388608) : ACM Tryz.prog 17 ⟨.d 60, 1, l.map wssA⟩ ((mG kW markedW l k0).map wssA) [.v (.int .i64 k0)] (.int .i64 (kG kW l k0)) := by
  refine r_ofN Th_ok (by kernel_rfl) Tryz.func17 rfl Tryz.ntmps17 Tryz.results17 (by kernel_rfl) rfl ?_
  conv => whnf
  refine r_loop (ι := { k : Nat // k ≤ l.length }) (fun k => ⟨[(0, .own 0), (1, .v (.int .i64 (kG kW (l.take k.1) k0))), (5, .v (.int .i64 (k.1 : Int)))], [(0, ⟨.d 60, 1, (mG kW markedW (l.take k.1) k0).map wssA ++ (l.drop k.1).map wssA⟩)]⟩) (fun k => l.length - k.1) ⟨0, Nat.zero_le _⟩ ⟨⟨rfl, trivial⟩, .inl ⟨rfl, rfl⟩, .inl ⟨rfl, rfl⟩, .inl ⟨rfl, rfl⟩, trivial⟩ ?_
  rintro ⟨i, hi⟩
  dsimp only
  have hml2 := mG_len (st := kW) (mk := markedW) (A := wssA) (B := wssA) (k0 := k0) hi
  conv => whnf
  by_cases hlt : i < l.length
  case neg =>
    have hkk : i = l.length := by omega
    subst hkk
    repeat (first | (refine r_put (p_leno (m := l.length) rfl rfl hml2 ⟨_, _, _, _, rfl⟩) rfl rfl ?_; conv => whnf) | ((first | refine qb rfl rfl ?_ | refine qi (by assumption) rfl rfl ?_ | refine ql rfl ?_ | refine qo rfl rfl ?_ | refine qs rfl rfl ?_ | refine qn rfl rfl ?_); conv => whnf))
    exact r_retM (by show AV.v (.int .i64 (kG kW (l.take l.length) k0)) = _; rw [List.take_length]) (by show some (OB.mk _ _ _) = _; rw [List.take_length, List.drop_length, List.map_nil, List.append_nil])
  have hb := kG_sum (n := mkN) kW_st (l.take i) k0
  have hb3 := sG_at (n := mkN) l i hlt
  have hc1 := hc _ (List.getElem_mem hlt)
  have hset := mG_set (st := kW) (mk := markedW) (A := wssA) (B := wssA) (k0 := k0) hlt
  have hXi := mG_row (st := kW) (mk := markedW) (A := wssA) (B := wssA) (k0 := k0) hlt
  have hstep := kG_snoc (st := kW) (k := k0) hlt
  generalize (mG kW markedW (l.take i) k0).map wssA ++ (l.drop i).map wssA = X at *
  generalize hK : kG kW (l.take i) k0 = K at *
  have hK0 : 0 ≤ K := by omega
  have hK1 : kW l[i] K ≤ 8388608 := by rw [kW_st]; unfold mkN at hb3 hb h1; omega
  have hXl : i < X.length := by omega
  have hopn : openE (.d 60) X i = some (.o (some 60) i (wssA l[i])) := by simp only [openE, hXi]
  have m0 := ac_markWishU (l := l[i]) (k0 := K) (by unfold wsN at hc1; omega) (by unfold wsN at hc1; omega) hK0 hK1
  repeat (first | (refine r_put (p_leno (m := l.length) rfl rfl hml2 ⟨_, _, _, _, rfl⟩) rfl rfl ?_; conv => whnf) | ((first | refine qb rfl rfl ?_ | refine qi (by assumption) rfl rfl ?_ | refine ql rfl ?_ | refine qo rfl rfl ?_ | refine qs rfl rfl ?_ | refine qn rfl rfl ?_); conv => whnf))
  refine o_put (p_oidx hXl rfl rfl rfl rfl rfl) rfl rfl ?_
  refine r_step (p_oldu rfl rfl hopn rfl rfl rfl) rfl rfl (fun e => by first | exact .inl rfl | contradiction | exact .inr (.inl (by kernel_rfl))) ?_
  conv => whnf
  repeat (((first | refine qb rfl rfl ?_ | refine qi (by assumption) rfl rfl ?_ | refine ql rfl ?_ | refine qo rfl rfl ?_ | refine qs rfl rfl ?_ | refine qn rfl rfl ?_); conv => whnf))
  refine r_gh (p_callm m0 rfl rfl rfl rfl rfl rfl rfl) rfl rfl (fun e => by cases e) (Gh.fold 0 16 [] rfl rfl rfl rfl rfl rfl (Gh.shut 0 (z := .lst 5 []) (y' := wssA (markedW l[i] K)) rfl rfl (Gh.done ?_)))
  conv => whnf
  repeat (((first | refine qb rfl rfl ?_ | refine qi (by assumption) rfl rfl ?_ | refine ql rfl ?_ | refine qo rfl rfl ?_ | refine qs rfl rfl ?_ | refine qn rfl rfl ?_); conv => whnf))
  refine ⟨⟨i + 1, hlt⟩, ⟨⟨?_, trivial⟩, .inl ⟨rfl, rfl⟩, .inl ⟨?_, rfl⟩, .inl ⟨rfl, rfl⟩, trivial⟩, by simp; omega⟩
  · exact congrArg (fun x => some (OB.mk _ _ x)) hset
  · show AV.v (.int .i64 (kW l[i] K)) = _
    rw [hstep]
end Go.Proofs.YtmfmclnklpbiaaaGreat.AM
namespace Go.Proofs.YtmfmclnklpbiaaaGreat.AM
open Go Go.RowKit
set_option linter.unusedVariables false
set_option linter.unusedSimpArgs false
set_option maxRecDepth 100000

structure Evt where
  ver : Int
  head : Int
  lag : Bool
def evtA (e : Evt) : AV := .agg [.v (.int .i64 e.ver), .v (.int .i64 e.head), .v (.bool e.lag)]
theorem flat_evt (e : Evt) : flatA (evtA e) := by unfold evtA; simp [flatA, flatL]
theorem evt_ext {a b : Evt} : a = b ↔ a.ver = b.ver ∧ a.head = b.head ∧ a.lag = b.lag := by
  cases a; cases b; simp
instance : DecidableEq Evt := fun a b => decidable_of_iff _ evt_ext.symm
structure Wat where
  name : ByteArray
  seen : Int
  queue : List Evt
def watA (w : Wat) : AV := .agg [.v (.string w.name), .v (.int .i64 w.seen), .lst 3 (w.queue.map evtA)]
def Wat.ok (w : Wat) (N : Nat) : Prop := w.name.size ≤ N ∧ w.queue.length ≤ N
attribute [local irreducible] ACode AOps AOps2 RetG RetM Pre ACG
theorem ac_eqEvent {a b : Evt} : AC Tryz.prog 141 [evtA a, evtA b] ⟨.v (.bool (decide (a = b))), []⟩ := by
  by_cases h1 : a.ver = b.ver
  case neg =>
    rw [decide_eq_false (fun e => h1 (by rw [e]))]
    refine r_of Th_ok (by kernel_rfl) Tryz.func141 rfl Tryz.ntmps141 Tryz.results141 (by kernel_rfl) rfl ?_; conv => whnf
    repeat (((first | refine qb rfl rfl ?_ | refine qi (by assumption) rfl rfl ?_ | refine ql rfl ?_ | refine qo rfl rfl ?_ | refine qs rfl rfl ?_ | refine qn rfl rfl ?_); conv => whnf))
    exact r_ret1 rfl trivial
  by_cases h2 : a.head = b.head
  case neg =>
    rw [decide_eq_false (fun e => h2 (by rw [e]))]
    refine r_of Th_ok (by kernel_rfl) Tryz.func141 rfl Tryz.ntmps141 Tryz.results141 (by kernel_rfl) rfl ?_; conv => whnf
    repeat (((first | refine qb rfl rfl ?_ | refine qi (by assumption) rfl rfl ?_ | refine ql rfl ?_ | refine qo rfl rfl ?_ | refine qs rfl rfl ?_ | refine qn rfl rfl ?_); conv => whnf))
    exact r_ret1 rfl trivial
  have h3 : decide (a = b) = !(a.lag != b.lag) := by
    rw [show decide (a = b) = decide (a.lag = b.lag) by rw [decide_eq_decide, evt_ext]; simp [h1, h2]]
    cases a.lag <;> cases b.lag <;> rfl
  rw [h3]
  cases hb : (a.lag != b.lag) with
  | false =>
    refine r_of Th_ok (by kernel_rfl) Tryz.func141 rfl Tryz.ntmps141 Tryz.results141 (by kernel_rfl) rfl ?_; conv => whnf
    repeat (first | ((first | refine qb rfl rfl ?_ | refine qi (by assumption) rfl rfl ?_ | refine ql rfl ?_ | refine qo rfl rfl ?_ | refine qs rfl rfl ?_ | refine qn rfl rfl ?_); conv => whnf) | (refine r_put (p_bin (b_bne Tryz.underlying4) rfl rfl rfl) rfl rfl ?_; rw [hb]; conv => whnf))
    exact r_ret1 rfl trivial
  | true =>
    refine r_of Th_ok (by kernel_rfl) Tryz.func141 rfl Tryz.ntmps141 Tryz.results141 (by kernel_rfl) rfl ?_; conv => whnf
    repeat (first | ((first | refine qb rfl rfl ?_ | refine qi (by assumption) rfl rfl ?_ | refine ql rfl ?_ | refine qo rfl rfl ?_ | refine qs rfl rfl ?_ | refine qn rfl rfl ?_); conv => whnf) | (refine r_put (p_bin (b_bne Tryz.underlying4) rfl rfl rfl) rfl rfl ?_; rw [hb]; conv => whnf))
    exact r_ret1 rfl trivial
theorem ac_eqEventS {l : List Evt} (hm : l.length ≤ maxLen) : AC Tryz.prog 119 [.lst 3 (l.map evtA), .lst 3 (l.map evtA)] ⟨.v (.bool true), []⟩ := by
  unfold maxLen at hm
  refine r_of Th_ok (by kernel_rfl) Tryz.func119 rfl Tryz.ntmps119 Tryz.results119 (by kernel_rfl) rfl ?_; conv => whnf
  repeat (((first | refine qb rfl rfl ?_ | refine qi (by assumption) rfl rfl ?_ | refine ql rfl ?_ | refine qo rfl rfl ?_ | refine qs rfl rfl ?_ | refine qn rfl rfl ?_); conv => whnf))
  refine r_loop (ι := { k : Nat // k ≤ l.length }) (fun k => ⟨[(0, .lst 3 (l.map evtA)), (1, .lst 3 (l.map evtA)), (5, .v (.int .i64 (k.1 : Int)))], []⟩) (fun k => l.length - k.1) ⟨0, Nat.zero_le _⟩ (by refine ⟨?_, ?_⟩ <;> (repeat (first | trivial | exact ⟨rfl, trivial⟩ | refine ⟨rfl, ?_⟩ | refine ⟨.inl ⟨rfl, rfl⟩, ?_⟩ | refine ⟨.inr ⟨_, _, rfl, rfl, rfl, rfl, rfl⟩, ?_⟩))) ?_
  rintro ⟨k, hk⟩
  dsimp only
  conv => whnf
  by_cases hlt : k < l.length
  · have he := ac_eqEvent (a := l[k]) (b := l[k])
    rw [decide_eq_true rfl] at he
    repeat (((first | refine qb rfl rfl ?_ | refine qi (by assumption) rfl rfl ?_ | refine ql rfl ?_ | refine qo rfl rfl ?_ | refine qs rfl rfl ?_ | refine qn rfl rfl ?_); conv => whnf))
    refine .inl ⟨by kernel_rfl, ?_⟩
    conv => whnf
    repeat (first | ((first | refine qb rfl rfl ?_ | refine qi (by assumption) rfl rfl ?_ | refine ql rfl ?_ | refine qo rfl rfl ?_ | refine qs rfl rfl ?_ | refine qn rfl rfl ?_); conv => whnf) | (refine qc (he) rfl ?_; conv => whnf))
    exact ⟨⟨k + 1, hlt⟩, by refine ⟨?_, ?_⟩ <;> (repeat (first | trivial | exact ⟨rfl, trivial⟩ | refine ⟨rfl, ?_⟩ | refine ⟨.inl ⟨rfl, rfl⟩, ?_⟩ | refine ⟨.inr ⟨_, _, rfl, rfl, rfl, rfl, rfl⟩, ?_⟩)), by simp; omega⟩
  · repeat (((first | refine qb rfl rfl ?_ | refine qi (by assumption) rfl rfl ?_ | refine ql rfl ?_ | refine qo rfl rfl ?_ | refine qs rfl rfl ?_ | refine qn rfl rfl ?_); conv => whnf))
    exact r_ret1 rfl trivial
theorem ac_eqWatch {w : Wat} (hm : w.queue.length ≤ maxLen) : AC Tryz.prog 80 [watA w, watA w] ⟨.v (.bool true), []⟩ := by
  have h1 := ac_eqEventS hm
  refine r_of Th_ok (by kernel_rfl) Tryz.func80 rfl Tryz.ntmps80 Tryz.results80 (by kernel_rfl) rfl ?_; conv => whnf
  repeat (first | (refine r_put (p_bin (b_sne_f rfl) rfl rfl rfl) rfl rfl ?_; conv => whnf) | ((first | refine qb rfl rfl ?_ | refine qi (by assumption) rfl rfl ?_ | refine ql rfl ?_ | refine qo rfl rfl ?_ | refine qs rfl rfl ?_ | refine qn rfl rfl ?_); conv => whnf) | (refine qc (h1) rfl ?_; conv => whnf) | (refine r_step (p_ostore rfl rfl rfl rfl rfl (by conv => lhs; whnf) rfl) rfl rfl (fun e => by first | exact .inl rfl | contradiction | exact .inr (.inl (by kernel_rfl))) ?_; conv => whnf))
  exact r_ret1 rfl trivial
end Go.Proofs.YtmfmclnklpbiaaaGreat.AM
/- Channels as objects: what a label of one stands for; contracts of functions that are walked by the machine of one goroutine. -/
namespace Go.Proofs.YtmfmclnklpbiaaaGreat.AM
open Go Go.RowKit
set_option linter.unusedVariables false
set_option linter.unusedSimpArgs false
/-- a channel, open, of a capacity; what waits in it -/
def chanQ (cap : Nat) (es : List AV) : AbsR where
  rel w b T := (∀ g, T g ↔ g = b) ∧ ∃ s r buf, w.heap[b]? = some (.chan cap buf false s r false) ∧ buf.toList.map some = es.map conc
  frame := by
    rintro w w' b T h ⟨h1, s, r, buf, h2, h3⟩
    exact ⟨h1, s, r, buf, (h b ((h1 b).2 rfl)).trans h2, h3⟩
abbrev chanO (cap : Nat) (es : List AV) : OB := ⟨.c (chanQ cap es), 2, []⟩
section
variable {P : Program} {f : FuncId} {args : List AV} {cap : Nat} {es es' : List AV}
end
end Go.Proofs.YtmfmclnklpbiaaaGreat.AM
/- Regions that send, receive or select, over data. -/
namespace Go.Proofs.YtmfmclnklpbiaaaGreat.AM
open Go Go.RowKit Go.Conc
set_option linter.unusedVariables false
set_option linter.unusedSimpArgs false
section
variable {P : Program} {Θ : Tab} {n : Nat}
end
section
variable {P : Program} {Θ : Tab} {n : Nat} {ops : Array Oper} {K : St → Prop} {s : St} {k : Nat}
variable {W : World} {M : Hand} {S0 : Nat → Prop} {S : Nat → Prop} {B : Nat → Nat} {V : Nat → Value} {T : Nat → Nat → Prop} {tmps : Array Value} {w : World}
/-- a channel's block changes -/
theorem SimW.chan (h : SimW W M S0 s tmps w S B V T) {l cap : Nat} {es : List AV} (hl : s.hp l = some (chanO cap es)) :
    ∃ sq rq buf, w.heap[B l]? = some (.chan cap buf false sq rq false) ∧ buf.toList.map some = es.map conc ∧
      ∀ (buf' : Array Value) (s' r' : Nat) (es' : List AV), buf'.toList.map some = es'.map conc → ∃ T', SimW W M S0 (s.set l (some (chanO cap es'))) tmps (w.setChan (B l) cap buf' false s' r' false) S B V T' := by
  obtain ⟨t0, cs, ⟨_, r0⟩, r2, r3, r4, r5, r6⟩ := h.rows.ro l _ hl
  obtain ⟨hT, sq, rq, buf, hc, hq⟩ := r0
  refine ⟨sq, rq, buf, hc, hq, fun buf' s' r' es' he => ?_⟩
  have hlt := (Array.getElem?_eq_some_iff.1 hc).1
  have hTb : T l (B l) := (hT _).2 rfl
  have hoth : ∀ g, g ≠ B l → (w.setChan (B l) cap buf' false s' r' false).heap[g]? = w.heap[g]? := fun g hg => by
    simp [World.setChan, Array.getElem?_setIfInBounds_ne (Ne.symm hg)]
  have hown : ∀ g, ¬ (V l).ownBlock = some g := fun g e => by
    have := r6 g e
    subst this
    exact h.rows.nd l _ _ hl e hTb
  have hgr : Grown w (w.setChan (B l) cap buf' false s' r' false) (Blk V T l) := ⟨rfl, rfl, rfl, by simp [World.setChan], fun g _ hg => hoth g (fun e => hg (by rw [e]; exact .inr hTb))⟩
  refine ⟨_, h.inpl (ob' := chanO cap es') hl rfl hgr ?_ (fun g hg => hg)⟩
  exact ⟨t0, [], ⟨fun t' e => (by cases e), hT, s', r', buf', heap_setChan _ _ _ _ _ _ _ _ hlt, he⟩, ⟨rfl, rfl, fun g hg => by rw [(hT g).1 hg]; simp [World.setChan]; exact hlt⟩, fun x hx => (by cases hx), Nat.succ_pos 1, by
    have := owns_carry (w' := w.setChan (B l) cap buf' false s' r' false) r5 (fun g hg => absurd hg (hown g))
    exact ⟨rfl, this.2.imp id (fun ⟨g, cap1, cur, q1, q2⟩ => absurd (show (V l).ownBlock = some g by rw [q1]; rfl) (hown g))⟩, r6⟩
end
section
variable {P : Program} {Θ : Tab} {n : Nat} {ops : Array Oper} {K : St → Prop} {s : St} {k : Nat} {x y : Operand} {ty : TypeId} {pos : String} {after : Array Edge} {l cap : Nat} {es r : List AV} {u z : Value} {v : AV} {t : Nat} {elem : TypeId}
end
end Go.Proofs.YtmfmclnklpbiaaaGreat.AM
/- The program's queue of events in a channel, over data. -/
namespace Go.Proofs.YtmfmclnklpbiaaaGreat.AM
open Go Go.RowKit
set_option linter.unusedVariables false
set_option linter.unusedSimpArgs false
set_option maxRecDepth 100000
attribute [local irreducible] ACode AOps AOps2 RetG RetM Pre ACG
end Go.Proofs.YtmfmclnklpbiaaaGreat.AM
/- Whether events are valid, on both sides. -/
namespace Go.Proofs.YtmfmclnklpbiaaaGreat.AM
open Go Go.RowKit
set_option linter.unusedVariables false
set_option linter.unusedSimpArgs false
set_option maxRecDepth 100000
def evOKB (e : Evt) : Bool := decide (1 ≤ e.ver ∧ e.ver ≤ 1000000) && decide (0 ≤ e.head ∧ e.head ≤ 60)
def fB (e b : Evt) : Bool := decide (e.ver = b.ver + 1) || (e.lag && decide (b.ver < e.ver))
def evG (l : List Evt) (i : Nat) : Prop := ∃ h : i < l.length, evOKB l[i] = true ∧ ∀ m, (hm : m + 1 = i) → fB l[i] (l[m]'(by omega)) = true
open Classical in
noncomputable def evsB (l : List Evt) : Bool := decide (∀ i, i < l.length → evG l i)
attribute [local irreducible] ACode AOps AOps2 RetG RetM Pre ACG
end Go.Proofs.YtmfmclnklpbiaaaGreat.AM
/- Whether watches are valid, and equal, on both sides; the laws. -/
namespace Go.Proofs.YtmfmclnklpbiaaaGreat.AM
open Go Go.RowKit
set_option linter.unusedVariables false
set_option linter.unusedSimpArgs false
set_option maxRecDepth 100000
def lagB (l : List Evt) : Bool := (l.drop 1).any (·.lag)
noncomputable def qB (l : List Evt) (s : Int) : Bool := decide (l.length ≤ 4) && (evsB l && (decide ((l.getLast?.map (·.ver)) = some s) && !lagB l))
attribute [local irreducible] ACode AOps AOps2 RetG RetM Pre ACG
end Go.Proofs.YtmfmclnklpbiaaaGreat.AM
namespace Go.Proofs.YtmfmclnklpbiaaaGreat.AM
open Go Go.RowKit
set_option linter.unusedVariables false
set_option linter.unusedSimpArgs false
set_option maxRecDepth 100000
attribute [local irreducible] ACode AOps AOps2 RetG RetM Pre ACG
theorem wat_ext {a b : Wat} : a = b ↔ a.name = b.name ∧ a.seen = b.seen ∧ a.queue = b.queue := by cases a; cases b; simp
instance : DecidableEq Wat := fun a b => decidable_of_iff _ wat_ext.symm
end Go.Proofs.YtmfmclnklpbiaaaGreat.AM
