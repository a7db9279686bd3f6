/- Texts of the machine over data, folded. -/
import Derived.Test.YtjhimcddgkoghaaKa8
import Derived.Test.YtjhimcddgkoghaaKa5
/- Rules for regions in which several operations change rows (AOps2): evidence by reckoning; what reads, calls, new lists, append. -/
namespace Go.Proofs.Ytjhimcddgkoghaa.AM
open Go Go.RowKit
set_option linter.unusedVariables false
set_option linter.unusedSimpArgs false
set_option maxRecDepth 100000
/-- what every operation reads was yielded before it -/
def prodB (ops : Array Oper) : Bool :=
  (List.range ops.size).all fun j => match ops[j]? with
    | some o => (tmpsOf o).all fun t => (List.range ops.size).all fun j' => match (ops[j']?).bind (·.dst) with
      | some t' => !(Nat.beq t' t) || (!(Nat.beq j' j) && (((Region.before ops).getD j 0).testBit j' || lastOp ops j'))
      | none => true
    | none => true
theorem prodB_ok {ops : Array Oper} (h : prodB ops = true) : prodOK ops := by
  intro j o ho t ht j' o' ho' hd
  have h1 := List.all_eq_true.1 h j (List.mem_range.2 (Array.getElem?_eq_some_iff.1 ho).1)
  simp only [ho] at h1
  have h2 := List.all_eq_true.1 (List.all_eq_true.1 h1 t ht) j' (List.mem_range.2 (Array.getElem?_eq_some_iff.1 ho').1)
  simp only [ho', Option.bind_some, hd, Nat.beq_refl, Bool.not_true, Bool.false_or, Bool.and_eq_true, Bool.not_eq_true', Bool.or_eq_true] at h2
  exact ⟨fun e => by rw [e] at h2; simp at h2, h2.2⟩
mutual
/-- the labels that a datum names -/
def labs : AV → List Nat
  | .own l => [l]
  | .optr l _ _ _ => [l]
  | .mapv l => [l]
  | .tup xs => labsL xs
  | .mix xs => labsL xs
  | .fn _ xs ys => labsL xs ++ labsL ys
  | .ifc _ x => labs x
  | _ => []
def labsL : List AV → List Nat
  | [] => []
  | x :: xs => labs x ++ labsL xs
end
mutual
theorem names_labs {l : Nat} : ∀ x : AV, x.names l = true → l ∈ labs x
  | .own l', h => by simp only [AV.names] at h; simp [labs, Nat.eq_of_beq_eq_true h]
  | .optr l' _ _ _, h => by simp only [AV.names] at h; simp [labs, Nat.eq_of_beq_eq_true h]
  | .mapv l', h => by simp only [AV.names] at h; simp [labs, Nat.eq_of_beq_eq_true h]
  | .tup xs, h => by simp only [AV.names] at h; unfold labs; exact names_labsL xs h
  | .mix xs, h => by simp only [AV.names] at h; unfold labs; exact names_labsL xs h
  | .fn _ xs ys, h => by
    simp only [AV.names, Bool.or_eq_true] at h; unfold labs
    exact List.mem_append.2 (h.imp (names_labsL xs) (names_labsL ys))
  | .ifc _ x, h => by simp only [AV.names] at h; unfold labs; exact names_labs x h
  | .any, h => by simp [AV.names] at h
  | .v _, h => by simp [AV.names] at h
  | .agg _, h => by simp [AV.names] at h
  | .lst _ _, h => by simp [AV.names] at h
  | .ptr _, h => by simp [AV.names] at h
  | .rd _, h => by simp [AV.names] at h
theorem names_labsL {l : Nat} : ∀ xs : List AV, namesL l xs = true → l ∈ labsL xs
  | [], h => by simp [namesL] at h
  | x :: xs, h => by
    simp only [namesL, Bool.or_eq_true] at h; unfold labsL
    exact List.mem_append.2 (h.imp (names_labs x) (names_labsL xs))
end
theorem inNu_mem {l : Nat} : ∀ {nu : List (Nat × Option OB)}, inNu nu l → l ∈ nu.map (·.1)
  | [], ⟨o, h⟩ => by simp [nuAt] at h
  | (m, ob) :: r, ⟨o, h⟩ => by
    simp only [nuAt] at h
    cases e : Nat.beq l m with
    | true => simp [Nat.eq_of_beq_eq_true e]
    | false => rw [e] at h; exact List.mem_cons_of_mem _ (inNu_mem ⟨o, h⟩)
/-- is t not yet yielded, at k? -/
def lateB (ops : Array Oper) (k : Nat) (t : Tmp) : Bool := (List.range ops.size).any fun j' => match (ops[j']?).bind (·.dst) with
  | some t' => Nat.beq t' t && (!(Nat.blt j' k) && !(lastOp ops j'))
  | none => false
theorem lateB_ok {ops : Array Oper} {k : Nat} {t : Tmp} (h : lateB ops k t = true) (hf : freshT ops (fun j => Nat.blt j k) t) : False := by
  obtain ⟨j', hj', h3⟩ := List.any_eq_true.1 h
  cases ho' : ops[j']? with
  | none => rw [ho'] at h3; cases h3
  | some o' =>
    rw [ho'] at h3
    cases hd : o'.dst with
    | none => simp only [Option.bind_some, hd] at h3; cases h3
    | some t' =>
      simp only [Option.bind_some, hd, Bool.and_eq_true, Bool.not_eq_true'] at h3
      have : t' = t := Nat.eq_of_beq_eq_true h3.1
      subst this
      rcases hf j' o' ho' hd with h4 | h4
      · simp only at h4
        rw [h4] at h3; simp at h3
      · rw [h4] at h3; simp at h3
/-- what the evidence asks beside the operation's own -/
def evB (ops : Array Oper) (k : Nat) (s : St) (o : Oper) (ks ls : List Nat) : Bool :=
  (condB ops k s ls && (((ls.isEmpty || (List.range ops.size).all fun j => Nat.beq j k || (ordr ops j k || (match ops[j]? with
    | some o' => (tmpsOf o').all fun t => lateB ops k t || (labs (s.sl t)).all fun l0 => match s.hp l0 with | some ob => ls.all fun l => !(namesE l ob.e) | none => true
    | none => true))) && (ks.isEmpty || (List.range ops.size).all fun j => match ops[j]? with
    | some o' => (tmpsOf o').all fun t => lateB ops k t || (labs (s.sl t)).all fun l => match s.hp l with | some ob => ob.e.shut | none => true
    | none => true)) && ((!(stor o) || (List.range ops.size).all fun j => Nat.beq j k || (ordr ops j k || (match ops[j]? with
    | some o' => noKs o'
    | none => true))) && (!(noKs o) || ks.isEmpty)))) &&
  ((ks.isEmpty || (List.range ops.size).all fun j => match ops[j]? with
    | some o => (tmpsOf o).all fun t => lateB ops k t || ((ks.all fun l => !((s.sl t).names l)) || (labs (s.sl t)).all fun l => ls.contains l) &&
        (Nat.beq j k || (ordr ops j k || (labs (s.sl t)).all fun l => match s.hp l with | some ob => ob.e.shut | none => true))
    | none => true) &&
  (List.range ops.size).all fun j => Nat.beq j k || (ordr ops j k || (match (ops[j]?).bind (·.dst) with
    | some d => ls.all fun l => !(Nat.beq (l % 1000) ((d + 1) % 1000))
    | none => true)))
section
variable {P : Program} {Θ : Tab} {n : Nat} {ops : Array Oper} {k : Nat} {s : St} {o : Oper} {u : AV} {ks : List Nat} {nu : List (Nat × Option OB)}
theorem ev_of (hs : SftG P Θ o s u ks nu) (hin : ∀ l ∈ nu.map (·.1), inNu nu l) (hB : evB ops k s o ks (nu.map (·.1)) = true) : Ev P Θ ops (fun j => Nat.blt j k) k o s u ks nu := by
  simp only [evB, Bool.and_eq_true] at hB
  obtain ⟨⟨b1, ⟨bf, bc⟩, bo, bn⟩, b2, b3⟩ := hB
  have key : ∀ (j : Nat) (o' : Oper), ops[j]? = some o' → ∀ t ∈ tmpsOf o', freshT ops (fun j => Nat.blt j k) t → ks = [] ∨
      (((ks.all fun l => !((s.sl t).names l)) || (labs (s.sl t)).all fun l => (nu.map (·.1)).contains l) = true ∧ (Nat.beq j k || (ordr ops j k || (labs (s.sl t)).all fun l => match s.hp l with | some ob => ob.e.shut | none => true)) = true) := fun j o' ho t ht hf => by
    rcases (Bool.or_eq_true _ _).mp b2 with h | h
    · exact .inl (List.isEmpty_iff.1 h)
    · have h1 := List.all_eq_true.1 h j (List.mem_range.2 (Array.getElem?_eq_some_iff.1 ho).1)
      simp only [ho] at h1
      have h2 := List.all_eq_true.1 h1 t ht
      rcases (Bool.or_eq_true _ _).mp h2 with h3 | h3
      · exact (lateB_ok h3 hf).elim
      · exact .inr (by simpa [Bool.and_eq_true] using h3)
  refine ⟨hs, fun j o' ho hne hor t ht hf l hl => condB_ok b1 j o' ho hne hor t ht hf l (inNu_mem hl), fun j o' ho t ht hf => ?_, fun j o' ho hne hor t ht hf l ob hn hob => ?_, fun j o' ho hne hor d hd l hl => ?_, fun j o' ho hne hor t ht hf l0 ob l hn hob hl => ?_, ?_, fun hst j o' ho hne hor => ?_, fun hnk => ?_⟩
  · rcases key j o' ho t ht hf with rfl | ⟨h, _⟩
    · exact .inl fun l hl => by cases hl
    · rcases (Bool.or_eq_true _ _).mp h with h | h
      · exact .inl fun l hl => by simpa using List.all_eq_true.1 h l hl
      · exact .inr fun l hl => hin l (by simpa using List.all_eq_true.1 h l (names_labs _ hl))
  · rcases key j o' ho t ht hf with rfl | ⟨_, h⟩
    · exact .inl rfl
    · rw [nbne hne, hor] at h
      simp only [Bool.false_or] at h
      have := List.all_eq_true.1 h l (names_labs _ hn)
      simp only [hob] at this
      exact .inr this
  · have h1 := List.all_eq_true.1 b3 j (List.mem_range.2 (Array.getElem?_eq_some_iff.1 ho).1)
    rw [nbne hne, hor] at h1
    simp only [Bool.false_or, ho, Option.bind_some, hd] at h1
    have := List.all_eq_true.1 h1 l (inNu_mem hl)
    intro e
    rw [e] at this
    simp at this
  · have hm := inNu_mem hl
    rcases (Bool.or_eq_true _ _).mp bf with h | h
    · rw [List.isEmpty_iff.1 h] at hm; cases hm
    · have h1 := List.all_eq_true.1 h j (List.mem_range.2 (Array.getElem?_eq_some_iff.1 ho).1)
      rw [nbne hne, hor] at h1
      simp only [Bool.false_or, ho] at h1
      have h2 := List.all_eq_true.1 h1 t ht
      rcases (Bool.or_eq_true _ _).mp h2 with h3 | h3
      · exact (lateB_ok h3 hf).elim
      · have h4 := List.all_eq_true.1 h3 l0 (names_labs _ hn)
        simp only [hob] at h4
        have h5 := List.all_eq_true.1 h4 l hm
        simpa using h5
  · rcases (Bool.or_eq_true _ _).mp bc with h | h
    · exact .inl (List.isEmpty_iff.1 h)
    · refine .inr fun j o' ho t ht hf l0 ob hn hob => ?_
      have h1 := List.all_eq_true.1 h j (List.mem_range.2 (Array.getElem?_eq_some_iff.1 ho).1)
      simp only [ho] at h1
      have h2 := List.all_eq_true.1 h1 t ht
      rcases (Bool.or_eq_true _ _).mp h2 with h3 | h3
      · exact (lateB_ok h3 hf).elim
      · have h4 := List.all_eq_true.1 h3 l0 (names_labs _ hn)
        simp only [hob] at h4
        exact h4
  · rw [hst] at bo
    have h1 := List.all_eq_true.1 bo j (List.mem_range.2 (Array.getElem?_eq_some_iff.1 ho).1)
    rw [nbne hne, hor] at h1
    simpa only [Bool.false_or, ho] using h1
  · rw [hnk] at bn
    exact List.isEmpty_iff.1 bn
theorem inNu_nil {l : Nat} (h : inNu [] l) : False := by obtain ⟨o, h⟩ := h; simp [nuAt] at h
/-- what only reads -/
theorem sft_calm {v : AV} (hp : Pre P Θ o s ⟨v, none⟩) (hc : calm Θ true o = true) (hv : calm1 o = true ∨ v.within (fun _ => false) = true) : Sft P Θ o s v [] [] := by
  refine ⟨fun s' h1 h2 => ⟨⟨v, none⟩, pre_calm (two := true) hc h1 (fun _ l ⟨x, hx, hn⟩ => ?_) hp, fun K hK => .done hK⟩, fun l ob h => by simp [nuAt] at h, fun l hl => (by cases hl), fun l hl => ?_, fun l hl => (inNu_nil hl).elim, fun l ob hl => (inNu_nil hl).elim⟩
  · cases x with
    | tmp t => exact (h2 l (.inr ⟨t, mem_tmps hx, hn⟩)).1
    | _ => simp [St.ev, AV.names, namesL] at hn
  · rcases hv with hv | hv
    · exact .inr (val_calm1 hv hp l hl)
    · have := within_names v hv hl; cases this
theorem o2_nil {K : St → Prop} (h : K s) : AOps2 P Θ n ops k [] s K := Gh.done h
theorem o2_calm {r : List Oper} {K : St → Prop} {v : AV} (hp : Pre P Θ o s ⟨v, none⟩) (hin : inN n o.dst = true) (hg : o.guard = none) (hc : calm Θ true o = true) (hv : calm1 o = true ∨ v.within (fun _ => false) = true) (hB : evB ops k s o [] [] = true) (h : AOps2 P Θ n ops (k + 1) r (s.put o.dst v) K) : AOps2 P Θ n ops k (o :: r) s K :=
  ⟨hin, hg, .inl ⟨v, [], [], ev_of (sft_calm hp hc hv).g (fun l hl => by cases hl) hB, h⟩⟩
theorem o2_sftg {r : List Oper} {K : St → Prop} (hs : SftG P Θ o s u ks nu) (hn : ∀ l ∈ nu.map (·.1), inNu nu l) (hin : inN n o.dst = true) (hg : o.guard = none) (hB : evB ops k s o ks (nu.map (·.1)) = true) (h : AOps2 P Θ n ops (k + 1) r ((shp ks nu s).put o.dst u) K) : AOps2 P Θ n ops k (o :: r) s K :=
  ⟨hin, hg, .inl ⟨u, ks, nu, ev_of hs hn hB, h⟩⟩
theorem o2_sft {r : List Oper} {K : St → Prop} (hs : Sft P Θ o s u ks nu) (hn : ∀ l ∈ nu.map (·.1), inNu nu l) (hin : inN n o.dst = true) (hg : o.guard = none) (hB : evB ops k s o ks (nu.map (·.1)) = true) (h : AOps2 P Θ n ops (k + 1) r ((shp ks nu s).put o.dst u) K) : AOps2 P Θ n ops k (o :: r) s K :=
  ⟨hin, hg, .inl ⟨u, ks, nu, ev_of hs.g hn hB, h⟩⟩
theorem o2_tied {r : List Oper} {K : St → Prop} {e : Eff} (hp : Pre P Θ o s e) (hin : inN n o.dst = true) (hg : o.guard = none) (ht : tied ops k = true) (h : AOps2 P Θ n ops (k + 1) r (s.app o.dst e) K) : AOps2 P Θ n ops k (o :: r) s K :=
  ⟨hin, hg, .inr ⟨ht, e, hp, .done h⟩⟩
end
end Go.Proofs.Ytjhimcddgkoghaa.AM
/- Evidence of operations that change rows (AOps2): a call over data, a list without elements, append of a list that is read. -/
namespace Go.Proofs.Ytjhimcddgkoghaa.AM
open Go Go.RowKit
set_option linter.unusedVariables false
set_option linter.unusedSimpArgs false
set_option maxRecDepth 100000
abbrev noLab (x : AV) : Bool := x.within (fun _ => false)
mutual
theorem dat_nolab (s s' : St) : ∀ x : AV, noLab x = true → s'.dat x = s.dat x
  | .own l, h => by simp [noLab, AV.within] at h
  | .optr l _ _ _, h => by simp [noLab, AV.within] at h
  | .mix xs, h => by unfold St.dat; rw [datL_nolab s s' xs (by simpa [noLab, AV.within] using h)]
  | .ifc t x, h => by unfold St.dat; rw [dat_nolab s s' x (by simpa [noLab, AV.within] using h)]
  | .mapv l, h => by simp [noLab, AV.within] at h
  | .tup xs, h => by simp [St.dat]
  | .fn _ xs ys, h => by simp [St.dat]
  | .any, h => by simp [St.dat]
  | .v _, h => by simp [St.dat]
  | .agg _, h => by simp [St.dat]
  | .lst _ _, h => by simp [St.dat]
  | .ptr _, h => by simp [St.dat]
  | .rd _, h => by simp [St.dat]
theorem datL_nolab (s s' : St) : ∀ xs : List AV, withinL (fun _ => false) xs = true → s'.datL xs = s.datL xs
  | [], _ => by simp [St.datL]
  | x :: xs, h => by
    simp only [withinL, Bool.and_eq_true] at h
    simp only [St.datL]; rw [dat_nolab s s' x h.1, datL_nolab s s' xs h.2]
end
mutual
theorem isData_nolab (s s' : St) : ∀ x : AV, noLab x = true → isDataA s' x = isDataA s x
  | .own l, h => by simp [noLab, AV.within] at h
  | .optr l _ _ _, h => by simp [noLab, AV.within] at h
  | .mix xs, h => by unfold isDataA; rw [isDataL_nolab s s' xs (by simpa [noLab, AV.within] using h)]
  | .ifc t x, h => by simp [isDataA]
  | .mapv l, h => by simp [noLab, AV.within] at h
  | .tup xs, h => by simp [isDataA]
  | .fn _ xs ys, h => by simp [isDataA]
  | .any, h => by simp [isDataA]
  | .v _, h => by simp [isDataA]
  | .agg _, h => by simp [isDataA]
  | .lst _ _, h => by simp [isDataA]
  | .ptr _, h => by simp [isDataA]
  | .rd _, h => by simp [isDataA]
theorem isDataL_nolab (s s' : St) : ∀ xs : List AV, withinL (fun _ => false) xs = true → isDataL s' xs = isDataL s xs
  | [], _ => by simp [isDataL]
  | x :: xs, h => by
    simp only [withinL, Bool.and_eq_true] at h
    simp only [isDataL]; rw [isData_nolab s s' x h.1, isDataL_nolab s s' xs h.2]
end
theorem argA_nolab (s s' : St) (x : AV) (h : noLab x = true) : argA s' x = argA s x := by
  cases x with
  | ifc t y => simp only [argA]; exact isData_nolab s s' y (by simpa [noLab, AV.within] using h)
  | own l => simp [noLab, AV.within] at h
  | optr l i p c => simp [noLab, AV.within] at h
  | mix xs => simp only [argA]; exact isData_nolab s s' (.mix xs) h
  | fn f xs ys => cases xs <;> cases ys <;> simp [argA]
  | _ => simp [argA, isDataA]
theorem argsA_nolab (s s' : St) : ∀ xs : List AV, (xs.all noLab) = true → argsA s' xs = argsA s xs
  | [], _ => rfl
  | x :: xs, h => by
    simp only [List.all_cons, Bool.and_eq_true] at h
    simp only [argsA]; rw [argA_nolab s s' x h.1, argsA_nolab s s' xs h.2]

def nuObs (d : Nat) : Nat → List OB → List (Nat × Option OB)
  | _, [] => []
  | k, ob :: r => (d + 1000 * k, some ob) :: nuObs d (k + 1) r
theorem nuObs_none {d : Nat} : ∀ (r : List OB) (k k' : Nat), k < k' → nuAt (nuObs d k' r) (d + 1000 * k) = none
  | [], _, _, _ => rfl
  | ob :: r, k, k', h => by
    have hne : d + 1000 * k ≠ d + 1000 * k' := by omega
    simp only [nuObs, nuAt]
    rw [nbne hne]; exact nuObs_none r k (k' + 1) (by omega)
theorem nuObs_in {d : Nat} : ∀ (r : List OB) (k l : Nat) (o : Option OB), nuAt (nuObs d k r) l = some o → ∃ j ob, l = d + 1000 * j ∧ o = some ob ∧ ob ∈ r ∧ k ≤ j ∧ r[j - k]? = some ob
  | [], _, _, _, h => by simp [nuObs, nuAt] at h
  | ob :: r, k, l, o, h => by
    simp only [nuObs, nuAt] at h
    cases e : Nat.beq l (d + 1000 * k) with
    | true =>
      rw [e] at h; simp only [cond_true, Option.some.injEq] at h
      exact ⟨k, ob, Nat.eq_of_beq_eq_true e, h.symm, by simp, Nat.le_refl _, by simp⟩
    | false =>
      rw [e] at h
      obtain ⟨j, ob', h1, h2, h3, h4, h5⟩ := nuObs_in r (k + 1) l o h
      exact ⟨j, ob', h1, h2, List.mem_cons_of_mem _ h3, by omega, by
        have : j - k = (j - (k + 1)) + 1 := by omega
        rw [this, List.getElem?_cons_succ]; exact h5⟩
theorem nuObs_free {s : St} {d : Nat} : ∀ (r : List OB) (k : Nat), freeObs s d k r → ∀ j, k ≤ j → j < k + r.length → s.hp (d + 1000 * j) = none
  | [], k, _, j, h1, h2 => by simp at h2; omega
  | ob :: r, k, h, j, h1, h2 => by
    unfold freeObs at h
    rcases Nat.eq_or_lt_of_le h1 with e | e
    · subst e; exact h.1.1
    · exact nuObs_free r (k + 1) h.2 j (by omega) (by simp at h2; omega)
theorem freeObs_loc {s s' : St} {d : Nat} : ∀ (r : List OB) (k : Nat), (∀ j, k ≤ j → j < k + r.length → s'.hp (d + 1000 * j) = s.hp (d + 1000 * j)) → freeObs s d k r → freeObs s' d k r
  | [], _, _, _ => trivial
  | ob :: r, k, hh, h => by
    unfold freeObs at h ⊢
    exact ⟨⟨(hh k (Nat.le_refl _) (by simp)).trans h.1.1, h.1.2⟩, freeObs_loc r (k + 1) (fun j h1 h2 => hh j (by omega) (by simp; omega)) h.2⟩
theorem nuObs_mem {d : Nat} : ∀ (r : List OB) (k j : Nat), k ≤ j → j < k + r.length → inNu (nuObs d k r) (d + 1000 * j)
  | [], k, j, h1, h2 => by simp at h2; omega
  | ob :: r, k, j, h1, h2 => by
    unfold inNu
    simp only [nuObs, nuAt]
    cases e : Nat.beq (d + 1000 * j) (d + 1000 * k) with
    | true => exact ⟨_, rfl⟩
    | false =>
      have hne : j ≠ k := fun h => by subst h; rw [Nat.beq_refl] at e; cases e
      exact nuObs_mem r (k + 1) j (by omega) (by simp at h2; omega)
theorem setObs_shp {d : Nat} : ∀ (r : List OB) (k : Nat) (s : St), setObs d k r s = shp [] (nuObs d k r) s
  | [], k, s => rfl
  | ob :: r, k, s => by
    show setObs d (k + 1) r (s.set (d + 1000 * k) (some ob)) = _
    rw [setObs_shp r (k + 1)]
    unfold shp St.set
    congr 1
    · funext j
      simp only [nuObs, nuAt]
      cases e : Nat.beq j (d + 1000 * k) with
      | true =>
        have := Nat.eq_of_beq_eq_true e
        subst this
        rw [nuObs_none r k (k + 1) (by omega)]; rfl
      | false => rfl
    · funext j
      simp only [nuObs, nuAt]
      cases e : Nat.beq j (d + 1000 * k) with
      | true =>
        have := Nat.eq_of_beq_eq_true e
        subst this
        rw [nuObs_none r k (k + 1) (by omega)]; rfl
      | false => rfl
section
variable {P : Program} {Θ : Tab} {s : St} {ty : TypeId} {pos : String} {after : Array Edge} {g : Option (Nat × Bool)}
/-- a call whose arguments are data -/
theorem sft_call {f : FuncId} {ags : Array Operand} {ts : Array TypeId} {t : Nat} {args : List AV} {out : Out} (hac : AC P f args out) (ha : (ags.toList.map fun x => s.dat (s.ev x)) = args) (hfl : (ownsOf s ags.toList).isEmpty = true) (hw : (ags.toList.map s.ev).all noLab = true) (hfr : freeObs s (t + 1) 0 out.obs) (hok : argsA s (ags.toList.map s.ev) = true) (hc : csOK ags.toList = true)
    (hv : (ren (t + 1) out.val).within (fun l => (nuAt (nuObs (t + 1) 0 out.obs) l).isSome) = true) :
    Sft P Θ ⟨some t, .call ⟨.value (.func f), ags, ts⟩, ty, pos, after, g⟩ s (ren (t + 1) out.val) [] (nuObs (t + 1) 0 out.obs) := by
  have hsh := free_shut out.obs 0 hfr
  refine ⟨fun s' h1 h2 => ?_, fun l ob h => ?_, fun l hl => (by cases hl), fun l hl => ?_, fun l ⟨o, hl⟩ => ?_, fun l ob ⟨o, hl⟩ ho => ?_⟩
  · have hev : ∀ x ∈ ags.toList, s'.ev x = s.ev x := fun x hx => h1 x (by simp [Op.operands, Call.operands] at hx ⊢; exact .inr hx)
    have hmap : ags.toList.map s'.ev = ags.toList.map s.ev := List.map_congr_left hev
    refine ⟨⟨ren (t + 1) out.val, setU (t + 1) out.obs⟩, p_call hac ?_ (.inl ?_) (freeObs_loc out.obs 0 (fun j h3 h4 => (h2 _ (.inl (nuObs_mem out.obs 0 j h3 h4))).1) hfr) ?_ hc, fun K hK => .done ?_⟩
    · rw [← ha]
      refine List.map_congr_left fun x hx => ?_
      rw [hev x hx]
      exact dat_nolab s s' _ (List.all_eq_true.1 hw _ (List.mem_map_of_mem hx))
    · unfold ownsOf at hfl ⊢; rw [hmap]; exact hfl
    · rw [hmap, argsA_nolab s s' _ hw]; exact hok
    · cases ho : out.obs with
      | nil => rw [ho] at hK; exact hK
      | cons ob r =>
        rw [ho] at hK
        show K ((setObs (t + 1) 0 (ob :: r) s').put (some t) (ren (t + 1) out.val))
        rw [setObs_shp]; exact hK
  · obtain ⟨j, ob', _, e, hm, _⟩ := nuObs_in out.obs 0 l _ h
    cases e; exact hsh ob hm
  · have := within_names _ hv hl
    obtain ⟨o, ho⟩ := Option.isSome_iff_exists.1 this
    exact .inl ⟨o, ho⟩
  · obtain ⟨j, ob', e, _⟩ := nuObs_in out.obs 0 l _ hl
    exact .inl ⟨t, rfl, by rw [e]; omega⟩
  · obtain ⟨j, ob', e, _, _, h4, h5⟩ := nuObs_in out.obs 0 l _ hl
    have hj := (List.getElem?_eq_some_iff.1 h5).1
    have := nuObs_free out.obs 0 hfr j h4 (by omega)
    rw [← e, ho] at this; cases this
end
end Go.Proofs.Ytjhimcddgkoghaa.AM
/- Evidence of operations that change rows (AOps2): a list without elements; append of a list that is read. -/
namespace Go.Proofs.Ytjhimcddgkoghaa.AM
open Go Go.RowKit
set_option linter.unusedVariables false
set_option linter.unusedSimpArgs false
set_option maxRecDepth 100000
theorem shp_set (l : Nat) (ob : OB) (s : St) : s.set l (some ob) = shp [] [(l, some ob)] s := by
  unfold shp St.set
  congr 1
  · funext j; show (bif Nat.beq j l then some ob else s.hp j) = (match (bif Nat.beq j l then some (some ob) else none) with | some o => o | none => s.hp j)
    cases Nat.beq j l <;> rfl
  · funext j; show (bif Nat.beq j l then none else s.mp j) = (match (bif Nat.beq j l then some (some ob) else none) with | some _ => none | none => s.mp j)
    cases Nat.beq j l <;> rfl
theorem shp_app (l : Nat) (ob : OB) (s : St) : (s.kill l).set l (some ob) = shp [l] [(l, some ob)] s := by
  unfold shp St.set St.kill
  congr 1
  · funext j; show (bif (s.sl j).names l then AV.any else s.sl j) = fgt [l] (s.sl j); unfold fgt; simp
  · funext j; show (bif Nat.beq j l then some ob else killO l (s.hp j)) = (match (bif Nat.beq j l then some (some ob) else none) with | some o => o | none => killO l (s.hp j))
    cases Nat.beq j l <;> rfl
  · funext j; show (bif Nat.beq j l then none else s.mp j) = (match (bif Nat.beq j l then some (some ob) else none) with | some _ => none | none => s.mp j)
    cases Nat.beq j l <;> rfl
theorem nu1 {l m : Nat} {ob : OB} {o : Option OB} (h : nuAt [(l, some ob)] m = some o) : m = l ∧ o = some ob := by
  simp only [nuAt] at h
  cases e : Nat.beq m l with
  | true => rw [e] at h; simp only [cond_true, Option.some.injEq] at h; exact ⟨Nat.eq_of_beq_eq_true e, h.symm⟩
  | false => rw [e] at h; cases h
theorem in1 (l : Nat) (ob : OB) : inNu [(l, some ob)] l := ⟨some ob, by simp [nuAt]⟩
section
variable {P : Program} {Θ : Tab} {s : St} {ty : TypeId} {pos : String} {after : Array Edge} {g : Option (Nat × Bool)}
theorem sft_bsl0 {d : Nat} {t : TypeId} {el sz b : Nat} {z : AV} (hf : s.hp (d + 1) = none) (ht : Θ.look t = .slice el sz b z) (hok : okL (d + 1) = true := by rfl) :
    Sft P Θ ⟨some d, .buildSlice t 0 #[], ty, pos, after, g⟩ s (.own (d + 1)) [] [(d + 1, some ⟨.s el, sz, []⟩)] := by
  refine ⟨fun s' h1 h2 => ⟨⟨.own (d + 1), some fun s'' => s''.set (d + 1) (some ⟨.s el, sz, []⟩)⟩, ?_, fun K hK => .done ?_⟩, fun l ob h => ?_, fun l hl => (by cases hl), fun l hl => .inl ?_, fun l ⟨o, hl⟩ => .inl ?_, fun l ob ⟨o, hl⟩ ho => ?_⟩
  · exact ⟨d, el, sz, b, z, rfl, (h2 _ (.inl (in1 _ _))).1.trans hf, hok, ht, by omega, .inl ⟨trivial, fun x hx => by simp at hx, by simp [ownsOf, ownsAL], by simp [ownsOf, ownsAL, frzT, setParts]⟩⟩
  · rw [app_some, shp_set]; exact hK
  · obtain ⟨_, e⟩ := nu1 h; cases e; rfl
  · simp only [AV.names] at hl; rw [← Nat.eq_of_beq_eq_true hl]; exact in1 _ _
  · obtain ⟨rfl, _⟩ := nu1 hl; exact ⟨d, rfl, rfl⟩
  · obtain ⟨rfl, _⟩ := nu1 hl; rw [hf] at ho; cases ho
theorem sft_appl {d : Option Tmp} {tx : Tmp} {y : Operand} {t el sz b l : Nat} {e0 : ET} {z : AV} {xs ys : List AV} (hx : s.sl tx = .own l) (hy : s.ev y = .lst sz ys) (ho : s.hp l = some ⟨e0, sz, xs⟩) (ht : Θ.look t = .slice el sz b z) (hb : (xs.length + ys.length) * b ≤ 140737488355328) (hb1 : Nat.ble 1 b = true) (he : (e0 = .s el ∨ e0 = .z el) := by first | exact .inl rfl | exact .inr rfl) (hok : okL l = true := by rfl) :
    Sft P Θ ⟨d, .call ⟨.builtin .append, #[.tmp tx, y], #[t, t]⟩, ty, pos, after, g⟩ s (.own l) [l] [(l, some ⟨.s el, sz, xs ++ ys⟩)] := by
  have hb1' := Nat.le_of_ble_eq_true hb1
  have hm : xs.length + ys.length ≤ maxLen := by
    have : (xs.length + ys.length) * 1 ≤ (xs.length + ys.length) * b := Nat.mul_le_mul_left _ hb1'
    unfold maxLen; omega
  have hmem : tx ∈ tmpsOf (⟨d, .call ⟨.builtin .append, #[.tmp tx, y], #[t, t]⟩, ty, pos, after, g⟩ : Oper) := mem_tmps (by simp [Op.operands, Call.operands])
  have hnm : namedBy s (⟨d, .call ⟨.builtin .append, #[.tmp tx, y], #[t, t]⟩, ty, pos, after, g⟩ : Oper) l := ⟨tx, hmem, by rw [hx]; simp [AV.names]⟩
  refine ⟨fun s' h1 h2 => ⟨⟨.own l, some fun s'' => (s''.kill l).set l (some ⟨.s el, sz, xs ++ ys⟩)⟩, ?_, fun K hK => .done ?_⟩, fun m ob h => ?_, fun m hl => ?_, fun m hl => .inl ?_, fun m ⟨o, hl⟩ => .inr ?_, fun m ob ⟨o, hl⟩ hob => ?_⟩
  · have e1 : s'.ev (.tmp tx) = .own l := (h1 _ (by simp [Op.operands, Call.operands])).trans hx
    have e2 : s'.ev y = .lst sz ys := (h1 _ (by simp [Op.operands, Call.operands])).trans hy
    exact ⟨.tmp tx, y, t, el, sz, b, z, l, _, ys, rfl, rfl, ht, e1, (h2 _ (.inl (in1 _ _))).1.trans ho, hok, rfl, hb, hm, .inl ⟨el, he, rfl, .inl e2, rfl⟩⟩
  · rw [app_some, shp_app]; exact hK
  · obtain ⟨_, e⟩ := nu1 h; cases e; rfl
  · rw [List.mem_singleton] at hl; subst hl; exact in1 _ _
  · simp only [AV.names] at hl; rw [← Nat.eq_of_beq_eq_true hl]; exact in1 _ _
  · obtain ⟨rfl, _⟩ := nu1 hl; exact hnm
  · obtain ⟨rfl, _⟩ := nu1 hl
    rw [ho] at hob; cases hob
    rcases he with rfl | rfl <;> rfl
end
end Go.Proofs.Ytjhimcddgkoghaa.AM
/- Evidence of operations that change rows (AOps2): a list of one struct with own lists, folded; append in depth. -/
namespace Go.Proofs.Ytjhimcddgkoghaa.AM
open Go Go.RowKit
set_option linter.unusedVariables false
set_option linter.unusedSimpArgs false
set_option maxRecDepth 100000
section
variable {P : Program} {Θ : Tab} {s : St} {ty : TypeId} {pos : String} {after : Array Edge} {g : Option (Nat × Bool)}
end
end Go.Proofs.Ytjhimcddgkoghaa.AM
/- Evidence of operations in a region that draws (AOps2): a cell made, a cell filled with something that holds labels, such a cell read, a call that reads rows of the call's own. -/
namespace Go.Proofs.Ytjhimcddgkoghaa.AM
open Go Go.RowKit
set_option linter.unusedVariables false
set_option linter.unusedSimpArgs false
set_option maxRecDepth 100000
mutual
theorem dat_loc {s s' : St} : ∀ x : AV, (∀ l, x.names l = true → s'.hp l = s.hp l) → s'.dat x = s.dat x ∧ isDataA s' x = isDataA s x
  | .own l, h => by
    have := h l (by simp [AV.names])
    simp only [St.dat, isDataA, this, and_self]
  | .optr l i p c, h => by
    have := h l (by simp [AV.names])
    simp only [St.dat, isDataA, this, and_self]
  | .mix xs, h => by
    obtain ⟨h1, h2⟩ := datL_loc xs (fun l hl => h l (by simpa [AV.names] using hl))
    simp only [St.dat, isDataA, h1, h2, and_self]
  | .ifc t x, h => by
    obtain ⟨h1, _⟩ := dat_loc x (fun l hl => h l (by simpa [AV.names] using hl))
    simp only [St.dat, isDataA, h1, and_self]
  | .rd x, _ => ⟨rfl, rfl⟩
  | .any, _ => ⟨rfl, rfl⟩
  | .v _, _ => ⟨rfl, rfl⟩
  | .agg _, _ => ⟨rfl, rfl⟩
  | .lst _ _, _ => ⟨rfl, rfl⟩
  | .ptr _, _ => ⟨rfl, rfl⟩
  | .tup _, _ => ⟨rfl, rfl⟩
  | .mapv _, _ => ⟨rfl, rfl⟩
  | .fn _ _ _, _ => ⟨rfl, rfl⟩
theorem datL_loc {s s' : St} : ∀ xs : List AV, (∀ l, namesL l xs = true → s'.hp l = s.hp l) → s'.datL xs = s.datL xs ∧ isDataL s' xs = isDataL s xs
  | [], _ => ⟨rfl, rfl⟩
  | x :: xs, h => by
    obtain ⟨h1, h2⟩ := dat_loc x (fun l hl => h l (by simp [namesL, hl]))
    obtain ⟨h3, h4⟩ := datL_loc xs (fun l hl => h l (by simp [namesL, hl]))
    simp only [St.datL, isDataL, h1, h2, h3, h4, and_self]
end
theorem argA_loc {s s' : St} (x : AV) (h : ∀ l, x.names l = true → s'.hp l = s.hp l) : argA s' x = argA s x := by
  cases x with
  | fn f xs ys => cases xs <;> cases ys <;> rfl
  | ifc t x => exact (dat_loc x (fun l hl => h l (by simpa [AV.names] using hl))).2
  | _ => first | rfl | exact (dat_loc _ h).2
theorem argsA_loc {s s' : St} : ∀ xs : List AV, (∀ l, namesL l xs = true → s'.hp l = s.hp l) → argsA s' xs = argsA s xs
  | [], _ => rfl
  | x :: xs, h => by
    simp only [argsA]
    rw [argA_loc x (fun l hl => h l (by simp [namesL, hl])), argsA_loc xs (fun l hl => h l (by simp [namesL, hl]))]
theorem namesL_map {s : St} {l : Nat} : ∀ xs : List Operand, namesL l (xs.map s.ev) = true → ∃ t, Operand.tmp t ∈ xs ∧ (s.sl t).names l = true
  | [], h => by simp [namesL] at h
  | x :: xs, h => by
    simp only [List.map_cons, namesL, Bool.or_eq_true] at h
    rcases h with h | h
    · cases x with
      | tmp t => exact ⟨t, by simp, h⟩
      | _ => simp [St.ev, AV.names, namesL] at h
    · obtain ⟨t, h1, h2⟩ := namesL_map xs h
      exact ⟨t, List.mem_cons_of_mem _ h1, h2⟩
theorem kz_shut (t : Nat) (z : AV) : (kz t z).shut = true := by unfold kz; cases noLst z <;> rfl
section
variable {P : Program} {Θ : Tab} {s : St} {ty : TypeId} {pos : String} {after : Array Edge} {g : Option (Nat × Bool)}
/-- a call that may read rows of the caller's own -/
theorem sft_callo {f : FuncId} {ags : Array Operand} {ts : Array TypeId} {t : Nat} {args : List AV} {out : Out} (hac : AC P f args out) (ha : (ags.toList.map fun x => s.dat (s.ev x)) = args) (hfl : out.flat) (hfr : freeObs s (t + 1) 0 out.obs) (hok : argsA s (ags.toList.map s.ev) = true) (hc : csOK ags.toList = true)
    (hv : (ren (t + 1) out.val).within (fun l => (nuAt (nuObs (t + 1) 0 out.obs) l).isSome) = true) :
    Sft P Θ ⟨some t, .call ⟨.value (.func f), ags, ts⟩, ty, pos, after, g⟩ s (ren (t + 1) out.val) [] (nuObs (t + 1) 0 out.obs) := by
  have hsh := free_shut out.obs 0 hfr
  refine ⟨fun s' h1 h2 => ?_, fun l ob h => ?_, fun l hl => (by cases hl), fun l hl => ?_, fun l ⟨o, hl⟩ => ?_, fun l ob ⟨o, hl⟩ ho => ?_⟩
  · have hev : ∀ x ∈ ags.toList, s'.ev x = s.ev x := fun x hx => h1 x (by simp [Op.operands, Call.operands] at hx ⊢; exact .inr hx)
    have hmap : ags.toList.map s'.ev = ags.toList.map s.ev := List.map_congr_left hev
    have hn : ∀ l, namesL l (ags.toList.map s.ev) = true → s'.hp l = s.hp l := fun l hl => by
      obtain ⟨t', h3, h4⟩ := namesL_map _ hl
      exact (h2 l (.inr ⟨t', mem_tmps (by simp [Op.operands, Call.operands] at h3 ⊢; exact h3), h4⟩)).1
    refine ⟨⟨ren (t + 1) out.val, setU (t + 1) out.obs⟩, p_call hac ?_ (.inr hfl) (freeObs_loc out.obs 0 (fun j h3 h4 => (h2 _ (.inl (nuObs_mem out.obs 0 j h3 h4))).1) hfr) ?_ hc, fun K hK => .done ?_⟩
    · rw [← ha]
      refine List.map_congr_left fun x hx => ?_
      rw [hev x hx]
      refine (dat_loc _ fun l hl => ?_).1
      cases x with
      | tmp t' => exact (h2 l (.inr ⟨t', mem_tmps (by simp [Op.operands, Call.operands] at hx ⊢; exact hx), hl⟩)).1
      | _ => simp [St.ev, AV.names, namesL] at hl
    · rw [hmap, argsA_loc _ hn]; exact hok
    · cases ho : out.obs with
      | nil => rw [ho] at hK; exact hK
      | cons ob r =>
        rw [ho] at hK
        show K ((setObs (t + 1) 0 (ob :: r) s').put (some t) (ren (t + 1) out.val))
        rw [setObs_shp]; exact hK
  · obtain ⟨j, ob', _, e, hm, _⟩ := nuObs_in out.obs 0 l _ h
    cases e; exact hsh ob hm
  · have := within_names _ hv hl
    obtain ⟨o, ho⟩ := Option.isSome_iff_exists.1 this
    exact .inl ⟨o, ho⟩
  · obtain ⟨j, ob', e, _⟩ := nuObs_in out.obs 0 l _ hl
    exact .inl ⟨t, rfl, by rw [e]; omega⟩
  · obtain ⟨j, ob', e, _, _, h4, h5⟩ := nuObs_in out.obs 0 l _ hl
    have hj := (List.getElem?_eq_some_iff.1 h5).1
    have := nuObs_free out.obs 0 hfr j h4 (by omega)
    rw [← e, ho] at this; cases this
/-- a cell is made -/
theorem sft_allo {t : TypeId} {d : Nat} (hf : s.hp (d + 1) = none) (hk : (Θ.look t).known = true) (hok : okL (d + 1) = true := by rfl) :
    Sft P Θ ⟨some d, .alloc t, ty, pos, after, g⟩ s (.optr (d + 1) 0 [] 0) [] [(d + 1, some ⟨kz t (Θ.look t).zero, (Θ.look t).size, [(Θ.look t).zero]⟩)] := by
  refine ⟨fun s' h1 h2 => ⟨⟨.optr (d + 1) 0 [] 0, some fun s => s.set (d + 1) (some ⟨kz t (Θ.look t).zero, (Θ.look t).size, [(Θ.look t).zero]⟩)⟩, p_allo ((h2 _ (.inl (in1 _ _))).1.trans hf) hk hok, fun K hK => .done ?_⟩, fun l ob h => ?_, fun l hl => (by cases hl), fun l hl => .inl ?_, fun l ⟨o, hl⟩ => .inl ?_, fun l ob ⟨o, hl⟩ ho => ?_⟩
  · rw [app_some, shp_set]; exact hK
  · obtain ⟨_, e⟩ := nu1 h; cases e; exact kz_shut _ _
  · simp only [AV.names] at hl; rw [← Nat.eq_of_beq_eq_true hl]; exact in1 _ _
  · obtain ⟨rfl, _⟩ := nu1 hl; exact ⟨d, rfl, rfl⟩
  · obtain ⟨rfl, _⟩ := nu1 hl; rw [hf] at ho; cases ho
/-- a cell is filled with something that holds labels -/
theorem sft_ostoreo {t : TypeId} {tx ty' : Tmp} {l i c : Nat} {p : List Nat} {ob : OB} {t' : Option Nat} {q z y' : AV} (hx : s.sl tx = .optr l i p c) (ho : s.hp l = some ob) (hop : openE ob.e ob.xs i = some (.o t' i q)) (hg : getP q p 0 = some (z, c)) (hy : toO (s.sl ty') = some y') (hs : ((Θ.look t).known && (Nat.beq (asz z) (Θ.look t).size && Nat.beq (asz y') (asz z))) = true) (hsh : ob.e.shut = true) (hn : ((labs (setM q p y')).all fun l' => (s.sl ty').names l') = true) :
    SftG P Θ ⟨none, .store t (.tmp tx) (.tmp ty'), ty, pos, after, g⟩ s .any [] [(l, some ⟨.o t' i (setM q p y'), ob.sz, ob.xs⟩)] := by
  have m1 : tx ∈ tmpsOf (⟨none, .store t (.tmp tx) (.tmp ty'), ty, pos, after, g⟩ : Oper) := mem_tmps (by simp [Op.operands])
  have m2 : ty' ∈ tmpsOf (⟨none, .store t (.tmp tx) (.tmp ty'), ty, pos, after, g⟩ : Oper) := mem_tmps (by simp [Op.operands])
  refine ⟨fun s' h1 h2 => ⟨⟨.any, some fun s' => s'.set l (some ⟨.o t' i (setM q p y'), ob.sz, ob.xs⟩)⟩, p_ostoreo ((h1 (.tmp tx) (by simp [Op.operands])).trans hx) ((h2 _ (.inl (in1 _ _))).1.trans ho) hop hg ((congrArg toO (h1 (.tmp ty') (by simp [Op.operands]))).trans hy) hs, fun K hK => .done ?_⟩, fun l ob h => .inr rfl, fun l hl => (by cases hl), fun l hl => by simp [AV.names] at hl, fun m ⟨o, hl⟩ => .inr ?_, fun m ob' ⟨o, hl⟩ ho' => ?_, fun l0 ob' m h hm => .inr ?_⟩
  · rw [app_some, shp_set]; exact hK
  · obtain ⟨rfl, _⟩ := nu1 hl; exact ⟨tx, m1, by rw [hx]; simp [AV.names]⟩
  · obtain ⟨rfl, _⟩ := nu1 hl; rw [ho] at ho'; cases ho'; exact hsh
  · obtain ⟨_, e⟩ := nu1 h
    cases e
    exact ⟨ty', m2, List.all_eq_true.1 hn m (names_labs _ hm)⟩
/-- a cell that holds labels is read -/
theorem sft_oldo {d : Option Tmp} {t : TypeId} {tx : Tmp} {l i sz : Nat} {t' : Option Nat} {y x' : AV} {xs : List AV} (hx : s.sl tx = .optr l i [] 0) (ho : s.hp l = some ⟨.o t' i y, sz, xs⟩) (hz : ofO y = some x') (hk : (Θ.look t).known = true) (ha : isAggA x' = (Θ.look t).isAgg) (hs : asz x' = (Θ.look t).size) (hn : ((labs x').all fun l' => y.names l' && (match s.hp l' with | some ob => ob.e.shut | none => true)) = true) :
    SftG P Θ ⟨d, .load t (.tmp tx), ty, pos, after, g⟩ s x' [] [] := by
  have m1 : tx ∈ tmpsOf (⟨d, .load t (.tmp tx), ty, pos, after, g⟩ : Oper) := mem_tmps (by simp [Op.operands])
  have n1 : namedBy s (⟨d, .load t (.tmp tx), ty, pos, after, g⟩ : Oper) l := ⟨tx, m1, by rw [hx]; simp [AV.names]⟩
  have hop : openE (ET.o t' i y) xs i = some (.o t' i y) := by simp [openE]
  refine ⟨fun s' h1 h2 => ⟨⟨x', none⟩, p_oldo ((h1 (.tmp tx) (by simp [Op.operands])).trans hx) ((h2 l (.inr n1)).1.trans ho) hop rfl hz hk ha hs, fun K hK => .done hK⟩, fun l ob h => by simp [nuAt] at h, fun l hl => (by cases hl), fun m hm => .inr (.inr ?_), fun l hl => (inNu_nil hl).elim, fun l ob hl => (inNu_nil hl).elim, fun l0 ob m h => by simp [nuAt] at h⟩
  have := List.all_eq_true.1 hn m (names_labs _ hm)
  simp only [Bool.and_eq_true] at this
  exact ⟨⟨l, _, n1, ho, this.1⟩, fun ob hob => by have h2 := this.2; rw [hob] at h2; exact h2⟩
/-- a cell is filled with data -/
theorem sft_osto {t : TypeId} {tx ty' : Tmp} {l i c : Nat} {p : List Nat} {ob : OB} {q z v : AV} (hq : ob.xs[i]? = some q) (hx : s.sl tx = .optr l i p c) (ho : s.hp l = some ob) (hg : getP q p 0 = some (z, c)) (hs : ((Θ.look t).known && (Nat.beq (asz z) (Θ.look t).size && Nat.beq (asz v) (asz z))) = true) (hy : s.sl ty' = v) (hv : (match v with | .v c => c.oneCell' | .agg _ => true | .lst _ _ => true | .ptr _ => true | _ => false) = true) (hop : ob.e.open_ = true := by rfl) :
    Sft P Θ ⟨none, .store t (.tmp tx) (.tmp ty'), ty, pos, after, g⟩ s .any [] [(l, some ⟨.s (ob.e.typ.getD 0), ob.sz, ob.xs.set i (setP q p v)⟩)] := by
  have m1 : tx ∈ tmpsOf (⟨none, .store t (.tmp tx) (.tmp ty'), ty, pos, after, g⟩ : Oper) := mem_tmps (by simp [Op.operands])
  refine ⟨fun s' h1 h2 => ⟨⟨.any, some fun s' => s'.set l (some ⟨.s (ob.e.typ.getD 0), ob.sz, ob.xs.set i (setP q p v)⟩)⟩, p_ostore hq ((h1 (.tmp tx) (by simp [Op.operands])).trans hx) ((h2 _ (.inl (in1 _ _))).1.trans ho) hg hs ((h1 (.tmp ty') (by simp [Op.operands])).trans hy) (by cases v <;> first | exact hv | rfl) hop, fun K hK => .done ?_⟩, fun l ob h => ?_, fun l hl => (by cases hl), fun l hl => by simp [AV.names] at hl, fun m ⟨o, hl⟩ => .inr ?_, fun m ob' ⟨o, hl⟩ ho' => ?_⟩
  · rw [app_some, shp_set]; exact hK
  · obtain ⟨_, e⟩ := nu1 h; cases e; rfl
  · obtain ⟨rfl, _⟩ := nu1 hl; exact ⟨tx, m1, by rw [hx]; simp [AV.names]⟩
  · obtain ⟨rfl, _⟩ := nu1 hl; rw [ho] at ho'; cases ho'
    obtain ⟨e, sz, xs⟩ := ob
    cases e <;> first | rfl | cases hop
theorem sft_as2 {d : Option Tmp} {t : Nat} {y : AV} (hx : s.sl t = y) : Sft P Θ ⟨d, .assign (.tmp t), ty, pos, after, g⟩ s y [] [] := by
  refine ⟨fun s' h1 h2 => ⟨⟨y, none⟩, p_as ((h1 (.tmp t) (by simp [Op.operands])).trans hx), fun K hK => .done hK⟩, fun l ob h => by simp [nuAt] at h, fun l hl => (by cases hl), fun l hl => .inr ⟨t, mem_tmps (by simp [Op.operands]), by rw [hx]; exact hl⟩, fun l hl => (inNu_nil hl).elim, fun l ob hl => (inNu_nil hl).elim⟩
theorem in_nuO {d k : Nat} {obs : List OB} : ∀ l ∈ (nuObs d k obs).map (·.1), inNu (nuObs d k obs) l := by
  induction obs generalizing k with
  | nil => intro l hl; cases hl
  | cons ob r ih =>
    intro l hl
    unfold inNu
    simp only [nuObs, List.map_cons, List.mem_cons] at hl
    simp only [nuObs, nuAt]
    cases e : Nat.beq l (d + 1000 * k) with
    | true => exact ⟨_, rfl⟩
    | false =>
      rcases hl with h | h
      · rw [h, Nat.beq_refl] at e; cases e
      · obtain ⟨o, ho⟩ := ih l h; exact ⟨o, ho⟩
theorem in_o1 {l : Nat} {ob : OB} : ∀ m ∈ ([(l, some ob)] : List (Nat × Option OB)).map (·.1), inNu [(l, some ob)] m := fun m hm => by
  simp only [List.map_cons, List.map_nil, List.mem_singleton] at hm
  subst hm; exact in1 _ _
theorem in_o0 : ∀ m ∈ ([] : List (Nat × Option OB)).map (·.1), inNu [] m := fun m hm => by cases hm
end
theorem parts_nolab {s s' : St} : ∀ (ps : List (Nat × Operand)) (z : List AV), (∀ x ∈ ps, s'.ev x.2 = s.ev x.2 ∧ noLab (s.ev x.2) = true) → setParts s' z ps = setParts s z ps ∧ (partsOK s z ps → partsOK s' z ps)
  | [], z, _ => ⟨rfl, fun h => h⟩
  | (i, x) :: ps, z, h => by
    obtain ⟨h1, h2⟩ := h (i, x) (by simp)
    simp only at h1 h2
    have e1 : s'.dat (s'.ev x) = s.dat (s.ev x) := by rw [h1, dat_nolab s s' _ h2]
    have e2 : isDataA s' (s'.ev x) = isDataA s (s.ev x) := by rw [h1, isData_nolab s s' _ h2]
    obtain ⟨q1, q2⟩ := parts_nolab ps (z.set i (s.dat (s.ev x))) (fun y hy => h y (List.mem_cons_of_mem _ hy))
    unfold setParts partsOK
    rw [e1, e2]
    exact ⟨q1, fun ⟨a, b, c⟩ => ⟨a, b, q2 c⟩⟩
section
variable {P : Program} {Θ : Tab} {s : St} {ty : TypeId} {pos : String} {after : Array Edge} {g : Option (Nat × Bool)}
/-- a struct's value put together out of data -/
theorem sft_bld {d : Option Tmp} {t : TypeId} {ps : Array (Nat × Operand)} {fs : List (Nat × Nat)} {z : List AV} (ht : Θ.look t = .struct fs z) (hp : partsOK s z ps.toList) (hc : csOK (ps.toList.map (·.2)) = true) (hw : (ps.toList.all fun x => noLab (s.ev x.2)) = true) (ho : ownsOf s (ps.toList.map (·.2)) = []) :
    Sft P Θ ⟨d, .build t ps, ty, pos, after, g⟩ s (.agg (setParts s z ps.toList)) [] [] := by
  refine ⟨fun s' h1 h2 => ⟨⟨.agg (setParts s z ps.toList), none⟩, ?_, fun K hK => .done hK⟩, fun l ob h => by simp [nuAt] at h, fun l hl => (by cases hl), fun l hl => by simp [AV.names] at hl, fun l hl => (inNu_nil hl).elim, fun l ob hl => (inNu_nil hl).elim⟩
  have hev : ∀ x ∈ ps.toList, s'.ev x.2 = s.ev x.2 := fun x hx => h1 x.2 (by simp [Op.operands]; exact ⟨x.1, by simpa using hx⟩)
  obtain ⟨q1, q2⟩ := parts_nolab (s := s) (s' := s') ps.toList z (fun x hx => ⟨hev x hx, List.all_eq_true.1 hw x hx⟩)
  have ho' : ownsOf s' (ps.toList.map (·.2)) = [] := by
    rw [← ho]; unfold ownsOf
    congr 1
    rw [List.map_map, List.map_map]
    exact List.map_congr_left fun x hx => hev x hx
  refine ⟨fs, z, ht, .inl ⟨q2 hp, csOK_spec hc, by rw [ho']; rfl, ?_⟩⟩
  rw [ho', q1]; rfl
/-- what only reads, its value naming rows that its operands name -/
theorem sft_rd {o : Oper} {v : AV} (hp : Pre P Θ o s ⟨v, none⟩) (hc : calm Θ true o = true) (hn : ((labs v).all fun l => (tmpsOf o).any fun t => (s.sl t).names l) = true) : Sft P Θ o s v [] [] := by
  refine ⟨fun s' h1 h2 => ⟨⟨v, none⟩, pre_calm (two := true) hc h1 (fun _ l ⟨x, hx, hn⟩ => ?_) hp, fun K hK => .done hK⟩, fun l ob h => by simp [nuAt] at h, fun l hl => (by cases hl), fun l hl => ?_, fun l hl => (inNu_nil hl).elim, fun l ob hl => (inNu_nil hl).elim⟩
  · cases x with
    | tmp t => exact (h2 l (.inr ⟨t, mem_tmps hx, hn⟩)).1
    | _ => simp [St.ev, AV.names, namesL] at hn
  · have h3 := List.all_eq_true.1 hn l (names_labs v hl)
    obtain ⟨t, ht, h4⟩ := List.any_eq_true.1 h3
    exact .inr ⟨t, ht, h4⟩
/-- a list of one struct of data -/
theorem sft_bsd1 {d : Nat} {t : TypeId} {x : Operand} {el sz b : Nat} {z : AV} {ys : List AV} (hf : s.hp (d + 1) = none) (ht : Θ.look t = .slice el sz b z) (hx : s.ev x = .agg ys) (hz : Nat.beq (asz (.agg ys)) (asz z) = true) (hsz : Nat.ble sz 65536 = true) (hok : okL (d + 1) = true := by rfl) :
    Sft P Θ ⟨some d, .buildSlice t 1 #[(0, x)], ty, pos, after, g⟩ s (.own (d + 1)) [] [(d + 1, some ⟨.s el, sz, [.agg ys]⟩)] := by
  refine ⟨fun s' h1 h2 => ⟨⟨.own (d + 1), some fun s'' => s''.set (d + 1) (some ⟨.s el, sz, [.agg ys]⟩)⟩, ?_, fun K hK => .done ?_⟩, fun l ob h => ?_, fun l hl => (by cases hl), fun l hl => .inl ?_, fun l ⟨o, hl⟩ => .inl ?_, fun l ob ⟨o, hl⟩ ho => ?_⟩
  · exact p_bsl1 ((h2 _ (.inl (in1 _ _))).1.trans hf) ht ((h1 x (by simp [Op.operands])).trans hx) rfl hz hsz hok
  · rw [app_some, shp_set]; exact hK
  · obtain ⟨_, e⟩ := nu1 h; cases e; rfl
  · simp only [AV.names] at hl; rw [← Nat.eq_of_beq_eq_true hl]; exact in1 _ _
  · obtain ⟨rfl, _⟩ := nu1 hl; exact ⟨d, rfl, rfl⟩
  · obtain ⟨rfl, _⟩ := nu1 hl; rw [hf] at ho; cases ho
end
end Go.Proofs.Ytjhimcddgkoghaa.AM
namespace Go.Proofs.Ytjhimcddgkoghaa.AM
open Go Go.RowKit Go.ChangeShapes Go.WideShapes Go.Deep
set_option linter.unusedVariables false
set_option linter.unusedSimpArgs false
def refC (r : Rf) : List Value := [.string r.name, .int .i64 r.head, .int .i64 r.ver, .bool r.gone]
def refsC (l : List Rf) : List Value := l.flatMap refC
theorem refsC_length : ∀ l : List Rf, (refsC l).length = l.length * 4
  | [] => rfl
  | r :: l => by
    have := refsC_length l
    simp only [refsC, List.flatMap_cons, List.length_append, List.length_cons] at *
    rw [this]; simp [refC]; omega
section
variable {S : Nat → Prop} {w : World}
theorem rl_refs : ∀ (l : List Rf), RL S w (l.map refA) (refsC l)
  | [] => rl_nil
  | r :: l => by
    have : refsC (r :: l) = refC r ++ refsC l := rfl
    rw [List.map_cons, this]
    exact rl_cons (ra_agg (rl_cons (c1 := [_]) (ra_v rfl) (rl_cons (c1 := [_]) (ra_v rfl) (rl_cons (c1 := [_]) (ra_v rfl) (rl_cons (c1 := [_]) (ra_v rfl) rl_nil))))) (rl_refs l)
end
section
variable {H : Type} {enc : TypeId × Value → H} {P : Program} {w : World} {base : Nat} {held : Bool}
end
end Go.Proofs.Ytjhimcddgkoghaa.AM
/- Rules of the machine: a function entered without a run. -/
namespace Go.Proofs.Ytjhimcddgkoghaa.AM
open Go Go.RowKit
set_option linter.unusedVariables false
theorem o_of {P : Program} {Θ : Tab} (hΘ : TabOK P Θ) (hm : P.follows .mixedOrders = true) {f : FuncId} {fn : Func} {c : Code} {n : Nat} {rs : List ResultVar} (hf : P.funcs[f]? = some fn) (hb : fn.body = some c) (hnt : fn.ntmps = n) (hrs : fn.results = rs.toArray) (hnm : (fn.name == "runtime.NumGoroutine") = false)
    {args : List AV} {out : Out} (hlen : Nat.ble args.length n = true) (h : ACode P Θ n c (RetQ Θ rs out) (St.init args)) : AC P f args out :=
  acg_of hΘ hm hf hb hnt (by rw [hrs]) hnm (Nat.le_of_ble_eq_true hlen) rfl rfl h
end Go.Proofs.Ytjhimcddgkoghaa.AM
/- A law's arguments opened: structs (an operation, a repository, a result, a commit). -/
namespace Go.Proofs.Ytjhimcddgkoghaa.AM
open Go Go.RowKit Go.ChangeShapes Go.WideShapes Go.Deep
set_option linter.unusedVariables false
set_option linter.unusedSimpArgs false
structure Opr where
  kind : Int
  frm : Int
  name : ByteArray
  key : ByteArray
  edits : List Edt
structure Bas where
  store : List Cmt
  refs : List Rf
structure Rst where
  code : Int
  com : Int
  val : Int
  keys : List ByteArray
  map : List Ent
def Opr.ok (o : Opr) (N : Nat) : Prop := o.name.size ≤ N ∧ o.key.size ≤ N ∧ o.edits.length ≤ N ∧ ∀ e ∈ o.edits, e.key.size ≤ N
def Rst.ok (r : Rst) (N : Nat) : Prop := r.keys.length ≤ N ∧ (∀ k ∈ r.keys, k.size ≤ N) ∧ r.map.length ≤ N ∧ ∀ e ∈ r.map, e.1.size ≤ N
section
variable {S : Nat → Prop} {w : World}
end
section
variable {H : Type} {enc : TypeId × Value → H} {P : Program} {w : World} {base : Nat} {held : Bool}
theorem open_agg {t : TypeId} {fs : Array Field} {cs : Array Value} {d : DataW H} {p : List MemPlace} (ht : P.underlying t = some (.struct fs)) (hone : oneCellFields P fs = true) (hC : P.cellsOf t = fs.size) (h : DataW.Trod enc P w base (fun _ => true) held t (.agg cs) d p) :
    cs.toList.length = fs.size ∧ ∃ k, ∀ (j : Nat) (f : Field), fs[j]? = some f → ∃ (v : Value) (y : DataW H × List MemPlace), cs.toList[j]? = some v ∧ DataW.trod enc P w base (fun _ => true) held k f.type [v] = some y := by
  obtain ⟨fuel, hf⟩ := h
  obtain ⟨ys, n', hn', hy, hlen, hyl, hf⟩ := DataW.trod_struct ht hf
  rw [hC] at hlen
  have hlen' : cs.toList.length = fs.size := by simpa [Value.cells] using hlen
  refine ⟨hlen', n', fun j f hj => ?_⟩
  obtain ⟨ho, hk⟩ := hone_of hone j f hj
  have hjl : j < fs.size := (Array.getElem?_eq_some_iff.1 hj).1
  have hv : cs.toList[j]? = some (cs.toList[j]'(by omega)) := List.getElem?_eq_getElem (by omega)
  have h1 := hf j f hj
  rw [ho, hk] at h1
  have hone' : ((Value.cells (.agg cs)).toList.drop j).take 1 = [cs.toList[j]'(by omega)] := by
    show (cs.toList.drop j).take 1 = _
    rw [List.drop_eq_getElem_cons (by omega)]
    rfl
  rw [hone'] at h1
  have hys : ys[j]? = some (ys[j]'(by omega)) := List.getElem?_eq_getElem (by omega)
  exact ⟨_, _, hv, h1.trans hys⟩
theorem trod_of {t : TypeId} {v : Value} {k : Nat} {y : DataW H × List MemPlace} (hv : (Value.cells v).toList = [v]) (h : DataW.trod enc P w base (fun _ => true) held k t [v] = some y) : DataW.Trod enc P w base (fun _ => true) held t v y.1 y.2 := ⟨k, by rw [hv]; exact h⟩
theorem rv_agg {hp : Nat → Option OB} {B : Nat → Nat} {V : Nat → Value} {xs : List AV} {cs : Array Value} {l : List Value} (h : cs.toList = l) (hr : RL (InW w) w xs l) : RV (InW w) w hp B V (.agg xs) (.agg cs) := by
  unfold RV; exact ⟨l, by rw [← h], hr⟩
end
end Go.Proofs.Ytjhimcddgkoghaa.AM
