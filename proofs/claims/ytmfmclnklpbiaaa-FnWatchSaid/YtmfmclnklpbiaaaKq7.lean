/- Texts of the machine over data, folded. -/
import Derived.Test.YtmfmclnklpbiaaaKq6
import Derived.Test.YtmfmclnklpbiaaaKq5
import Derived.WalkSpells
import Derived.Laws.LoneSync
import Derived.Laws.ResultCell
import Derived.Laws.StructEq
import Derived.Laws.Rows
import Derived.StillTailTactics
/- Rules for regions in which several operations change rows (AOps2): evidence by reckoning; what reads, calls, new lists, append. -/
namespace Go.Proofs.Ytmfmclnklpbiaaa.AM
open Go Go.RowKit
set_option linter.unusedVariables false
set_option linter.unusedSimpArgs false
set_option maxRecDepth 100000
/-- what every operation reads was yielded before it -/
def prodB (ops : Array Oper) : Bool :=
  (List.range ops.size).all fun j => match ops[j]? with
    | some o => (tmpsOf o).all fun t => (List.range ops.size).all fun j' => match (ops[j']?).bind (·.dst) with
      | some t' => !(Nat.beq t' t) || (!(Nat.beq j' j) && (((Region.before ops).getD j 0).testBit j' || lastOp ops j'))
      | none => true
    | none => true
theorem prodB_ok {ops : Array Oper} (h : prodB ops = true) : prodOK ops := by
  intro j o ho t ht j' o' ho' hd
  have h1 := List.all_eq_true.1 h j (List.mem_range.2 (Array.getElem?_eq_some_iff.1 ho).1)
  simp only [ho] at h1
  have h2 := List.all_eq_true.1 (List.all_eq_true.1 h1 t ht) j' (List.mem_range.2 (Array.getElem?_eq_some_iff.1 ho').1)
  simp only [ho', Option.bind_some, hd, Nat.beq_refl, Bool.not_true, Bool.false_or, Bool.and_eq_true, Bool.not_eq_true', Bool.or_eq_true] at h2
  exact ⟨fun e => by rw [e] at h2; simp at h2, h2.2⟩
mutual
/-- the labels that a datum names -/
def labs : AV → List Nat
  | .own l => [l]
  | .optr l _ _ _ => [l]
  | .mapv l => [l]
  | .tup xs => labsL xs
  | .mix xs => labsL xs
  | .fn _ xs ys => labsL xs ++ labsL ys
  | .ifc _ x => labs x
  | _ => []
def labsL : List AV → List Nat
  | [] => []
  | x :: xs => labs x ++ labsL xs
end
mutual
theorem names_labs {l : Nat} : ∀ x : AV, x.names l = true → l ∈ labs x
  | .own l', h => by simp only [AV.names] at h; simp [labs, Nat.eq_of_beq_eq_true h]
  | .optr l' _ _ _, h => by simp only [AV.names] at h; simp [labs, Nat.eq_of_beq_eq_true h]
  | .mapv l', h => by simp only [AV.names] at h; simp [labs, Nat.eq_of_beq_eq_true h]
  | .tup xs, h => by simp only [AV.names] at h; unfold labs; exact names_labsL xs h
  | .mix xs, h => by simp only [AV.names] at h; unfold labs; exact names_labsL xs h
  | .fn _ xs ys, h => by
    simp only [AV.names, Bool.or_eq_true] at h; unfold labs
    exact List.mem_append.2 (h.imp (names_labsL xs) (names_labsL ys))
  | .ifc _ x, h => by simp only [AV.names] at h; unfold labs; exact names_labs x h
  | .any, h => by simp [AV.names] at h
  | .v _, h => by simp [AV.names] at h
  | .agg _, h => by simp [AV.names] at h
  | .lst _ _, h => by simp [AV.names] at h
  | .ptr _, h => by simp [AV.names] at h
  | .rd _, h => by simp [AV.names] at h
theorem names_labsL {l : Nat} : ∀ xs : List AV, namesL l xs = true → l ∈ labsL xs
  | [], h => by simp [namesL] at h
  | x :: xs, h => by
    simp only [namesL, Bool.or_eq_true] at h; unfold labsL
    exact List.mem_append.2 (h.imp (names_labs x) (names_labsL xs))
end
theorem inNu_mem {l : Nat} : ∀ {nu : List (Nat × Option OB)}, inNu nu l → l ∈ nu.map (·.1)
  | [], ⟨o, h⟩ => by simp [nuAt] at h
  | (m, ob) :: r, ⟨o, h⟩ => by
    simp only [nuAt] at h
    cases e : Nat.beq l m with
    | true => simp [Nat.eq_of_beq_eq_true e]
    | false => rw [e] at h; exact List.mem_cons_of_mem _ (inNu_mem ⟨o, h⟩)
/-- is t not yet yielded, at k? -/
def lateB (ops : Array Oper) (k : Nat) (t : Tmp) : Bool := (List.range ops.size).any fun j' => match (ops[j']?).bind (·.dst) with
  | some t' => Nat.beq t' t && (!(Nat.blt j' k) && !(lastOp ops j'))
  | none => false
theorem lateB_ok {ops : Array Oper} {k : Nat} {t : Tmp} (h : lateB ops k t = true) (hf : freshT ops (fun j => Nat.blt j k) t) : False := by
  obtain ⟨j', hj', h3⟩ := List.any_eq_true.1 h
  cases ho' : ops[j']? with
  | none => rw [ho'] at h3; cases h3
  | some o' =>
    rw [ho'] at h3
    cases hd : o'.dst with
    | none => simp only [Option.bind_some, hd] at h3; cases h3
    | some t' =>
      simp only [Option.bind_some, hd, Bool.and_eq_true, Bool.not_eq_true'] at h3
      have : t' = t := Nat.eq_of_beq_eq_true h3.1
      subst this
      rcases hf j' o' ho' hd with h4 | h4
      · simp only at h4
        rw [h4] at h3; simp at h3
      · rw [h4] at h3; simp at h3
/-- what the evidence asks beside the operation's own -/
def evB (ops : Array Oper) (k : Nat) (s : St) (o : Oper) (ks ls : List Nat) : Bool :=
  (condB ops k s ls && (((ls.isEmpty || (List.range ops.size).all fun j => Nat.beq j k || (ordr ops j k || (match ops[j]? with
    | some o' => (tmpsOf o').all fun t => lateB ops k t || (labs (s.sl t)).all fun l0 => match s.hp l0 with | some ob => ls.all fun l => !(namesE l ob.e) | none => true
    | none => true))) && (ks.isEmpty || (List.range ops.size).all fun j => match ops[j]? with
    | some o' => (tmpsOf o').all fun t => lateB ops k t || (labs (s.sl t)).all fun l => match s.hp l with | some ob => ob.e.shut | none => true
    | none => true)) && ((!(stor o) || (List.range ops.size).all fun j => Nat.beq j k || (ordr ops j k || (match ops[j]? with
    | some o' => noKs o'
    | none => true))) && (!(noKs o) || ks.isEmpty)))) &&
  ((ks.isEmpty || (List.range ops.size).all fun j => match ops[j]? with
    | some o => (tmpsOf o).all fun t => lateB ops k t || ((ks.all fun l => !((s.sl t).names l)) || (labs (s.sl t)).all fun l => ls.contains l) &&
        (Nat.beq j k || (ordr ops j k || (labs (s.sl t)).all fun l => match s.hp l with | some ob => ob.e.shut | none => true))
    | none => true) &&
  (List.range ops.size).all fun j => Nat.beq j k || (ordr ops j k || (match (ops[j]?).bind (·.dst) with
    | some d => ls.all fun l => !(Nat.beq (l % 1000) ((d + 1) % 1000))
    | none => true)))
section
variable {P : Program} {Θ : Tab} {n : Nat} {ops : Array Oper} {k : Nat} {s : St} {o : Oper} {u : AV} {ks : List Nat} {nu : List (Nat × Option OB)}
theorem ev_of (hs : SftG P Θ o s u ks nu) (hin : ∀ l ∈ nu.map (·.1), inNu nu l) (hB : evB ops k s o ks (nu.map (·.1)) = true) : Ev P Θ ops (fun j => Nat.blt j k) k o s u ks nu := by
  simp only [evB, Bool.and_eq_true] at hB
  obtain ⟨⟨b1, ⟨bf, bc⟩, bo, bn⟩, b2, b3⟩ := hB
  have key : ∀ (j : Nat) (o' : Oper), ops[j]? = some o' → ∀ t ∈ tmpsOf o', freshT ops (fun j => Nat.blt j k) t → ks = [] ∨
      (((ks.all fun l => !((s.sl t).names l)) || (labs (s.sl t)).all fun l => (nu.map (·.1)).contains l) = true ∧ (Nat.beq j k || (ordr ops j k || (labs (s.sl t)).all fun l => match s.hp l with | some ob => ob.e.shut | none => true)) = true) := fun j o' ho t ht hf => by
    rcases (Bool.or_eq_true _ _).mp b2 with h | h
    · exact .inl (List.isEmpty_iff.1 h)
    · have h1 := List.all_eq_true.1 h j (List.mem_range.2 (Array.getElem?_eq_some_iff.1 ho).1)
      simp only [ho] at h1
      have h2 := List.all_eq_true.1 h1 t ht
      rcases (Bool.or_eq_true _ _).mp h2 with h3 | h3
      · exact (lateB_ok h3 hf).elim
      · exact .inr (by simpa [Bool.and_eq_true] using h3)
  refine ⟨hs, fun j o' ho hne hor t ht hf l hl => condB_ok b1 j o' ho hne hor t ht hf l (inNu_mem hl), fun j o' ho t ht hf => ?_, fun j o' ho hne hor t ht hf l ob hn hob => ?_, fun j o' ho hne hor d hd l hl => ?_, fun j o' ho hne hor t ht hf l0 ob l hn hob hl => ?_, ?_, fun hst j o' ho hne hor => ?_, fun hnk => ?_⟩
  · rcases key j o' ho t ht hf with rfl | ⟨h, _⟩
    · exact .inl fun l hl => by cases hl
    · rcases (Bool.or_eq_true _ _).mp h with h | h
      · exact .inl fun l hl => by simpa using List.all_eq_true.1 h l hl
      · exact .inr fun l hl => hin l (by simpa using List.all_eq_true.1 h l (names_labs _ hl))
  · rcases key j o' ho t ht hf with rfl | ⟨_, h⟩
    · exact .inl rfl
    · rw [nbne hne, hor] at h
      simp only [Bool.false_or] at h
      have := List.all_eq_true.1 h l (names_labs _ hn)
      simp only [hob] at this
      exact .inr this
  · have h1 := List.all_eq_true.1 b3 j (List.mem_range.2 (Array.getElem?_eq_some_iff.1 ho).1)
    rw [nbne hne, hor] at h1
    simp only [Bool.false_or, ho, Option.bind_some, hd] at h1
    have := List.all_eq_true.1 h1 l (inNu_mem hl)
    intro e
    rw [e] at this
    simp at this
  · have hm := inNu_mem hl
    rcases (Bool.or_eq_true _ _).mp bf with h | h
    · rw [List.isEmpty_iff.1 h] at hm; cases hm
    · have h1 := List.all_eq_true.1 h j (List.mem_range.2 (Array.getElem?_eq_some_iff.1 ho).1)
      rw [nbne hne, hor] at h1
      simp only [Bool.false_or, ho] at h1
      have h2 := List.all_eq_true.1 h1 t ht
      rcases (Bool.or_eq_true _ _).mp h2 with h3 | h3
      · exact (lateB_ok h3 hf).elim
      · have h4 := List.all_eq_true.1 h3 l0 (names_labs _ hn)
        simp only [hob] at h4
        have h5 := List.all_eq_true.1 h4 l hm
        simpa using h5
  · rcases (Bool.or_eq_true _ _).mp bc with h | h
    · exact .inl (List.isEmpty_iff.1 h)
    · refine .inr fun j o' ho t ht hf l0 ob hn hob => ?_
      have h1 := List.all_eq_true.1 h j (List.mem_range.2 (Array.getElem?_eq_some_iff.1 ho).1)
      simp only [ho] at h1
      have h2 := List.all_eq_true.1 h1 t ht
      rcases (Bool.or_eq_true _ _).mp h2 with h3 | h3
      · exact (lateB_ok h3 hf).elim
      · have h4 := List.all_eq_true.1 h3 l0 (names_labs _ hn)
        simp only [hob] at h4
        exact h4
  · rw [hst] at bo
    have h1 := List.all_eq_true.1 bo j (List.mem_range.2 (Array.getElem?_eq_some_iff.1 ho).1)
    rw [nbne hne, hor] at h1
    simpa only [Bool.false_or, ho] using h1
  · rw [hnk] at bn
    exact List.isEmpty_iff.1 bn
theorem inNu_nil {l : Nat} (h : inNu [] l) : False := by obtain ⟨o, h⟩ := h; simp [nuAt] at h
/-- what only reads -/
theorem sft_calm {v : AV} (hp : Pre P Θ o s ⟨v, none⟩) (hc : calm Θ true o = true) (hv : calm1 o = true ∨ v.within (fun _ => false) = true) : Sft P Θ o s v [] [] := by
  refine ⟨fun s' h1 h2 => ⟨⟨v, none⟩, pre_calm (two := true) hc h1 (fun _ l ⟨x, hx, hn⟩ => ?_) hp, fun K hK => .done hK⟩, fun l ob h => by simp [nuAt] at h, fun l hl => (by cases hl), fun l hl => ?_, fun l hl => (inNu_nil hl).elim, fun l ob hl => (inNu_nil hl).elim⟩
  · cases x with
    | tmp t => exact (h2 l (.inr ⟨t, mem_tmps hx, hn⟩)).1
    | _ => simp [St.ev, AV.names, namesL] at hn
  · rcases hv with hv | hv
    · exact .inr (val_calm1 hv hp l hl)
    · have := within_names v hv hl; cases this
theorem o2_nil {K : St → Prop} (h : K s) : AOps2 P Θ n ops k [] s K := Gh.done h
theorem o2_calm {r : List Oper} {K : St → Prop} {v : AV} (hp : Pre P Θ o s ⟨v, none⟩) (hin : inN n o.dst = true) (hg : o.guard = none) (hc : calm Θ true o = true) (hv : calm1 o = true ∨ v.within (fun _ => false) = true) (hB : evB ops k s o [] [] = true) (h : AOps2 P Θ n ops (k + 1) r (s.put o.dst v) K) : AOps2 P Θ n ops k (o :: r) s K :=
  ⟨hin, hg, .inl ⟨v, [], [], ev_of (sft_calm hp hc hv).g (fun l hl => by cases hl) hB, h⟩⟩
theorem o2_sft {r : List Oper} {K : St → Prop} (hs : Sft P Θ o s u ks nu) (hn : ∀ l ∈ nu.map (·.1), inNu nu l) (hin : inN n o.dst = true) (hg : o.guard = none) (hB : evB ops k s o ks (nu.map (·.1)) = true) (h : AOps2 P Θ n ops (k + 1) r ((shp ks nu s).put o.dst u) K) : AOps2 P Θ n ops k (o :: r) s K :=
  ⟨hin, hg, .inl ⟨u, ks, nu, ev_of hs.g hn hB, h⟩⟩
theorem o2_tied {r : List Oper} {K : St → Prop} {e : Eff} (hp : Pre P Θ o s e) (hin : inN n o.dst = true) (hg : o.guard = none) (ht : tied ops k = true) (h : AOps2 P Θ n ops (k + 1) r (s.app o.dst e) K) : AOps2 P Θ n ops k (o :: r) s K :=
  ⟨hin, hg, .inr ⟨ht, e, hp, .done h⟩⟩
end
end Go.Proofs.Ytmfmclnklpbiaaa.AM
/- Evidence of operations that change rows (AOps2): a call over data, a list without elements, append of a list that is read. -/
namespace Go.Proofs.Ytmfmclnklpbiaaa.AM
open Go Go.RowKit
set_option linter.unusedVariables false
set_option linter.unusedSimpArgs false
set_option maxRecDepth 100000
abbrev noLab (x : AV) : Bool := x.within (fun _ => false)
mutual
theorem dat_nolab (s s' : St) : ∀ x : AV, noLab x = true → s'.dat x = s.dat x
  | .own l, h => by simp [noLab, AV.within] at h
  | .optr l _ _ _, h => by simp [noLab, AV.within] at h
  | .mix xs, h => by unfold St.dat; rw [datL_nolab s s' xs (by simpa [noLab, AV.within] using h)]
  | .ifc t x, h => by unfold St.dat; rw [dat_nolab s s' x (by simpa [noLab, AV.within] using h)]
  | .mapv l, h => by simp [noLab, AV.within] at h
  | .tup xs, h => by simp [St.dat]
  | .fn _ xs ys, h => by simp [St.dat]
  | .any, h => by simp [St.dat]
  | .v _, h => by simp [St.dat]
  | .agg _, h => by simp [St.dat]
  | .lst _ _, h => by simp [St.dat]
  | .ptr _, h => by simp [St.dat]
  | .rd _, h => by simp [St.dat]
theorem datL_nolab (s s' : St) : ∀ xs : List AV, withinL (fun _ => false) xs = true → s'.datL xs = s.datL xs
  | [], _ => by simp [St.datL]
  | x :: xs, h => by
    simp only [withinL, Bool.and_eq_true] at h
    simp only [St.datL]; rw [dat_nolab s s' x h.1, datL_nolab s s' xs h.2]
end
mutual
theorem isData_nolab (s s' : St) : ∀ x : AV, noLab x = true → isDataA s' x = isDataA s x
  | .own l, h => by simp [noLab, AV.within] at h
  | .optr l _ _ _, h => by simp [noLab, AV.within] at h
  | .mix xs, h => by unfold isDataA; rw [isDataL_nolab s s' xs (by simpa [noLab, AV.within] using h)]
  | .ifc t x, h => by simp [isDataA]
  | .mapv l, h => by simp [noLab, AV.within] at h
  | .tup xs, h => by simp [isDataA]
  | .fn _ xs ys, h => by simp [isDataA]
  | .any, h => by simp [isDataA]
  | .v _, h => by simp [isDataA]
  | .agg _, h => by simp [isDataA]
  | .lst _ _, h => by simp [isDataA]
  | .ptr _, h => by simp [isDataA]
  | .rd _, h => by simp [isDataA]
theorem isDataL_nolab (s s' : St) : ∀ xs : List AV, withinL (fun _ => false) xs = true → isDataL s' xs = isDataL s xs
  | [], _ => by simp [isDataL]
  | x :: xs, h => by
    simp only [withinL, Bool.and_eq_true] at h
    simp only [isDataL]; rw [isData_nolab s s' x h.1, isDataL_nolab s s' xs h.2]
end
theorem argA_nolab (s s' : St) (x : AV) (h : noLab x = true) : argA s' x = argA s x := by
  cases x with
  | ifc t y => simp only [argA]; exact isData_nolab s s' y (by simpa [noLab, AV.within] using h)
  | own l => simp [noLab, AV.within] at h
  | optr l i p c => simp [noLab, AV.within] at h
  | mix xs => simp only [argA]; exact isData_nolab s s' (.mix xs) h
  | fn f xs ys => cases xs <;> cases ys <;> simp [argA]
  | _ => simp [argA, isDataA]
theorem argsA_nolab (s s' : St) : ∀ xs : List AV, (xs.all noLab) = true → argsA s' xs = argsA s xs
  | [], _ => rfl
  | x :: xs, h => by
    simp only [List.all_cons, Bool.and_eq_true] at h
    simp only [argsA]; rw [argA_nolab s s' x h.1, argsA_nolab s s' xs h.2]

def nuObs (d : Nat) : Nat → List OB → List (Nat × Option OB)
  | _, [] => []
  | k, ob :: r => (d + 1000 * k, some ob) :: nuObs d (k + 1) r
theorem nuObs_none {d : Nat} : ∀ (r : List OB) (k k' : Nat), k < k' → nuAt (nuObs d k' r) (d + 1000 * k) = none
  | [], _, _, _ => rfl
  | ob :: r, k, k', h => by
    have hne : d + 1000 * k ≠ d + 1000 * k' := by omega
    simp only [nuObs, nuAt]
    rw [nbne hne]; exact nuObs_none r k (k' + 1) (by omega)
theorem nuObs_in {d : Nat} : ∀ (r : List OB) (k l : Nat) (o : Option OB), nuAt (nuObs d k r) l = some o → ∃ j ob, l = d + 1000 * j ∧ o = some ob ∧ ob ∈ r ∧ k ≤ j ∧ r[j - k]? = some ob
  | [], _, _, _, h => by simp [nuObs, nuAt] at h
  | ob :: r, k, l, o, h => by
    simp only [nuObs, nuAt] at h
    cases e : Nat.beq l (d + 1000 * k) with
    | true =>
      rw [e] at h; simp only [cond_true, Option.some.injEq] at h
      exact ⟨k, ob, Nat.eq_of_beq_eq_true e, h.symm, by simp, Nat.le_refl _, by simp⟩
    | false =>
      rw [e] at h
      obtain ⟨j, ob', h1, h2, h3, h4, h5⟩ := nuObs_in r (k + 1) l o h
      exact ⟨j, ob', h1, h2, List.mem_cons_of_mem _ h3, by omega, by
        have : j - k = (j - (k + 1)) + 1 := by omega
        rw [this, List.getElem?_cons_succ]; exact h5⟩
theorem nuObs_free {s : St} {d : Nat} : ∀ (r : List OB) (k : Nat), freeObs s d k r → ∀ j, k ≤ j → j < k + r.length → s.hp (d + 1000 * j) = none
  | [], k, _, j, h1, h2 => by simp at h2; omega
  | ob :: r, k, h, j, h1, h2 => by
    unfold freeObs at h
    rcases Nat.eq_or_lt_of_le h1 with e | e
    · subst e; exact h.1.1
    · exact nuObs_free r (k + 1) h.2 j (by omega) (by simp at h2; omega)
theorem freeObs_loc {s s' : St} {d : Nat} : ∀ (r : List OB) (k : Nat), (∀ j, k ≤ j → j < k + r.length → s'.hp (d + 1000 * j) = s.hp (d + 1000 * j)) → freeObs s d k r → freeObs s' d k r
  | [], _, _, _ => trivial
  | ob :: r, k, hh, h => by
    unfold freeObs at h ⊢
    exact ⟨⟨(hh k (Nat.le_refl _) (by simp)).trans h.1.1, h.1.2⟩, freeObs_loc r (k + 1) (fun j h1 h2 => hh j (by omega) (by simp; omega)) h.2⟩
theorem nuObs_mem {d : Nat} : ∀ (r : List OB) (k j : Nat), k ≤ j → j < k + r.length → inNu (nuObs d k r) (d + 1000 * j)
  | [], k, j, h1, h2 => by simp at h2; omega
  | ob :: r, k, j, h1, h2 => by
    unfold inNu
    simp only [nuObs, nuAt]
    cases e : Nat.beq (d + 1000 * j) (d + 1000 * k) with
    | true => exact ⟨_, rfl⟩
    | false =>
      have hne : j ≠ k := fun h => by subst h; rw [Nat.beq_refl] at e; cases e
      exact nuObs_mem r (k + 1) j (by omega) (by simp at h2; omega)
theorem setObs_shp {d : Nat} : ∀ (r : List OB) (k : Nat) (s : St), setObs d k r s = shp [] (nuObs d k r) s
  | [], k, s => rfl
  | ob :: r, k, s => by
    show setObs d (k + 1) r (s.set (d + 1000 * k) (some ob)) = _
    rw [setObs_shp r (k + 1)]
    unfold shp St.set
    congr 1
    · funext j
      simp only [nuObs, nuAt]
      cases e : Nat.beq j (d + 1000 * k) with
      | true =>
        have := Nat.eq_of_beq_eq_true e
        subst this
        rw [nuObs_none r k (k + 1) (by omega)]; rfl
      | false => rfl
    · funext j
      simp only [nuObs, nuAt]
      cases e : Nat.beq j (d + 1000 * k) with
      | true =>
        have := Nat.eq_of_beq_eq_true e
        subst this
        rw [nuObs_none r k (k + 1) (by omega)]; rfl
      | false => rfl
section
variable {P : Program} {Θ : Tab} {s : St} {ty : TypeId} {pos : String} {after : Array Edge} {g : Option (Nat × Bool)}
/-- a call whose arguments are data -/
theorem sft_call {f : FuncId} {ags : Array Operand} {ts : Array TypeId} {t : Nat} {args : List AV} {out : Out} (hac : AC P f args out) (ha : (ags.toList.map fun x => s.dat (s.ev x)) = args) (hfl : (ownsOf s ags.toList).isEmpty = true) (hw : (ags.toList.map s.ev).all noLab = true) (hfr : freeObs s (t + 1) 0 out.obs) (hok : argsA s (ags.toList.map s.ev) = true) (hc : csOK ags.toList = true)
    (hv : (ren (t + 1) out.val).within (fun l => (nuAt (nuObs (t + 1) 0 out.obs) l).isSome) = true) :
    Sft P Θ ⟨some t, .call ⟨.value (.func f), ags, ts⟩, ty, pos, after, g⟩ s (ren (t + 1) out.val) [] (nuObs (t + 1) 0 out.obs) := by
  have hsh := free_shut out.obs 0 hfr
  refine ⟨fun s' h1 h2 => ?_, fun l ob h => ?_, fun l hl => (by cases hl), fun l hl => ?_, fun l ⟨o, hl⟩ => ?_, fun l ob ⟨o, hl⟩ ho => ?_⟩
  · have hev : ∀ x ∈ ags.toList, s'.ev x = s.ev x := fun x hx => h1 x (by simp [Op.operands, Call.operands] at hx ⊢; exact .inr hx)
    have hmap : ags.toList.map s'.ev = ags.toList.map s.ev := List.map_congr_left hev
    refine ⟨⟨ren (t + 1) out.val, setU (t + 1) out.obs⟩, p_call hac ?_ (.inl ?_) (freeObs_loc out.obs 0 (fun j h3 h4 => (h2 _ (.inl (nuObs_mem out.obs 0 j h3 h4))).1) hfr) ?_ hc, fun K hK => .done ?_⟩
    · rw [← ha]
      refine List.map_congr_left fun x hx => ?_
      rw [hev x hx]
      exact dat_nolab s s' _ (List.all_eq_true.1 hw _ (List.mem_map_of_mem hx))
    · unfold ownsOf at hfl ⊢; rw [hmap]; exact hfl
    · rw [hmap, argsA_nolab s s' _ hw]; exact hok
    · cases ho : out.obs with
      | nil => rw [ho] at hK; exact hK
      | cons ob r =>
        rw [ho] at hK
        show K ((setObs (t + 1) 0 (ob :: r) s').put (some t) (ren (t + 1) out.val))
        rw [setObs_shp]; exact hK
  · obtain ⟨j, ob', _, e, hm, _⟩ := nuObs_in out.obs 0 l _ h
    cases e; exact hsh ob hm
  · have := within_names _ hv hl
    obtain ⟨o, ho⟩ := Option.isSome_iff_exists.1 this
    exact .inl ⟨o, ho⟩
  · obtain ⟨j, ob', e, _⟩ := nuObs_in out.obs 0 l _ hl
    exact .inl ⟨t, rfl, by rw [e]; omega⟩
  · obtain ⟨j, ob', e, _, _, h4, h5⟩ := nuObs_in out.obs 0 l _ hl
    have hj := (List.getElem?_eq_some_iff.1 h5).1
    have := nuObs_free out.obs 0 hfr j h4 (by omega)
    rw [← e, ho] at this; cases this
end
end Go.Proofs.Ytmfmclnklpbiaaa.AM
/- Evidence of operations that change rows (AOps2): a list without elements; append of a list that is read. -/
namespace Go.Proofs.Ytmfmclnklpbiaaa.AM
open Go Go.RowKit
set_option linter.unusedVariables false
set_option linter.unusedSimpArgs false
set_option maxRecDepth 100000
theorem shp_set (l : Nat) (ob : OB) (s : St) : s.set l (some ob) = shp [] [(l, some ob)] s := by
  unfold shp St.set
  congr 1
  · funext j; show (bif Nat.beq j l then some ob else s.hp j) = (match (bif Nat.beq j l then some (some ob) else none) with | some o => o | none => s.hp j)
    cases Nat.beq j l <;> rfl
  · funext j; show (bif Nat.beq j l then none else s.mp j) = (match (bif Nat.beq j l then some (some ob) else none) with | some _ => none | none => s.mp j)
    cases Nat.beq j l <;> rfl
theorem shp_app (l : Nat) (ob : OB) (s : St) : (s.kill l).set l (some ob) = shp [l] [(l, some ob)] s := by
  unfold shp St.set St.kill
  congr 1
  · funext j; show (bif (s.sl j).names l then AV.any else s.sl j) = fgt [l] (s.sl j); unfold fgt; simp
  · funext j; show (bif Nat.beq j l then some ob else killO l (s.hp j)) = (match (bif Nat.beq j l then some (some ob) else none) with | some o => o | none => killO l (s.hp j))
    cases Nat.beq j l <;> rfl
  · funext j; show (bif Nat.beq j l then none else s.mp j) = (match (bif Nat.beq j l then some (some ob) else none) with | some _ => none | none => s.mp j)
    cases Nat.beq j l <;> rfl
theorem nu1 {l m : Nat} {ob : OB} {o : Option OB} (h : nuAt [(l, some ob)] m = some o) : m = l ∧ o = some ob := by
  simp only [nuAt] at h
  cases e : Nat.beq m l with
  | true => rw [e] at h; simp only [cond_true, Option.some.injEq] at h; exact ⟨Nat.eq_of_beq_eq_true e, h.symm⟩
  | false => rw [e] at h; cases h
theorem in1 (l : Nat) (ob : OB) : inNu [(l, some ob)] l := ⟨some ob, by simp [nuAt]⟩
section
variable {P : Program} {Θ : Tab} {s : St} {ty : TypeId} {pos : String} {after : Array Edge} {g : Option (Nat × Bool)}
theorem sft_bsl0 {d : Nat} {t : TypeId} {el sz b : Nat} {z : AV} (hf : s.hp (d + 1) = none) (ht : Θ.look t = .slice el sz b z) (hok : okL (d + 1) = true := by rfl) :
    Sft P Θ ⟨some d, .buildSlice t 0 #[], ty, pos, after, g⟩ s (.own (d + 1)) [] [(d + 1, some ⟨.s el, sz, []⟩)] := by
  refine ⟨fun s' h1 h2 => ⟨⟨.own (d + 1), some fun s'' => s''.set (d + 1) (some ⟨.s el, sz, []⟩)⟩, ?_, fun K hK => .done ?_⟩, fun l ob h => ?_, fun l hl => (by cases hl), fun l hl => .inl ?_, fun l ⟨o, hl⟩ => .inl ?_, fun l ob ⟨o, hl⟩ ho => ?_⟩
  · exact ⟨d, el, sz, b, z, rfl, (h2 _ (.inl (in1 _ _))).1.trans hf, hok, ht, by omega, .inl ⟨trivial, fun x hx => by simp at hx, by simp [ownsOf, ownsAL], by simp [ownsOf, ownsAL, frzT, setParts]⟩⟩
  · rw [app_some, shp_set]; exact hK
  · obtain ⟨_, e⟩ := nu1 h; cases e; rfl
  · simp only [AV.names] at hl; rw [← Nat.eq_of_beq_eq_true hl]; exact in1 _ _
  · obtain ⟨rfl, _⟩ := nu1 hl; exact ⟨d, rfl, rfl⟩
  · obtain ⟨rfl, _⟩ := nu1 hl; rw [hf] at ho; cases ho
theorem sft_appl {d : Option Tmp} {tx : Tmp} {y : Operand} {t el sz b l : Nat} {e0 : ET} {z : AV} {xs ys : List AV} (hx : s.sl tx = .own l) (hy : s.ev y = .lst sz ys) (ho : s.hp l = some ⟨e0, sz, xs⟩) (ht : Θ.look t = .slice el sz b z) (hb : (xs.length + ys.length) * b ≤ 140737488355328) (hb1 : Nat.ble 1 b = true) (he : (e0 = .s el ∨ e0 = .z el) := by first | exact .inl rfl | exact .inr rfl) (hok : okL l = true := by rfl) :
    Sft P Θ ⟨d, .call ⟨.builtin .append, #[.tmp tx, y], #[t, t]⟩, ty, pos, after, g⟩ s (.own l) [l] [(l, some ⟨.s el, sz, xs ++ ys⟩)] := by
  have hb1' := Nat.le_of_ble_eq_true hb1
  have hm : xs.length + ys.length ≤ maxLen := by
    have : (xs.length + ys.length) * 1 ≤ (xs.length + ys.length) * b := Nat.mul_le_mul_left _ hb1'
    unfold maxLen; omega
  have hmem : tx ∈ tmpsOf (⟨d, .call ⟨.builtin .append, #[.tmp tx, y], #[t, t]⟩, ty, pos, after, g⟩ : Oper) := mem_tmps (by simp [Op.operands, Call.operands])
  have hnm : namedBy s (⟨d, .call ⟨.builtin .append, #[.tmp tx, y], #[t, t]⟩, ty, pos, after, g⟩ : Oper) l := ⟨tx, hmem, by rw [hx]; simp [AV.names]⟩
  refine ⟨fun s' h1 h2 => ⟨⟨.own l, some fun s'' => (s''.kill l).set l (some ⟨.s el, sz, xs ++ ys⟩)⟩, ?_, fun K hK => .done ?_⟩, fun m ob h => ?_, fun m hl => ?_, fun m hl => .inl ?_, fun m ⟨o, hl⟩ => .inr ?_, fun m ob ⟨o, hl⟩ hob => ?_⟩
  · have e1 : s'.ev (.tmp tx) = .own l := (h1 _ (by simp [Op.operands, Call.operands])).trans hx
    have e2 : s'.ev y = .lst sz ys := (h1 _ (by simp [Op.operands, Call.operands])).trans hy
    exact ⟨.tmp tx, y, t, el, sz, b, z, l, _, ys, rfl, rfl, ht, e1, (h2 _ (.inl (in1 _ _))).1.trans ho, hok, rfl, hb, hm, .inl ⟨el, he, rfl, .inl e2, rfl⟩⟩
  · rw [app_some, shp_app]; exact hK
  · obtain ⟨_, e⟩ := nu1 h; cases e; rfl
  · rw [List.mem_singleton] at hl; subst hl; exact in1 _ _
  · simp only [AV.names] at hl; rw [← Nat.eq_of_beq_eq_true hl]; exact in1 _ _
  · obtain ⟨rfl, _⟩ := nu1 hl; exact hnm
  · obtain ⟨rfl, _⟩ := nu1 hl
    rw [ho] at hob; cases hob
    rcases he with rfl | rfl <;> rfl
end
end Go.Proofs.Ytmfmclnklpbiaaa.AM
/- Evidence of operations that change rows (AOps2): a list of one struct with own lists, folded; append in depth. -/
namespace Go.Proofs.Ytmfmclnklpbiaaa.AM
open Go Go.RowKit
set_option linter.unusedVariables false
set_option linter.unusedSimpArgs false
set_option maxRecDepth 100000
section
variable {P : Program} {Θ : Tab} {s : St} {ty : TypeId} {pos : String} {after : Array Edge} {g : Option (Nat × Bool)}
end
end Go.Proofs.Ytmfmclnklpbiaaa.AM
/- Evidence of operations in a region that draws (AOps2): a cell made, a cell filled with something that holds labels, such a cell read, a call that reads rows of the call's own. -/
namespace Go.Proofs.Ytmfmclnklpbiaaa.AM
open Go Go.RowKit
set_option linter.unusedVariables false
set_option linter.unusedSimpArgs false
set_option maxRecDepth 100000
mutual
theorem dat_loc {s s' : St} : ∀ x : AV, (∀ l, x.names l = true → s'.hp l = s.hp l) → s'.dat x = s.dat x ∧ isDataA s' x = isDataA s x
  | .own l, h => by
    have := h l (by simp [AV.names])
    simp only [St.dat, isDataA, this, and_self]
  | .optr l i p c, h => by
    have := h l (by simp [AV.names])
    simp only [St.dat, isDataA, this, and_self]
  | .mix xs, h => by
    obtain ⟨h1, h2⟩ := datL_loc xs (fun l hl => h l (by simpa [AV.names] using hl))
    simp only [St.dat, isDataA, h1, h2, and_self]
  | .ifc t x, h => by
    obtain ⟨h1, _⟩ := dat_loc x (fun l hl => h l (by simpa [AV.names] using hl))
    simp only [St.dat, isDataA, h1, and_self]
  | .rd x, _ => ⟨rfl, rfl⟩
  | .any, _ => ⟨rfl, rfl⟩
  | .v _, _ => ⟨rfl, rfl⟩
  | .agg _, _ => ⟨rfl, rfl⟩
  | .lst _ _, _ => ⟨rfl, rfl⟩
  | .ptr _, _ => ⟨rfl, rfl⟩
  | .tup _, _ => ⟨rfl, rfl⟩
  | .mapv _, _ => ⟨rfl, rfl⟩
  | .fn _ _ _, _ => ⟨rfl, rfl⟩
theorem datL_loc {s s' : St} : ∀ xs : List AV, (∀ l, namesL l xs = true → s'.hp l = s.hp l) → s'.datL xs = s.datL xs ∧ isDataL s' xs = isDataL s xs
  | [], _ => ⟨rfl, rfl⟩
  | x :: xs, h => by
    obtain ⟨h1, h2⟩ := dat_loc x (fun l hl => h l (by simp [namesL, hl]))
    obtain ⟨h3, h4⟩ := datL_loc xs (fun l hl => h l (by simp [namesL, hl]))
    simp only [St.datL, isDataL, h1, h2, h3, h4, and_self]
end
theorem kz_shut (t : Nat) (z : AV) : (kz t z).shut = true := by unfold kz; cases noLst z <;> rfl
section
variable {P : Program} {Θ : Tab} {s : St} {ty : TypeId} {pos : String} {after : Array Edge} {g : Option (Nat × Bool)}
/-- a cell is made -/
theorem sft_allo {t : TypeId} {d : Nat} (hf : s.hp (d + 1) = none) (hk : (Θ.look t).known = true) (hok : okL (d + 1) = true := by rfl) :
    Sft P Θ ⟨some d, .alloc t, ty, pos, after, g⟩ s (.optr (d + 1) 0 [] 0) [] [(d + 1, some ⟨kz t (Θ.look t).zero, (Θ.look t).size, [(Θ.look t).zero]⟩)] := by
  refine ⟨fun s' h1 h2 => ⟨⟨.optr (d + 1) 0 [] 0, some fun s => s.set (d + 1) (some ⟨kz t (Θ.look t).zero, (Θ.look t).size, [(Θ.look t).zero]⟩)⟩, p_allo ((h2 _ (.inl (in1 _ _))).1.trans hf) hk hok, fun K hK => .done ?_⟩, fun l ob h => ?_, fun l hl => (by cases hl), fun l hl => .inl ?_, fun l ⟨o, hl⟩ => .inl ?_, fun l ob ⟨o, hl⟩ ho => ?_⟩
  · rw [app_some, shp_set]; exact hK
  · obtain ⟨_, e⟩ := nu1 h; cases e; exact kz_shut _ _
  · simp only [AV.names] at hl; rw [← Nat.eq_of_beq_eq_true hl]; exact in1 _ _
  · obtain ⟨rfl, _⟩ := nu1 hl; exact ⟨d, rfl, rfl⟩
  · obtain ⟨rfl, _⟩ := nu1 hl; rw [hf] at ho; cases ho
theorem in_nuO {d k : Nat} {obs : List OB} : ∀ l ∈ (nuObs d k obs).map (·.1), inNu (nuObs d k obs) l := by
  induction obs generalizing k with
  | nil => intro l hl; cases hl
  | cons ob r ih =>
    intro l hl
    unfold inNu
    simp only [nuObs, List.map_cons, List.mem_cons] at hl
    simp only [nuObs, nuAt]
    cases e : Nat.beq l (d + 1000 * k) with
    | true => exact ⟨_, rfl⟩
    | false =>
      rcases hl with h | h
      · rw [h, Nat.beq_refl] at e; cases e
      · obtain ⟨o, ho⟩ := ih l h; exact ⟨o, ho⟩
theorem in_o1 {l : Nat} {ob : OB} : ∀ m ∈ ([(l, some ob)] : List (Nat × Option OB)).map (·.1), inNu [(l, some ob)] m := fun m hm => by
  simp only [List.map_cons, List.map_nil, List.mem_singleton] at hm
  subst hm; exact in1 _ _
theorem in_o0 : ∀ m ∈ ([] : List (Nat × Option OB)).map (·.1), inNu [] m := fun m hm => by cases hm
end
theorem parts_nolab {s s' : St} : ∀ (ps : List (Nat × Operand)) (z : List AV), (∀ x ∈ ps, s'.ev x.2 = s.ev x.2 ∧ noLab (s.ev x.2) = true) → setParts s' z ps = setParts s z ps ∧ (partsOK s z ps → partsOK s' z ps)
  | [], z, _ => ⟨rfl, fun h => h⟩
  | (i, x) :: ps, z, h => by
    obtain ⟨h1, h2⟩ := h (i, x) (by simp)
    simp only at h1 h2
    have e1 : s'.dat (s'.ev x) = s.dat (s.ev x) := by rw [h1, dat_nolab s s' _ h2]
    have e2 : isDataA s' (s'.ev x) = isDataA s (s.ev x) := by rw [h1, isData_nolab s s' _ h2]
    obtain ⟨q1, q2⟩ := parts_nolab ps (z.set i (s.dat (s.ev x))) (fun y hy => h y (List.mem_cons_of_mem _ hy))
    unfold setParts partsOK
    rw [e1, e2]
    exact ⟨q1, fun ⟨a, b, c⟩ => ⟨a, b, q2 c⟩⟩
section
variable {P : Program} {Θ : Tab} {s : St} {ty : TypeId} {pos : String} {after : Array Edge} {g : Option (Nat × Bool)}
/-- a struct's value put together out of data -/
theorem sft_bld {d : Option Tmp} {t : TypeId} {ps : Array (Nat × Operand)} {fs : List (Nat × Nat)} {z : List AV} (ht : Θ.look t = .struct fs z) (hp : partsOK s z ps.toList) (hc : csOK (ps.toList.map (·.2)) = true) (hw : (ps.toList.all fun x => noLab (s.ev x.2)) = true) (ho : ownsOf s (ps.toList.map (·.2)) = []) :
    Sft P Θ ⟨d, .build t ps, ty, pos, after, g⟩ s (.agg (setParts s z ps.toList)) [] [] := by
  refine ⟨fun s' h1 h2 => ⟨⟨.agg (setParts s z ps.toList), none⟩, ?_, fun K hK => .done hK⟩, fun l ob h => by simp [nuAt] at h, fun l hl => (by cases hl), fun l hl => by simp [AV.names] at hl, fun l hl => (inNu_nil hl).elim, fun l ob hl => (inNu_nil hl).elim⟩
  have hev : ∀ x ∈ ps.toList, s'.ev x.2 = s.ev x.2 := fun x hx => h1 x.2 (by simp [Op.operands]; exact ⟨x.1, by simpa using hx⟩)
  obtain ⟨q1, q2⟩ := parts_nolab (s := s) (s' := s') ps.toList z (fun x hx => ⟨hev x hx, List.all_eq_true.1 hw x hx⟩)
  have ho' : ownsOf s' (ps.toList.map (·.2)) = [] := by
    rw [← ho]; unfold ownsOf
    congr 1
    rw [List.map_map, List.map_map]
    exact List.map_congr_left fun x hx => hev x hx
  refine ⟨fs, z, ht, .inl ⟨q2 hp, csOK_spec hc, by rw [ho']; rfl, ?_⟩⟩
  rw [ho', q1]; rfl
end
end Go.Proofs.Ytmfmclnklpbiaaa.AM
namespace Go.Proofs.Ytmfmclnklpbiaaa.AM
open Go Go.RowKit
set_option linter.unusedVariables false
set_option linter.unusedSimpArgs false
set_option maxRecDepth 100000
theorem r_lst1 {s : St} {t l sz : Nat} {e : ET} {xs : List AV} {Θ : Tab} (h : s.sl t = .own l) (ho : s.hp l = some ⟨e, sz, xs⟩) (hok : okL l = true := by rfl) (hsh : e.shut = true := by rfl) : RetQ Θ [.tmp t] ⟨.lst sz xs, []⟩ .ret s :=
  ⟨trivial, [], by simp, trivial, ⟨trivial, trivial⟩, trivial, ⟨ra_o h ho hok hsh, trivial⟩⟩
theorem r_ptr1 {s : St} {t l : Nat} {ob : OB} {Θ : Tab} (h : s.sl t = .optr l 0 [] 0) (ho : s.hp l = some ob) (hok : okL l = true := by rfl) (hsh : ob.e.shut = true := by rfl) : RetQ Θ [.tmp t] ⟨.optr 0 0 [] 0, [ob]⟩ .ret s :=
  ⟨trivial, [l], by simp, ⟨⟨ho, hok, hsh⟩, trivial⟩, ⟨trivial, trivial⟩, trivial, ⟨.inl ⟨h, rfl⟩, trivial⟩⟩
attribute [local irreducible] ACode AOps AOps2 RetG RetM Pre ACG
def src0 (c : List UInt8) : Src := ⟨0, ((c.length % 1000 : Nat) : Int)⟩
theorem src0_ok (c : List UInt8) : (src0 c).ok 0 := ⟨Nat.le_refl _, by unfold src0; simp only; omega, by unfold src0; simp only; omega⟩
theorem ac_source {c : List UInt8} (hc : c.length ≤ maxLen) : AC Try.prog 50 [.lst 1 (c.map bytA)] ⟨.optr 0 0 [] 0, [srcO c (src0 c)]⟩ := by
  unfold maxLen at hc
  have hm : ((c.length : Nat) : Int) % 1000 = ((c.length % 1000 : Nat) : Int) := by omega
  refine r_of Th_ok (by kernel_rfl) Try.func50 rfl Try.ntmps50 Try.results50 (by kernel_rfl) rfl ?_; conv => whnf
  repeat (first | (refine r_put (p_bin (b_rem2 (by omega) (by omega) hm) rfl rfl rfl) rfl rfl ?_; conv => whnf) | ((first | refine qb rfl rfl ?_ | refine qi (by assumption) rfl rfl ?_ | refine ql rfl ?_ | refine qo rfl rfl ?_ | refine qs rfl rfl ?_ | refine qn rfl rfl ?_); conv => whnf))
  exact r_ptr1 rfl rfl
end Go.Proofs.Ytmfmclnklpbiaaa.AM
namespace Go.Proofs.Ytmfmclnklpbiaaa.AM
open Go Go.RowKit
set_option linter.unusedVariables false
set_option linter.unusedSimpArgs false
set_option maxRecDepth 100000

abbrev okN (s : ByteArray) : Bool := Nm.nameOK s.data.toList
def refB (r : Rf) : Bool := okN r.name && (decide (1 ≤ r.ver ∧ r.ver ≤ 1000000) && (if r.gone = true then decide (r.head = 0) else decide (1 ≤ r.head ∧ r.head ≤ 60)))
def rAt : List Rf → ByteArray → Nat → Int
  | [], _, _ => -1
  | y :: l, x, k => if y.name = x then k else rAt l x (k + 1)
theorem rAt_drop {l : List Rf} {x : ByteArray} {k : Nat} (h : k < l.length) : rAt (l.drop k) x k = if l[k].name = x then (k : Int) else rAt (l.drop (k + 1)) x (k + 1) := by
  rw [List.drop_eq_getElem_cons h, rAt]
theorem rAt_spec : ∀ (l : List Rf) (x : ByteArray) (k : Nat), (rAt l x k = -1 ∧ ∀ i (h : i < l.length), l[i].name ≠ x) ∨ ∃ j, ∃ h : j < l.length, rAt l x k = ((k + j : Nat) : Int) ∧ l[j].name = x ∧ ∀ i (hi : i < j), (l[i]'(by omega)).name ≠ x
  | [], x, k => .inl ⟨rfl, fun i h => by simp at h⟩
  | y :: l, x, k => by
    unfold rAt
    by_cases e : y.name = x
    · rw [if_pos e]; exact .inr ⟨0, by simp, by simp, e, fun i h => by omega⟩
    · rw [if_neg e]
      rcases rAt_spec l x (k + 1) with ⟨h1, h2⟩ | ⟨j, hj, h1, h2, h3⟩
      · refine .inl ⟨h1, fun i h => ?_⟩
        cases i with
        | zero => exact e
        | succ i => exact h2 i (by simpa using h)
      · refine .inr ⟨j + 1, by simpa using hj, by rw [h1]; omega, h2, fun i h => ?_⟩
        cases i with
        | zero => exact e
        | succ i => exact h3 i (by omega)
theorem rAt_take {l : List Rf} {i : Nat} (h : i < l.length) : rAt l l[i].name 0 = (i : Int) ↔ rAt (l.take i) l[i].name 0 < 0 := by
  rcases rAt_spec (l.take i) l[i].name 0 with ⟨h1, h2⟩ | ⟨j, hj, h1, h2, h3⟩
  · rw [h1]
    refine ⟨fun _ => by omega, fun _ => ?_⟩
    rcases rAt_spec l l[i].name 0 with ⟨k1, k2⟩ | ⟨j, hj, k1, k2, k3⟩
    · exact absurd rfl (k2 i h)
    · rw [k1]
      rcases Nat.lt_trichotomy j i with q | q | q
      · exact absurd (by rw [List.getElem_take]; exact k2) (h2 j (by simp; omega))
      · omega
      · exact absurd rfl (k3 i q)
  · rw [h1]
    have hji : j < i := by simp at hj; omega
    refine ⟨fun e => ?_, fun e => by omega⟩
    rcases rAt_spec l l[i].name 0 with ⟨k1, k2⟩ | ⟨j', hj', k1, k2, k3⟩
    · omega
    · rw [k1] at e
      have : j' = i := by omega
      subst this
      exact absurd (by rw [← h2, List.getElem_take]) (k3 j hji)
theorem rAt_lt {l : List Rf} {x : ByteArray} (h : 0 ≤ rAt l x 0) : ∃ j, ∃ hj : j < l.length, rAt l x 0 = (j : Int) ∧ l[j].name = x := by
  rcases rAt_spec l x 0 with ⟨h1, _⟩ | ⟨j, hj, h1, h2, _⟩
  · omega
  · exact ⟨j, hj, by rw [h1]; simp, h2⟩
def refG (l : List Rf) (i : Nat) : Prop := ∃ h : i < l.length, refB l[i] = true ∧ rAt (l.take i) l[i].name 0 < 0
open Classical in
noncomputable def refsB (l : List Rf) : Bool := decide (l.length ≤ 8 ∧ ∀ i, i < l.length → refG l i)
theorem refsB_f {l : List Rf} (h : ¬ (l.length ≤ 8 ∧ ∀ i, i < l.length → refG l i)) : refsB l = false := by unfold refsB; simpa using h
theorem refsB_t {l : List Rf} (h : l.length ≤ 8 ∧ ∀ i, i < l.length → refG l i) : refsB l = true := by unfold refsB; simpa using h
theorem refsB_of {l : List Rf} (h : refsB l = true) : l.length ≤ 8 ∧ ∀ i, i < l.length → refG l i := by unfold refsB at h; simpa using h
theorem ent_39 : ∀ vs w, (callFunc 39 vs).run Try.prog w = .ok (.enter 39 vs) w := ent_of Try.func39 (by kernel_rfl) (by kernel_rfl)
theorem ent_43 : ∀ vs w, (callFunc 43 vs).run Try.prog w = .ok (.enter 43 vs) w := ent_of Try.func43 (by kernel_rfl) (by kernel_rfl)
theorem ac_l00Word {s : ByteArray} {b : Bool} (hs : s.size ≤ maxLen) (hb : okN s = b) : AC Try.prog 39 [.v (.string s)] ⟨.v (.bool b), []⟩ :=
  hb ▸ ac_val ent_39 rfl fun w S0 vs hS hv => by
    obtain ⟨u', rfl, h2⟩ := rvs1 hv
    rw [arg_v h2]
    exact (l00Word_any s w hs).mono fun e w' ⟨h1, h2⟩ => ⟨h1, by subst h2; exact Below.refl _ _⟩
theorem ac_nameOK {s : ByteArray} {b : Bool} (hs : s.size ≤ maxLen) (hb : okN s = b) : AC Try.prog 43 [.v (.string s)] ⟨.v (.bool b), []⟩ :=
  hb ▸ ac_val ent_43 rfl fun w S0 vs hS hv => by
    obtain ⟨u', rfl, h2⟩ := rvs1 hv
    rw [arg_v h2]
    exact (nameOK_any s w hs).mono fun e w' ⟨h1, h2⟩ => ⟨h1, by subst h2; exact Below.refl _ _⟩
attribute [local irreducible] ACode AOps AOps2 RetG RetM Pre ACG
theorem ac_headOK_t {x : Int} (h : 1 ≤ x) (h' : x ≤ 60) : AC Try.prog 90 [.v (.int .i64 x)] ⟨.v (.bool true), []⟩ := by
  refine r_of Th_ok (by kernel_rfl) Try.func90 rfl Try.ntmps90 Try.results90 (by kernel_rfl) rfl ?_; conv => whnf
  repeat (((first | refine qb rfl rfl ?_ | refine qi (by assumption) rfl rfl ?_ | refine ql rfl ?_ | refine qo rfl rfl ?_ | refine qs rfl rfl ?_ | refine qn rfl rfl ?_); conv => whnf))
  exact r_ret1 rfl trivial
theorem ac_headOK_f {x : Int} (h : ¬ (1 ≤ x ∧ x ≤ 60)) : AC Try.prog 90 [.v (.int .i64 x)] ⟨.v (.bool false), []⟩ := by
  by_cases h1 : 1 ≤ x
  · refine r_of Th_ok (by kernel_rfl) Try.func90 rfl Try.ntmps90 Try.results90 (by kernel_rfl) rfl ?_; conv => whnf
    repeat (((first | refine qb rfl rfl ?_ | refine qi (by assumption) rfl rfl ?_ | refine ql rfl ?_ | refine qo rfl rfl ?_ | refine qs rfl rfl ?_ | refine qn rfl rfl ?_); conv => whnf))
    exact r_ret1 rfl trivial
  · refine r_of Th_ok (by kernel_rfl) Try.func90 rfl Try.ntmps90 Try.results90 (by kernel_rfl) rfl ?_; conv => whnf
    repeat (((first | refine qb rfl rfl ?_ | refine qi (by assumption) rfl rfl ?_ | refine ql rfl ?_ | refine qo rfl rfl ?_ | refine qs rfl rfl ?_ | refine qn rfl rfl ?_); conv => whnf))
    exact r_ret1 rfl trivial
theorem ac_l04At {l : List Rf} {x : ByteArray} (hm : l.length ≤ maxLen) : AC Try.prog 78 [.lst 4 (l.map refA), .v (.string x)] ⟨.v (.int .i64 (rAt l x 0)), []⟩ := by
  unfold maxLen at hm
  refine r_of Th_ok (by kernel_rfl) Try.func78 rfl Try.ntmps78 Try.results78 (by kernel_rfl) rfl ?_; conv => whnf
  refine r_loop (ι := { k : Nat // k ≤ l.length ∧ rAt (l.drop k) x k = rAt l x 0 }) (fun k => ⟨[(0, .lst 4 (l.map refA)), (1, .v (.string x)), (5, .v (.int .i64 (k.1 : Int)))], []⟩) (fun k => l.length - k.1) ⟨0, Nat.zero_le _, rfl⟩ (by refine ⟨?_, ?_⟩ <;> (repeat (first | trivial | exact ⟨rfl, trivial⟩ | refine ⟨rfl, ?_⟩ | refine ⟨.inl ⟨rfl, rfl⟩, ?_⟩ | refine ⟨.inr ⟨_, _, rfl, rfl, rfl, rfl, rfl⟩, ?_⟩))) ?_
  rintro ⟨k, hk, hd⟩
  dsimp only at hk hd ⊢
  conv => whnf
  by_cases hlt : k < l.length
  · rw [rAt_drop hlt] at hd
    by_cases he : l[k].name = x
    · rw [if_pos he] at hd
      rw [← hd]
      repeat (first | ((first | refine qb rfl rfl ?_ | refine qi (by assumption) rfl rfl ?_ | refine ql rfl ?_ | refine qo rfl rfl ?_ | refine qs rfl rfl ?_ | refine qn rfl rfl ?_); conv => whnf) | (refine r_put (p_bin (b_seq_t he) rfl rfl rfl) rfl rfl ?_; conv => whnf))
      exact r_ret1 rfl trivial
    · rw [if_neg he] at hd
      repeat (first | ((first | refine qb rfl rfl ?_ | refine qi (by assumption) rfl rfl ?_ | refine ql rfl ?_ | refine qo rfl rfl ?_ | refine qs rfl rfl ?_ | refine qn rfl rfl ?_); conv => whnf) | (refine r_put (p_bin (b_seq_f he) rfl rfl rfl) rfl rfl ?_; conv => whnf))
      exact ⟨⟨k + 1, hlt, hd⟩, by refine ⟨?_, ?_⟩ <;> (repeat (first | trivial | exact ⟨rfl, trivial⟩ | refine ⟨rfl, ?_⟩ | refine ⟨.inl ⟨rfl, rfl⟩, ?_⟩ | refine ⟨.inr ⟨_, _, rfl, rfl, rfl, rfl, rfl⟩, ?_⟩)), by simp; omega⟩
  · rw [← hd, List.drop_eq_nil_of_le (by omega)]
    repeat (((first | refine qb rfl rfl ?_ | refine qi (by assumption) rfl rfl ?_ | refine ql rfl ?_ | refine qo rfl rfl ?_ | refine qs rfl rfl ?_ | refine qn rfl rfl ?_); conv => whnf))
    exact r_ret1 rfl trivial
theorem ac_placeF {r : Rf} {x : ByteArray} {b : Bool} (hb : decide (r.name = x) = b) : AC Try.prog 105 [refA r, .ptr (.v (.string x))] ⟨.v (.bool b), []⟩ := by
  by_cases h : r.name = x
  · rw [← hb, decide_eq_true h]
    refine r_of Th_ok (by kernel_rfl) Try.func105 rfl Try.ntmps105 Try.results105 (by kernel_rfl) rfl ?_; conv => whnf
    repeat (first | ((first | refine qb rfl rfl ?_ | refine qi (by assumption) rfl rfl ?_ | refine ql rfl ?_ | refine qo rfl rfl ?_ | refine qs rfl rfl ?_ | refine qn rfl rfl ?_); conv => whnf) | (refine r_put (p_bin (b_seq_t h) rfl rfl rfl) rfl rfl ?_; conv => whnf))
    exact r_ret1 rfl trivial
  · rw [← hb, decide_eq_false h]
    refine r_of Th_ok (by kernel_rfl) Try.func105 rfl Try.ntmps105 Try.results105 (by kernel_rfl) rfl ?_; conv => whnf
    repeat (first | ((first | refine qb rfl rfl ?_ | refine qi (by assumption) rfl rfl ?_ | refine ql rfl ?_ | refine qo rfl rfl ?_ | refine qs rfl rfl ?_ | refine qn rfl rfl ?_); conv => whnf) | (refine r_put (p_bin (b_seq_f h) rfl rfl rfl) rfl rfl ?_; conv => whnf))
    exact r_ret1 rfl trivial
theorem ac_indexRef {l : List Rf} {x : ByteArray} (hm : l.length ≤ maxLen) : AC Try.prog 104 [.lst 4 (l.map refA), .fn 105 [] [.ptr (.v (.string x))]] ⟨.v (.int .i64 (rAt l x 0)), []⟩ := by
  unfold maxLen at hm
  refine r_of Th_ok (by kernel_rfl) Try.func104 rfl Try.ntmps104 Try.results104 (by kernel_rfl) rfl ?_; conv => whnf
  repeat (((first | refine qb rfl rfl ?_ | refine qi (by assumption) rfl rfl ?_ | refine ql rfl ?_ | refine qo rfl rfl ?_ | refine qs rfl rfl ?_ | refine qn rfl rfl ?_); conv => whnf))
  refine r_loop (ι := { k : Nat // k ≤ l.length ∧ rAt (l.drop k) x k = rAt l x 0 }) (fun k => ⟨[(0, .lst 4 (l.map refA)), (1, .fn 105 [] [.ptr (.v (.string x))]), (7, .v (.int .i64 (l.length : Int))), (8, .v (.int .i64 (k.1 : Int)))], []⟩) (fun k => l.length - k.1) ⟨0, Nat.zero_le _, rfl⟩ (by refine ⟨?_, ?_⟩ <;> (repeat (first | trivial | exact ⟨rfl, trivial⟩ | refine ⟨rfl, ?_⟩ | refine ⟨.inl ⟨rfl, rfl⟩, ?_⟩ | refine ⟨.inr ⟨_, _, rfl, rfl, rfl, rfl, rfl⟩, ?_⟩))) ?_
  rintro ⟨k, hk, hd⟩
  dsimp only at hk hd ⊢
  conv => whnf
  by_cases hlt : k < l.length
  · rw [rAt_drop hlt] at hd
    by_cases he : l[k].name = x
    · rw [if_pos he] at hd
      rw [← hd]
      repeat (first | ((first | refine qb rfl rfl ?_ | refine qi (by assumption) rfl rfl ?_ | refine ql rfl ?_ | refine qo rfl rfl ?_ | refine qs rfl rfl ?_ | refine qn rfl rfl ?_); conv => whnf) | (refine r_step (p_callv (ac_placeF (r := l[k]) (decide_eq_true he)) rfl rfl (.inl rfl) trivial rfl rfl) rfl rfl (fun e => by first | exact .inl rfl | contradiction | exact .inr (.inl (by kernel_rfl))) ?_; conv => whnf))
      exact r_ret1 rfl trivial
    · rw [if_neg he] at hd
      repeat (first | ((first | refine qb rfl rfl ?_ | refine qi (by assumption) rfl rfl ?_ | refine ql rfl ?_ | refine qo rfl rfl ?_ | refine qs rfl rfl ?_ | refine qn rfl rfl ?_); conv => whnf) | (refine r_step (p_callv (ac_placeF (r := l[k]) (decide_eq_false he)) rfl rfl (.inl rfl) trivial rfl rfl) rfl rfl (fun e => by first | exact .inl rfl | contradiction | exact .inr (.inl (by kernel_rfl))) ?_; conv => whnf))
      exact ⟨⟨k + 1, hlt, hd⟩, by refine ⟨?_, ?_⟩ <;> (repeat (first | trivial | exact ⟨rfl, trivial⟩ | refine ⟨rfl, ?_⟩ | refine ⟨.inl ⟨rfl, rfl⟩, ?_⟩ | refine ⟨.inr ⟨_, _, rfl, rfl, rfl, rfl, rfl⟩, ?_⟩)), by simp; omega⟩
  · rw [← hd, List.drop_eq_nil_of_le (by omega)]
    repeat (((first | refine qb rfl rfl ?_ | refine qi (by assumption) rfl rfl ?_ | refine ql rfl ?_ | refine qo rfl rfl ?_ | refine qs rfl rfl ?_ | refine qn rfl rfl ?_); conv => whnf))
    exact r_ret1 rfl trivial
theorem ac_placeOfRef {l : List Rf} {x : ByteArray} (hm : l.length ≤ maxLen) : AC Try.prog 84 [.lst 4 (l.map refA), .v (.string x)] ⟨.v (.int .i64 (rAt l x 0)), []⟩ := by
  refine r_of Th_ok (by kernel_rfl) Try.func84 rfl Try.ntmps84 Try.results84 (by kernel_rfl) rfl ?_; conv => whnf
  repeat (first | ((first | refine qb rfl rfl ?_ | refine qi (by assumption) rfl rfl ?_ | refine ql rfl ?_ | refine qo rfl rfl ?_ | refine qs rfl rfl ?_ | refine qn rfl rfl ?_); conv => whnf) | (refine r_step (p_box (y := .v _) rfl rfl rfl rfl) rfl rfl (fun e => by first | exact .inl rfl | contradiction | exact .inr (.inl (by kernel_rfl))) ?_; conv => whnf))
  refine r_step (p_callg [] (ac_indexRef hm) rfl rfl trivial rfl rfl trivial rfl rfl rfl (.inr ⟨⟨by simp [flatA], flat_o0⟩, by simp⟩) rfl) rfl rfl (fun e => by first | exact .inl rfl | contradiction | exact .inr (.inl (by kernel_rfl))) ?_
  conv => whnf
  repeat (((first | refine qb rfl rfl ?_ | refine qi (by assumption) rfl rfl ?_ | refine ql rfl ?_ | refine qo rfl rfl ?_ | refine qs rfl rfl ?_ | refine qn rfl rfl ?_); conv => whnf))
  exact r_ret1 rfl trivial
end Go.Proofs.Ytmfmclnklpbiaaa.AM
namespace Go.Proofs.Ytmfmclnklpbiaaa.AM
open Go Go.RowKit
set_option linter.unusedVariables false
set_option linter.unusedSimpArgs false
set_option maxRecDepth 100000
attribute [local irreducible] ACode AOps AOps2 RetG RetM Pre ACG
theorem refB_n {r : Rf} (h : okN r.name = false) : refB r = false := by simp only [refB, h, Bool.false_and]
theorem refB_v {r : Rf} (h : ¬ (1 ≤ r.ver ∧ r.ver ≤ 1000000)) : refB r = false := by simp only [refB, decide_eq_false h, Bool.false_and, Bool.and_false]
theorem refB_g {r : Rf} (hn : okN r.name = true) (hv : 1 ≤ r.ver ∧ r.ver ≤ 1000000) (hg : r.gone = true) : refB r = decide (r.head = 0) := by simp only [refB, hn, hg, decide_eq_true hv, Bool.true_and, if_true]
theorem refB_h {r : Rf} (hn : okN r.name = true) (hv : 1 ≤ r.ver ∧ r.ver ≤ 1000000) (hg : r.gone = false) : refB r = decide (1 ≤ r.head ∧ r.head ≤ 60) := by
  simp only [refB, hn, hg, decide_eq_true hv, Bool.true_and]; rfl
theorem ac_refOK {r : Rf} (hs : r.name.size ≤ maxLen) : AC Try.prog 58 [refA r] ⟨.v (.bool (refB r)), []⟩ := by
  cases hn : okN r.name with
  | false =>
    rw [refB_n hn]
    refine r_of Th_ok (by kernel_rfl) Try.func58 rfl Try.ntmps58 Try.results58 (by kernel_rfl) rfl ?_; conv => whnf
    repeat (first | ((first | refine qb rfl rfl ?_ | refine qi (by assumption) rfl rfl ?_ | refine ql rfl ?_ | refine qo rfl rfl ?_ | refine qs rfl rfl ?_ | refine qn rfl rfl ?_); conv => whnf) | (refine qc (ac_nameOK hs hn) rfl ?_; conv => whnf))
    exact r_ret1 rfl trivial
  | true =>
    by_cases hv : 1 ≤ r.ver ∧ r.ver ≤ 1000000
    case neg =>
      rw [refB_v hv]
      by_cases h1 : 1 ≤ r.ver
      · have h2 : ¬ r.ver ≤ 1000000 := fun e => hv ⟨h1, e⟩
        refine r_of Th_ok (by kernel_rfl) Try.func58 rfl Try.ntmps58 Try.results58 (by kernel_rfl) rfl ?_; conv => whnf
        repeat (first | ((first | refine qb rfl rfl ?_ | refine qi (by assumption) rfl rfl ?_ | refine ql rfl ?_ | refine qo rfl rfl ?_ | refine qs rfl rfl ?_ | refine qn rfl rfl ?_); conv => whnf) | (refine qc (ac_nameOK hs hn) rfl ?_; conv => whnf))
        exact r_ret1 rfl trivial
      · refine r_of Th_ok (by kernel_rfl) Try.func58 rfl Try.ntmps58 Try.results58 (by kernel_rfl) rfl ?_; conv => whnf
        repeat (first | ((first | refine qb rfl rfl ?_ | refine qi (by assumption) rfl rfl ?_ | refine ql rfl ?_ | refine qo rfl rfl ?_ | refine qs rfl rfl ?_ | refine qn rfl rfl ?_); conv => whnf) | (refine qc (ac_nameOK hs hn) rfl ?_; conv => whnf))
        exact r_ret1 rfl trivial
    obtain ⟨v1, v2⟩ := id hv
    cases hg : r.gone with
    | true =>
      rw [refB_g hn hv hg]
      by_cases h0 : r.head = 0
      · rw [decide_eq_true h0]
        refine r_of Th_ok (by kernel_rfl) Try.func58 rfl Try.ntmps58 Try.results58 (by kernel_rfl) rfl ?_; conv => whnf
        repeat (first | ((first | refine qb rfl rfl ?_ | refine qi (by assumption) rfl rfl ?_ | refine ql rfl ?_ | refine qo rfl rfl ?_ | refine qs rfl rfl ?_ | refine qn rfl rfl ?_); conv => whnf) | (refine qc (ac_nameOK hs hn) rfl ?_; conv => whnf) | (rw [hg]; conv => whnf))
        exact r_ret1 rfl trivial
      · rw [decide_eq_false h0]
        refine r_of Th_ok (by kernel_rfl) Try.func58 rfl Try.ntmps58 Try.results58 (by kernel_rfl) rfl ?_; conv => whnf
        repeat (first | ((first | refine qb rfl rfl ?_ | refine qi (by assumption) rfl rfl ?_ | refine ql rfl ?_ | refine qo rfl rfl ?_ | refine qs rfl rfl ?_ | refine qn rfl rfl ?_); conv => whnf) | (refine qc (ac_nameOK hs hn) rfl ?_; conv => whnf) | (rw [hg]; conv => whnf))
        exact r_ret1 rfl trivial
    | false =>
      rw [refB_h hn hv hg]
      by_cases h0 : 1 ≤ r.head ∧ r.head ≤ 60
      · rw [decide_eq_true h0]
        refine r_of Th_ok (by kernel_rfl) Try.func58 rfl Try.ntmps58 Try.results58 (by kernel_rfl) rfl ?_; conv => whnf
        repeat (first | ((first | refine qb rfl rfl ?_ | refine qi (by assumption) rfl rfl ?_ | refine ql rfl ?_ | refine qo rfl rfl ?_ | refine qs rfl rfl ?_ | refine qn rfl rfl ?_); conv => whnf) | (refine qc (ac_nameOK hs hn) rfl ?_; conv => whnf) | (rw [hg]; conv => whnf) | (refine qc (ac_headOK_t h0.1 h0.2) rfl ?_; conv => whnf))
        exact r_ret1 rfl trivial
      · rw [decide_eq_false h0]
        refine r_of Th_ok (by kernel_rfl) Try.func58 rfl Try.ntmps58 Try.results58 (by kernel_rfl) rfl ?_; conv => whnf
        repeat (first | ((first | refine qb rfl rfl ?_ | refine qi (by assumption) rfl rfl ?_ | refine ql rfl ?_ | refine qo rfl rfl ?_ | refine qs rfl rfl ?_ | refine qn rfl rfl ?_); conv => whnf) | (refine qc (ac_nameOK hs hn) rfl ?_; conv => whnf) | (rw [hg]; conv => whnf) | (refine qc (ac_headOK_f h0) rfl ?_; conv => whnf))
        exact r_ret1 rfl trivial
theorem ac_iRefsOK {l : List Rf} (hm : l.length ≤ maxLen) (hk : ∀ e ∈ l, e.name.size ≤ maxLen) : AC Try.prog 81 [.lst 4 (l.map refA)] ⟨.v (.bool (refsB l)), []⟩ := by
  have hm' := hm
  unfold maxLen at hm'
  by_cases hin : l.length ≤ 8
  case neg =>
    rw [refsB_f (fun h => hin h.1)]
    refine r_of Th_ok (by kernel_rfl) Try.func81 rfl Try.ntmps81 Try.results81 (by kernel_rfl) rfl ?_; conv => whnf
    repeat (((first | refine qb rfl rfl ?_ | refine qi (by assumption) rfl rfl ?_ | refine ql rfl ?_ | refine qo rfl rfl ?_ | refine qs rfl rfl ?_ | refine qn rfl rfl ?_); conv => whnf))
    exact r_ret1 rfl trivial
  refine r_of Th_ok (by kernel_rfl) Try.func81 rfl Try.ntmps81 Try.results81 (by kernel_rfl) rfl ?_; conv => whnf
  repeat (((first | refine qb rfl rfl ?_ | refine qi (by assumption) rfl rfl ?_ | refine ql rfl ?_ | refine qo rfl rfl ?_ | refine qs rfl rfl ?_ | refine qn rfl rfl ?_); conv => whnf))
  refine r_loop (ι := { k : Nat // k ≤ l.length ∧ ∀ i, i < k → refG l i }) (fun k => ⟨[(0, .lst 4 (l.map refA)), (8, .lst 4 (l.map refA)), (9, .v (.int .i64 (l.length : Int))), (10, .v (.int .i64 (k.1 : Int)))], []⟩) (fun k => l.length - k.1) ⟨0, Nat.zero_le _, fun i h => by omega⟩ (by refine ⟨?_, ?_⟩ <;> (repeat (first | trivial | exact ⟨rfl, trivial⟩ | refine ⟨rfl, ?_⟩ | refine ⟨.inl ⟨rfl, rfl⟩, ?_⟩ | refine ⟨.inr ⟨_, _, rfl, rfl, rfl, rfl, rfl⟩, ?_⟩))) ?_
  rintro ⟨k, hk', hd⟩
  dsimp only at hk' hd ⊢
  conv => whnf
  by_cases hlt : k < l.length
  case neg =>
    rw [refsB_t ⟨hin, fun i hi => hd i (by omega)⟩]
    repeat (((first | refine qb rfl rfl ?_ | refine qi (by assumption) rfl rfl ?_ | refine ql rfl ?_ | refine qo rfl rfl ?_ | refine qs rfl rfl ?_ | refine qn rfl rfl ?_); conv => whnf))
    exact r_ret1 rfl trivial
  have hsz := hk _ (List.getElem_mem hlt)
  have hac := ac_refOK hsz
  have hpl := ac_placeOfRef (l := l.take k) (x := l[k].name) (by unfold maxLen; simp; omega)
  cases hb : refB l[k] with
  | false =>
    rw [hb] at hac
    rw [refsB_f (fun h => by obtain ⟨_, q, _⟩ := h.2 k hlt; rw [hb] at q; cases q)]
    repeat (first | ((first | refine qb rfl rfl ?_ | refine qi (by assumption) rfl rfl ?_ | refine ql rfl ?_ | refine qo rfl rfl ?_ | refine qs rfl rfl ?_ | refine qn rfl rfl ?_); conv => whnf) | (refine qc (hac) rfl ?_; conv => whnf) | (refine r_step (p_ostore rfl rfl rfl rfl rfl (by conv => lhs; whnf) rfl) rfl rfl (fun e => by first | exact .inl rfl | contradiction | exact .inr (.inl (by kernel_rfl))) ?_; conv => whnf) | (refine .inl (And.intro (by kernel_rfl) ?_); conv => whnf))
    exact r_ret1 rfl trivial
  | true =>
    rw [hb] at hac
    by_cases hp : rAt (l.take k) l[k].name 0 < 0
    · repeat (first | ((first | refine qb rfl rfl ?_ | refine qi (by assumption) rfl rfl ?_ | refine ql rfl ?_ | refine qo rfl rfl ?_ | refine qs rfl rfl ?_ | refine qn rfl rfl ?_); conv => whnf) | (refine qc (hac) rfl ?_; conv => whnf) | (refine r_step (p_ostore rfl rfl rfl rfl rfl (by conv => lhs; whnf) rfl) rfl rfl (fun e => by first | exact .inl rfl | contradiction | exact .inr (.inl (by kernel_rfl))) ?_; conv => whnf) | (refine .inl (And.intro (by kernel_rfl) ?_); conv => whnf) | (refine r_put (p_lslm (h := k) (xs := l) (f := refA) (by omega) rfl rfl rfl) rfl rfl ?_; conv => whnf) | (refine qc (hpl) rfl ?_; conv => whnf))
      exact ⟨⟨k + 1, hlt, fun i hi => by
        rcases Nat.lt_or_ge i k with h | h
        · exact hd i h
        · have : i = k := by omega
          subst this; exact ⟨hlt, hb, hp⟩⟩, by refine ⟨?_, ?_⟩ <;> (repeat (first | trivial | exact ⟨rfl, trivial⟩ | refine ⟨rfl, ?_⟩ | refine ⟨.inl ⟨rfl, rfl⟩, ?_⟩ | refine ⟨.inr ⟨_, _, rfl, rfl, rfl, rfl, rfl⟩, ?_⟩)), by simp; omega⟩
    · rw [refsB_f (fun h => by obtain ⟨_, _, q⟩ := h.2 k hlt; exact hp q)]
      repeat (first | ((first | refine qb rfl rfl ?_ | refine qi (by assumption) rfl rfl ?_ | refine ql rfl ?_ | refine qo rfl rfl ?_ | refine qs rfl rfl ?_ | refine qn rfl rfl ?_); conv => whnf) | (refine qc (hac) rfl ?_; conv => whnf) | (refine r_step (p_ostore rfl rfl rfl rfl rfl (by conv => lhs; whnf) rfl) rfl rfl (fun e => by first | exact .inl rfl | contradiction | exact .inr (.inl (by kernel_rfl))) ?_; conv => whnf) | (refine .inl (And.intro (by kernel_rfl) ?_); conv => whnf) | (refine r_put (p_lslm (h := k) (xs := l) (f := refA) (by omega) rfl rfl rfl) rfl rfl ?_; conv => whnf) | (refine qc (hpl) rfl ?_; conv => whnf))
      exact r_ret1 rfl trivial
end Go.Proofs.Ytmfmclnklpbiaaa.AM
namespace Go.Proofs.Ytmfmclnklpbiaaa.AM
open Go Go.RowKit
set_option linter.unusedVariables false
set_option linter.unusedSimpArgs false
set_option maxRecDepth 100000
attribute [local irreducible] ACode AOps AOps2 RetG RetM Pre ACG
set_option maxHeartbeats 4000000 in
theorem ac_l04OK {l : List Rf} (hm : l.length ≤ maxLen) (hk : ∀ e ∈ l, e.name.size ≤ maxLen) : AC Try.prog 38 [.lst 4 (l.map refA)] ⟨.v (.bool (refsB l)), []⟩ := by
  have hm' := hm
  unfold maxLen at hm'
  by_cases hin : l.length ≤ 8
  case neg =>
    rw [refsB_f (fun h => hin h.1)]
    refine r_of Th_ok (by kernel_rfl) Try.func38 rfl Try.ntmps38 Try.results38 (by kernel_rfl) rfl ?_; conv => whnf
    repeat (((first | refine qb rfl rfl ?_ | refine qi (by assumption) rfl rfl ?_ | refine ql rfl ?_ | refine qo rfl rfl ?_ | refine qs rfl rfl ?_ | refine qn rfl rfl ?_); conv => whnf))
    exact r_ret1 rfl trivial
  refine r_of Th_ok (by kernel_rfl) Try.func38 rfl Try.ntmps38 Try.results38 (by kernel_rfl) rfl ?_; conv => whnf
  repeat (((first | refine qb rfl rfl ?_ | refine qi (by assumption) rfl rfl ?_ | refine ql rfl ?_ | refine qo rfl rfl ?_ | refine qs rfl rfl ?_ | refine qn rfl rfl ?_); conv => whnf))
  refine c_loop (fun k : { k : Nat // k ≤ l.length ∧ ∀ i, i < k → refG l i } => ⟨[(0, .lst 4 (l.map refA)), (3, .v (.int .i64 (k.1 : Int)))], [], []⟩) (fun k => l.length - k.1) ⟨0, Nat.zero_le _, fun i h => by omega⟩ ⟨by refine ⟨?_, ?_⟩ <;> (repeat (first | trivial | exact ⟨rfl, trivial⟩ | refine ⟨rfl, ?_⟩ | refine ⟨.inl ⟨rfl, rfl⟩, ?_⟩ | refine ⟨.inr ⟨_, _, rfl, rfl, rfl, rfl, rfl⟩, ?_⟩)), trivial⟩ ?_
  rintro ⟨k, hk', hd⟩
  dsimp only at hk' hd ⊢
  by_cases hlt : k < l.length
  case neg =>
    rw [refsB_t ⟨hin, fun i hi => hd i (by omega)⟩]
    refine runC_sound _ _ _ ?_
    conv => whnf
    repeat (first | ((first | refine qb rfl rfl ?_ | refine qi (by assumption) rfl rfl ?_ | refine ql rfl ?_ | refine qo rfl rfl ?_ | refine qs rfl rfl ?_ | refine qn rfl rfl ?_); conv => whnf))
    exact r_ret1 rfl trivial
  have hsz := hk _ (List.getElem_mem hlt)
  have hpl := ac_l04At (l := l) (x := l[k].name) hm
  have bad : (refB l[k] = true → ¬ rAt (l.take k) l[k].name 0 < 0) → refsB l = false := fun q => refsB_f (fun h => by obtain ⟨_, q1, q2⟩ := h.2 k hlt; exact q q1 q2)
  have nxt : refB l[k] = true → rAt (l.take k) l[k].name 0 < 0 → ∀ i, i < k + 1 → refG l i := fun q1 q2 i hi => by
    rcases Nat.lt_or_ge i k with h | h
    · exact hd i h
    · have : i = k := by omega
      subst this; exact ⟨hlt, q1, q2⟩
  refine c_seq ?_
  refine runC_sound _ _ _ ?_
  conv => whnf
  repeat (first | ((first | refine qb rfl rfl ?_ | refine qi (by assumption) rfl rfl ?_ | refine ql rfl ?_ | refine qo rfl rfl ?_ | refine qs rfl rfl ?_ | refine qn rfl rfl ?_); conv => whnf))
  refine c_seq (c_block ?_)
  obtain ⟨g, hgg⟩ : ∃ g, g = l[k].gone := ⟨_, rfl⟩
  have hik : (l.map refA)[k]? = some (.agg [.v (.string l[k].name), .v (.int .i64 l[k].head), .v (.int .i64 l[k].ver), .v (.bool g)]) := by rw [List.getElem?_map, List.getElem?_eq_getElem hlt, hgg]; rfl
  refine c_cut (ι := Unit) (fun _ => ⟨[(0, .lst 4 (l.map refA)), (3, .v (.int .i64 (k : Int))), (4, .optr 5 0 [] 0)], [(5, ⟨.s 44, 4, [.agg [.v (.string l[k].name), .v (.int .i64 l[k].head), .v (.int .i64 l[k].ver), .v (.bool g)]]⟩)], []⟩) ?_ (fun _ => ?_)
  · refine runC_sound _ _ _ ?_
    conv => whnf
    repeat (first | (refine r_put (p_idx hik rfl rfl rfl) rfl rfl ?_; conv => whnf) | (refine r_step (p_ostore rfl rfl rfl rfl rfl (by conv => lhs; whnf) rfl) rfl rfl (fun e => by first | exact .inl rfl | contradiction | exact .inr (.inl (by kernel_rfl))) ?_; conv => whnf) | ((first | refine qb rfl rfl ?_ | refine qi (by assumption) rfl rfl ?_ | refine ql rfl ?_ | refine qo rfl rfl ?_ | refine qs rfl rfl ?_ | refine qn rfl rfl ?_); conv => whnf))
    exact ⟨(), ⟨by refine ⟨?_, ?_⟩ <;> (repeat (first | trivial | exact ⟨rfl, trivial⟩ | refine ⟨rfl, ?_⟩ | refine ⟨.inl ⟨rfl, rfl⟩, ?_⟩ | refine ⟨.inr ⟨_, _, rfl, rfl, rfl, rfl, rfl⟩, ?_⟩)), trivial⟩⟩
  refine runC_sound _ _ _ ?_
  conv => whnf
  cases hw : okN l[k].name with
  | false =>
    rw [bad (fun q => by rw [refB_n hw] at q; cases q)]
    as_aux_lemma =>
      repeat (first | (refine qc (ac_l00Word hsz hw) rfl ?_; conv => whnf) | ((first | refine qb rfl rfl ?_ | refine qi (by assumption) rfl rfl ?_ | refine ql rfl ?_ | refine qo rfl rfl ?_ | refine qs rfl rfl ?_ | refine qn rfl rfl ?_); conv => whnf))
      exact r_ret1 rfl trivial
  | true =>
    by_cases hv : 1 ≤ l[k].ver ∧ l[k].ver ≤ 1000000
    case neg =>
      rw [bad (fun q => by rw [refB_v hv] at q; cases q)]
      as_aux_lemma =>
        repeat (first | (refine qc (ac_l00Word hsz hw) rfl ?_; conv => whnf) | (refine qc (ac_in_f hv) rfl ?_; conv => whnf) | ((first | refine qb rfl rfl ?_ | refine qi (by assumption) rfl rfl ?_ | refine ql rfl ?_ | refine qo rfl rfl ?_ | refine qs rfl rfl ?_ | refine qn rfl rfl ?_); conv => whnf))
        exact r_ret1 rfl trivial
    by_cases hp : rAt l l[k].name 0 = (k : Int)
    case neg =>
      rw [bad (fun _ q => hp ((rAt_take hlt).2 q))]
      as_aux_lemma =>
        repeat (first | (refine qc (ac_l00Word hsz hw) rfl ?_; conv => whnf) | (refine qc (ac_in_t hv.1 hv.2) rfl ?_; conv => whnf) | (refine qc (hpl) rfl ?_; conv => whnf) | ((first | refine qb rfl rfl ?_ | refine qi (by assumption) rfl rfl ?_ | refine ql rfl ?_ | refine qo rfl rfl ?_ | refine qs rfl rfl ?_ | refine qn rfl rfl ?_); conv => whnf))
        exact r_ret1 rfl trivial
    have hp' := (rAt_take hlt).1 hp
    cases g with
    | true =>
      have hb := refB_g hw hv hgg.symm
      by_cases h0 : l[k].head = 0
      · rw [decide_eq_true h0] at hb
        as_aux_lemma =>
          repeat (first | (refine qc (ac_l00Word hsz hw) rfl ?_; conv => whnf) | (refine qc (ac_in_t hv.1 hv.2) rfl ?_; conv => whnf) | (refine qc (hpl) rfl ?_; conv => whnf) | ((first | refine qb rfl rfl ?_ | refine qi (by assumption) rfl rfl ?_ | refine ql rfl ?_ | refine qo rfl rfl ?_ | refine qs rfl rfl ?_ | refine qn rfl rfl ?_); conv => whnf))
          refine runC_sound _ _ _ ?_
          conv => whnf
          repeat (first | (refine r_put (p_bin (b_add (c := ((k + 1 : Nat) : Int)) (by omega) (by omega) (by omega)) rfl rfl rfl) rfl rfl ?_; conv => whnf) | ((first | refine qb rfl rfl ?_ | refine qi (by assumption) rfl rfl ?_ | refine ql rfl ?_ | refine qo rfl rfl ?_ | refine qs rfl rfl ?_ | refine qn rfl rfl ?_); conv => whnf))
          exact ⟨⟨k + 1, hlt, nxt hb hp'⟩, ⟨by refine ⟨?_, ?_⟩ <;> (repeat (first | trivial | exact ⟨rfl, trivial⟩ | refine ⟨rfl, ?_⟩ | refine ⟨.inl ⟨rfl, rfl⟩, ?_⟩ | refine ⟨.inr ⟨_, _, rfl, rfl, rfl, rfl, rfl⟩, ?_⟩)), trivial⟩, by simp; omega⟩
      · rw [decide_eq_false h0] at hb
        rw [bad (fun q => by rw [hb] at q; cases q)]
        as_aux_lemma =>
          repeat (first | (refine qc (ac_l00Word hsz hw) rfl ?_; conv => whnf) | (refine qc (ac_in_t hv.1 hv.2) rfl ?_; conv => whnf) | (refine qc (hpl) rfl ?_; conv => whnf) | ((first | refine qb rfl rfl ?_ | refine qi (by assumption) rfl rfl ?_ | refine ql rfl ?_ | refine qo rfl rfl ?_ | refine qs rfl rfl ?_ | refine qn rfl rfl ?_); conv => whnf))
          exact r_ret1 rfl trivial
    | false =>
      have hb := refB_h hw hv hgg.symm
      by_cases h0 : 1 ≤ l[k].head ∧ l[k].head ≤ 60
      · rw [decide_eq_true h0] at hb
        as_aux_lemma =>
          repeat (first | (refine qc (ac_l00Word hsz hw) rfl ?_; conv => whnf) | (refine qc (ac_in_t hv.1 hv.2) rfl ?_; conv => whnf) | (refine qc (hpl) rfl ?_; conv => whnf) | (refine qc (ac_in_t h0.1 h0.2) rfl ?_; conv => whnf) | ((first | refine qb rfl rfl ?_ | refine qi (by assumption) rfl rfl ?_ | refine ql rfl ?_ | refine qo rfl rfl ?_ | refine qs rfl rfl ?_ | refine qn rfl rfl ?_); conv => whnf))
          refine runC_sound _ _ _ ?_
          conv => whnf
          repeat (first | (refine r_put (p_bin (b_add (c := ((k + 1 : Nat) : Int)) (by omega) (by omega) (by omega)) rfl rfl rfl) rfl rfl ?_; conv => whnf) | ((first | refine qb rfl rfl ?_ | refine qi (by assumption) rfl rfl ?_ | refine ql rfl ?_ | refine qo rfl rfl ?_ | refine qs rfl rfl ?_ | refine qn rfl rfl ?_); conv => whnf))
          exact ⟨⟨k + 1, hlt, nxt hb hp'⟩, ⟨by refine ⟨?_, ?_⟩ <;> (repeat (first | trivial | exact ⟨rfl, trivial⟩ | refine ⟨rfl, ?_⟩ | refine ⟨.inl ⟨rfl, rfl⟩, ?_⟩ | refine ⟨.inr ⟨_, _, rfl, rfl, rfl, rfl, rfl⟩, ?_⟩)), trivial⟩, by simp; omega⟩
      · rw [decide_eq_false h0] at hb
        rw [bad (fun q => by rw [hb] at q; cases q)]
        as_aux_lemma =>
          repeat (first | (refine qc (ac_l00Word hsz hw) rfl ?_; conv => whnf) | (refine qc (ac_in_t hv.1 hv.2) rfl ?_; conv => whnf) | (refine qc (hpl) rfl ?_; conv => whnf) | (refine qc (ac_in_f h0) rfl ?_; conv => whnf) | ((first | refine qb rfl rfl ?_ | refine qi (by assumption) rfl rfl ?_ | refine ql rfl ?_ | refine qo rfl rfl ?_ | refine qs rfl rfl ?_ | refine qn rfl rfl ?_); conv => whnf))
          exact r_ret1 rfl trivial
end Go.Proofs.Ytmfmclnklpbiaaa.AM
/- The law of RefsOK; LoadRef on both sides and its law. -/
namespace Go.Proofs.Ytmfmclnklpbiaaa.AM
open Go Go.RowKit
set_option linter.unusedVariables false
set_option linter.unusedSimpArgs false
set_option maxRecDepth 100000
def nmOK (N : Nat) (l : List Rf) : Prop := ∀ e ∈ l, e.name.size ≤ N
attribute [local irreducible] ACode AOps AOps2 RetG RetM Pre ACG
/-- the code that functions of references and a name begin with -/
noncomputable def askF (l : List Rf) (x : ByteArray) : Int := if 4096 < l.length ∨ 65536 < x.size then 2 else if refsB l = true then 0 else 1
theorem askF_long {l : List Rf} {x : ByteArray} (h : 4096 < l.length ∨ 65536 < x.size) : askF l x = 2 := by unfold askF; rw [if_pos h]
theorem askF_bad {l : List Rf} {x : ByteArray} (h : ¬ (4096 < l.length ∨ 65536 < x.size)) (hb : refsB l = false) : askF l x = 1 := by unfold askF; rw [if_neg h, if_neg (by rw [hb]; simp)]
theorem askF_ok {l : List Rf} {x : ByteArray} (h : ¬ (4096 < l.length ∨ 65536 < x.size)) (hb : refsB l = true) : askF l x = 0 := by unfold askF; rw [if_neg h, if_pos hb]
theorem ac_refsCode {l : List Rf} {x : ByteArray} (hm : l.length ≤ maxLen) (hk : nmOK maxLen l) (hx : x.size ≤ maxLen) : AC Try.prog 42 [.lst 4 (l.map refA), .v (.string x)] ⟨.v (.int .i64 (askF l x)), []⟩ := by
  have hm' := hm
  unfold maxLen at hm' hx
  have h1 := ac_iRefsOK hm hk
  by_cases a1 : 4096 < l.length
  · rw [askF_long (.inl a1)]
    refine r_of Th_ok (by kernel_rfl) Try.func42 rfl Try.ntmps42 Try.results42 (by kernel_rfl) rfl ?_; conv => whnf
    repeat (((first | refine qb rfl rfl ?_ | refine qi (by assumption) rfl rfl ?_ | refine ql rfl ?_ | refine qo rfl rfl ?_ | refine qs rfl rfl ?_ | refine qn rfl rfl ?_); conv => whnf))
    exact r_ret1 rfl trivial
  by_cases a2 : 65536 < x.size
  · rw [askF_long (.inr a2)]
    refine r_of Th_ok (by kernel_rfl) Try.func42 rfl Try.ntmps42 Try.results42 (by kernel_rfl) rfl ?_; conv => whnf
    repeat (((first | refine qb rfl rfl ?_ | refine qi (by assumption) rfl rfl ?_ | refine ql rfl ?_ | refine qo rfl rfl ?_ | refine qs rfl rfl ?_ | refine qn rfl rfl ?_); conv => whnf))
    exact r_ret1 rfl trivial
  have a3 : ¬ (4096 < l.length ∨ 65536 < x.size) := by omega
  cases hb : refsB l with
  | false =>
    rw [hb] at h1
    rw [askF_bad a3 hb]
    refine r_of Th_ok (by kernel_rfl) Try.func42 rfl Try.ntmps42 Try.results42 (by kernel_rfl) rfl ?_; conv => whnf
    repeat (first | ((first | refine qb rfl rfl ?_ | refine qi (by assumption) rfl rfl ?_ | refine ql rfl ?_ | refine qo rfl rfl ?_ | refine qs rfl rfl ?_ | refine qn rfl rfl ?_); conv => whnf) | (refine qc (h1) rfl ?_; conv => whnf))
    exact r_ret1 rfl trivial
  | true =>
    rw [hb] at h1
    rw [askF_ok a3 hb]
    refine r_of Th_ok (by kernel_rfl) Try.func42 rfl Try.ntmps42 Try.results42 (by kernel_rfl) rfl ?_; conv => whnf
    repeat (first | ((first | refine qb rfl rfl ?_ | refine qi (by assumption) rfl rfl ?_ | refine ql rfl ?_ | refine qo rfl rfl ?_ | refine qs rfl rfl ?_ | refine qn rfl rfl ?_); conv => whnf) | (refine qc (h1) rfl ?_; conv => whnf))
    exact r_ret1 rfl trivial
end Go.Proofs.Ytmfmclnklpbiaaa.AM
/- LoadRef and LiveRefs on both sides, and their laws. -/
namespace Go.Proofs.Ytmfmclnklpbiaaa.AM
open Go Go.RowKit
set_option linter.unusedVariables false
set_option linter.unusedSimpArgs false
set_option maxRecDepth 100000
attribute [local irreducible] ACode AOps AOps2 RetG RetM Pre ACG
end Go.Proofs.Ytmfmclnklpbiaaa.AM
/- References marked and held; LiveRefs on both sides, and its law. -/
namespace Go.Proofs.Ytmfmclnklpbiaaa.AM
open Go Go.RowKit
set_option linter.unusedVariables false
set_option linter.unusedSimpArgs false
set_option maxRecDepth 100000
attribute [local irreducible] ACode AOps AOps2 RetG RetM Pre ACG
end Go.Proofs.Ytmfmclnklpbiaaa.AM
namespace Go.Proofs.Ytmfmclnklpbiaaa.AM
open Go Go.RowKit
set_option linter.unusedVariables false
set_option linter.unusedSimpArgs false
set_option maxRecDepth 100000
attribute [local irreducible] ACode AOps AOps2 RetG RetM Pre ACG
end Go.Proofs.Ytmfmclnklpbiaaa.AM
namespace Go.Proofs.Ytmfmclnklpbiaaa
open Go.RowKit

end Go.Proofs.Ytmfmclnklpbiaaa
namespace Go.Proofs.Ytmfmclnklpbiaaa
open Go Go.RowKit
set_option linter.unusedVariables false
set_option linter.unusedSimpArgs false
end Go.Proofs.Ytmfmclnklpbiaaa
namespace Go.Proofs.Ytmfmclnklpbiaaa.AM
open Go Go.RowKit Go.ChangeShapes Go.WideShapes Go.Deep
set_option linter.unusedVariables false
set_option linter.unusedSimpArgs false
def refC (r : Rf) : List Value := [.string r.name, .int .i64 r.head, .int .i64 r.ver, .bool r.gone]
def refsC (l : List Rf) : List Value := l.flatMap refC
theorem refsC_length : ∀ l : List Rf, (refsC l).length = l.length * 4
  | [] => rfl
  | r :: l => by
    have := refsC_length l
    simp only [refsC, List.flatMap_cons, List.length_append, List.length_cons] at *
    rw [this]; simp [refC]; omega
section
variable {S : Nat → Prop} {w : World}
end
section
variable {H : Type} {enc : TypeId × Value → H} {P : Program} {w : World} {base : Nat} {held : Bool}
end
end Go.Proofs.Ytmfmclnklpbiaaa.AM
namespace Go.Proofs.Ytmfmclnklpbiaaa.AM
open Go Go.RowKit
set_option linter.unusedVariables false
set_option linter.unusedSimpArgs false
section
variable {w : World}
end
end Go.Proofs.Ytmfmclnklpbiaaa.AM
/- Rules of the machine: a function entered without a run. -/
namespace Go.Proofs.Ytmfmclnklpbiaaa.AM
open Go Go.RowKit
set_option linter.unusedVariables false
theorem o_of {P : Program} {Θ : Tab} (hΘ : TabOK P Θ) (hm : P.follows .mixedOrders = true) {f : FuncId} {fn : Func} {c : Code} {n : Nat} {rs : List ResultVar} (hf : P.funcs[f]? = some fn) (hb : fn.body = some c) (hnt : fn.ntmps = n) (hrs : fn.results = rs.toArray) (hnm : (fn.name == "runtime.NumGoroutine") = false)
    {args : List AV} {out : Out} (hlen : Nat.ble args.length n = true) (h : ACode P Θ n c (RetQ Θ rs out) (St.init args)) : AC P f args out :=
  acg_of hΘ hm hf hb hnt (by rw [hrs]) hnm (Nat.le_of_ble_eq_true hlen) rfl rfl h
end Go.Proofs.Ytmfmclnklpbiaaa.AM
/- A law's arguments opened: structs (an operation, a repository, a result, a commit). -/
namespace Go.Proofs.Ytmfmclnklpbiaaa.AM
open Go Go.RowKit Go.ChangeShapes Go.WideShapes Go.Deep
set_option linter.unusedVariables false
set_option linter.unusedSimpArgs false
structure Opr where
  kind : Int
  frm : Int
  name : ByteArray
  key : ByteArray
  edits : List Edt
structure Bas where
  store : List Cmt
  refs : List Rf
structure Rst where
  code : Int
  com : Int
  val : Int
  keys : List ByteArray
  map : List Ent
def Opr.ok (o : Opr) (N : Nat) : Prop := o.name.size ≤ N ∧ o.key.size ≤ N ∧ o.edits.length ≤ N ∧ ∀ e ∈ o.edits, e.key.size ≤ N
def Rst.ok (r : Rst) (N : Nat) : Prop := r.keys.length ≤ N ∧ (∀ k ∈ r.keys, k.size ≤ N) ∧ r.map.length ≤ N ∧ ∀ e ∈ r.map, e.1.size ≤ N
section
variable {S : Nat → Prop} {w : World}
end
section
variable {H : Type} {enc : TypeId × Value → H} {P : Program} {w : World} {base : Nat} {held : Bool}
end
end Go.Proofs.Ytmfmclnklpbiaaa.AM
namespace Go.Proofs.Ytmfmclnklpbiaaa
open Go Go.RowKit
set_option linter.unusedVariables false
set_option linter.unusedSimpArgs false
set_option maxRecDepth 100000
theorem refsC_get : ∀ (l : List AM.Rf) (k : Nat) (h : k < l.length), (AM.refsC l)[k * 4]? = some (.string l[k].name) ∧ (AM.refsC l)[k * 4 + 1]? = some (.int .i64 l[k].head) ∧ (AM.refsC l)[k * 4 + 2]? = some (.int .i64 l[k].ver) ∧ (AM.refsC l)[k * 4 + 3]? = some (.bool l[k].gone)
  | r :: l, 0, _ => by simp [AM.refsC, AM.refC]
  | r :: l, k + 1, h => by
    have ih := refsC_get l k (by simpa using h)
    have e : AM.refsC (r :: l) = AM.refC r ++ AM.refsC l := rfl
    have hx : ∀ i, (AM.refsC (r :: l))[(k + 1) * 4 + i]? = (AM.refsC l)[k * 4 + i]? := fun i => by
      rw [e, List.getElem?_append_right (by simp [AM.refC]; omega)]
      congr 1; simp [AM.refC]; omega
    have h0 := hx 0
    simp only [Nat.add_zero] at h0
    rw [h0, hx 1, hx 2, hx 3]
    exact ih
theorem Rd.rf {w wr : World} {A : Option Addr} {n : Nat} {l : List AM.Rf} (h : Rd w 4 A n (AM.refsC l)) (hb : Below w.heap.size w wr) {k : Nat} (hk : k < l.length) :
    ∃ b off, A = some ⟨b, off, none⟩ ∧ b < w.heap.size ∧ b < wr.heap.size ∧ wr.cell? ⟨b, off + k * 4, none⟩ = some (.string l[k].name) ∧ wr.cell? ⟨b, off + k * 4 + 1, none⟩ = some (.int .i64 l[k].head) ∧ wr.cell? ⟨b, off + k * 4 + 2, none⟩ = some (.int .i64 l[k].ver) ∧ wr.cell? ⟨b, off + k * 4 + 3, none⟩ = some (.bool l[k].gone) := by
  have hl := AM.refsC_length l
  obtain ⟨b, off, e, hlt, hc⟩ := h.2 (by have := h.1; omega)
  obtain ⟨e1, e2, e3, e4⟩ := refsC_get l k hk
  refine ⟨b, off, e, hlt, Nat.lt_of_lt_of_le hlt hb.size, ?_, ?_, ?_, ?_⟩
  · exact (hb.cell (p := ⟨b, off + k * 4, none⟩) hlt).trans (hc _ _ e1)
  · exact (hb.cell (p := ⟨b, off + k * 4 + 1, none⟩) hlt).trans (hc _ _ e2)
  · exact (hb.cell (p := ⟨b, off + k * 4 + 2, none⟩) hlt).trans (hc _ _ e3)
  · exact (hb.cell (p := ⟨b, off + k * 4 + 3, none⟩) hlt).trans (hc _ _ e4)
end Go.Proofs.Ytmfmclnklpbiaaa
namespace Go.Proofs.Ytmfmclnklpbiaaa.AM
open Go Go.RowKit
set_option linter.unusedVariables false
set_option linter.unusedSimpArgs false
set_option maxRecDepth 100000
abbrev refO (l : List Rf) : OB := ⟨44, 4, l.map refA⟩
theorem rf_ver {l : List Rf} (hb : refsB l = true) {j : Nat} (hj : j < l.length) : 1 ≤ l[j].ver ∧ l[j].ver ≤ 1000000 := by
  obtain ⟨_, h1, _⟩ := (refsB_of hb).2 j hj
  unfold refB at h1
  simp only [Bool.and_eq_true, decide_eq_true_eq] at h1
  exact h1.2.1
theorem refB_iff (r : Rf) : refB r = true ↔ okN r.name = true ∧ (1 ≤ r.ver ∧ r.ver ≤ 1000000) ∧ (if r.gone = true then r.head = 0 else 1 ≤ r.head ∧ r.head ≤ 60) := by
  unfold refB
  simp only [Bool.and_eq_true, decide_eq_true_eq]
  constructor
  · rintro ⟨a, b, c⟩; refine ⟨a, b, ?_⟩; split at c <;> simp_all
  · rintro ⟨a, b, c⟩; refine ⟨a, b, ?_⟩; split at c <;> simp_all
/-- references as the draws make them -/
def names6 : List ByteArray := [⟨#[109, 97, 105, 110]⟩, ⟨#[100, 101, 118]⟩, ⟨#[102, 105, 120]⟩, ⟨#[111, 108, 100]⟩, ⟨#[98, 49]⟩, ⟨#[98, 50]⟩]
structure GoodR (l : List Rf) : Prop where
  ok : refsB l = true
  small : ∀ r ∈ l, r.ver ≤ 4 ∧ r.name.size ≤ 12
theorem GoodR.nil : GoodR [] := ⟨refsB_t ⟨by simp, fun i h => by simp at h⟩, by simp⟩
theorem GoodR.snoc {l : List Rf} (h : GoodR l) (hl : l.length < 8) {r : Rf} (hr : refB r = true) (hv : r.ver ≤ 4) (hs : r.name.size ≤ 12) (hn : rAt l r.name 0 < 0) : GoodR (l ++ [r]) := by
  obtain ⟨_, h2⟩ := refsB_of h.ok
  refine ⟨refsB_t ⟨by simp; omega, fun i hi => ?_⟩, fun x hx => ?_⟩
  · rcases Nat.lt_or_ge i l.length with q | q
    · obtain ⟨_, a, b⟩ := h2 i q
      refine ⟨hi, by rw [List.getElem_append_left q]; exact a, ?_⟩
      rw [List.getElem_append_left q, List.take_append_of_le_length (by omega)]; exact b
    · have : i = l.length := by simp at hi; omega
      subst this
      refine ⟨hi, by simpa using hr, ?_⟩
      have e : (l ++ [r])[l.length] = r := by simp
      rw [e, List.take_append_of_le_length (by omega), List.take_length]; exact hn
  · rcases List.mem_append.1 hx with hx | hx
    · exact h.small x hx
    · rw [List.mem_singleton.1 hx]; exact ⟨hv, hs⟩
attribute [local irreducible] ACode AOps AOps2 RetG RetM Pre ACG
end Go.Proofs.Ytmfmclnklpbiaaa.AM
namespace Go.Proofs.Ytmfmclnklpbiaaa.AM
open Go Go.RowKit
set_option linter.unusedVariables false
set_option linter.unusedSimpArgs false
set_option maxRecDepth 100000
attribute [local irreducible] ACode AOps AOps2 RetG RetM Pre ACG
end Go.Proofs.Ytmfmclnklpbiaaa.AM
