/- The machine over data (K6, K7, K8, K9). -/
import Derived.Test.YtjhimcddgkoghaaKB
/- Rules for regions in which several operations change rows (AOps2): evidence by reckoning; what reads, calls, new lists, append. -/
namespace Go.Proofs.Ytjhimcddgkoghaa.AM
open Go Go.RowKit
set_option linter.unusedVariables false
set_option linter.unusedSimpArgs false
set_option maxRecDepth 100000
/-- what every operation reads was yielded before it -/
def prodB (ops : Array Oper) : Bool :=
  (List.range ops.size).all fun j => match ops[j]? with
    | some o => (tmpsOf o).all fun t => (List.range ops.size).all fun j' => match (ops[j']?).bind (·.dst) with
      | some t' => !(Nat.beq t' t) || (!(Nat.beq j' j) && (((Region.before ops).getD j 0).testBit j' || lastOp ops j'))
      | none => true
    | none => true
theorem prodB_ok {ops : Array Oper} (h : prodB ops = true) : prodOK ops := by
  intro j o ho t ht j' o' ho' hd
  have h1 := List.all_eq_true.1 h j (List.mem_range.2 (Array.getElem?_eq_some_iff.1 ho).1)
  simp only [ho] at h1
  have h2 := List.all_eq_true.1 (List.all_eq_true.1 h1 t ht) j' (List.mem_range.2 (Array.getElem?_eq_some_iff.1 ho').1)
  simp only [ho', Option.bind_some, hd, Nat.beq_refl, Bool.not_true, Bool.false_or, Bool.and_eq_true, Bool.not_eq_true', Bool.or_eq_true] at h2
  exact ⟨fun e => by rw [e] at h2; simp at h2, h2.2⟩
mutual
/-- the labels that a datum names -/
def labs : AV → List Nat
  | .own l => [l]
  | .optr l _ _ _ => [l]
  | .mapv l => [l]
  | .tup xs => labsL xs
  | .mix xs => labsL xs
  | .fn _ xs ys => labsL xs ++ labsL ys
  | .ifc _ x => labs x
  | _ => []
def labsL : List AV → List Nat
  | [] => []
  | x :: xs => labs x ++ labsL xs
end
mutual
theorem names_labs {l : Nat} : ∀ x : AV, x.names l = true → l ∈ labs x
  | .own l', h => by simp only [AV.names] at h; simp [labs, Nat.eq_of_beq_eq_true h]
  | .optr l' _ _ _, h => by simp only [AV.names] at h; simp [labs, Nat.eq_of_beq_eq_true h]
  | .mapv l', h => by simp only [AV.names] at h; simp [labs, Nat.eq_of_beq_eq_true h]
  | .tup xs, h => by simp only [AV.names] at h; unfold labs; exact names_labsL xs h
  | .mix xs, h => by simp only [AV.names] at h; unfold labs; exact names_labsL xs h
  | .fn _ xs ys, h => by
    simp only [AV.names, Bool.or_eq_true] at h; unfold labs
    exact List.mem_append.2 (h.imp (names_labsL xs) (names_labsL ys))
  | .ifc _ x, h => by simp only [AV.names] at h; unfold labs; exact names_labs x h
  | .any, h => by simp [AV.names] at h
  | .v _, h => by simp [AV.names] at h
  | .agg _, h => by simp [AV.names] at h
  | .lst _ _, h => by simp [AV.names] at h
  | .ptr _, h => by simp [AV.names] at h
  | .rd _, h => by simp [AV.names] at h
theorem names_labsL {l : Nat} : ∀ xs : List AV, namesL l xs = true → l ∈ labsL xs
  | [], h => by simp [namesL] at h
  | x :: xs, h => by
    simp only [namesL, Bool.or_eq_true] at h; unfold labsL
    exact List.mem_append.2 (h.imp (names_labs x) (names_labsL xs))
end
theorem inNu_mem {l : Nat} : ∀ {nu : List (Nat × Option OB)}, inNu nu l → l ∈ nu.map (·.1)
  | [], ⟨o, h⟩ => by simp [nuAt] at h
  | (m, ob) :: r, ⟨o, h⟩ => by
    simp only [nuAt] at h
    cases e : Nat.beq l m with
    | true => simp [Nat.eq_of_beq_eq_true e]
    | false => rw [e] at h; exact List.mem_cons_of_mem _ (inNu_mem ⟨o, h⟩)
/-- is t not yet yielded, at k? -/
def lateB (ops : Array Oper) (k : Nat) (t : Tmp) : Bool := (List.range ops.size).any fun j' => match (ops[j']?).bind (·.dst) with
  | some t' => Nat.beq t' t && (!(Nat.blt j' k) && !(lastOp ops j'))
  | none => false
theorem lateB_ok {ops : Array Oper} {k : Nat} {t : Tmp} (h : lateB ops k t = true) (hf : freshT ops (fun j => Nat.blt j k) t) : False := by
  obtain ⟨j', hj', h3⟩ := List.any_eq_true.1 h
  cases ho' : ops[j']? with
  | none => rw [ho'] at h3; cases h3
  | some o' =>
    rw [ho'] at h3
    cases hd : o'.dst with
    | none => simp only [Option.bind_some, hd] at h3; cases h3
    | some t' =>
      simp only [Option.bind_some, hd, Bool.and_eq_true, Bool.not_eq_true'] at h3
      have : t' = t := Nat.eq_of_beq_eq_true h3.1
      subst this
      rcases hf j' o' ho' hd with h4 | h4
      · simp only at h4
        rw [h4] at h3; simp at h3
      · rw [h4] at h3; simp at h3
/-- what the evidence asks beside the operation's own -/
def evB (ops : Array Oper) (k : Nat) (s : St) (o : Oper) (ks ls : List Nat) : Bool :=
  (condB ops k s ls && (((ls.isEmpty || (List.range ops.size).all fun j => Nat.beq j k || (ordr ops j k || (match ops[j]? with
    | some o' => (tmpsOf o').all fun t => lateB ops k t || (labs (s.sl t)).all fun l0 => match s.hp l0 with | some ob => ls.all fun l => !(namesE l ob.e) | none => true
    | none => true))) && (ks.isEmpty || (List.range ops.size).all fun j => match ops[j]? with
    | some o' => (tmpsOf o').all fun t => lateB ops k t || (labs (s.sl t)).all fun l => match s.hp l with | some ob => ob.e.shut | none => true
    | none => true)) && ((!(stor o) || (List.range ops.size).all fun j => Nat.beq j k || (ordr ops j k || (match ops[j]? with
    | some o' => noKs o'
    | none => true))) && (!(noKs o) || ks.isEmpty)))) &&
  ((ks.isEmpty || (List.range ops.size).all fun j => match ops[j]? with
    | some o => (tmpsOf o).all fun t => lateB ops k t || ((ks.all fun l => !((s.sl t).names l)) || (labs (s.sl t)).all fun l => ls.contains l) &&
        (Nat.beq j k || (ordr ops j k || (labs (s.sl t)).all fun l => match s.hp l with | some ob => ob.e.shut | none => true))
    | none => true) &&
  (List.range ops.size).all fun j => Nat.beq j k || (ordr ops j k || (match (ops[j]?).bind (·.dst) with
    | some d => ls.all fun l => !(Nat.beq (l % 1000) ((d + 1) % 1000))
    | none => true)))
section
variable {P : Program} {Θ : Tab} {n : Nat} {ops : Array Oper} {k : Nat} {s : St} {o : Oper} {u : AV} {ks : List Nat} {nu : List (Nat × Option OB)}
theorem ev_of (hs : SftG P Θ o s u ks nu) (hin : ∀ l ∈ nu.map (·.1), inNu nu l) (hB : evB ops k s o ks (nu.map (·.1)) = true) : Ev P Θ ops (fun j => Nat.blt j k) k o s u ks nu := by
  simp only [evB, Bool.and_eq_true] at hB
  obtain ⟨⟨b1, ⟨bf, bc⟩, bo, bn⟩, b2, b3⟩ := hB
  have key : ∀ (j : Nat) (o' : Oper), ops[j]? = some o' → ∀ t ∈ tmpsOf o', freshT ops (fun j => Nat.blt j k) t → ks = [] ∨
      (((ks.all fun l => !((s.sl t).names l)) || (labs (s.sl t)).all fun l => (nu.map (·.1)).contains l) = true ∧ (Nat.beq j k || (ordr ops j k || (labs (s.sl t)).all fun l => match s.hp l with | some ob => ob.e.shut | none => true)) = true) := fun j o' ho t ht hf => by
    rcases (Bool.or_eq_true _ _).mp b2 with h | h
    · exact .inl (List.isEmpty_iff.1 h)
    · have h1 := List.all_eq_true.1 h j (List.mem_range.2 (Array.getElem?_eq_some_iff.1 ho).1)
      simp only [ho] at h1
      have h2 := List.all_eq_true.1 h1 t ht
      rcases (Bool.or_eq_true _ _).mp h2 with h3 | h3
      · exact (lateB_ok h3 hf).elim
      · exact .inr (by simpa [Bool.and_eq_true] using h3)
  refine ⟨hs, fun j o' ho hne hor t ht hf l hl => condB_ok b1 j o' ho hne hor t ht hf l (inNu_mem hl), fun j o' ho t ht hf => ?_, fun j o' ho hne hor t ht hf l ob hn hob => ?_, fun j o' ho hne hor d hd l hl => ?_, fun j o' ho hne hor t ht hf l0 ob l hn hob hl => ?_, ?_, fun hst j o' ho hne hor => ?_, fun hnk => ?_⟩
  · rcases key j o' ho t ht hf with rfl | ⟨h, _⟩
    · exact .inl fun l hl => by cases hl
    · rcases (Bool.or_eq_true _ _).mp h with h | h
      · exact .inl fun l hl => by simpa using List.all_eq_true.1 h l hl
      · exact .inr fun l hl => hin l (by simpa using List.all_eq_true.1 h l (names_labs _ hl))
  · rcases key j o' ho t ht hf with rfl | ⟨_, h⟩
    · exact .inl rfl
    · rw [nbne hne, hor] at h
      simp only [Bool.false_or] at h
      have := List.all_eq_true.1 h l (names_labs _ hn)
      simp only [hob] at this
      exact .inr this
  · have h1 := List.all_eq_true.1 b3 j (List.mem_range.2 (Array.getElem?_eq_some_iff.1 ho).1)
    rw [nbne hne, hor] at h1
    simp only [Bool.false_or, ho, Option.bind_some, hd] at h1
    have := List.all_eq_true.1 h1 l (inNu_mem hl)
    intro e
    rw [e] at this
    simp at this
  · have hm := inNu_mem hl
    rcases (Bool.or_eq_true _ _).mp bf with h | h
    · rw [List.isEmpty_iff.1 h] at hm; cases hm
    · have h1 := List.all_eq_true.1 h j (List.mem_range.2 (Array.getElem?_eq_some_iff.1 ho).1)
      rw [nbne hne, hor] at h1
      simp only [Bool.false_or, ho] at h1
      have h2 := List.all_eq_true.1 h1 t ht
      rcases (Bool.or_eq_true _ _).mp h2 with h3 | h3
      · exact (lateB_ok h3 hf).elim
      · have h4 := List.all_eq_true.1 h3 l0 (names_labs _ hn)
        simp only [hob] at h4
        have h5 := List.all_eq_true.1 h4 l hm
        simpa using h5
  · rcases (Bool.or_eq_true _ _).mp bc with h | h
    · exact .inl (List.isEmpty_iff.1 h)
    · refine .inr fun j o' ho t ht hf l0 ob hn hob => ?_
      have h1 := List.all_eq_true.1 h j (List.mem_range.2 (Array.getElem?_eq_some_iff.1 ho).1)
      simp only [ho] at h1
      have h2 := List.all_eq_true.1 h1 t ht
      rcases (Bool.or_eq_true _ _).mp h2 with h3 | h3
      · exact (lateB_ok h3 hf).elim
      · have h4 := List.all_eq_true.1 h3 l0 (names_labs _ hn)
        simp only [hob] at h4
        exact h4
  · rw [hst] at bo
    have h1 := List.all_eq_true.1 bo j (List.mem_range.2 (Array.getElem?_eq_some_iff.1 ho).1)
    rw [nbne hne, hor] at h1
    simpa only [Bool.false_or, ho] using h1
  · rw [hnk] at bn
    exact List.isEmpty_iff.1 bn
theorem inNu_nil {l : Nat} (h : inNu [] l) : False := by obtain ⟨o, h⟩ := h; simp [nuAt] at h
/-- what only reads -/
theorem sft_calm {v : AV} (hp : Pre P Θ o s ⟨v, none⟩) (hc : calm Θ true o = true) (hv : calm1 o = true ∨ v.within (fun _ => false) = true) : Sft P Θ o s v [] [] := by
  refine ⟨fun s' h1 h2 => ⟨⟨v, none⟩, pre_calm (two := true) hc h1 (fun _ l ⟨x, hx, hn⟩ => ?_) hp, fun K hK => .done hK⟩, fun l ob h => by simp [nuAt] at h, fun l hl => (by cases hl), fun l hl => ?_, fun l hl => (inNu_nil hl).elim, fun l ob hl => (inNu_nil hl).elim⟩
  · cases x with
    | tmp t => exact (h2 l (.inr ⟨t, mem_tmps hx, hn⟩)).1
    | _ => simp [St.ev, AV.names, namesL] at hn
  · rcases hv with hv | hv
    · exact .inr (val_calm1 hv hp l hl)
    · have := within_names v hv hl; cases this
theorem o2_nil {K : St → Prop} (h : K s) : AOps2 P Θ n ops k [] s K := Gh.done h
theorem o2_calm {r : List Oper} {K : St → Prop} {v : AV} (hp : Pre P Θ o s ⟨v, none⟩) (hin : inN n o.dst = true) (hg : o.guard = none) (hc : calm Θ true o = true) (hv : calm1 o = true ∨ v.within (fun _ => false) = true) (hB : evB ops k s o [] [] = true) (h : AOps2 P Θ n ops (k + 1) r (s.put o.dst v) K) : AOps2 P Θ n ops k (o :: r) s K :=
  ⟨hin, hg, .inl ⟨v, [], [], ev_of (sft_calm hp hc hv).g (fun l hl => by cases hl) hB, h⟩⟩
theorem o2_sft {r : List Oper} {K : St → Prop} (hs : Sft P Θ o s u ks nu) (hn : ∀ l ∈ nu.map (·.1), inNu nu l) (hin : inN n o.dst = true) (hg : o.guard = none) (hB : evB ops k s o ks (nu.map (·.1)) = true) (h : AOps2 P Θ n ops (k + 1) r ((shp ks nu s).put o.dst u) K) : AOps2 P Θ n ops k (o :: r) s K :=
  ⟨hin, hg, .inl ⟨u, ks, nu, ev_of hs.g hn hB, h⟩⟩
theorem o2_tied {r : List Oper} {K : St → Prop} {e : Eff} (hp : Pre P Θ o s e) (hin : inN n o.dst = true) (hg : o.guard = none) (ht : tied ops k = true) (h : AOps2 P Θ n ops (k + 1) r (s.app o.dst e) K) : AOps2 P Θ n ops k (o :: r) s K :=
  ⟨hin, hg, .inr ⟨ht, e, hp, .done h⟩⟩
end
end Go.Proofs.Ytjhimcddgkoghaa.AM
/- Evidence of operations that change rows (AOps2): a call over data, a list without elements, append of a list that is read. -/
namespace Go.Proofs.Ytjhimcddgkoghaa.AM
open Go Go.RowKit
set_option linter.unusedVariables false
set_option linter.unusedSimpArgs false
set_option maxRecDepth 100000
abbrev noLab (x : AV) : Bool := x.within (fun _ => false)
mutual
theorem dat_nolab (s s' : St) : ∀ x : AV, noLab x = true → s'.dat x = s.dat x
  | .own l, h => by simp [noLab, AV.within] at h
  | .optr l _ _ _, h => by simp [noLab, AV.within] at h
  | .mix xs, h => by unfold St.dat; rw [datL_nolab s s' xs (by simpa [noLab, AV.within] using h)]
  | .ifc t x, h => by unfold St.dat; rw [dat_nolab s s' x (by simpa [noLab, AV.within] using h)]
  | .mapv l, h => by simp [noLab, AV.within] at h
  | .tup xs, h => by simp [St.dat]
  | .fn _ xs ys, h => by simp [St.dat]
  | .any, h => by simp [St.dat]
  | .v _, h => by simp [St.dat]
  | .agg _, h => by simp [St.dat]
  | .lst _ _, h => by simp [St.dat]
  | .ptr _, h => by simp [St.dat]
  | .rd _, h => by simp [St.dat]
theorem datL_nolab (s s' : St) : ∀ xs : List AV, withinL (fun _ => false) xs = true → s'.datL xs = s.datL xs
  | [], _ => by simp [St.datL]
  | x :: xs, h => by
    simp only [withinL, Bool.and_eq_true] at h
    simp only [St.datL]; rw [dat_nolab s s' x h.1, datL_nolab s s' xs h.2]
end
mutual
theorem isData_nolab (s s' : St) : ∀ x : AV, noLab x = true → isDataA s' x = isDataA s x
  | .own l, h => by simp [noLab, AV.within] at h
  | .optr l _ _ _, h => by simp [noLab, AV.within] at h
  | .mix xs, h => by unfold isDataA; rw [isDataL_nolab s s' xs (by simpa [noLab, AV.within] using h)]
  | .ifc t x, h => by simp [isDataA]
  | .mapv l, h => by simp [noLab, AV.within] at h
  | .tup xs, h => by simp [isDataA]
  | .fn _ xs ys, h => by simp [isDataA]
  | .any, h => by simp [isDataA]
  | .v _, h => by simp [isDataA]
  | .agg _, h => by simp [isDataA]
  | .lst _ _, h => by simp [isDataA]
  | .ptr _, h => by simp [isDataA]
  | .rd _, h => by simp [isDataA]
theorem isDataL_nolab (s s' : St) : ∀ xs : List AV, withinL (fun _ => false) xs = true → isDataL s' xs = isDataL s xs
  | [], _ => by simp [isDataL]
  | x :: xs, h => by
    simp only [withinL, Bool.and_eq_true] at h
    simp only [isDataL]; rw [isData_nolab s s' x h.1, isDataL_nolab s s' xs h.2]
end
section
variable {P : Program} {Θ : Tab} {s : St} {ty : TypeId} {pos : String} {after : Array Edge} {g : Option (Nat × Bool)}
end
end Go.Proofs.Ytjhimcddgkoghaa.AM
/- Evidence of operations that change rows (AOps2): a list without elements; append of a list that is read. -/
namespace Go.Proofs.Ytjhimcddgkoghaa.AM
open Go Go.RowKit
set_option linter.unusedVariables false
set_option linter.unusedSimpArgs false
set_option maxRecDepth 100000
theorem shp_set (l : Nat) (ob : OB) (s : St) : s.set l (some ob) = shp [] [(l, some ob)] s := by
  unfold shp St.set
  congr 1
  · funext j; show (bif Nat.beq j l then some ob else s.hp j) = (match (bif Nat.beq j l then some (some ob) else none) with | some o => o | none => s.hp j)
    cases Nat.beq j l <;> rfl
  · funext j; show (bif Nat.beq j l then none else s.mp j) = (match (bif Nat.beq j l then some (some ob) else none) with | some _ => none | none => s.mp j)
    cases Nat.beq j l <;> rfl
theorem nu1 {l m : Nat} {ob : OB} {o : Option OB} (h : nuAt [(l, some ob)] m = some o) : m = l ∧ o = some ob := by
  simp only [nuAt] at h
  cases e : Nat.beq m l with
  | true => rw [e] at h; simp only [cond_true, Option.some.injEq] at h; exact ⟨Nat.eq_of_beq_eq_true e, h.symm⟩
  | false => rw [e] at h; cases h
theorem in1 (l : Nat) (ob : OB) : inNu [(l, some ob)] l := ⟨some ob, by simp [nuAt]⟩
section
variable {P : Program} {Θ : Tab} {s : St} {ty : TypeId} {pos : String} {after : Array Edge} {g : Option (Nat × Bool)}
end
end Go.Proofs.Ytjhimcddgkoghaa.AM
/- Evidence of operations that change rows (AOps2): a list of one struct with own lists, folded; append in depth. -/
namespace Go.Proofs.Ytjhimcddgkoghaa.AM
open Go Go.RowKit
set_option linter.unusedVariables false
set_option linter.unusedSimpArgs false
set_option maxRecDepth 100000
section
variable {P : Program} {Θ : Tab} {s : St} {ty : TypeId} {pos : String} {after : Array Edge} {g : Option (Nat × Bool)}
end
end Go.Proofs.Ytjhimcddgkoghaa.AM
/- Evidence of operations in a region that draws (AOps2): a cell made, a cell filled with something that holds labels, such a cell read, a call that reads rows of the call's own. -/
namespace Go.Proofs.Ytjhimcddgkoghaa.AM
open Go Go.RowKit
set_option linter.unusedVariables false
set_option linter.unusedSimpArgs false
set_option maxRecDepth 100000
mutual
theorem dat_loc {s s' : St} : ∀ x : AV, (∀ l, x.names l = true → s'.hp l = s.hp l) → s'.dat x = s.dat x ∧ isDataA s' x = isDataA s x
  | .own l, h => by
    have := h l (by simp [AV.names])
    simp only [St.dat, isDataA, this, and_self]
  | .optr l i p c, h => by
    have := h l (by simp [AV.names])
    simp only [St.dat, isDataA, this, and_self]
  | .mix xs, h => by
    obtain ⟨h1, h2⟩ := datL_loc xs (fun l hl => h l (by simpa [AV.names] using hl))
    simp only [St.dat, isDataA, h1, h2, and_self]
  | .ifc t x, h => by
    obtain ⟨h1, _⟩ := dat_loc x (fun l hl => h l (by simpa [AV.names] using hl))
    simp only [St.dat, isDataA, h1, and_self]
  | .rd x, _ => ⟨rfl, rfl⟩
  | .any, _ => ⟨rfl, rfl⟩
  | .v _, _ => ⟨rfl, rfl⟩
  | .agg _, _ => ⟨rfl, rfl⟩
  | .lst _ _, _ => ⟨rfl, rfl⟩
  | .ptr _, _ => ⟨rfl, rfl⟩
  | .tup _, _ => ⟨rfl, rfl⟩
  | .mapv _, _ => ⟨rfl, rfl⟩
  | .fn _ _ _, _ => ⟨rfl, rfl⟩
theorem datL_loc {s s' : St} : ∀ xs : List AV, (∀ l, namesL l xs = true → s'.hp l = s.hp l) → s'.datL xs = s.datL xs ∧ isDataL s' xs = isDataL s xs
  | [], _ => ⟨rfl, rfl⟩
  | x :: xs, h => by
    obtain ⟨h1, h2⟩ := dat_loc x (fun l hl => h l (by simp [namesL, hl]))
    obtain ⟨h3, h4⟩ := datL_loc xs (fun l hl => h l (by simp [namesL, hl]))
    simp only [St.datL, isDataL, h1, h2, h3, h4, and_self]
end
section
variable {P : Program} {Θ : Tab} {s : St} {ty : TypeId} {pos : String} {after : Array Edge} {g : Option (Nat × Bool)}
theorem in_o1 {l : Nat} {ob : OB} : ∀ m ∈ ([(l, some ob)] : List (Nat × Option OB)).map (·.1), inNu [(l, some ob)] m := fun m hm => by
  simp only [List.map_cons, List.map_nil, List.mem_singleton] at hm
  subst hm; exact in1 _ _
theorem in_o0 : ∀ m ∈ ([] : List (Nat × Option OB)).map (·.1), inNu [] m := fun m hm => by cases hm
end
theorem parts_nolab {s s' : St} : ∀ (ps : List (Nat × Operand)) (z : List AV), (∀ x ∈ ps, s'.ev x.2 = s.ev x.2 ∧ noLab (s.ev x.2) = true) → setParts s' z ps = setParts s z ps ∧ (partsOK s z ps → partsOK s' z ps)
  | [], z, _ => ⟨rfl, fun h => h⟩
  | (i, x) :: ps, z, h => by
    obtain ⟨h1, h2⟩ := h (i, x) (by simp)
    simp only at h1 h2
    have e1 : s'.dat (s'.ev x) = s.dat (s.ev x) := by rw [h1, dat_nolab s s' _ h2]
    have e2 : isDataA s' (s'.ev x) = isDataA s (s.ev x) := by rw [h1, isData_nolab s s' _ h2]
    obtain ⟨q1, q2⟩ := parts_nolab ps (z.set i (s.dat (s.ev x))) (fun y hy => h y (List.mem_cons_of_mem _ hy))
    unfold setParts partsOK
    rw [e1, e2]
    exact ⟨q1, fun ⟨a, b, c⟩ => ⟨a, b, q2 c⟩⟩
section
variable {P : Program} {Θ : Tab} {s : St} {ty : TypeId} {pos : String} {after : Array Edge} {g : Option (Nat × Bool)}
/-- a struct's value put together out of data -/
theorem sft_bld {d : Option Tmp} {t : TypeId} {ps : Array (Nat × Operand)} {fs : List (Nat × Nat)} {z : List AV} (ht : Θ.look t = .struct fs z) (hp : partsOK s z ps.toList) (hc : csOK (ps.toList.map (·.2)) = true) (hw : (ps.toList.all fun x => noLab (s.ev x.2)) = true) (ho : ownsOf s (ps.toList.map (·.2)) = []) :
    Sft P Θ ⟨d, .build t ps, ty, pos, after, g⟩ s (.agg (setParts s z ps.toList)) [] [] := by
  refine ⟨fun s' h1 h2 => ⟨⟨.agg (setParts s z ps.toList), none⟩, ?_, fun K hK => .done hK⟩, fun l ob h => by simp [nuAt] at h, fun l hl => (by cases hl), fun l hl => by simp [AV.names] at hl, fun l hl => (inNu_nil hl).elim, fun l ob hl => (inNu_nil hl).elim⟩
  have hev : ∀ x ∈ ps.toList, s'.ev x.2 = s.ev x.2 := fun x hx => h1 x.2 (by simp [Op.operands]; exact ⟨x.1, by simpa using hx⟩)
  obtain ⟨q1, q2⟩ := parts_nolab (s := s) (s' := s') ps.toList z (fun x hx => ⟨hev x hx, List.all_eq_true.1 hw x hx⟩)
  have ho' : ownsOf s' (ps.toList.map (·.2)) = [] := by
    rw [← ho]; unfold ownsOf
    congr 1
    rw [List.map_map, List.map_map]
    exact List.map_congr_left fun x hx => hev x hx
  refine ⟨fs, z, ht, .inl ⟨q2 hp, csOK_spec hc, by rw [ho']; rfl, ?_⟩⟩
  rw [ho', q1]; rfl
/-- what only reads, its value naming rows that its operands name -/
theorem sft_rd {o : Oper} {v : AV} (hp : Pre P Θ o s ⟨v, none⟩) (hc : calm Θ true o = true) (hn : ((labs v).all fun l => (tmpsOf o).any fun t => (s.sl t).names l) = true) : Sft P Θ o s v [] [] := by
  refine ⟨fun s' h1 h2 => ⟨⟨v, none⟩, pre_calm (two := true) hc h1 (fun _ l ⟨x, hx, hn⟩ => ?_) hp, fun K hK => .done hK⟩, fun l ob h => by simp [nuAt] at h, fun l hl => (by cases hl), fun l hl => ?_, fun l hl => (inNu_nil hl).elim, fun l ob hl => (inNu_nil hl).elim⟩
  · cases x with
    | tmp t => exact (h2 l (.inr ⟨t, mem_tmps hx, hn⟩)).1
    | _ => simp [St.ev, AV.names, namesL] at hn
  · have h3 := List.all_eq_true.1 hn l (names_labs v hl)
    obtain ⟨t, ht, h4⟩ := List.any_eq_true.1 h3
    exact .inr ⟨t, ht, h4⟩
/-- a list of one struct of data -/
theorem sft_bsd1 {d : Nat} {t : TypeId} {x : Operand} {el sz b : Nat} {z : AV} {ys : List AV} (hf : s.hp (d + 1) = none) (ht : Θ.look t = .slice el sz b z) (hx : s.ev x = .agg ys) (hz : Nat.beq (asz (.agg ys)) (asz z) = true) (hsz : Nat.ble sz 65536 = true) (hok : okL (d + 1) = true := by rfl) :
    Sft P Θ ⟨some d, .buildSlice t 1 #[(0, x)], ty, pos, after, g⟩ s (.own (d + 1)) [] [(d + 1, some ⟨.s el, sz, [.agg ys]⟩)] := by
  refine ⟨fun s' h1 h2 => ⟨⟨.own (d + 1), some fun s'' => s''.set (d + 1) (some ⟨.s el, sz, [.agg ys]⟩)⟩, ?_, fun K hK => .done ?_⟩, fun l ob h => ?_, fun l hl => (by cases hl), fun l hl => .inl ?_, fun l ⟨o, hl⟩ => .inl ?_, fun l ob ⟨o, hl⟩ ho => ?_⟩
  · exact p_bsl1 ((h2 _ (.inl (in1 _ _))).1.trans hf) ht ((h1 x (by simp [Op.operands])).trans hx) rfl hz hsz hok
  · rw [app_some, shp_set]; exact hK
  · obtain ⟨_, e⟩ := nu1 h; cases e; rfl
  · simp only [AV.names] at hl; rw [← Nat.eq_of_beq_eq_true hl]; exact in1 _ _
  · obtain ⟨rfl, _⟩ := nu1 hl; exact ⟨d, rfl, rfl⟩
  · obtain ⟨rfl, _⟩ := nu1 hl; rw [hf] at ho; cases ho
end
end Go.Proofs.Ytjhimcddgkoghaa.AM
