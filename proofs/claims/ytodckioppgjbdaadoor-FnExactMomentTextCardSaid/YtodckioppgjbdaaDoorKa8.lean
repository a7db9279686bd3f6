/- Texts of the machine over data, folded. -/
import Derived.Test.YtodckioppgjbdaaDoorKa7
import Derived.Test.YtodckioppgjbdaaDoorKa5
import Derived.Test.YtodckioppgjbdaaDoorKa6
import Derived.Laws.StructEq
set_option linter.unusedVariables false
set_option linter.unusedSimpArgs false
set_option maxRecDepth 100000
namespace Go.Proofs.YtodckioppgjbdaaDoor.AM
open Go Go.RowKit
def aKP (ops : Array Oper) : Bool :=
 (List.range ops.size).all fun j => match ops[j]? with
  | some o => (tmpsOf o).all fun t => (List.range ops.size).all fun j' => match (ops[j']?).bind (·.dst) with
   | some t' => !(Nat.beq t' t) || (!(Nat.beq j' j) && (((Region.before ops).getD j 0).testBit j' || jR ops j'))
   | none => true
  | none => true
theorem wo {ops : Array Oper} (h : aKP ops = true) : jU ops := by
 intro j o ho t ht j' o' ho' hd
 have h1 := List.all_eq_true.1 h j (List.mem_range.2 (Array.getElem?_eq_some_iff.1 ho).1)
 simp only [ho] at h1
 have h2 := List.all_eq_true.1 (List.all_eq_true.1 h1 t ht) j' (List.mem_range.2 (Array.getElem?_eq_some_iff.1 ho').1)
 simp only [ho', Option.bind_some, hd, Nat.beq_refl, Bool.not_true, Bool.false_or, Bool.and_eq_true, Bool.not_eq_true', Bool.or_eq_true] at h2
 exact ⟨fun e => by rw [e] at h2; simp at h2, h2.2⟩
mutual
def vF : AV → List Nat
 | .own l => [l]
 | .optr l _ _ _ => [l]
 | .mapv l => [l]
 | .tup xs => qm xs
 | .mix xs => qm xs
 | .fn _ xs ys => qm xs ++ qm ys
 | .ifc _ x => vF x
 | _ => []
def qm : List AV → List Nat
 | [] => []
 | x :: xs => vF x ++ qm xs
end
mutual
theorem uZ {l : Nat} : ∀ x : AV, x.names l = true → l ∈ vF x
 | .own l', h => by simp only [AV.names] at h; simp [vF, Nat.eq_of_beq_eq_true h]
 | .optr l' _ _ _, h => by simp only [AV.names] at h; simp [vF, Nat.eq_of_beq_eq_true h]
 | .mapv l', h => by simp only [AV.names] at h; simp [vF, Nat.eq_of_beq_eq_true h]
 | .tup xs, h => by simp only [AV.names] at h; unfold vF; exact vW xs h
 | .mix xs, h => by simp only [AV.names] at h; unfold vF; exact vW xs h
 | .fn _ xs ys, h => by
  simp only [AV.names, Bool.or_eq_true] at h; unfold vF
  exact List.mem_append.2 (h.imp (vW xs) (vW ys))
 | .ifc _ x, h => by simp only [AV.names] at h; unfold vF; exact uZ x h
 | .any, h => by simp [AV.names] at h
 | .v _, h => by simp [AV.names] at h
 | .agg _, h => by simp [AV.names] at h
 | .lst _ _, h => by simp [AV.names] at h
 | .ptr _, h => by simp [AV.names] at h
 | .rd _, h => by simp [AV.names] at h
theorem vW {l : Nat} : ∀ xs : List AV, xE l xs = true → l ∈ qm xs
 | [], h => by simp [xE] at h
 | x :: xs, h => by
  simp only [xE, Bool.or_eq_true] at h; unfold qm
  exact List.mem_append.2 (h.imp (uZ x) (vW xs))
end
theorem qj {l : Nat} : ∀ {nu : List (Nat × Option OB)}, xY nu l → l ∈ nu.map (·.1)
 | [], ⟨o, h⟩ => by simp [xu] at h
 | (m, ob) :: r, ⟨o, h⟩ => by
  simp only [xu] at h
  cases e : Nat.beq l m with
  | true => simp [Nat.eq_of_beq_eq_true e]
  | false => rw [e] at h; exact List.mem_cons_of_mem _ (qj ⟨o, h⟩)
def aDQ (ops : Array Oper) (k : Nat) (t : Tmp) : Bool := (List.range ops.size).any fun j' => match (ops[j']?).bind (·.dst) with
 | some t' => Nat.beq t' t && (!(Nat.blt j' k) && !(jR ops j'))
 | none => false
theorem aBU {ops : Array Oper} {k : Nat} {t : Tmp} (h : aDQ ops k t = true) (hf : zf ops (fun j => Nat.blt j k) t) : False := by
 obtain ⟨j', hj', h3⟩ := List.any_eq_true.1 h
 cases ho' : ops[j']? with
 | none => rw [ho'] at h3; cases h3
 | some o' =>
  rw [ho'] at h3
  cases hd : o'.dst with
  | none => simp only [Option.bind_some, hd] at h3; cases h3
  | some t' =>
   simp only [Option.bind_some, hd, Bool.and_eq_true, Bool.not_eq_true'] at h3
   have : t' = t := Nat.eq_of_beq_eq_true h3.1
   subst this
   rcases hf j' o' ho' hd with h4 | h4
   · simp only at h4
     rw [h4] at h3; simp at h3
   · rw [h4] at h3; simp at h3
def aHk (ops : Array Oper) (k : Nat) (s : St) (ks ls : List Nat) : Bool :=
 (List.range ops.size).all fun j => Nat.beq j k || (zq ops j k || (match ops[j]? with
  | some o => ((tmpsOf o).all fun t => ((List.range ops.size).any fun j' => match (ops[j']?).bind (·.dst) with
   | some t' => Nat.beq t' t && (!(Nat.blt j' k) && !(jR ops j'))
   | none => false) || ls.all fun l => !((s.sl t).names l)) || (ks.isEmpty && wvB ops k o)
  | none => true))
theorem aHS {ops : Array Oper} {k : Nat} {s : St} {ks ls : List Nat} (h : aHk ops k s ks ls = true) : ∀ j o, ops[j]? = some o → j ≠ k → zq ops j k = false → (ks = [] ∧ wvB ops k o = true) ∨ ∀ t, t ∈ tmpsOf o → (∀ j' o', ops[j']? = some o' → o'.dst = some t → Nat.blt j' k = true ∨ jR ops j' = true) → ∀ l ∈ ls, (s.sl t).names l = false := by
 intro j o hj hne hor
 have h1 := List.all_eq_true.1 h j (List.mem_range.2 (Array.getElem?_eq_some_iff.1 hj).1)
 simp only [xX hne, hor, Bool.false_or, hj] at h1
 rcases (Bool.or_eq_true _ _).mp h1 with h1 | h1
 case inr =>
  rw [Bool.and_eq_true] at h1
  exact .inl ⟨List.isEmpty_iff.1 h1.1, h1.2⟩
 refine .inr fun t ht hL l hl => ?_
 have h2 := List.all_eq_true.1 h1 t ht
 rw [Bool.or_eq_true] at h2
 rcases h2 with h2 | h2
 · obtain ⟨j', hj', h3⟩ := List.any_eq_true.1 h2
   cases ho' : ops[j']? with
   | none => rw [ho'] at h3; cases h3
   | some o' =>
    rw [ho'] at h3
    cases hd : o'.dst with
    | none => simp only [Option.bind_some, hd] at h3; cases h3
    | some t' =>
     simp only [Option.bind_some, hd, Bool.and_eq_true, Bool.not_eq_true'] at h3
     have : t' = t := Nat.eq_of_beq_eq_true h3.1
     subst this
     rcases hL j' o' ho' hd with h4 | h4 <;> rw [h4] at h3 <;> simp at h3
 · have := List.all_eq_true.1 h2 l hl
   simpa using this
def evB (ops : Array Oper) (k : Nat) (s : St) (o : Oper) (ks ls : List Nat) : Bool :=
 (aHk ops k s ks ls && (((ls.isEmpty || (List.range ops.size).all fun j => Nat.beq j k || (zq ops j k || (match ops[j]? with
  | some o' => (tmpsOf o').all fun t => aDQ ops k t || (vF (s.sl t)).all fun l0 => match s.hp l0 with | some ob => ls.all fun l => !(yM l ob.e) | none => true
  | none => true))) && (ks.isEmpty || (List.range ops.size).all fun j => match ops[j]? with
  | some o' => (tmpsOf o').all fun t => aDQ ops k t || (vF (s.sl t)).all fun l => match s.hp l with | some ob => ob.e.shut | none => true
  | none => true)) && ((!(aER o) || (List.range ops.size).all fun j => Nat.beq j k || (zq ops j k || (match ops[j]? with
  | some o' => aCX o'
  | none => true))) && (!(aCX o) || ks.isEmpty)))) &&
 ((ks.isEmpty || (List.range ops.size).all fun j => match ops[j]? with
  | some o => (tmpsOf o).all fun t => aDQ ops k t || ((ks.all fun l => !((s.sl t).names l)) || (vF (s.sl t)).all fun l => ls.contains l) &&
   (Nat.beq j k || (zq ops j k || (vF (s.sl t)).all fun l => match s.hp l with | some ob => ob.e.shut | none => true))
  | none => true) &&
 (List.range ops.size).all fun j => Nat.beq j k || (zq ops j k || (match (ops[j]?).bind (·.dst) with
  | some d => ls.all fun l => !(Nat.beq (l % 1000) ((d + 1) % 1000))
  | none => true)))
section
variable {P : Program} {Θ : Tab} {n : Nat} {ops : Array Oper} {k : Nat} {s : St} {o : Oper} {u : AV} {ks : List Nat} {nu : List (Nat × Option OB)}
theorem aHm (hs : SftG P Θ o s u ks nu) (hin : ∀ l ∈ nu.map (·.1), xY nu l) (hB : evB ops k s o ks (nu.map (·.1)) = true) (hqt : vX o = true → nu = [] ∧ Pre P Θ o s ⟨u, none⟩) : Ev P Θ ops (fun j => Nat.blt j k) k o s u ks nu := by
 simp only [evB, Bool.and_eq_true] at hB
 obtain ⟨⟨b1, ⟨bf, bc⟩, bo, bn⟩, b2, b3⟩ := hB
 have key : ∀ (j : Nat) (o' : Oper), ops[j]? = some o' → ∀ t ∈ tmpsOf o', zf ops (fun j => Nat.blt j k) t → ks = [] ∨
  (((ks.all fun l => !((s.sl t).names l)) || (vF (s.sl t)).all fun l => (nu.map (·.1)).contains l) = true ∧ (Nat.beq j k || (zq ops j k || (vF (s.sl t)).all fun l => match s.hp l with | some ob => ob.e.shut | none => true)) = true) := fun j o' ho t ht hf => by
  rcases (Bool.or_eq_true _ _).mp b2 with h | h
  · exact .inl (List.isEmpty_iff.1 h)
  · have h1 := List.all_eq_true.1 h j (List.mem_range.2 (Array.getElem?_eq_some_iff.1 ho).1)
    simp only [ho] at h1
    have h2 := List.all_eq_true.1 h1 t ht
    rcases (Bool.or_eq_true _ _).mp h2 with h3 | h3
    · exact (aBU h3 hf).elim
    · exact .inr (by simpa [Bool.and_eq_true] using h3)
 refine ⟨hs, fun j o' ho hne hor => (aHS b1 j o' ho hne hor).imp id fun hA t ht hf l hl => hA t ht hf l (qj hl), fun j o' ho t ht hf => ?_, fun j o' ho hne hor t ht hf l ob hn hob => ?_, fun j o' ho hne hor d hd l hl => ?_, fun j o' ho hne hor t ht hf l0 ob l hn hob hl => ?_, ?_, fun hst j o' ho hne hor => ?_, fun hnk => ?_, hqt⟩
 · rcases key j o' ho t ht hf with rfl | ⟨h, _⟩
   · exact .inl fun l hl => by cases hl
   · rcases (Bool.or_eq_true _ _).mp h with h | h
     · exact .inl fun l hl => by simpa using List.all_eq_true.1 h l hl
     · exact .inr fun l hl => hin l (by simpa using List.all_eq_true.1 h l (uZ _ hl))
 · rcases key j o' ho t ht hf with rfl | ⟨_, h⟩
   · exact .inl rfl
   · rw [xX hne, hor] at h
     simp only [Bool.false_or] at h
     have := List.all_eq_true.1 h l (uZ _ hn)
     simp only [hob] at this
     exact .inr this
 · have h1 := List.all_eq_true.1 b3 j (List.mem_range.2 (Array.getElem?_eq_some_iff.1 ho).1)
   rw [xX hne, hor] at h1
   simp only [Bool.false_or, ho, Option.bind_some, hd] at h1
   have := List.all_eq_true.1 h1 l (qj hl)
   intro e
   rw [e] at this
   simp at this
 · have hm := qj hl
   rcases (Bool.or_eq_true _ _).mp bf with h | h
   · rw [List.isEmpty_iff.1 h] at hm; cases hm
   · have h1 := List.all_eq_true.1 h j (List.mem_range.2 (Array.getElem?_eq_some_iff.1 ho).1)
     rw [xX hne, hor] at h1
     simp only [Bool.false_or, ho] at h1
     have h2 := List.all_eq_true.1 h1 t ht
     rcases (Bool.or_eq_true _ _).mp h2 with h3 | h3
     · exact (aBU h3 hf).elim
     · have h4 := List.all_eq_true.1 h3 l0 (uZ _ hn)
       simp only [hob] at h4
       have h5 := List.all_eq_true.1 h4 l hm
       simpa using h5
 · rcases (Bool.or_eq_true _ _).mp bc with h | h
   · exact .inl (List.isEmpty_iff.1 h)
   · refine .inr fun j o' ho t ht hf l0 ob hn hob => ?_
     have h1 := List.all_eq_true.1 h j (List.mem_range.2 (Array.getElem?_eq_some_iff.1 ho).1)
     simp only [ho] at h1
     have h2 := List.all_eq_true.1 h1 t ht
     rcases (Bool.or_eq_true _ _).mp h2 with h3 | h3
     · exact (aBU h3 hf).elim
     · have h4 := List.all_eq_true.1 h3 l0 (uZ _ hn)
       simp only [hob] at h4
       exact h4
 · rw [hst] at bo
   have h1 := List.all_eq_true.1 bo j (List.mem_range.2 (Array.getElem?_eq_some_iff.1 ho).1)
   rw [xX hne, hor] at h1
   simpa only [Bool.false_or, ho] using h1
 · rw [hnk] at bn
   exact List.isEmpty_iff.1 bn
theorem uK {l : Nat} (h : xY [] l) : False := by obtain ⟨o, h⟩ := h; simp [xu] at h
theorem aHe {v : AV} (hp : Pre P Θ o s ⟨v, none⟩) (hc : calm Θ true o = true) (hv : uU o = true ∨ v.within (fun _ => false) = true) : Sft P Θ o s v [] [] := by
 refine ⟨fun s' h1 h2 => ⟨⟨v, none⟩, wm (two := true) hc h1 (fun _ l ⟨x, hx, hn⟩ => ?_) hp, fun K hK => .done hK⟩, fun l ob h => by simp [xu] at h, fun l hl => (by cases hl), fun l hl => ?_, fun l hl => (uK hl).elim, fun l ob hl => (uK hl).elim⟩
 · cases x with
   | tmp t => exact (h2 l (.inr ⟨t, yu hx, hn⟩)).1
   | global g => simp [St.ev, uX] at hn
   | _ => simp [St.ev, AV.names, xE] at hn
 · rcases hv with hv | hv
   · exact .inr (kS hv hp l hl)
   · have := zL v hv hl; cases this
theorem qJ {K : St → Prop} (h : K s) : xQ P Θ n ops k [] s K := Gh.done h
theorem yP {r : List Oper} {K : St → Prop} {v : AV} (hp : Pre P Θ o s ⟨v, none⟩) (hin : inN n o.dst = true) (hg : o.guard = none) (hc : calm Θ true o = true) (hv : uU o = true ∨ v.within (fun _ => false) = true) (hB : evB ops k s o [] [] = true) (h : xQ P Θ n ops (k + 1) r (s.put o.dst v) K) : xQ P Θ n ops k (o :: r) s K :=
 ⟨hin, hg, .inl ⟨v, [], [], aHm (aHe hp hc hv).g (fun l hl => by cases hl) hB (fun _ => ⟨rfl, hp⟩), h⟩⟩
theorem xk {r : List Oper} {K : St → Prop} (hs : Sft P Θ o s u ks nu) (hn : ∀ l ∈ nu.map (·.1), xY nu l) (hin : inN n o.dst = true) (hg : o.guard = none) (hB : evB ops k s o ks (nu.map (·.1)) = true) (h : xQ P Θ n ops (k + 1) r ((shp ks nu s).put o.dst u) K) (hq : vX o = false := by rfl) : xQ P Θ n ops k (o :: r) s K :=
 ⟨hin, hg, .inl ⟨u, ks, nu, aHm hs.g hn hB (fun h => by rw [hq] at h; cases h), h⟩⟩
end
abbrev uH (x : AV) : Bool := x.within (fun _ => false)
mutual
theorem aAX (s s' : St) : ∀ x : AV, uH x = true → s'.dat x = s.dat x
 | .own l, h => by simp [uH, AV.within] at h
 | .optr l _ _ _, h => by simp [uH, AV.within] at h
 | .mix xs, h => by unfold St.dat; rw [aB8 s s' xs (by simpa [uH, AV.within] using h)]
 | .ifc t x, h => by unfold St.dat; rw [aAX s s' x (by simpa [uH, AV.within] using h)]
 | .mapv l, h => by simp [uH, AV.within] at h
 | .tup xs, h => by simp [St.dat]
 | .fn _ xs ys, h => by simp [St.dat]
 | .any, h => by simp [St.dat]
 | .v _, h => by simp [St.dat]
 | .agg _, h => by simp [St.dat]
 | .lst _ _, h => by simp [St.dat]
 | .ptr _, h => by simp [St.dat]
 | .rd _, h => by simp [St.dat]
theorem aB8 (s s' : St) : ∀ xs : List AV, zo (fun _ => false) xs = true → s'.datL xs = s.datL xs
 | [], _ => by simp [St.datL]
 | x :: xs, h => by
  simp only [zo, Bool.and_eq_true] at h
  simp only [St.datL]; rw [aAX s s' x h.1, aB8 s s' xs h.2]
end
mutual
theorem jN (s s' : St) : ∀ x : AV, uH x = true → xG s' x = xG s x
 | .own l, h => by simp [uH, AV.within] at h
 | .optr l _ _ _, h => by simp [uH, AV.within] at h
 | .mix xs, h => by unfold xG; rw [aAM s s' xs (by simpa [uH, AV.within] using h)]
 | .ifc t x, h => by simp [xG]
 | .mapv l, h => by simp [uH, AV.within] at h
 | .tup xs, h => by simp [xG]
 | .fn _ xs ys, h => by simp [xG]
 | .any, h => by simp [xG]
 | .v _, h => by simp [xG]
 | .agg _, h => by simp [xG]
 | .lst _ _, h => by simp [xG]
 | .ptr _, h => by simp [xG]
 | .rd _, h => by simp [xG]
theorem aAM (s s' : St) : ∀ xs : List AV, zo (fun _ => false) xs = true → zM s' xs = zM s xs
 | [], _ => by simp [zM]
 | x :: xs, h => by
  simp only [zo, Bool.and_eq_true] at h
  simp only [zM]; rw [jN s s' x h.1, aAM s s' xs h.2]
end
theorem aF1 (s s' : St) (x : AV) (h : uH x = true) : uo s' x = uo s x := by
 cases x with
 | ifc t y => simp only [uo]; exact jN s s' y (by simpa [uH, AV.within] using h)
 | own l => simp [uH, AV.within] at h
 | optr l i p c => simp [uH, AV.within] at h
 | mix xs => simp only [uo]; exact jN s s' (.mix xs) h
 | fn f xs ys => cases xs <;> cases ys <;> simp [uo]
 | _ => simp [uo, xG]
theorem aBG (s s' : St) : ∀ xs : List AV, (xs.all uH) = true → zK s' xs = zK s xs
 | [], _ => rfl
 | x :: xs, h => by
  simp only [List.all_cons, Bool.and_eq_true] at h
  simp only [zK]; rw [aF1 s s' x h.1, aBG s s' xs h.2]
def zk (d : Nat) : Nat → List OB → List (Nat × Option OB)
 | _, [] => []
 | k, ob :: r => (d + 1000 * k, some ob) :: zk d (k + 1) r
theorem aAE {d : Nat} : ∀ (r : List OB) (k k' : Nat), k < k' → xu (zk d k' r) (d + 1000 * k) = none
 | [], _, _, _ => rfl
 | ob :: r, k, k', h => by
  have hne : d + 1000 * k ≠ d + 1000 * k' := by omega
  simp only [zk, xu]
  rw [xX hne]; exact aAE r k (k' + 1) (by omega)
theorem vk {d : Nat} : ∀ (r : List OB) (k l : Nat) (o : Option OB), xu (zk d k r) l = some o → ∃ j ob, l = d + 1000 * j ∧ o = some ob ∧ ob ∈ r ∧ k ≤ j ∧ r[j - k]? = some ob
 | [], _, _, _, h => by simp [zk, xu] at h
 | ob :: r, k, l, o, h => by
  simp only [zk, xu] at h
  cases e : Nat.beq l (d + 1000 * k) with
  | true =>
   rw [e] at h; simp only [cond_true, Option.some.injEq] at h
   exact ⟨k, ob, Nat.eq_of_beq_eq_true e, h.symm, by simp, Nat.le_refl _, by simp⟩
  | false =>
   rw [e] at h
   obtain ⟨j, ob', h1, h2, h3, h4, h5⟩ := vk r (k + 1) l o h
   exact ⟨j, ob', h1, h2, List.mem_cons_of_mem _ h3, by omega, by
    have : j - k = (j - (k + 1)) + 1 := by omega
    rw [this, List.getElem?_cons_succ]; exact h5⟩
theorem aAD {s : St} {d : Nat} : ∀ (r : List OB) (k : Nat), yE s d k r → ∀ j, k ≤ j → j < k + r.length → s.hp (d + 1000 * j) = none
 | [], k, _, j, h1, h2 => by simp at h2; omega
 | ob :: r, k, h, j, h1, h2 => by
  unfold yE at h
  rcases Nat.eq_or_lt_of_le h1 with e | e
  · subst e; exact h.1.1
  · exact aAD r (k + 1) h.2 j (by omega) (by simp at h2; omega)
theorem jh {s s' : St} {d : Nat} : ∀ (r : List OB) (k : Nat), (∀ j, k ≤ j → j < k + r.length → s'.hp (d + 1000 * j) = s.hp (d + 1000 * j)) → yE s d k r → yE s' d k r
 | [], _, _, _ => trivial
 | ob :: r, k, hh, h => by
  unfold yE at h ⊢
  exact ⟨⟨(hh k (Nat.le_refl _) (by simp)).trans h.1.1, h.1.2⟩, jh r (k + 1) (fun j h1 h2 => hh j (by omega) (by simp; omega)) h.2⟩
theorem aA8 {d : Nat} : ∀ (r : List OB) (k j : Nat), k ≤ j → j < k + r.length → xY (zk d k r) (d + 1000 * j)
 | [], k, j, h1, h2 => by simp at h2; omega
 | ob :: r, k, j, h1, h2 => by
  unfold xY
  simp only [zk, xu]
  cases e : Nat.beq (d + 1000 * j) (d + 1000 * k) with
  | true => exact ⟨_, rfl⟩
  | false =>
   have hne : j ≠ k := fun h => by subst h; rw [Nat.beq_refl] at e; cases e
   exact aA8 r (k + 1) j (by omega) (by simp at h2; omega)
theorem aAJ {d : Nat} : ∀ (r : List OB) (k : Nat) (s : St), zU d k r s = shp [] (zk d k r) s
 | [], k, s => rfl
 | ob :: r, k, s => by
  show zU d (k + 1) r (s.set (d + 1000 * k) (some ob)) = _
  rw [aAJ r (k + 1)]
  unfold shp St.set
  congr 1
  · funext j
    simp only [zk, xu]
    cases e : Nat.beq j (d + 1000 * k) with
    | true =>
     have := Nat.eq_of_beq_eq_true e
     subst this
     rw [aAE r k (k + 1) (by omega)]; rfl
    | false => rfl
  · funext j
    simp only [zk, xu]
    cases e : Nat.beq j (d + 1000 * k) with
    | true =>
     have := Nat.eq_of_beq_eq_true e
     subst this
     rw [aAE r k (k + 1) (by omega)]; rfl
    | false => rfl
section
variable {P : Program} {Θ : Tab} {s : St} {ty : TypeId} {pos : String} {after : Array Edge} {g : Option (Nat × Bool)}
theorem y7 {f : FuncId} {ags : Array Operand} {ts : Array TypeId} {t : Nat} {args : List AV} {out : Out} (hac : AC P f args out) (ha : (ags.toList.map fun x => s.dat (s.ev x)) = args) (hfl : (xq s ags.toList).isEmpty = true) (hw : (ags.toList.map s.ev).all uH = true) (hfr : yE s (t + 1) 0 out.obs) (hok : zK s (ags.toList.map s.ev) = true) (hc : kU ags.toList = true)
 (hv : (ren (t + 1) out.val).within (fun l => (xu (zk (t + 1) 0 out.obs) l).isSome) = true) :
 Sft P Θ ⟨some t, .call ⟨.value (.func f), ags, ts⟩, ty, pos, after, g⟩ s (ren (t + 1) out.val) [] (zk (t + 1) 0 out.obs) := by
 have hsh := jZ out.obs 0 hfr
 refine ⟨fun s' h1 h2 => ?_, fun l ob h => ?_, fun l hl => (by cases hl), fun l hl => ?_, fun l ⟨o, hl⟩ => ?_, fun l ob ⟨o, hl⟩ ho => ?_⟩
 · have hev : ∀ x ∈ ags.toList, s'.ev x = s.ev x := fun x hx => h1 x (by simp [Op.operands, Call.operands] at hx ⊢; exact .inr hx)
   have hmap : ags.toList.map s'.ev = ags.toList.map s.ev := List.map_congr_left hev
   refine ⟨⟨ren (t + 1) out.val, wL (t + 1) out.obs⟩, kQ hac ?_ (.inl ?_) (jh out.obs 0 (fun j h3 h4 => (h2 _ (.inl (aA8 out.obs 0 j h3 h4))).1) hfr) ?_ hc, fun K hK => .done ?_⟩
   · rw [← ha]
     refine List.map_congr_left fun x hx => ?_
     rw [hev x hx]
     exact aAX s s' _ (List.all_eq_true.1 hw _ (List.mem_map_of_mem hx))
   · unfold xq at hfl ⊢; rw [hmap]; exact hfl
   · rw [hmap, aBG s s' _ hw]; exact hok
   · cases ho : out.obs with
     | nil => rw [ho] at hK; exact hK
     | cons ob r =>
      rw [ho] at hK
      show K ((zU (t + 1) 0 (ob :: r) s').put (some t) (ren (t + 1) out.val))
      rw [aAJ]; exact hK
 · obtain ⟨j, ob', _, e, hm, _⟩ := vk out.obs 0 l _ h
   cases e; exact hsh ob hm
 · have := zL _ hv hl
   obtain ⟨o, ho⟩ := Option.isSome_iff_exists.1 this
   exact .inl ⟨o, ho⟩
 · obtain ⟨j, ob', e, _⟩ := vk out.obs 0 l _ hl
   exact .inl ⟨t, rfl, by rw [e]; omega⟩
 · obtain ⟨j, ob', e, _, _, h4, h5⟩ := vk out.obs 0 l _ hl
   have hj := (List.getElem?_eq_some_iff.1 h5).1
   have := aAD out.obs 0 hfr j h4 (by omega)
   rw [← e, ho] at this; cases this
end
theorem aFP (l : Nat) (ob : OB) (s : St) : s.set l (some ob) = shp [] [(l, some ob)] s := by
 unfold shp St.set
 congr 1
 · funext j; show (bif Nat.beq j l then some ob else s.hp j) = (match (bif Nat.beq j l then some (some ob) else none) with | some o => o | none => s.hp j)
   cases Nat.beq j l <;> rfl
 · funext j; show (bif Nat.beq j l then none else s.mp j) = (match (bif Nat.beq j l then some (some ob) else none) with | some _ => none | none => s.mp j)
   cases Nat.beq j l <;> rfl
theorem nu1 {l m : Nat} {ob : OB} {o : Option OB} (h : xu [(l, some ob)] m = some o) : m = l ∧ o = some ob := by
 simp only [xu] at h
 cases e : Nat.beq m l with
 | true => rw [e] at h; simp only [cond_true, Option.some.injEq] at h; exact ⟨Nat.eq_of_beq_eq_true e, h.symm⟩
 | false => rw [e] at h; cases h
theorem in1 (l : Nat) (ob : OB) : xY [(l, some ob)] l := ⟨some ob, by simp [xu]⟩
section
variable {P : Program} {Θ : Tab} {s : St} {ty : TypeId} {pos : String} {after : Array Edge} {g : Option (Nat × Bool)}
end
section
variable {P : Program} {Θ : Tab} {s : St} {ty : TypeId} {pos : String} {after : Array Edge} {g : Option (Nat × Bool)}
end
mutual
theorem qE {s s' : St} : ∀ x : AV, (∀ l, x.names l = true → s'.hp l = s.hp l) → s'.dat x = s.dat x ∧ xG s' x = xG s x
 | .own l, h => by
  have := h l (by simp [AV.names])
  simp only [St.dat, xG, this, and_self]
 | .optr l i p c, h => by
  have := h l (by simp [AV.names])
  simp only [St.dat, xG, this, and_self]
 | .mix xs, h => by
  obtain ⟨h1, h2⟩ := aD9 xs (fun l hl => h l (by simpa [AV.names] using hl))
  simp only [St.dat, xG, h1, h2, and_self]
 | .ifc t x, h => by
  obtain ⟨h1, _⟩ := qE x (fun l hl => h l (by simpa [AV.names] using hl))
  simp only [St.dat, xG, h1, and_self]
 | .rd x, _ => ⟨rfl, rfl⟩
 | .any, _ => ⟨rfl, rfl⟩
 | .v _, _ => ⟨rfl, rfl⟩
 | .agg _, _ => ⟨rfl, rfl⟩
 | .lst _ _, _ => ⟨rfl, rfl⟩
 | .ptr _, _ => ⟨rfl, rfl⟩
 | .tup _, _ => ⟨rfl, rfl⟩
 | .mapv _, _ => ⟨rfl, rfl⟩
 | .fn _ _ _, _ => ⟨rfl, rfl⟩
theorem aD9 {s s' : St} : ∀ xs : List AV, (∀ l, xE l xs = true → s'.hp l = s.hp l) → s'.datL xs = s.datL xs ∧ zM s' xs = zM s xs
 | [], _ => ⟨rfl, rfl⟩
 | x :: xs, h => by
  obtain ⟨h1, h2⟩ := qE x (fun l hl => h l (by simp [xE, hl]))
  obtain ⟨h3, h4⟩ := aD9 xs (fun l hl => h l (by simp [xE, hl]))
  simp only [St.datL, zM, h1, h2, h3, h4, and_self]
end
theorem aHL {s s' : St} (x : AV) (h : ∀ l, x.names l = true → s'.hp l = s.hp l) : uo s' x = uo s x := by
 cases x with
 | fn f xs ys => cases xs <;> cases ys <;> rfl
 | ifc t x => exact (qE x (fun l hl => h l (by simpa [AV.names] using hl))).2
 | _ => first | rfl | exact (qE _ h).2
theorem aCe {s s' : St} : ∀ xs : List AV, (∀ l, xE l xs = true → s'.hp l = s.hp l) → zK s' xs = zK s xs
 | [], _ => rfl
 | x :: xs, h => by
  simp only [zK]
  rw [aHL x (fun l hl => h l (by simp [xE, hl])), aCe xs (fun l hl => h l (by simp [xE, hl]))]
theorem aBs {s : St} {l : Nat} : ∀ xs : List Operand, xE l (xs.map s.ev) = true → ∃ t, Operand.tmp t ∈ xs ∧ (s.sl t).names l = true
 | [], h => by simp [xE] at h
 | x :: xs, h => by
  simp only [List.map_cons, xE, Bool.or_eq_true] at h
  rcases h with h | h
  · cases x with
    | tmp t => exact ⟨t, by simp, h⟩
    | global g => simp [St.ev, uX] at h
    | _ => simp [St.ev, AV.names, xE] at h
  · obtain ⟨t, h1, h2⟩ := aBs xs h
    exact ⟨t, List.mem_cons_of_mem _ h1, h2⟩
section
variable {P : Program} {Θ : Tab} {s : St} {ty : TypeId} {pos : String} {after : Array Edge} {g : Option (Nat × Bool)}
theorem aAf {f : FuncId} {ags : Array Operand} {ts : Array TypeId} {t : Nat} {args : List AV} {out : Out} (hac : AC P f args out) (ha : (ags.toList.map fun x => s.dat (s.ev x)) = args) (hfl : out.flat) (hfr : yE s (t + 1) 0 out.obs) (hok : zK s (ags.toList.map s.ev) = true) (hc : kU ags.toList = true)
 (hv : (ren (t + 1) out.val).within (fun l => (xu (zk (t + 1) 0 out.obs) l).isSome) = true) :
 Sft P Θ ⟨some t, .call ⟨.value (.func f), ags, ts⟩, ty, pos, after, g⟩ s (ren (t + 1) out.val) [] (zk (t + 1) 0 out.obs) := by
 have hsh := jZ out.obs 0 hfr
 refine ⟨fun s' h1 h2 => ?_, fun l ob h => ?_, fun l hl => (by cases hl), fun l hl => ?_, fun l ⟨o, hl⟩ => ?_, fun l ob ⟨o, hl⟩ ho => ?_⟩
 · have hev : ∀ x ∈ ags.toList, s'.ev x = s.ev x := fun x hx => h1 x (by simp [Op.operands, Call.operands] at hx ⊢; exact .inr hx)
   have hmap : ags.toList.map s'.ev = ags.toList.map s.ev := List.map_congr_left hev
   have hn : ∀ l, xE l (ags.toList.map s.ev) = true → s'.hp l = s.hp l := fun l hl => by
    obtain ⟨t', h3, h4⟩ := aBs _ hl
    exact (h2 l (.inr ⟨t', yu (by simp [Op.operands, Call.operands] at h3 ⊢; exact h3), h4⟩)).1
   refine ⟨⟨ren (t + 1) out.val, wL (t + 1) out.obs⟩, kQ hac ?_ (.inr hfl) (jh out.obs 0 (fun j h3 h4 => (h2 _ (.inl (aA8 out.obs 0 j h3 h4))).1) hfr) ?_ hc, fun K hK => .done ?_⟩
   · rw [← ha]
     refine List.map_congr_left fun x hx => ?_
     rw [hev x hx]
     refine (qE _ fun l hl => ?_).1
     cases x with
     | tmp t' => exact (h2 l (.inr ⟨t', yu (by simp [Op.operands, Call.operands] at hx ⊢; exact hx), hl⟩)).1
     | global g => simp [St.ev, uX] at hl
     | _ => simp [St.ev, AV.names, xE] at hl
   · rw [hmap, aCe _ hn]; exact hok
   · cases ho : out.obs with
     | nil => rw [ho] at hK; exact hK
     | cons ob r =>
      rw [ho] at hK
      show K ((zU (t + 1) 0 (ob :: r) s').put (some t) (ren (t + 1) out.val))
      rw [aAJ]; exact hK
 · obtain ⟨j, ob', _, e, hm, _⟩ := vk out.obs 0 l _ h
   cases e; exact hsh ob hm
 · have := zL _ hv hl
   obtain ⟨o, ho⟩ := Option.isSome_iff_exists.1 this
   exact .inl ⟨o, ho⟩
 · obtain ⟨j, ob', e, _⟩ := vk out.obs 0 l _ hl
   exact .inl ⟨t, rfl, by rw [e]; omega⟩
 · obtain ⟨j, ob', e, _, _, h4, h5⟩ := vk out.obs 0 l _ hl
   have hj := (List.getElem?_eq_some_iff.1 h5).1
   have := aAD out.obs 0 hfr j h4 (by omega)
   rw [← e, ho] at this; cases this
theorem jE {d : Option Tmp} {t : Nat} {y : AV} (hx : s.sl t = y) : Sft P Θ ⟨d, .assign (.tmp t), ty, pos, after, g⟩ s y [] [] := by
 refine ⟨fun s' h1 h2 => ⟨⟨y, none⟩, aH7 ((h1 (.tmp t) (by simp [Op.operands])).trans hx), fun K hK => .done hK⟩, fun l ob h => by simp [xu] at h, fun l hl => (by cases hl), fun l hl => .inr ⟨t, yu (by simp [Op.operands]), by rw [hx]; exact hl⟩, fun l hl => (uK hl).elim, fun l ob hl => (uK hl).elim⟩
theorem yx {d k : Nat} {obs : List OB} : ∀ l ∈ (zk d k obs).map (·.1), xY (zk d k obs) l := by
 induction obs generalizing k with
 | nil => intro l hl; cases hl
 | cons ob r ih =>
  intro l hl
  unfold xY
  simp only [zk, List.map_cons, List.mem_cons] at hl
  simp only [zk, xu]
  cases e : Nat.beq l (d + 1000 * k) with
  | true => exact ⟨_, rfl⟩
  | false =>
   rcases hl with h | h
   · rw [h, Nat.beq_refl] at e; cases e
   · obtain ⟨o, ho⟩ := ih l h; exact ⟨o, ho⟩
theorem aDP {l : Nat} {ob : OB} : ∀ m ∈ ([(l, some ob)] : List (Nat × Option OB)).map (·.1), xY [(l, some ob)] m := fun m hm => by
 simp only [List.map_cons, List.map_nil, List.mem_singleton] at hm
 subst hm; exact in1 _ _
theorem wH : ∀ m ∈ ([] : List (Nat × Option OB)).map (·.1), xY [] m := fun m hm => by cases hm
end
section
variable {P : Program} {Θ : Tab} {s : St} {ty : TypeId} {pos : String} {after : Array Edge} {g : Option (Nat × Bool)}
theorem aGw {o : Oper} {v : AV} (hp : Pre P Θ o s ⟨v, none⟩) (hc : calm Θ true o = true) (hn : ((vF v).all fun l => (tmpsOf o).any fun t => (s.sl t).names l) = true) : Sft P Θ o s v [] [] := by
 refine ⟨fun s' h1 h2 => ⟨⟨v, none⟩, wm (two := true) hc h1 (fun _ l ⟨x, hx, hn⟩ => ?_) hp, fun K hK => .done hK⟩, fun l ob h => by simp [xu] at h, fun l hl => (by cases hl), fun l hl => ?_, fun l hl => (uK hl).elim, fun l ob hl => (uK hl).elim⟩
 · cases x with
   | tmp t => exact (h2 l (.inr ⟨t, yu hx, hn⟩)).1
   | global g => simp [St.ev, uX] at hn
   | _ => simp [St.ev, AV.names, xE] at hn
 · have h3 := List.all_eq_true.1 hn l (uZ v hl)
   obtain ⟨t, ht, h4⟩ := List.any_eq_true.1 h3
   exact .inr ⟨t, ht, h4⟩
end
section
variable {P : Program} {Θ : Tab} {s : St} {ty : TypeId} {pos : String} {after : Array Edge} {g : Option (Nat × Bool)}
theorem aEN {o : Oper} {v : AV} (hp : ∀ s' : St, (∀ x ∈ o.op.operands, s'.ev x = s.ev x) → Pre P Θ o s' ⟨v, none⟩) (hv : v.within (fun _ => false) = true) : Sft P Θ o s v [] [] := by
 refine ⟨fun s' h1 h2 => ⟨⟨v, none⟩, hp s' h1, fun K hK => .done hK⟩, fun l ob h => by simp [xu] at h, fun l hl => (by cases hl), fun l hl => ?_, fun l hl => (uK hl).elim, fun l ob hl => (uK hl).elim⟩
 have := zL v hv hl; cases this
theorem aIf {d : Option Tmp} {x : Operand} {n : Int} {b : UInt8} (hb : n = (b.toNat : Int)) (hx : s.ev x = .v (.int .i64 n)) : Sft Tryd.prog Θ ⟨d, .convert 3 5 x, ty, pos, after, g⟩ s (.v (.int .u8 (b.toNat : Int))) [] [] :=
 aEN (fun s' hs => aHv hb ((hs x (by simp [Op.operands])).trans hx)) (by simp [AV.within])
theorem aId {d : Nat} {t : TypeId} {x : Operand} {el sz b : Nat} {z : AV} {c : Value} (hf : s.hp (d + 1) = none) (ht : Θ.look t = .slice el sz b z) (hx : s.ev x = .v c) (hc : c.oneCell' = true) (hz : Nat.beq 1 (asz z) = true) (hsz : Nat.ble sz 65536 = true) (hok : okL (d + 1) = true := by rfl) :
 Sft P Θ ⟨some d, .buildSlice t 1 #[(0, x)], ty, pos, after, g⟩ s (.own (d + 1)) [] [(d + 1, some ⟨.s el, sz, [.v c]⟩)] := by
 refine ⟨fun s' h1 h2 => ⟨⟨.own (d + 1), some fun s'' => s''.set (d + 1) (some ⟨.s el, sz, [.v c]⟩)⟩, ?_, fun K hK => .done ?_⟩, fun l ob h => ?_, fun l hl => (by cases hl), fun l hl => .inl ?_, fun l ⟨o, hl⟩ => .inl ?_, fun l ob ⟨o, hl⟩ ho => ?_⟩
 · exact aJ5 ((h2 _ (.inl (in1 _ _))).1.trans hf) ht ((h1 x (by simp [Op.operands])).trans hx) hc hz hsz hok
 · rw [uT, aFP]; exact hK
 · obtain ⟨_, e⟩ := nu1 h; cases e; rfl
 · simp only [AV.names] at hl; rw [← Nat.eq_of_beq_eq_true hl]; exact in1 _ _
 · obtain ⟨rfl, _⟩ := nu1 hl; exact ⟨d, rfl, rfl⟩
 · obtain ⟨rfl, _⟩ := nu1 hl; rw [hf] at ho; cases ho
theorem aIe {d : Option Tmp} {t1 t2 : TypeId} {t l : Nat} {ob : OB} {r : Value} (hx : s.sl t = .own l) (ho : s.hp l = some ob) (hsh : ob.e.shut = true) (h : aDL P t1 t2 (.lst ob.sz ob.xs) r) (h1 : r.oneCell' = true) (hok : okL l = true := by rfl) : Sft P Θ ⟨d, .convert t1 t2 (.tmp t), ty, pos, after, g⟩ s (.v r) [] [] := by
 refine ⟨fun s' hs h2 => ⟨⟨.v r, none⟩, ?_, fun K hK => .done hK⟩, fun l ob h => by simp [xu] at h, fun l hl => (by cases hl), fun l hl => by simp [AV.names] at hl, fun l hl => (uK hl).elim, fun l ob hl => (uK hl).elim⟩
 have e1 : s'.ev (.tmp t) = .own l := (hs (.tmp t) (by simp [Op.operands])).trans hx
 have e2 : s'.hp l = some ob := (h2 l (.inr ⟨t, yu (by simp [Op.operands]), by rw [hx]; simp [AV.names]⟩)).1.trans ho
 exact aHt h (by rw [e1]; simp [St.dat, e2, hsh]) (by rw [e1]; simp [zK, uo, xG, e2, hsh]) rfl h1
end
def jJ (n : Nat) : List UInt8 := if h : n < 10 then [UInt8.ofNat (48 + n)] else jJ (n / 10) ++ [UInt8.ofNat (48 + n % 10)]
termination_by n
decreasing_by omega
def jI (n : Nat) : ByteArray := ⟨(jJ n).toArray⟩
def y5 (n : Int) : ByteArray := if n < 0 then ⟨#[45]⟩ ++ jI (-n).toNat else jI n.toNat
theorem aB9 {n : Nat} (h : n < 10) : jJ n = [UInt8.ofNat (48 + n)] := by rw [jJ, dif_pos h]
theorem aDb {n : Nat} (h : ¬ n < 10) : jJ n = jJ (n / 10) ++ [UInt8.ofNat (48 + n % 10)] := by rw [jJ, dif_neg h]
theorem aDc : ∀ (k n : Nat), n < 10 ^ (k + 1) → (jJ n).length ≤ k + 1
 | 0, n, h => by rw [aB9 (by simpa using h)]; simp
 | k + 1, n, h => by
  by_cases hn : n < 10
  · rw [aB9 hn]; simp
  · rw [aDb hn, List.length_append]
    have := aDc k (n / 10) (by rw [Nat.div_lt_iff_lt_mul (by omega)]; rw [Nat.pow_succ] at h; exact h)
    simp only [List.length_cons, List.length_nil]; omega
theorem aAm {n : Nat} (h : n ≤ 1000000000000) : (jI n).size ≤ 13 := aDc 12 n (by omega)
theorem yc {n : Int} (h0 : -1000000000000 ≤ n) (h1 : n ≤ 1000000000000) : (y5 n).size ≤ 14 := by
 unfold y5
 split
 · rw [ByteArray.size_append]
   have := aAm (n := (-n).toNat) (by omega)
   have e : (⟨#[45]⟩ : ByteArray).size = 1 := rfl
   omega
 · have := aAm (n := n.toNat) (by omega); omega
theorem aJH {n : Nat} (h : n < 10) : jI n = ⟨[UInt8.ofNat (48 + n)].toArray⟩ := by unfold jI; rw [aB9 h]
theorem aJG {n : Nat} (h : ¬ n < 10) : jI n = jI (n / 10) ++ ⟨[UInt8.ofNat (48 + n % 10)].toArray⟩ := by
 unfold jI; rw [aDb h]
 apply ByteArray.ext
 simp
theorem aHz {n : Nat} (h : n < 256) : (UInt8.ofNat n).toNat = n := by simp; omega
attribute [local irreducible] xJ xN xQ yQ yU Pre ACG
theorem aEn : ∀ (n : Nat), n ≤ 1000000000000 → AC Tryd.prog 99 [.v (.int .i64 (n : Int))] ⟨.v (.string (jI n)), []⟩ := fun n => by
 induction n using Nat.strongRecOn with
 | _ n ih =>
  intro hn
  by_cases h : n < 10
  · rw [aJH h]
    have hb := aHz (n := 48 + n) (by omega)
    refine qrf Tryd.func99 Tryd.ntmps99 Tryd.results99 ?_; conv => whnf
    repeat ((first | refine qz ?_ | refine qp (aHv (b := UInt8.ofNat (48 + n)) (by omega) rfl) ?_); conv => whnf)
    refine qp (aHt (aCg [UInt8.ofNat (48 + n)]) rfl rfl rfl rfl) ?_
    conv => whnf
    repeat ((refine qz ?_; conv => whnf))
    exact xB rfl trivial
  · have c1 := ih (n / 10) (by omega) (by omega)
    rw [aJG h]
    have hb := aHz (n := 48 + n % 10) (by omega)
    have hs := aAm (n := n / 10) (by omega)
    have hs1 : (⟨[UInt8.ofNat (48 + n % 10)].toArray⟩ : ByteArray).size = 1 := rfl
    refine qrf Tryd.func99 Tryd.ntmps99 Tryd.results99 ?_; conv => whnf
    repeat ((refine qz ?_; conv => whnf))
    refine .inr ⟨by kernel_rfl, wo (by kernel_rfl), ?_⟩
    repeat (first
     | refine yP (aEE rfl) rfl rfl rfl (.inl rfl) (by kernel_rfl) ?_
     | refine yP (xA (aIp (c := ((n / 10 : Nat) : Int)) (by omega) (by omega) (by omega) (by omega)) rfl rfl rfl) rfl rfl rfl (.inl rfl) (by kernel_rfl) ?_
     | refine yP (xA (aIq (c := ((n % 10 : Nat) : Int)) (by omega) (by omega) (by omega)) rfl rfl rfl) rfl rfl rfl (.inl rfl) (by kernel_rfl) ?_
     | refine yP (xA (aHj (c := ((48 + n % 10 : Nat) : Int)) (by omega) (by omega) (by omega)) rfl rfl rfl) rfl rfl rfl (.inl rfl) (by kernel_rfl) ?_
     | refine yP (xA (uL (by first | omega | (simp only [ByteArray.size_append]; omega))) rfl rfl rfl) rfl rfl rfl (.inl rfl) (by kernel_rfl) ?_
     | refine xk (y7 c1 rfl rfl rfl trivial rfl rfl rfl) yx rfl rfl (by kernel_rfl) ?_
     | refine xk (aIf (b := UInt8.ofNat (48 + n % 10)) (by omega) rfl) wH rfl rfl (by kernel_rfl) ?_
     | refine xk (aId rfl rfl rfl rfl rfl rfl) aDP rfl rfl (by kernel_rfl) ?_
     | refine xk (aIe rfl rfl rfl (aCg [UInt8.ofNat (48 + n % 10)]) rfl) wH rfl rfl (by kernel_rfl) ?_
     | refine xk (jE rfl) wH rfl rfl (by kernel_rfl) ?_)
    refine qJ ?_
    conv => whnf
    repeat ((refine qz ?_; conv => whnf))
    exact xB rfl trivial
theorem vU {n : Int} (h0 : -1000000000000 ≤ n) (h1 : n ≤ 1000000000000) : AC Tryd.prog 99 [.v (.int .i64 n)] ⟨.v (.string (y5 n)), []⟩ := by
 unfold y5
 by_cases h : n < 0
 · rw [if_pos h]
   obtain ⟨m, hm⟩ : ∃ m : Nat, -n = (m : Int) := ⟨(-n).toNat, by omega⟩
   have c1 := aEn m (by omega)
   have hs := aAm (n := m) (by omega)
   rw [hm, Int.toNat_natCast]
   have e1 : (⟨#[45]⟩ : ByteArray).size = 1 := rfl
   refine qrf Tryd.func99 Tryd.ntmps99 Tryd.results99 ?_; conv => whnf
   repeat (first | (refine qp (aKO (c := (m : Int)) (by omega) (by omega) (by omega) rfl) ?_; conv => whnf) | (refine qz ?_; conv => whnf) | (refine qc (c1) ?_; conv => whnf) | (refine qp (xA (uL (by first | omega | (simp only [ByteArray.size_append]; omega))) rfl rfl rfl) ?_; conv => whnf))
   exact xB rfl trivial
 · rw [if_neg h]
   obtain ⟨m, hm⟩ : ∃ m : Nat, n = (m : Int) := ⟨n.toNat, by omega⟩
   have c1 := aEn m (by omega)
   rw [hm, Int.toNat_natCast]
   exact c1
end Go.Proofs.YtodckioppgjbdaaDoor.AM
namespace Go.Proofs.YtodckioppgjbdaaDoor
open Go.RowKit
end Go.Proofs.YtodckioppgjbdaaDoor
namespace Go.Proofs.YtodckioppgjbdaaDoor.AM
open Go Go.RowKit
attribute [local irreducible] xJ xN xQ yQ yU Pre ACG
end Go.Proofs.YtodckioppgjbdaaDoor.AM
namespace Go.Proofs.YtodckioppgjbdaaDoor.AM
open Go Go.RowKit
instance : DecidableEq Rf := fun a b => decidable_of_iff _ aI8.symm
structure Bas.ok (b : Bas) (N : Nat) : Prop where
 sm : b.store.length ≤ N
 sc : aDN N b.store
 rm : b.refs.length ≤ N
 rk : aK0 N b.refs
attribute [local irreducible] xJ xN xQ yQ yU Pre ACG
theorem aIL {a b : Bas} : a = b ↔ a.store = b.store ∧ a.refs = b.refs := by cases a; cases b; simp
instance : DecidableEq Bas := fun a b => decidable_of_iff _ aIL.symm
end Go.Proofs.YtodckioppgjbdaaDoor.AM
namespace Go.Proofs.YtodckioppgjbdaaDoor.AM
open Go Go.RowKit
def aCO (l : List Ent) : Prop := ∀ e ∈ l, e.1.size ≤ 12 ∧ -1000000 ≤ e.2 ∧ e.2 ≤ 1000000
structure CmtS (c : Cmt) : Prop where
 pl : c.1.length ≤ 60
 pp : ∀ p ∈ c.1, 0 ≤ p ∧ p ≤ 1000
 ml : c.2.length ≤ 100
 me : aCO c.2
attribute [local irreducible] xJ xN xQ yQ yU Pre ACG
theorem aG3 {m : List Ent} (h : yS m = true) : m.length ≤ 12 := by
 unfold yS at h
 simp only [Bool.and_eq_true, decide_eq_true_eq] at h
 exact h.1
theorem aA9 {x : ByteArray} (h : okN x = true) : x.size ≤ 12 := by
 unfold okN Nm.nameOK at h
 have e : x.size = x.data.toList.length := by rw [Array.length_toList]; rfl
 rw [e]
 split at h
 · simp at h
 · rename_i c cs hc
   rw [hc]
   simp only [Bool.and_eq_true, decide_eq_true_eq] at h
   simp only [List.length_cons]
   omega
theorem aFj {m : List Ent} (h : yS m = true) : aCO m := by
 intro e he
 obtain ⟨i, hi, rfl⟩ := List.getElem_of_mem he
 unfold yS at h
 simp only [Bool.and_eq_true] at h
 have h1 := aCZ h.2.1 hi
 have h2 := aIi h.2.2 hi
 unfold xw at h1
 rw [Bool.and_eq_true, aA5 _ _ hi] at h1
 unfold zX jy at h2
 simp only [hi, List.getD_eq_getElem?_getD, List.getElem?_eq_getElem, Option.getD_some, Bool.and_eq_true, decide_eq_true_eq] at h2
 exact ⟨aA9 h1.1, h2.1, h2.2⟩
end Go.Proofs.YtodckioppgjbdaaDoor.AM
namespace Go.Proofs.YtodckioppgjbdaaDoor
def kv (es : List Edt) : List Ent := es.map fun e => (e.key, e.val)
theorem wB (es : List Edt) : (kv es).length = es.length := by simp [kv]
theorem aBj (es : List Edt) (k : Nat) (h : k < es.length) : kAt (kv es) k = es[k].key := by simp [kAt, kv, h]
theorem aFE (es : List Edt) (k : Nat) (h : k < es.length) (hn : nm es[k].key = false) : xw (kv es) k = false := by
 rw [xw, aBj es k h, hn]; rfl
theorem aCy (es : List Edt) (h : 0 < es.length) (hn : nm es[0].key = true) : xw (kv es) 0 = true := by
 rw [xw, aBj es 0 h, hn]; rfl
theorem aED (es : List Edt) (k : Nat) (h0 : 0 < k) (h : k < es.length) (hn : nm es[k].key = true) : xw (kv es) k = klt (es[k - 1]'(by omega)).key es[k].key := by
 rw [xw, aBj es k h, aBj es (k - 1) (by omega), hn, decide_eq_false (by omega)]; simp
def aJJ (e : Edt) : Bool := jy e.val && (!e.gone || decide (e.val = 0))
def zu (es : List Edt) (i : Nat) : Bool := aJJ (es.getD i ⟨ByteArray.empty, 0, false⟩)
theorem aDd (es : List Edt) (k : Nat) (h : k < es.length) : zu es k = (jy es[k].val && (!es[k].gone || decide (es[k].val = 0))) := by simp [zu, aJJ, h]
def aBb (es : List Edt) : Bool := (List.range es.length).all (zu es)
def yA (es : List Edt) : Bool := decide (es.length ≤ 6) && (vH (kv es) && aBb es)
theorem aHT {es : List Edt} (h : ∀ i, i < es.length → zu es i = true) : aBb es = true := by
 rw [aBb, List.all_eq_true]; intro i hi; exact h i (List.mem_range.1 hi)
theorem aGR {es : List Edt} {i : Nat} (hi : i < es.length) (h : zu es i = false) : aBb es = false := by
 rw [aBb, List.all_eq_false]; exact ⟨i, List.mem_range.2 hi, by rw [h]; simp⟩
theorem aBa {es : List Edt} (h0 : es.length ≤ 6) (h : ∀ i, i < es.length → xw (kv es) i = true ∧ zu es i = true) : yA es = true := by
 rw [yA, aAu (fun i hi => (h i (by rw [wB] at hi; exact hi)).1), aHT fun i hi => (h i hi).2, decide_eq_true h0]; rfl
theorem aAL {es : List Edt} {i : Nat} (hi : i < es.length) (h : xw (kv es) i = false) : yA es = false := by
 rw [yA, w9 (by rw [wB]; exact hi) h]; simp
theorem vZ {es : List Edt} {i : Nat} (hi : i < es.length) (h : zu es i = false) : yA es = false := by
 rw [yA, aGR hi h]; simp
theorem aAY {es : List Edt} (h : 6 < es.length) : yA es = false := by
 rw [yA, decide_eq_false (by omega)]; rfl
theorem aBf (g : Bool) (v : Int) : (g = true ∧ v ≠ 0) ∨ g = false ∨ (g = true ∧ v = 0) := by
 cases g <;> by_cases h : v = 0 <;> simp [h]
open Go.RowKit
set_option maxHeartbeats 4000000 in
set_option maxRecDepth 100000 in
theorem aDq (A : Option Addr) (n c : Nat) (es : List Edt) (w : World) (hr : Rd w 3 A n (yD es)) (hm : n ≤ maxLen) (hks : ∀ e ∈ es, e.key.size ≤ maxLen) :
 Calls Tryd.prog 59 #[.slice A n c] w fun e w' => e = .returned (.bool (yA es)) ∧ Below w.heap.size w w' := by
 unfold maxLen at hm
 have hlen := hr.elen
 have Hlen := Lib.hid hlen; clear hlen
 by_cases hbig : 6 < n
 · have hfin : Hid (yA es = false) := aAY (by rw [Hlen.out]; exact hbig)
   go_enter Tryd.func59, Tryd.ntmps59
   go_wp2
   go_ret
   exact ⟨xI hfin.out.symm, Below.refl _ _⟩
 have hn6 : n ≤ 6 := by omega
 clear hbig
 go_enter Tryd.func59, Tryd.ntmps59
 go_wp2
 go_loopw [3] (fun i wr => ∃ k : Nat, k ≤ n ∧ i = .int .i64 k ∧ (∀ j, j < k → xw (kv es) j = true ∧ zu es j = true) ∧ Below w.heap.size w wr) (fun i _ => n - (intOf i).toNat)
 case atStart => exact ⟨0, Nat.zero_le _, rfl, fun j hj => absurd hj (by omega), Below.refl _ _⟩
 case round =>
  obtain ⟨k, hk, rfl, hall, hb⟩ := hrel
  have Hall := Lib.hid hall; clear hall
  by_cases hlt : k < n
  · have hke : k < es.length := by rw [Hlen.out]; exact hlt
    obtain ⟨b, off, rfl, hbl, hbl2, hc1, hc2, hc3⟩ := hr.edt hb hke
    have hsz := hks _ (List.getElem_mem hke)
    have hnoO := aFE es k hke
    have hE := aDd es k hke
    have hz0 : k = 0 → nm es[k].key = true → xw (kv es) k = true := by rintro rfl h; exact aCy es hke h
    have hp0 : (h : 0 < k) → nm es[k].key = true → xw (kv es) k = klt (es[k - 1]'(by omega)).key es[k].key := fun h h2 => aED es k h hke h2
    generalize es[k] = ek at *
    obtain ⟨k1, v1, g1⟩ := ek
    simp only at hc1 hc2 hc3 hsz hnoO hE hz0 hp0
    have hcall := fun W => jq k1 W hsz
    have hcall2 := fun W => aCt v1 (-1000000) 1000000 W
    change ∀ W, Calls _ _ _ W fun e w' => e = .returned (.bool (nm k1)) ∧ W = w' at hcall
    change ∀ W, Calls _ _ _ W fun e w' => e = .returned (.bool (jy v1)) ∧ W = w' at hcall2
    cases hw : nm k1 with
    | false =>
     have hfin : Hid (yA es = false) := aAL hke (hnoO hw)
     rw [hw] at hcall
     have Hcall := Lib.hid hcall
     clear hw hcall hcall2 hE hnoO hz0 hp0
     go_wp2
     have hcL0 : (wr.alloc (Obj.cells #[Value.string k1, Value.int IntKind.i64 v1, Value.bool g1] 102)).cell? ⟨wr.heap.size, 0, none⟩ = some (.string k1) := cell_of_row _ _ _ _ _ (0, 0) (heap_alloc_new wr _)
     have hcL1 : (wr.alloc (Obj.cells #[Value.string k1, Value.int IntKind.i64 v1, Value.bool g1] 102)).cell? ⟨wr.heap.size, 1, none⟩ = some (.int .i64 v1) := cell_of_row _ _ _ _ _ (0, 0) (heap_alloc_new wr _)
     have hcL2 : (wr.alloc (Obj.cells #[Value.string k1, Value.int IntKind.i64 v1, Value.bool g1] 102)).cell? ⟨wr.heap.size, 2, none⟩ = some (.bool g1) := cell_of_row _ _ _ _ _ (0, 0) (heap_alloc_new wr _)
     have hpl : wr.heap.size < (wr.alloc (Obj.cells #[Value.string k1, Value.int IntKind.i64 v1, Value.bool g1] 102)).heap.size := by simp
     have hb2 : Below w.heap.size w (wr.alloc (Obj.cells #[Value.string k1, Value.int IntKind.i64 v1, Value.bool g1] 102)) := hb.alloc hb.size _
     generalize wr.alloc (Obj.cells #[Value.string k1, Value.int IntKind.i64 v1, Value.bool g1] 102) = w2 at *
     generalize wr.heap.size = p at *
     have hA0 := fun y : Aft w2 => y.cell hpl hcL0
     have hA1 := fun y : Aft w2 => y.cell hpl hcL1
     have hA2 := fun y : Aft w2 => y.cell hpl hcL2
     refine xV (by kernel_rfl) (by kernel_rfl) ?_
     repeat (go_big_quiet_step ((first | (go_at_call 98; exact Aft.same (Hcall.out _)))))
     refine wpQuiet_nil ?_
     rintro _ ⟨y, rfl⟩
     have hb3 := zw hb2 y.below
     generalize y.at_ = w3 at *
     go_wp2
     go_ret
     exact ⟨xI hfin.out.symm, hb3⟩
    | true =>
    cases hv : jy v1 with
    | false =>
     have hfin : Hid (yA es = false) := vZ hke (by rw [hE, hv]; rfl)
     rw [hw] at hcall
     rw [hv] at hcall2
     have Hcall := Lib.hid hcall
     have Hcall2 := Lib.hid hcall2
     clear hw hv hcall hcall2 hE hnoO hz0 hp0
     go_wp2
     have hcL0 : (wr.alloc (Obj.cells #[Value.string k1, Value.int IntKind.i64 v1, Value.bool g1] 102)).cell? ⟨wr.heap.size, 0, none⟩ = some (.string k1) := cell_of_row _ _ _ _ _ (0, 0) (heap_alloc_new wr _)
     have hcL1 : (wr.alloc (Obj.cells #[Value.string k1, Value.int IntKind.i64 v1, Value.bool g1] 102)).cell? ⟨wr.heap.size, 1, none⟩ = some (.int .i64 v1) := cell_of_row _ _ _ _ _ (0, 0) (heap_alloc_new wr _)
     have hcL2 : (wr.alloc (Obj.cells #[Value.string k1, Value.int IntKind.i64 v1, Value.bool g1] 102)).cell? ⟨wr.heap.size, 2, none⟩ = some (.bool g1) := cell_of_row _ _ _ _ _ (0, 0) (heap_alloc_new wr _)
     have hpl : wr.heap.size < (wr.alloc (Obj.cells #[Value.string k1, Value.int IntKind.i64 v1, Value.bool g1] 102)).heap.size := by simp
     have hb2 : Below w.heap.size w (wr.alloc (Obj.cells #[Value.string k1, Value.int IntKind.i64 v1, Value.bool g1] 102)) := hb.alloc hb.size _
     generalize wr.alloc (Obj.cells #[Value.string k1, Value.int IntKind.i64 v1, Value.bool g1] 102) = w2 at *
     generalize wr.heap.size = p at *
     have hA0 := fun y : Aft w2 => y.cell hpl hcL0
     have hA1 := fun y : Aft w2 => y.cell hpl hcL1
     have hA2 := fun y : Aft w2 => y.cell hpl hcL2
     refine xV (by kernel_rfl) (by kernel_rfl) ?_
     repeat (go_big_quiet_step ((first | (go_at_call 98; exact Aft.same (Hcall.out _)) | (go_at_call 89; exact Aft.same (Hcall2.out _)))))
     refine wpQuiet_nil ?_
     rintro _ ⟨y, rfl⟩
     have hb3 := zw hb2 y.below
     generalize y.at_ = w3 at *
     go_wp2
     go_ret
     exact ⟨xI hfin.out.symm, hb3⟩
    | true =>
    rw [hw] at hcall
    rw [hv] at hcall2
    rcases aBf g1 v1 with ⟨rfl, hne⟩ | hgood
    · have hfin : Hid (yA es = false) := vZ hke (by rw [hE, hv, decide_eq_false hne]; rfl)
      have hne2 : (v1 != 0) = true := by simpa using hne
      have Hcall := Lib.hid hcall
      have Hcall2 := Lib.hid hcall2
      clear hw hv hcall hcall2 hE hnoO hz0 hp0
      go_wp2
      have hcL0 : (wr.alloc (Obj.cells #[Value.string k1, Value.int IntKind.i64 v1, Value.bool true] 102)).cell? ⟨wr.heap.size, 0, none⟩ = some (.string k1) := cell_of_row _ _ _ _ _ (0, 0) (heap_alloc_new wr _)
      have hcL1 : (wr.alloc (Obj.cells #[Value.string k1, Value.int IntKind.i64 v1, Value.bool true] 102)).cell? ⟨wr.heap.size, 1, none⟩ = some (.int .i64 v1) := cell_of_row _ _ _ _ _ (0, 0) (heap_alloc_new wr _)
      have hcL2 : (wr.alloc (Obj.cells #[Value.string k1, Value.int IntKind.i64 v1, Value.bool true] 102)).cell? ⟨wr.heap.size, 2, none⟩ = some (.bool true) := cell_of_row _ _ _ _ _ (0, 0) (heap_alloc_new wr _)
      have hpl : wr.heap.size < (wr.alloc (Obj.cells #[Value.string k1, Value.int IntKind.i64 v1, Value.bool true] 102)).heap.size := by simp
      have hb2 : Below w.heap.size w (wr.alloc (Obj.cells #[Value.string k1, Value.int IntKind.i64 v1, Value.bool true] 102)) := hb.alloc hb.size _
      generalize wr.alloc (Obj.cells #[Value.string k1, Value.int IntKind.i64 v1, Value.bool true] 102) = w2 at *
      generalize wr.heap.size = p at *
      have hA0 := fun y : Aft w2 => y.cell hpl hcL0
      have hA1 := fun y : Aft w2 => y.cell hpl hcL1
      have hA2 := fun y : Aft w2 => y.cell hpl hcL2
      refine xV (by kernel_rfl) (by kernel_rfl) ?_
      repeat (go_big_quiet_step ((first | (go_at_call 98; exact Aft.same (Hcall.out _)) | (go_at_call 89; exact Aft.same (Hcall2.out _)))))
      refine wpQuiet_nil ?_
      rintro _ ⟨y, rfl⟩
      have hb3 := zw hb2 y.below
      generalize y.at_ = w3 at *
      go_wp2
      go_ret
      exact ⟨xI hfin.out.symm, hb3⟩
    have hE1 : Hid (zu es k = true) := by
     rcases hgood with rfl | ⟨rfl, rfl⟩
     · show zu es k = true; rw [hE, hv]; rfl
     · show zu es k = true; rw [hE, hv]; rfl
    clear hE hv hnoO
    by_cases hk0 : k = 0
    · have ho := hz0 hk0 hw
      subst hk0
      have hstep : Hid (∀ j, j < 0 + 1 → xw (kv es) j = true ∧ zu es j = true) := fun j hj => by
       have : j = 0 := by omega
       subst this; exact ⟨ho, hE1.out⟩
      simp only [Nat.zero_mul, Nat.add_zero] at hc1 hc2 hc3
      clear hz0 hp0 ho hw
      rcases hgood with rfl | ⟨rfl, rfl⟩
      · have Hcall := Lib.hid hcall
        have Hcall2 := Lib.hid hcall2
        clear hcall hcall2
        go_wp2
        have hcL0 : (wr.alloc (Obj.cells #[Value.string k1, Value.int IntKind.i64 v1, Value.bool false] 102)).cell? ⟨wr.heap.size, 0, none⟩ = some (.string k1) := cell_of_row _ _ _ _ _ (0, 0) (heap_alloc_new wr _)
        have hcL1 : (wr.alloc (Obj.cells #[Value.string k1, Value.int IntKind.i64 v1, Value.bool false] 102)).cell? ⟨wr.heap.size, 1, none⟩ = some (.int .i64 v1) := cell_of_row _ _ _ _ _ (0, 0) (heap_alloc_new wr _)
        have hcL2 : (wr.alloc (Obj.cells #[Value.string k1, Value.int IntKind.i64 v1, Value.bool false] 102)).cell? ⟨wr.heap.size, 2, none⟩ = some (.bool false) := cell_of_row _ _ _ _ _ (0, 0) (heap_alloc_new wr _)
        have hpl : wr.heap.size < (wr.alloc (Obj.cells #[Value.string k1, Value.int IntKind.i64 v1, Value.bool false] 102)).heap.size := by simp
        have hb2 : Below w.heap.size w (wr.alloc (Obj.cells #[Value.string k1, Value.int IntKind.i64 v1, Value.bool false] 102)) := hb.alloc hb.size _
        generalize wr.alloc (Obj.cells #[Value.string k1, Value.int IntKind.i64 v1, Value.bool false] 102) = w2 at *
        generalize wr.heap.size = p at *
        have hA0 := fun y : Aft w2 => y.cell hpl hcL0
        have hA1 := fun y : Aft w2 => y.cell hpl hcL1
        have hA2 := fun y : Aft w2 => y.cell hpl hcL2
        refine xV (by kernel_rfl) (by kernel_rfl) ?_
        repeat (go_big_quiet_step ((first | (go_at_call 98; exact Aft.same (Hcall.out _)) | (go_at_call 89; exact Aft.same (Hcall2.out _)))))
        refine wpQuiet_nil ?_
        rintro _ ⟨y, rfl⟩
        have hb3 := zw hb2 y.below
        generalize y.at_ = w3 at *
        go_wp2
        go_roundw
        case rel => exact ⟨0 + 1, by omega, by go_num, hstep.out, hb3⟩
        case measure => simp [intOf]; omega
      · have Hcall := Lib.hid hcall
        have Hcall2 := Lib.hid hcall2
        clear hcall hcall2
        go_wp2
        have hcL0 : (wr.alloc (Obj.cells #[Value.string k1, Value.int IntKind.i64 0, Value.bool true] 102)).cell? ⟨wr.heap.size, 0, none⟩ = some (.string k1) := cell_of_row _ _ _ _ _ (0, 0) (heap_alloc_new wr _)
        have hcL1 : (wr.alloc (Obj.cells #[Value.string k1, Value.int IntKind.i64 0, Value.bool true] 102)).cell? ⟨wr.heap.size, 1, none⟩ = some (.int .i64 0) := cell_of_row _ _ _ _ _ (0, 0) (heap_alloc_new wr _)
        have hcL2 : (wr.alloc (Obj.cells #[Value.string k1, Value.int IntKind.i64 0, Value.bool true] 102)).cell? ⟨wr.heap.size, 2, none⟩ = some (.bool true) := cell_of_row _ _ _ _ _ (0, 0) (heap_alloc_new wr _)
        have hpl : wr.heap.size < (wr.alloc (Obj.cells #[Value.string k1, Value.int IntKind.i64 0, Value.bool true] 102)).heap.size := by simp
        have hb2 : Below w.heap.size w (wr.alloc (Obj.cells #[Value.string k1, Value.int IntKind.i64 0, Value.bool true] 102)) := hb.alloc hb.size _
        generalize wr.alloc (Obj.cells #[Value.string k1, Value.int IntKind.i64 0, Value.bool true] 102) = w2 at *
        generalize wr.heap.size = p at *
        have hA0 := fun y : Aft w2 => y.cell hpl hcL0
        have hA1 := fun y : Aft w2 => y.cell hpl hcL1
        have hA2 := fun y : Aft w2 => y.cell hpl hcL2
        refine xV (by kernel_rfl) (by kernel_rfl) ?_
        repeat (go_big_quiet_step ((first | (go_at_call 98; exact Aft.same (Hcall.out _)) | (go_at_call 89; exact Aft.same (Hcall2.out _)))))
        refine wpQuiet_nil ?_
        rintro _ ⟨y, rfl⟩
        have hb3 := zw hb2 y.below
        generalize y.at_ = w3 at *
        go_wp2
        go_roundw
        case rel => exact ⟨0 + 1, by omega, by go_num, hstep.out, hb3⟩
        case measure => simp [intOf]; omega
    · have hkp : 0 < k := by omega
      have hor := hp0 hkp hw
      have ht : (Op.bytesLess k1.toList (es[k - 1]'(by omega)).key.toList || k1.toList == (es[k - 1]'(by omega)).key.toList) = !xw (kv es) k := by rw [aGY, hor]
      have hi0 : 0 ≤ (k : Int) - 1 := by omega
      have hi1 : ((k : Int) - 1).toNat = k - 1 := by omega
      have hi2 : (0 : Int) < (k : Int) := by omega
      clear hk0 hor hw hz0 hp0
      cases ho : xw (kv es) k with
      | false =>
       have hfin : Hid (yA es = false) := aAL hke ho
       rw [ho] at ht
       clear ho
       rcases hgood with rfl | ⟨rfl, rfl⟩
       · have Hcall := Lib.hid hcall
         have Hcall2 := Lib.hid hcall2
         clear hcall hcall2
         go_wp2
         have hcL0 : (wr.alloc (Obj.cells #[Value.string k1, Value.int IntKind.i64 v1, Value.bool false] 102)).cell? ⟨wr.heap.size, 0, none⟩ = some (.string k1) := cell_of_row _ _ _ _ _ (0, 0) (heap_alloc_new wr _)
         have hcL1 : (wr.alloc (Obj.cells #[Value.string k1, Value.int IntKind.i64 v1, Value.bool false] 102)).cell? ⟨wr.heap.size, 1, none⟩ = some (.int .i64 v1) := cell_of_row _ _ _ _ _ (0, 0) (heap_alloc_new wr _)
         have hcL2 : (wr.alloc (Obj.cells #[Value.string k1, Value.int IntKind.i64 v1, Value.bool false] 102)).cell? ⟨wr.heap.size, 2, none⟩ = some (.bool false) := cell_of_row _ _ _ _ _ (0, 0) (heap_alloc_new wr _)
         have hpl : wr.heap.size < (wr.alloc (Obj.cells #[Value.string k1, Value.int IntKind.i64 v1, Value.bool false] 102)).heap.size := by simp
         have hb2 : Below w.heap.size w (wr.alloc (Obj.cells #[Value.string k1, Value.int IntKind.i64 v1, Value.bool false] 102)) := hb.alloc hb.size _
         obtain ⟨b', off', he, _, _, hc4, _, _⟩ := hr.edt hb2 (show k - 1 < es.length by omega)
         obtain ⟨rfl, rfl⟩ : b = b' ∧ off = off' := by simpa using he
         have hbl4 := Nat.lt_of_lt_of_le hbl hb2.size
         generalize wr.alloc (Obj.cells #[Value.string k1, Value.int IntKind.i64 v1, Value.bool false] 102) = w2 at *
         generalize wr.heap.size = p at *
         have hA0 := fun y : Aft w2 => y.cell hpl hcL0
         have hA1 := fun y : Aft w2 => y.cell hpl hcL1
         have hA2 := fun y : Aft w2 => y.cell hpl hcL2
         have hA4 := fun y : Aft w2 => y.cell hbl4 hc4
         refine xV (by kernel_rfl) (by kernel_rfl) ?_
         repeat (go_big_quiet_step ((first | (go_at_call 98; exact Aft.same (Hcall.out _)) | (go_at_call 89; exact Aft.same (Hcall2.out _)))))
         refine wpQuiet_nil ?_
         rintro _ ⟨y, rfl⟩
         have hb3 := zw hb2 y.below
         generalize y.at_ = w3 at *
         go_wp2
         go_ret
         exact ⟨xI hfin.out.symm, hb3⟩
       · have Hcall := Lib.hid hcall
         have Hcall2 := Lib.hid hcall2
         clear hcall hcall2
         go_wp2
         have hcL0 : (wr.alloc (Obj.cells #[Value.string k1, Value.int IntKind.i64 0, Value.bool true] 102)).cell? ⟨wr.heap.size, 0, none⟩ = some (.string k1) := cell_of_row _ _ _ _ _ (0, 0) (heap_alloc_new wr _)
         have hcL1 : (wr.alloc (Obj.cells #[Value.string k1, Value.int IntKind.i64 0, Value.bool true] 102)).cell? ⟨wr.heap.size, 1, none⟩ = some (.int .i64 0) := cell_of_row _ _ _ _ _ (0, 0) (heap_alloc_new wr _)
         have hcL2 : (wr.alloc (Obj.cells #[Value.string k1, Value.int IntKind.i64 0, Value.bool true] 102)).cell? ⟨wr.heap.size, 2, none⟩ = some (.bool true) := cell_of_row _ _ _ _ _ (0, 0) (heap_alloc_new wr _)
         have hpl : wr.heap.size < (wr.alloc (Obj.cells #[Value.string k1, Value.int IntKind.i64 0, Value.bool true] 102)).heap.size := by simp
         have hb2 : Below w.heap.size w (wr.alloc (Obj.cells #[Value.string k1, Value.int IntKind.i64 0, Value.bool true] 102)) := hb.alloc hb.size _
         obtain ⟨b', off', he, _, _, hc4, _, _⟩ := hr.edt hb2 (show k - 1 < es.length by omega)
         obtain ⟨rfl, rfl⟩ : b = b' ∧ off = off' := by simpa using he
         have hbl4 := Nat.lt_of_lt_of_le hbl hb2.size
         generalize wr.alloc (Obj.cells #[Value.string k1, Value.int IntKind.i64 0, Value.bool true] 102) = w2 at *
         generalize wr.heap.size = p at *
         have hA0 := fun y : Aft w2 => y.cell hpl hcL0
         have hA1 := fun y : Aft w2 => y.cell hpl hcL1
         have hA2 := fun y : Aft w2 => y.cell hpl hcL2
         have hA4 := fun y : Aft w2 => y.cell hbl4 hc4
         refine xV (by kernel_rfl) (by kernel_rfl) ?_
         repeat (go_big_quiet_step ((first | (go_at_call 98; exact Aft.same (Hcall.out _)) | (go_at_call 89; exact Aft.same (Hcall2.out _)))))
         refine wpQuiet_nil ?_
         rintro _ ⟨y, rfl⟩
         have hb3 := zw hb2 y.below
         generalize y.at_ = w3 at *
         go_wp2
         go_ret
         exact ⟨xI hfin.out.symm, hb3⟩
      | true =>
       have hstep : Hid (∀ j, j < k + 1 → xw (kv es) j = true ∧ zu es j = true) := fun j hj => by
        rcases Nat.lt_or_ge j k with h | h
        · exact Hall.out j h
        · have : j = k := by omega
          subst this; exact ⟨ho, hE1.out⟩
       rw [ho] at ht
       clear ho
       rcases hgood with rfl | ⟨rfl, rfl⟩
       · have Hcall := Lib.hid hcall
         have Hcall2 := Lib.hid hcall2
         clear hcall hcall2
         go_wp2
         have hcL0 : (wr.alloc (Obj.cells #[Value.string k1, Value.int IntKind.i64 v1, Value.bool false] 102)).cell? ⟨wr.heap.size, 0, none⟩ = some (.string k1) := cell_of_row _ _ _ _ _ (0, 0) (heap_alloc_new wr _)
         have hcL1 : (wr.alloc (Obj.cells #[Value.string k1, Value.int IntKind.i64 v1, Value.bool false] 102)).cell? ⟨wr.heap.size, 1, none⟩ = some (.int .i64 v1) := cell_of_row _ _ _ _ _ (0, 0) (heap_alloc_new wr _)
         have hcL2 : (wr.alloc (Obj.cells #[Value.string k1, Value.int IntKind.i64 v1, Value.bool false] 102)).cell? ⟨wr.heap.size, 2, none⟩ = some (.bool false) := cell_of_row _ _ _ _ _ (0, 0) (heap_alloc_new wr _)
         have hpl : wr.heap.size < (wr.alloc (Obj.cells #[Value.string k1, Value.int IntKind.i64 v1, Value.bool false] 102)).heap.size := by simp
         have hb2 : Below w.heap.size w (wr.alloc (Obj.cells #[Value.string k1, Value.int IntKind.i64 v1, Value.bool false] 102)) := hb.alloc hb.size _
         obtain ⟨b', off', he, _, _, hc4, _, _⟩ := hr.edt hb2 (show k - 1 < es.length by omega)
         obtain ⟨rfl, rfl⟩ : b = b' ∧ off = off' := by simpa using he
         have hbl4 := Nat.lt_of_lt_of_le hbl hb2.size
         generalize wr.alloc (Obj.cells #[Value.string k1, Value.int IntKind.i64 v1, Value.bool false] 102) = w2 at *
         generalize wr.heap.size = p at *
         have hA0 := fun y : Aft w2 => y.cell hpl hcL0
         have hA1 := fun y : Aft w2 => y.cell hpl hcL1
         have hA2 := fun y : Aft w2 => y.cell hpl hcL2
         have hA4 := fun y : Aft w2 => y.cell hbl4 hc4
         refine xV (by kernel_rfl) (by kernel_rfl) ?_
         repeat (go_big_quiet_step ((first | (go_at_call 98; exact Aft.same (Hcall.out _)) | (go_at_call 89; exact Aft.same (Hcall2.out _)))))
         refine wpQuiet_nil ?_
         rintro _ ⟨y, rfl⟩
         have hb3 := zw hb2 y.below
         generalize y.at_ = w3 at *
         go_wp2
         go_roundw
         case rel => exact ⟨k + 1, by omega, by go_num, hstep.out, hb3⟩
         case measure => simp [intOf]; omega
       · have Hcall := Lib.hid hcall
         have Hcall2 := Lib.hid hcall2
         clear hcall hcall2
         go_wp2
         have hcL0 : (wr.alloc (Obj.cells #[Value.string k1, Value.int IntKind.i64 0, Value.bool true] 102)).cell? ⟨wr.heap.size, 0, none⟩ = some (.string k1) := cell_of_row _ _ _ _ _ (0, 0) (heap_alloc_new wr _)
         have hcL1 : (wr.alloc (Obj.cells #[Value.string k1, Value.int IntKind.i64 0, Value.bool true] 102)).cell? ⟨wr.heap.size, 1, none⟩ = some (.int .i64 0) := cell_of_row _ _ _ _ _ (0, 0) (heap_alloc_new wr _)
         have hcL2 : (wr.alloc (Obj.cells #[Value.string k1, Value.int IntKind.i64 0, Value.bool true] 102)).cell? ⟨wr.heap.size, 2, none⟩ = some (.bool true) := cell_of_row _ _ _ _ _ (0, 0) (heap_alloc_new wr _)
         have hpl : wr.heap.size < (wr.alloc (Obj.cells #[Value.string k1, Value.int IntKind.i64 0, Value.bool true] 102)).heap.size := by simp
         have hb2 : Below w.heap.size w (wr.alloc (Obj.cells #[Value.string k1, Value.int IntKind.i64 0, Value.bool true] 102)) := hb.alloc hb.size _
         obtain ⟨b', off', he, _, _, hc4, _, _⟩ := hr.edt hb2 (show k - 1 < es.length by omega)
         obtain ⟨rfl, rfl⟩ : b = b' ∧ off = off' := by simpa using he
         have hbl4 := Nat.lt_of_lt_of_le hbl hb2.size
         generalize wr.alloc (Obj.cells #[Value.string k1, Value.int IntKind.i64 0, Value.bool true] 102) = w2 at *
         generalize wr.heap.size = p at *
         have hA0 := fun y : Aft w2 => y.cell hpl hcL0
         have hA1 := fun y : Aft w2 => y.cell hpl hcL1
         have hA2 := fun y : Aft w2 => y.cell hpl hcL2
         have hA4 := fun y : Aft w2 => y.cell hbl4 hc4
         refine xV (by kernel_rfl) (by kernel_rfl) ?_
         repeat (go_big_quiet_step ((first | (go_at_call 98; exact Aft.same (Hcall.out _)) | (go_at_call 89; exact Aft.same (Hcall2.out _)))))
         refine wpQuiet_nil ?_
         rintro _ ⟨y, rfl⟩
         have hb3 := zw hb2 y.below
         generalize y.at_ = w3 at *
         go_wp2
         go_roundw
         case rel => exact ⟨k + 1, by omega, by go_num, hstep.out, hb3⟩
         case measure => simp [intOf]; omega
  · have hfin : Hid (yA es = true) := aBa (by rw [Hlen.out]; exact hn6) (fun i hi => Hall.out i (by rw [Hlen.out] at hi; omega))
    go_wp2
    go_ret
    exact ⟨xI hfin.out.symm, hb⟩
theorem aEh (a : ByteArray) (x : Int) (g : Bool) (w : World) : (method 362 102 (.agg #[.string a, .int .i64 x, .bool g]) "loop.example/g00737/impl.key").run Tryd.prog w = .ok (224, .agg #[.string a, .int .i64 x, .bool g]) w := by kernel_rfl
theorem kr (key : ByteArray) (v : Int) (g : Bool) (w : World) :
 Calls Tryd.prog 224 #[.agg #[.string key, .int .i64 v, .bool g]] w fun e w' => e = .returned (.string key) ∧ Below w.heap.size w w' := by
 go_enter Tryd.func224, Tryd.ntmps224
 go_wp2
 go_ret
 exact ⟨rfl, (Below.refl _ _).alloc (Nat.le_refl _) _⟩
theorem aFl (es : List Edt) (k : Nat) (hke : k < es.length) (hs : es[k].key.size ≤ maxLen) (W : World) :
 Calls Tryd.prog 118 #[.string es[k].key] W fun e w' => e = .returned (.bool (nm es[k].key)) ∧ W = w' := aAB _ W hs
set_option maxHeartbeats 2000000 in
set_option maxRecDepth 100000 in
theorem aA3 (A : Option Addr) (n c : Nat) (es : List Edt) (w : World) (hr : Rd w 3 A n (yD es)) (hm : n ≤ maxLen) (hks : ∀ e ∈ es, e.key.size ≤ maxLen) :
 Calls Tryd.prog 110 #[.slice A n c] w fun e w' => e = .returned (.bool (vH (kv es))) ∧ Below w.heap.size w w' := by
 unfold maxLen at hm
 have hlen := hr.elen
 have Hlen := Lib.hid hlen; clear hlen
 have hmeth := aEh
 go_enter Tryd.func110, Tryd.ntmps110
 go_wp2
 go_loopw [3, 7] (fun _ i wr => ∃ k : Nat, k ≤ n ∧ i = .int .i64 k ∧ (∀ j, j < k → xw (kv es) j = true) ∧ Below w.heap.size w wr) (fun _ i _ => n - (intOf i).toNat)
 case atStart => exact ⟨0, Nat.zero_le _, rfl, fun j hj => absurd hj (by omega), Below.refl _ _⟩
 case round =>
  obtain ⟨k, hk, rfl, hall, hb⟩ := hrel
  have Hall := Lib.hid hall; clear hall
  by_cases hlt : k < n
  · have hke : k < es.length := by rw [Hlen.out]; exact hlt
    obtain ⟨b, off, rfl, hbl, hbl2, hc1, hc2, hc5⟩ := hr.edt hb hke
    have hcall := aFl es k hke (hks _ (List.getElem_mem hke))
    cases hw : nm es[k].key with
    | false =>
     have hfin : Hid (vH (kv es) = false) := w9 (by rw [wB]; exact hke) (aFE es k hke hw)
     rw [hw] at hcall
     have Hcall := Lib.hid hcall
     clear hw hcall
     go_wp2
     have hcL0 : (wr.alloc (Obj.cells #[Value.string es[k].key, Value.int IntKind.i64 es[k].val, Value.bool es[k].gone] 102)).cell? ⟨wr.heap.size, 0, none⟩ = some (.string es[k].key) := cell_of_row _ _ _ _ _ (0, 0) (heap_alloc_new wr _)
     have hcL1 : (wr.alloc (Obj.cells #[Value.string es[k].key, Value.int IntKind.i64 es[k].val, Value.bool es[k].gone] 102)).cell? ⟨wr.heap.size, 1, none⟩ = some (.int .i64 es[k].val) := cell_of_row _ _ _ _ _ (0, 0) (heap_alloc_new wr _)
     have hcL2 : (wr.alloc (Obj.cells #[Value.string es[k].key, Value.int IntKind.i64 es[k].val, Value.bool es[k].gone] 102)).cell? ⟨wr.heap.size, 2, none⟩ = some (.bool es[k].gone) := cell_of_row _ _ _ _ _ (0, 0) (heap_alloc_new wr _)
     have hpl : wr.heap.size < (wr.alloc (Obj.cells #[Value.string es[k].key, Value.int IntKind.i64 es[k].val, Value.bool es[k].gone] 102)).heap.size := by simp
     have hb2 : Below w.heap.size w (wr.alloc (Obj.cells #[Value.string es[k].key, Value.int IntKind.i64 es[k].val, Value.bool es[k].gone] 102)) := hb.alloc hb.size _
     generalize wr.alloc (Obj.cells #[Value.string es[k].key, Value.int IntKind.i64 es[k].val, Value.bool es[k].gone] 102) = w2 at *
     generalize wr.heap.size = p at *
     have hA0 := fun y : Aft w2 => y.cell hpl hcL0
     have hA1 := fun y : Aft w2 => y.cell hpl hcL1
     have hA2 := fun y : Aft w2 => y.cell hpl hcL2
     refine xV (by kernel_rfl) (by kernel_rfl) ?_
     repeat (go_big_quiet_step ((first | (go_at_call 224; exact Aft.call (kr _ _ _ _)) | (go_at_call 118; exact Aft.same (Hcall.out _)))))
     refine wpQuiet_nil ?_
     rintro _ ⟨y, rfl⟩
     have hb3 := zw hb2 y.below
     generalize y.at_ = w3 at *
     go_wp2
     go_ret
     exact ⟨xI hfin.out.symm, hb3⟩
    | true =>
    rw [hw] at hcall
    have Hcall := Lib.hid hcall
    clear hcall
    by_cases hk0 : k = 0
    · subst hk0
      have hstep : Hid (∀ j, j < 0 + 1 → xw (kv es) j = true) := fun j hj => by
       have : j = 0 := by omega
       subst this; exact aCy es hke hw
      clear hw
      simp only [Nat.zero_mul, Nat.add_zero] at hc1 hc2 hc5
      go_wp2
      have hcL0 : (wr.alloc (Obj.cells #[Value.string es[0].key, Value.int IntKind.i64 es[0].val, Value.bool es[0].gone] 102)).cell? ⟨wr.heap.size, 0, none⟩ = some (.string es[0].key) := cell_of_row _ _ _ _ _ (0, 0) (heap_alloc_new wr _)
      have hcL1 : (wr.alloc (Obj.cells #[Value.string es[0].key, Value.int IntKind.i64 es[0].val, Value.bool es[0].gone] 102)).cell? ⟨wr.heap.size, 1, none⟩ = some (.int .i64 es[0].val) := cell_of_row _ _ _ _ _ (0, 0) (heap_alloc_new wr _)
      have hcL2 : (wr.alloc (Obj.cells #[Value.string es[0].key, Value.int IntKind.i64 es[0].val, Value.bool es[0].gone] 102)).cell? ⟨wr.heap.size, 2, none⟩ = some (.bool es[0].gone) := cell_of_row _ _ _ _ _ (0, 0) (heap_alloc_new wr _)
      have hpl : wr.heap.size < (wr.alloc (Obj.cells #[Value.string es[0].key, Value.int IntKind.i64 es[0].val, Value.bool es[0].gone] 102)).heap.size := by simp
      have hb2 : Below w.heap.size w (wr.alloc (Obj.cells #[Value.string es[0].key, Value.int IntKind.i64 es[0].val, Value.bool es[0].gone] 102)) := hb.alloc hb.size _
      generalize wr.alloc (Obj.cells #[Value.string es[0].key, Value.int IntKind.i64 es[0].val, Value.bool es[0].gone] 102) = w2 at *
      generalize wr.heap.size = p at *
      have hA0 := fun y : Aft w2 => y.cell hpl hcL0
      have hA1 := fun y : Aft w2 => y.cell hpl hcL1
      have hA2 := fun y : Aft w2 => y.cell hpl hcL2
      refine xV (by kernel_rfl) (by kernel_rfl) ?_
      repeat (go_big_quiet_step ((first | (go_at_call 224; exact Aft.call (kr _ _ _ _)) | (go_at_call 118; exact Aft.same (Hcall.out _)))))
      refine wpQuiet_nil ?_
      rintro _ ⟨y, rfl⟩
      have hb3 := zw hb2 y.below
      generalize y.at_ = w3 at *
      go_wp2
      go_roundw
      case rel => exact ⟨0 + 1, by omega, by go_num, hstep.out, hb3⟩
      case measure => simp [intOf]; omega
    · have hkp : 0 < k := by omega
      have hor := aED es k hkp hke hw
      have ht : (!(Op.bytesLess (es[k - 1]'(by omega)).key.toList es[k].key.toList)) = !xw (kv es) k := by rw [hor]; rfl
      have hi0 : 0 ≤ (k : Int) - 1 := by omega
      have hi1 : ((k : Int) - 1).toNat = k - 1 := by omega
      have hi2 : (0 : Int) < (k : Int) := by omega
      clear hk0 hor hw
      cases ho : xw (kv es) k with
      | false =>
       have hfin : Hid (vH (kv es) = false) := w9 (by rw [wB]; exact hke) ho
       rw [ho] at ht
       clear ho
       go_wp2
       have hcL0 : (wr.alloc (Obj.cells #[Value.string es[k].key, Value.int IntKind.i64 es[k].val, Value.bool es[k].gone] 102)).cell? ⟨wr.heap.size, 0, none⟩ = some (.string es[k].key) := cell_of_row _ _ _ _ _ (0, 0) (heap_alloc_new wr _)
       have hcL1 : (wr.alloc (Obj.cells #[Value.string es[k].key, Value.int IntKind.i64 es[k].val, Value.bool es[k].gone] 102)).cell? ⟨wr.heap.size, 1, none⟩ = some (.int .i64 es[k].val) := cell_of_row _ _ _ _ _ (0, 0) (heap_alloc_new wr _)
       have hcL2 : (wr.alloc (Obj.cells #[Value.string es[k].key, Value.int IntKind.i64 es[k].val, Value.bool es[k].gone] 102)).cell? ⟨wr.heap.size, 2, none⟩ = some (.bool es[k].gone) := cell_of_row _ _ _ _ _ (0, 0) (heap_alloc_new wr _)
       have hpl : wr.heap.size < (wr.alloc (Obj.cells #[Value.string es[k].key, Value.int IntKind.i64 es[k].val, Value.bool es[k].gone] 102)).heap.size := by simp
       have hb2 : Below w.heap.size w (wr.alloc (Obj.cells #[Value.string es[k].key, Value.int IntKind.i64 es[k].val, Value.bool es[k].gone] 102)) := hb.alloc hb.size _
       obtain ⟨b', off', he, _, _, hc3, hc4, hc6⟩ := hr.edt hb2 (show k - 1 < es.length by omega)
       obtain ⟨rfl, rfl⟩ : b = b' ∧ off = off' := by simpa using he
       have hbl4 := Nat.lt_of_lt_of_le hbl hb2.size
       generalize wr.alloc (Obj.cells #[Value.string es[k].key, Value.int IntKind.i64 es[k].val, Value.bool es[k].gone] 102) = w2 at *
       generalize wr.heap.size = p at *
       have hA0 := fun y : Aft w2 => y.cell hpl hcL0
       have hA1 := fun y : Aft w2 => y.cell hpl hcL1
       have hA2 := fun y : Aft w2 => y.cell hpl hcL2
       have hA3 := fun y : Aft w2 => y.cell hbl4 hc3
       have hA4 := fun y : Aft w2 => y.cell hbl4 hc4
       have hA5 := fun y : Aft w2 => y.cell hbl4 hc6
       refine xV (by kernel_rfl) (by kernel_rfl) ?_
       repeat (go_big_quiet_step ((first | (go_at_call 224; exact Aft.call (kr _ _ _ _)) | (go_at_call 118; exact Aft.same (Hcall.out _)))))
       refine wpQuiet_nil ?_
       rintro _ ⟨y, rfl⟩
       have hb3 := zw hb2 y.below
       generalize y.at_ = w3 at *
       go_wp2
       go_ret
       exact ⟨xI hfin.out.symm, hb3⟩
      | true =>
       have hstep : Hid (∀ j, j < k + 1 → xw (kv es) j = true) := fun j hj => by
        rcases Nat.lt_or_ge j k with h | h
        · exact Hall.out j h
        · have : j = k := by omega
          subst this; exact ho
       rw [ho] at ht
       clear ho
       go_wp2
       have hcL0 : (wr.alloc (Obj.cells #[Value.string es[k].key, Value.int IntKind.i64 es[k].val, Value.bool es[k].gone] 102)).cell? ⟨wr.heap.size, 0, none⟩ = some (.string es[k].key) := cell_of_row _ _ _ _ _ (0, 0) (heap_alloc_new wr _)
       have hcL1 : (wr.alloc (Obj.cells #[Value.string es[k].key, Value.int IntKind.i64 es[k].val, Value.bool es[k].gone] 102)).cell? ⟨wr.heap.size, 1, none⟩ = some (.int .i64 es[k].val) := cell_of_row _ _ _ _ _ (0, 0) (heap_alloc_new wr _)
       have hcL2 : (wr.alloc (Obj.cells #[Value.string es[k].key, Value.int IntKind.i64 es[k].val, Value.bool es[k].gone] 102)).cell? ⟨wr.heap.size, 2, none⟩ = some (.bool es[k].gone) := cell_of_row _ _ _ _ _ (0, 0) (heap_alloc_new wr _)
       have hpl : wr.heap.size < (wr.alloc (Obj.cells #[Value.string es[k].key, Value.int IntKind.i64 es[k].val, Value.bool es[k].gone] 102)).heap.size := by simp
       have hb2 : Below w.heap.size w (wr.alloc (Obj.cells #[Value.string es[k].key, Value.int IntKind.i64 es[k].val, Value.bool es[k].gone] 102)) := hb.alloc hb.size _
       obtain ⟨b', off', he, _, _, hc3, hc4, hc6⟩ := hr.edt hb2 (show k - 1 < es.length by omega)
       obtain ⟨rfl, rfl⟩ : b = b' ∧ off = off' := by simpa using he
       have hbl4 := Nat.lt_of_lt_of_le hbl hb2.size
       generalize wr.alloc (Obj.cells #[Value.string es[k].key, Value.int IntKind.i64 es[k].val, Value.bool es[k].gone] 102) = w2 at *
       generalize wr.heap.size = p at *
       have hA0 := fun y : Aft w2 => y.cell hpl hcL0
       have hA1 := fun y : Aft w2 => y.cell hpl hcL1
       have hA2 := fun y : Aft w2 => y.cell hpl hcL2
       have hA3 := fun y : Aft w2 => y.cell hbl4 hc3
       have hA4 := fun y : Aft w2 => y.cell hbl4 hc4
       have hA5 := fun y : Aft w2 => y.cell hbl4 hc6
       refine xV (by kernel_rfl) (by kernel_rfl) ?_
       repeat (go_big_quiet_step ((first | (go_at_call 224; exact Aft.call (kr _ _ _ _)) | (go_at_call 118; exact Aft.same (Hcall.out _)))))
       refine wpQuiet_nil ?_
       rintro _ ⟨y, rfl⟩
       have hb3 := zw hb2 y.below
       generalize y.at_ = w3 at *
       go_wp2
       go_roundw
       case rel => exact ⟨k + 1, by omega, by go_num, hstep.out, hb3⟩
       case measure => simp [intOf]; omega
  · have hfin : Hid (vH (kv es) = true) := aAu (fun i hi => Hall.out i (by rw [wB, Hlen.out] at hi; omega))
    go_wp2
    go_ret
    exact ⟨xI hfin.out.symm, hb⟩
set_option maxHeartbeats 2000000 in
set_option maxRecDepth 100000 in
theorem aBh (A : Option Addr) (n c : Nat) (es : List Edt) (w : World) (hr : Rd w 3 A n (yD es)) (hm : n ≤ maxLen) (hks : ∀ e ∈ es, e.key.size ≤ maxLen) :
 Calls Tryd.prog 62 #[.slice A n c] w fun e w' => e = .returned (.bool (yA es)) ∧ Below w.heap.size w w' := by
 have hm' := hm
 unfold maxLen at hm
 have hlen := hr.elen
 have Hlen := Lib.hid hlen; clear hlen
 by_cases hbig : 6 < n
 · have hfin : Hid (yA es = false) := aAY (by rw [Hlen.out]; exact hbig)
   go_enter Tryd.func62, Tryd.ntmps62
   go_wp2
   go_ret
   exact ⟨xI hfin.out.symm, Below.refl _ _⟩
 have hn6 : n ≤ 6 := by omega
 clear hbig
 cases ho : vH (kv es) with
 | false =>
  have hfin : Hid (yA es = false) := by show yA es = false; rw [yA, ho]; simp
  have hcall := aA3 A n c es w hr hm' hks
  rw [ho] at hcall
  have Hcall := Lib.hid hcall
  clear ho hcall
  go_enter Tryd.func62, Tryd.ntmps62
  go_wp2_with (go_at_call 110; refine Hcall.out.mono ?_; rintro e w1 ⟨rfl, hb1⟩)
  go_ret
  exact ⟨xI hfin.out.symm, hb1⟩
 | true =>
  have hcall := aA3 A n c es w hr hm' hks
  rw [ho] at hcall
  have Hcall := Lib.hid hcall
  have Ho := Lib.hid ho
  clear ho hcall
  go_enter Tryd.func62, Tryd.ntmps62
  go_wp2_with (go_at_call 110; refine Hcall.out.mono ?_; rintro e w1 ⟨rfl, hb1⟩)
  go_loopw [15] (fun i wr => ∃ k : Nat, k ≤ n ∧ i = .int .i64 k ∧ (∀ j, j < k → zu es j = true) ∧ Below w.heap.size w wr) (fun i _ => n - (intOf i).toNat)
  case atStart => exact ⟨0, Nat.zero_le _, rfl, fun j hj => absurd hj (by omega), hb1⟩
  case round =>
   obtain ⟨k, hk, rfl, hall, hb⟩ := hrel
   have Hall := Lib.hid hall; clear hall
   by_cases hlt : k < n
   · have hke : k < es.length := by rw [Hlen.out]; exact hlt
     obtain ⟨b, off, rfl, hbl, hbl2, hc1, hc2, hc3⟩ := hr.edt hb hke
     have hE := aDd es k hke
     generalize es[k] = ek at *
     obtain ⟨k1, v1, g1⟩ := ek
     simp only at hc1 hc2 hc3 hE
     have hcall := fun W => aBR v1 W
     change ∀ W, Calls _ _ _ W fun e w' => e = .returned (.bool (jy v1)) ∧ W = w' at hcall
     cases hv : jy v1 with
     | false =>
      have hfin : Hid (yA es = false) := vZ hke (by rw [hE, hv]; rfl)
      rw [hv] at hcall
      have Hcall := Lib.hid hcall
      clear hv hcall hE
      go_wp2_with (go_at_call 101; refine (Hcall.out _).mono ?_; rintro e w1 ⟨rfl, rfl⟩)
      go_ret
      exact ⟨xI hfin.out.symm, hb.alloc hb.size _⟩
     | true =>
      rw [hv] at hcall
      rcases aBf g1 v1 with ⟨rfl, hne⟩ | hgood
      · have hfin : Hid (yA es = false) := vZ hke (by rw [hE, hv, decide_eq_false hne]; rfl)
        have hne2 : (v1 != 0) = true := by simpa using hne
        have Hcall := Lib.hid hcall
        clear hv hcall hE
        go_wp2_with (go_at_call 101; refine (Hcall.out _).mono ?_; rintro e w1 ⟨rfl, rfl⟩)
        go_ret
        exact ⟨xI hfin.out.symm, hb.alloc hb.size _⟩
      have hE1 : Hid (zu es k = true) := by
       rcases hgood with rfl | ⟨rfl, rfl⟩
       · show zu es k = true; rw [hE, hv]; rfl
       · show zu es k = true; rw [hE, hv]; rfl
      have hstep : Hid (∀ j, j < k + 1 → zu es j = true) := fun j hj => by
       rcases Nat.lt_or_ge j k with h | h
       · exact Hall.out j h
       · have : j = k := by omega
         subst this; exact hE1.out
      clear hE hv
      rcases hgood with rfl | ⟨rfl, rfl⟩
      · have Hcall := Lib.hid hcall
        clear hcall
        go_wp2_with (go_at_call 101; refine (Hcall.out _).mono ?_; rintro e w1 ⟨rfl, rfl⟩)
        go_roundw
        case rel => exact ⟨k + 1, by omega, by go_num, hstep.out, hb.alloc hb.size _⟩
        case measure => simp [intOf]; omega
      · have Hcall := Lib.hid hcall
        clear hcall
        go_wp2_with (go_at_call 101; refine (Hcall.out _).mono ?_; rintro e w1 ⟨rfl, rfl⟩)
        go_roundw
        case rel => exact ⟨k + 1, by omega, by go_num, hstep.out, hb.alloc hb.size _⟩
        case measure => simp [intOf]; omega
   · have hfin : Hid (yA es = true) := aBa (by rw [Hlen.out]; exact hn6) (fun i hi => ⟨aCZ Ho.out (by rw [wB]; exact hi), Hall.out i (by rw [Hlen.out] at hi; omega)⟩)
     go_wp2
     go_ret
     exact ⟨xI hfin.out.symm, hb⟩
end Go.Proofs.YtodckioppgjbdaaDoor
