/- Texts of the machine over data, folded. -/
import Derived.Test.YtfomjajdfaoogaaGreatDoorKa5
import Derived.Test.YtfomjajdfaoogaaGreatDoorKa8
import Derived.Test.YtfomjajdfaoogaaGreatDoorKa6
import Derived.WalkSpells
import Derived.Test.YtfomjajdfaoogaaGreatDoorKa7
set_option linter.unusedVariables false
set_option linter.unusedSimpArgs false
set_option maxRecDepth 100000
namespace Go.Proofs.YtfomjajdfaoogaaGreatDoor.AM
open Go Go.RowKit
def aIt (ops : Array Oper) (k : Nat) (s : St) (ls : List Nat) : Bool :=
 (List.range ops.size).all fun j => Nat.beq j k || (vR ops j k || (match ops[j]? with
  | some o => (tmpsOf o).all fun t => ((List.range ops.size).any fun j' => match (ops[j']?).bind (·.dst) with
   | some t' => Nat.beq t' t && (!(Nat.blt j' k) && !(aAJ ops j'))
   | none => false) || ls.all fun l => !((s.sl t).names l)
  | none => true))
theorem aP0 {ops : Array Oper} {k : Nat} {s : St} {ls : List Nat} (h : aIt ops k s ls = true) : ∀ j o, ops[j]? = some o → j ≠ k → vR ops j k = false → ∀ t, t ∈ tmpsOf o → (∀ j' o', ops[j']? = some o' → o'.dst = some t → Nat.blt j' k = true ∨ aAJ ops j' = true) → ∀ l ∈ ls, (s.sl t).names l = false := by
 intro j o hj hne hor t ht hL l hl
 have h1 := List.all_eq_true.1 h j (List.mem_range.2 (Array.getElem?_eq_some_iff.1 hj).1)
 simp only [yH hne, hor, Bool.false_or, hj] at h1
 have h2 := List.all_eq_true.1 h1 t ht
 rw [Bool.or_eq_true] at h2
 rcases h2 with h2 | h2
 · obtain ⟨j', hj', h3⟩ := List.any_eq_true.1 h2
   cases ho' : ops[j']? with
   | none => rw [ho'] at h3; cases h3
   | some o' =>
    rw [ho'] at h3
    cases hd : o'.dst with
    | none => simp only [Option.bind_some, hd] at h3; cases h3
    | some t' =>
     simp only [Option.bind_some, hd, Bool.and_eq_true, Bool.not_eq_true'] at h3
     have : t' = t := Nat.eq_of_beq_eq_true h3.1
     subst this
     rcases hL j' o' ho' hd with h4 | h4 <;> rw [h4] at h3 <;> simp at h3
 · have := List.all_eq_true.1 h2 l hl
   simpa using this
theorem aHw {ops : Array Oper} {k : Nat} {s : St} {ls : List Nat} (h : aIt ops k s ls = true) : ∀ j o, ops[j]? = some o → j ≠ k → vR ops j k = false → ∀ t, t ∈ tmpsOf o → (∀ j' o', ops[j']? = some o' → o'.dst = some t → Nat.blt j' k = true) → ∀ l ∈ ls, (s.sl t).names l = false :=
 fun j o h1 h2 h3 t ht hL => aP0 h j o h1 h2 h3 t ht fun j' o' a b => .inl (hL j' o' a b)
section
variable {Θ : Tab} {ops : Array Oper} {k : Nat} {s : St}
theorem jR {l : Nat} {o : Option OB} {v : AV} (hs : soft Θ ops true k = true) (hc : aIt ops k s [l] = true) : kW Θ ops (fun j => Nat.blt j k) k s ⟨v, some fun s' => s'.set l o⟩ :=
 ⟨true, [l], _, id, fun hp j => bif Nat.beq j l then o else hp j, fun mp j => bif Nat.beq j l then none else mp j, rfl, hs, fun s => rfl, fun x _ => rfl, fun _ => ⟨fun x => rfl, fun hp j hj => by
  have : j ≠ l := by simpa using hj
  show (bif Nat.beq j l then o else hp j) = hp j
  rw [yH this]; rfl⟩, aHw hc⟩
theorem aFt {l : Nat} {ob : OB} {v : AV} (hs : soft Θ ops false k = true) (hc : aIt ops k s [l] = true) : kW Θ ops (fun j => Nat.blt j k) k s ⟨v, some fun s' => (s'.kill l).set l (some ob)⟩ :=
 ⟨false, [l], _, fun x => bif x.names l then .any else x, fun hp j => bif Nat.beq j l then some ob else xg l (hp j), fun mp j => bif Nat.beq j l then none else mp j, rfl, hs, fun s => rfl, (fun x h => by show (bif AV.names l x then AV.any else x) = x; rw [h l (by simp)]; rfl), (fun h => by cases h), aHw hc⟩
end
section
variable {P : Program} {Θ : Tab} {s : St} {ty : TypeId} {pos : String} {after : Array Edge} {g : Option (Nat × Bool)}
theorem aBz {d : Nat} {t : TypeId} {x : Operand} {el sz b : Nat} {z y : AV} (hf : s.hp (d + 1) = none) (ht : Θ.look t = .slice el sz b z) (hx : s.ev x = y) (hk : (match y with | .v c => c.oneCell' | .agg _ => true | .lst _ _ => true | .ptr _ => true | _ => false) = true) (hz : Nat.beq (asz y) (asz z) = true) (hsz : Nat.ble sz 65536 = true) (hok : okL (d + 1) = true := by rfl) :
 Pre P Θ ⟨some d, .buildSlice t 1 #[(0, x)], ty, pos, after, g⟩ s ⟨.own (d + 1), some fun s' => s'.set (d + 1) (some ⟨.s el, sz, [y]⟩)⟩ := by
 have hd : s.dat (s.ev x) = y := by rw [hx]; cases y <;> first | rfl | cases hk
 have ho : yP (s.ev x) = [] := by rw [hx]; cases y <;> first | rfl | cases hk
 have hda : xM s (s.ev x) = true := by rw [hx]; cases y <;> first | exact hk | rfl | cases hk
 refine ⟨d, el, sz, b, z, rfl, hf, hok, ht, by rw [Nat.one_mul]; exact Nat.le_of_ble_eq_true hsz, .inl ⟨⟨⟨z, rfl, by rw [hd]; exact Nat.eq_of_beq_eq_true hz⟩, hda, trivial⟩, fun y' hy c e => ?_, ?_, ?_⟩⟩
 · simp at hy
   subst hy; subst e
   simp only [St.ev] at hx; subst hx; exact hk
 · simp [xq, xY, ho]
 · have h1 : xq s (([(0, x)] : List (Nat × Operand)).map (·.2)) = [] := by simp [xq, xY, ho]
   show _ = Eff.mk _ (qW (xq s (([(0, x)] : List (Nat × Operand)).map (·.2))) _)
   rw [h1]
   show _ = Eff.mk _ (some _)
   congr 2
   funext s'
   show s'.set (d + 1) (some ⟨.s el, sz, [y]⟩) = s'.set (d + 1) (some ⟨.s el, sz, [s.dat (s.ev x)]⟩)
   rw [hd]
theorem uo {d : Option Tmp} {t : TypeId} {ps : Array (Nat × Operand)} {fs : List (Nat × Nat)} {z : List AV} (ht : Θ.look t = .struct fs z) (hm : aAL s (kr z) ps.toList) (hc : wQ (ps.toList.map (·.2)) = true) :
 Pre P Θ ⟨d, .build t ps, ty, pos, after, g⟩ s ⟨.mix (uU s (kr z) ps.toList), none⟩ := ⟨fs, z, ht, .inr ⟨hm, uz hc, rfl⟩⟩
end
def aTi (ops : Array Oper) : Bool :=
 (List.range ops.size).all fun j => match ops[j]? with
  | some o => (tmpsOf o).all fun t => (List.range ops.size).all fun j' => match (ops[j']?).bind (·.dst) with
   | some t' => !(Nat.beq t' t) || (!(Nat.beq j' j) && (((Region.before ops).getD j 0).testBit j' || aAJ ops j'))
   | none => true
  | none => true
theorem vv {ops : Array Oper} (h : aTi ops = true) : aCD ops := by
 intro j o ho t ht j' o' ho' hd
 have h1 := List.all_eq_true.1 h j (List.mem_range.2 (Array.getElem?_eq_some_iff.1 ho).1)
 simp only [ho] at h1
 have h2 := List.all_eq_true.1 (List.all_eq_true.1 h1 t ht) j' (List.mem_range.2 (Array.getElem?_eq_some_iff.1 ho').1)
 simp only [ho', Option.bind_some, hd, Nat.beq_refl, Bool.not_true, Bool.false_or, Bool.and_eq_true, Bool.not_eq_true', Bool.or_eq_true] at h2
 exact ⟨fun e => by rw [e] at h2; simp at h2, h2.2⟩
mutual
def jc : AV → List Nat
 | .own l => [l]
 | .optr l _ _ _ => [l]
 | .mapv l => [l]
 | .tup xs => aDZ xs
 | .mix xs => aDZ xs
 | .fn _ xs ys => aDZ xs ++ aDZ ys
 | .ifc _ x => jc x
 | _ => []
def aDZ : List AV → List Nat
 | [] => []
 | x :: xs => jc x ++ aDZ xs
end
mutual
theorem kJ {l : Nat} : ∀ x : AV, x.names l = true → l ∈ jc x
 | .own l', h => by simp only [AV.names] at h; simp [jc, Nat.eq_of_beq_eq_true h]
 | .optr l' _ _ _, h => by simp only [AV.names] at h; simp [jc, Nat.eq_of_beq_eq_true h]
 | .mapv l', h => by simp only [AV.names] at h; simp [jc, Nat.eq_of_beq_eq_true h]
 | .tup xs, h => by simp only [AV.names] at h; unfold jc; exact qM xs h
 | .mix xs, h => by simp only [AV.names] at h; unfold jc; exact qM xs h
 | .fn _ xs ys, h => by
  simp only [AV.names, Bool.or_eq_true] at h; unfold jc
  exact List.mem_append.2 (h.imp (qM xs) (qM ys))
 | .ifc _ x, h => by simp only [AV.names] at h; unfold jc; exact kJ x h
 | .any, h => by simp [AV.names] at h
 | .v _, h => by simp [AV.names] at h
 | .agg _, h => by simp [AV.names] at h
 | .lst _ _, h => by simp [AV.names] at h
 | .ptr _, h => by simp [AV.names] at h
 | .rd _, h => by simp [AV.names] at h
theorem qM {l : Nat} : ∀ xs : List AV, xP l xs = true → l ∈ aDZ xs
 | [], h => by simp [xP] at h
 | x :: xs, h => by
  simp only [xP, Bool.or_eq_true] at h; unfold aDZ
  exact List.mem_append.2 (h.imp (kJ x) (qM xs))
end
theorem aDW {l : Nat} : ∀ {nu : List (Nat × Option OB)}, yF nu l → l ∈ nu.map (·.1)
 | [], ⟨o, h⟩ => by simp [yI] at h
 | (m, ob) :: r, ⟨o, h⟩ => by
  simp only [yI] at h
  cases e : Nat.beq l m with
  | true => simp [Nat.eq_of_beq_eq_true e]
  | false => rw [e] at h; exact List.mem_cons_of_mem _ (aDW ⟨o, h⟩)
def aIw (ops : Array Oper) (k : Nat) (t : Tmp) : Bool := (List.range ops.size).any fun j' => match (ops[j']?).bind (·.dst) with
 | some t' => Nat.beq t' t && (!(Nat.blt j' k) && !(aAJ ops j'))
 | none => false
theorem aFb {ops : Array Oper} {k : Nat} {t : Tmp} (h : aIw ops k t = true) (hf : vw ops (fun j => Nat.blt j k) t) : False := by
 obtain ⟨j', hj', h3⟩ := List.any_eq_true.1 h
 cases ho' : ops[j']? with
 | none => rw [ho'] at h3; cases h3
 | some o' =>
  rw [ho'] at h3
  cases hd : o'.dst with
  | none => simp only [Option.bind_some, hd] at h3; cases h3
  | some t' =>
   simp only [Option.bind_some, hd, Bool.and_eq_true, Bool.not_eq_true'] at h3
   have : t' = t := Nat.eq_of_beq_eq_true h3.1
   subst this
   rcases hf j' o' ho' hd with h4 | h4
   · simp only at h4
     rw [h4] at h3; simp at h3
   · rw [h4] at h3; simp at h3
def aQT (ops : Array Oper) (k : Nat) (s : St) (ks ls : List Nat) : Bool :=
 (List.range ops.size).all fun j => Nat.beq j k || (vR ops j k || (match ops[j]? with
  | some o => ((tmpsOf o).all fun t => ((List.range ops.size).any fun j' => match (ops[j']?).bind (·.dst) with
   | some t' => Nat.beq t' t && (!(Nat.blt j' k) && !(aAJ ops j'))
   | none => false) || ls.all fun l => !((s.sl t).names l)) || (ks.isEmpty && wvB ops k o)
  | none => true))
theorem aP1 {ops : Array Oper} {k : Nat} {s : St} {ks ls : List Nat} (h : aQT ops k s ks ls = true) : ∀ j o, ops[j]? = some o → j ≠ k → vR ops j k = false → (ks = [] ∧ wvB ops k o = true) ∨ ∀ t, t ∈ tmpsOf o → (∀ j' o', ops[j']? = some o' → o'.dst = some t → Nat.blt j' k = true ∨ aAJ ops j' = true) → ∀ l ∈ ls, (s.sl t).names l = false := by
 intro j o hj hne hor
 have h1 := List.all_eq_true.1 h j (List.mem_range.2 (Array.getElem?_eq_some_iff.1 hj).1)
 simp only [yH hne, hor, Bool.false_or, hj] at h1
 rcases (Bool.or_eq_true _ _).mp h1 with h1 | h1
 case inr =>
  rw [Bool.and_eq_true] at h1
  exact .inl ⟨List.isEmpty_iff.1 h1.1, h1.2⟩
 refine .inr fun t ht hL l hl => ?_
 have h2 := List.all_eq_true.1 h1 t ht
 rw [Bool.or_eq_true] at h2
 rcases h2 with h2 | h2
 · obtain ⟨j', hj', h3⟩ := List.any_eq_true.1 h2
   cases ho' : ops[j']? with
   | none => rw [ho'] at h3; cases h3
   | some o' =>
    rw [ho'] at h3
    cases hd : o'.dst with
    | none => simp only [Option.bind_some, hd] at h3; cases h3
    | some t' =>
     simp only [Option.bind_some, hd, Bool.and_eq_true, Bool.not_eq_true'] at h3
     have : t' = t := Nat.eq_of_beq_eq_true h3.1
     subst this
     rcases hL j' o' ho' hd with h4 | h4 <;> rw [h4] at h3 <;> simp at h3
 · have := List.all_eq_true.1 h2 l hl
   simpa using this
def evB (ops : Array Oper) (k : Nat) (s : St) (o : Oper) (ks ls : List Nat) : Bool :=
 (aQT ops k s ks ls && (((ls.isEmpty || (List.range ops.size).all fun j => Nat.beq j k || (vR ops j k || (match ops[j]? with
  | some o' => (tmpsOf o').all fun t => aIw ops k t || (jc (s.sl t)).all fun l0 => match s.hp l0 with | some ob => ls.all fun l => !(zF l ob.e) | none => true
  | none => true))) && (ks.isEmpty || (List.range ops.size).all fun j => match ops[j]? with
  | some o' => (tmpsOf o').all fun t => aIw ops k t || (jc (s.sl t)).all fun l => match s.hp l with | some ob => ob.e.shut | none => true
  | none => true)) && ((!(aKe o) || (List.range ops.size).all fun j => Nat.beq j k || (vR ops j k || (match ops[j]? with
  | some o' => aH2 o'
  | none => true))) && (!(aH2 o) || ks.isEmpty)))) &&
 ((ks.isEmpty || (List.range ops.size).all fun j => match ops[j]? with
  | some o => (tmpsOf o).all fun t => aIw ops k t || ((ks.all fun l => !((s.sl t).names l)) || (jc (s.sl t)).all fun l => ls.contains l) &&
   (Nat.beq j k || (vR ops j k || (jc (s.sl t)).all fun l => match s.hp l with | some ob => ob.e.shut | none => true))
  | none => true) &&
 (List.range ops.size).all fun j => Nat.beq j k || (vR ops j k || (match (ops[j]?).bind (·.dst) with
  | some d => ls.all fun l => !(Nat.beq (l % 1000) ((d + 1) % 1000))
  | none => true)))
section
variable {P : Program} {Θ : Tab} {n : Nat} {ops : Array Oper} {k : Nat} {s : St} {o : Oper} {u : AV} {ks : List Nat} {nu : List (Nat × Option OB)}
theorem aQV (hs : SftG P Θ o s u ks nu) (hin : ∀ l ∈ nu.map (·.1), yF nu l) (hB : evB ops k s o ks (nu.map (·.1)) = true) (hqt : qN o = true → nu = [] ∧ Pre P Θ o s ⟨u, none⟩) : Ev P Θ ops (fun j => Nat.blt j k) k o s u ks nu := by
 simp only [evB, Bool.and_eq_true] at hB
 obtain ⟨⟨b1, ⟨bf, bc⟩, bo, bn⟩, b2, b3⟩ := hB
 have key : ∀ (j : Nat) (o' : Oper), ops[j]? = some o' → ∀ t ∈ tmpsOf o', vw ops (fun j => Nat.blt j k) t → ks = [] ∨
  (((ks.all fun l => !((s.sl t).names l)) || (jc (s.sl t)).all fun l => (nu.map (·.1)).contains l) = true ∧ (Nat.beq j k || (vR ops j k || (jc (s.sl t)).all fun l => match s.hp l with | some ob => ob.e.shut | none => true)) = true) := fun j o' ho t ht hf => by
  rcases (Bool.or_eq_true _ _).mp b2 with h | h
  · exact .inl (List.isEmpty_iff.1 h)
  · have h1 := List.all_eq_true.1 h j (List.mem_range.2 (Array.getElem?_eq_some_iff.1 ho).1)
    simp only [ho] at h1
    have h2 := List.all_eq_true.1 h1 t ht
    rcases (Bool.or_eq_true _ _).mp h2 with h3 | h3
    · exact (aFb h3 hf).elim
    · exact .inr (by simpa [Bool.and_eq_true] using h3)
 refine ⟨hs, fun j o' ho hne hor => (aP1 b1 j o' ho hne hor).imp id fun hA t ht hf l hl => hA t ht hf l (aDW hl), fun j o' ho t ht hf => ?_, fun j o' ho hne hor t ht hf l ob hn hob => ?_, fun j o' ho hne hor d hd l hl => ?_, fun j o' ho hne hor t ht hf l0 ob l hn hob hl => ?_, ?_, fun hst j o' ho hne hor => ?_, fun hnk => ?_, hqt⟩
 · rcases key j o' ho t ht hf with rfl | ⟨h, _⟩
   · exact .inl fun l hl => by cases hl
   · rcases (Bool.or_eq_true _ _).mp h with h | h
     · exact .inl fun l hl => by simpa using List.all_eq_true.1 h l hl
     · exact .inr fun l hl => hin l (by simpa using List.all_eq_true.1 h l (kJ _ hl))
 · rcases key j o' ho t ht hf with rfl | ⟨_, h⟩
   · exact .inl rfl
   · rw [yH hne, hor] at h
     simp only [Bool.false_or] at h
     have := List.all_eq_true.1 h l (kJ _ hn)
     simp only [hob] at this
     exact .inr this
 · have h1 := List.all_eq_true.1 b3 j (List.mem_range.2 (Array.getElem?_eq_some_iff.1 ho).1)
   rw [yH hne, hor] at h1
   simp only [Bool.false_or, ho, Option.bind_some, hd] at h1
   have := List.all_eq_true.1 h1 l (aDW hl)
   intro e
   rw [e] at this
   simp at this
 · have hm := aDW hl
   rcases (Bool.or_eq_true _ _).mp bf with h | h
   · rw [List.isEmpty_iff.1 h] at hm; cases hm
   · have h1 := List.all_eq_true.1 h j (List.mem_range.2 (Array.getElem?_eq_some_iff.1 ho).1)
     rw [yH hne, hor] at h1
     simp only [Bool.false_or, ho] at h1
     have h2 := List.all_eq_true.1 h1 t ht
     rcases (Bool.or_eq_true _ _).mp h2 with h3 | h3
     · exact (aFb h3 hf).elim
     · have h4 := List.all_eq_true.1 h3 l0 (kJ _ hn)
       simp only [hob] at h4
       have h5 := List.all_eq_true.1 h4 l hm
       simpa using h5
 · rcases (Bool.or_eq_true _ _).mp bc with h | h
   · exact .inl (List.isEmpty_iff.1 h)
   · refine .inr fun j o' ho t ht hf l0 ob hn hob => ?_
     have h1 := List.all_eq_true.1 h j (List.mem_range.2 (Array.getElem?_eq_some_iff.1 ho).1)
     simp only [ho] at h1
     have h2 := List.all_eq_true.1 h1 t ht
     rcases (Bool.or_eq_true _ _).mp h2 with h3 | h3
     · exact (aFb h3 hf).elim
     · have h4 := List.all_eq_true.1 h3 l0 (kJ _ hn)
       simp only [hob] at h4
       exact h4
 · rw [hst] at bo
   have h1 := List.all_eq_true.1 bo j (List.mem_range.2 (Array.getElem?_eq_some_iff.1 ho).1)
   rw [yH hne, hor] at h1
   simpa only [Bool.false_or, ho] using h1
 · rw [hnk] at bn
   exact List.isEmpty_iff.1 bn
theorem zl {l : Nat} (h : yF [] l) : False := by obtain ⟨o, h⟩ := h; simp [yI] at h
theorem aQC {v : AV} (hp : Pre P Θ o s ⟨v, none⟩) (hc : calm Θ true o = true) (hv : jH o = true ∨ v.within (fun _ => false) = true) : Sft P Θ o s v [] [] := by
 refine ⟨fun s' h1 h2 => ⟨⟨v, none⟩, aA9 (two := true) hc h1 (fun _ l ⟨x, hx, hn⟩ => ?_) hp, fun K hK => .done hK⟩, fun l ob h => by simp [yI] at h, fun l hl => (by cases hl), fun l hl => ?_, fun l hl => (zl hl).elim, fun l ob hl => (zl hl).elim⟩
 · cases x with
   | tmp t => exact (h2 l (.inr ⟨t, y7 hx, hn⟩)).1
   | global g => simp [St.ev, jL] at hn
   | _ => simp [St.ev, AV.names, xP] at hn
 · rcases hv with hv | hv
   · exact .inr (aBI hv hp l hl)
   · have := uP v hv hl; cases this
theorem jo {K : St → Prop} (h : K s) : xQ P Θ n ops k [] s K := Gh.done h
theorem xJ {r : List Oper} {K : St → Prop} {v : AV} (hp : Pre P Θ o s ⟨v, none⟩) (hin : inN n o.dst = true) (hg : o.guard = none) (hc : calm Θ true o = true) (hv : jH o = true ∨ v.within (fun _ => false) = true) (hB : evB ops k s o [] [] = true) (h : xQ P Θ n ops (k + 1) r (s.put o.dst v) K) : xQ P Θ n ops k (o :: r) s K :=
 ⟨hin, hg, .inl ⟨v, [], [], aQV (aQC hp hc hv).g (fun l hl => by cases hl) hB (fun _ => ⟨rfl, hp⟩), h⟩⟩
theorem xU {r : List Oper} {K : St → Prop} (hs : Sft P Θ o s u ks nu) (hn : ∀ l ∈ nu.map (·.1), yF nu l) (hin : inN n o.dst = true) (hg : o.guard = none) (hB : evB ops k s o ks (nu.map (·.1)) = true) (h : xQ P Θ n ops (k + 1) r ((shp ks nu s).put o.dst u) K) (hq : qN o = false := by rfl) : xQ P Θ n ops k (o :: r) s K :=
 ⟨hin, hg, .inl ⟨u, ks, nu, aQV hs.g hn hB (fun h => by rw [hq] at h; cases h), h⟩⟩
theorem qb {r : List Oper} {K : St → Prop} {e : Eff} (hp : Pre P Θ o s e) (hin : inN n o.dst = true) (hg : o.guard = none) (ht : tied ops k = true) (h : xQ P Θ n ops (k + 1) r (s.app o.dst e) K) : xQ P Θ n ops k (o :: r) s K :=
 ⟨hin, hg, .inr ⟨ht, e, hp, .done h⟩⟩
end
abbrev wH (x : AV) : Bool := x.within (fun _ => false)
mutual
theorem aCQ (s s' : St) : ∀ x : AV, wH x = true → s'.dat x = s.dat x
 | .own l, h => by simp [wH, AV.within] at h
 | .optr l _ _ _, h => by simp [wH, AV.within] at h
 | .mix xs, h => by unfold St.dat; rw [aGU s s' xs (by simpa [wH, AV.within] using h)]
 | .ifc t x, h => by unfold St.dat; rw [aCQ s s' x (by simpa [wH, AV.within] using h)]
 | .mapv l, h => by simp [wH, AV.within] at h
 | .tup xs, h => by simp [St.dat]
 | .fn _ xs ys, h => by simp [St.dat]
 | .any, h => by simp [St.dat]
 | .v _, h => by simp [St.dat]
 | .agg _, h => by simp [St.dat]
 | .lst _ _, h => by simp [St.dat]
 | .ptr _, h => by simp [St.dat]
 | .rd _, h => by simp [St.dat]
theorem aGU (s s' : St) : ∀ xs : List AV, zC (fun _ => false) xs = true → s'.datL xs = s.datL xs
 | [], _ => by simp [St.datL]
 | x :: xs, h => by
  simp only [zC, Bool.and_eq_true] at h
  simp only [St.datL]; rw [aCQ s s' x h.1, aGU s s' xs h.2]
end
mutual
theorem aAG (s s' : St) : ∀ x : AV, wH x = true → xM s' x = xM s x
 | .own l, h => by simp [wH, AV.within] at h
 | .optr l _ _ _, h => by simp [wH, AV.within] at h
 | .mix xs, h => by unfold xM; rw [aDm s s' xs (by simpa [wH, AV.within] using h)]
 | .ifc t x, h => by simp [xM]
 | .mapv l, h => by simp [wH, AV.within] at h
 | .tup xs, h => by simp [xM]
 | .fn _ xs ys, h => by simp [xM]
 | .any, h => by simp [xM]
 | .v _, h => by simp [xM]
 | .agg _, h => by simp [xM]
 | .lst _ _, h => by simp [xM]
 | .ptr _, h => by simp [xM]
 | .rd _, h => by simp [xM]
theorem aDm (s s' : St) : ∀ xs : List AV, zC (fun _ => false) xs = true → vG s' xs = vG s xs
 | [], _ => by simp [vG]
 | x :: xs, h => by
  simp only [zC, Bool.and_eq_true] at h
  simp only [vG]; rw [aAG s s' x h.1, aDm s s' xs h.2]
end
theorem aMZ (s s' : St) (x : AV) (h : wH x = true) : jb s' x = jb s x := by
 cases x with
 | ifc t y => simp only [jb]; exact aAG s s' y (by simpa [wH, AV.within] using h)
 | own l => simp [wH, AV.within] at h
 | optr l i p c => simp [wH, AV.within] at h
 | mix xs => simp only [jb]; exact aAG s s' (.mix xs) h
 | fn f xs ys => cases xs <;> cases ys <;> simp [jb]
 | _ => simp [jb, xM]
theorem aFJ (s s' : St) : ∀ xs : List AV, (xs.all wH) = true → uQ s' xs = uQ s xs
 | [], _ => rfl
 | x :: xs, h => by
  simp only [List.all_cons, Bool.and_eq_true] at h
  simp only [uQ]; rw [aMZ s s' x h.1, aFJ s s' xs h.2]
def uY (d : Nat) : Nat → List OB → List (Nat × Option OB)
 | _, [] => []
 | k, ob :: r => (d + 1000 * k, some ob) :: uY d (k + 1) r
theorem aD5 {d : Nat} : ∀ (r : List OB) (k k' : Nat), k < k' → yI (uY d k' r) (d + 1000 * k) = none
 | [], _, _, _ => rfl
 | ob :: r, k, k', h => by
  have hne : d + 1000 * k ≠ d + 1000 * k' := by omega
  simp only [uY, yI]
  rw [yH hne]; exact aD5 r k (k' + 1) (by omega)
theorem qY {d : Nat} : ∀ (r : List OB) (k l : Nat) (o : Option OB), yI (uY d k r) l = some o → ∃ j ob, l = d + 1000 * j ∧ o = some ob ∧ ob ∈ r ∧ k ≤ j ∧ r[j - k]? = some ob
 | [], _, _, _, h => by simp [uY, yI] at h
 | ob :: r, k, l, o, h => by
  simp only [uY, yI] at h
  cases e : Nat.beq l (d + 1000 * k) with
  | true =>
   rw [e] at h; simp only [cond_true, Option.some.injEq] at h
   exact ⟨k, ob, Nat.eq_of_beq_eq_true e, h.symm, by simp, Nat.le_refl _, by simp⟩
  | false =>
   rw [e] at h
   obtain ⟨j, ob', h1, h2, h3, h4, h5⟩ := qY r (k + 1) l o h
   exact ⟨j, ob', h1, h2, List.mem_cons_of_mem _ h3, by omega, by
    have : j - k = (j - (k + 1)) + 1 := by omega
    rw [this, List.getElem?_cons_succ]; exact h5⟩
theorem aD4 {s : St} {d : Nat} : ∀ (r : List OB) (k : Nat), yN s d k r → ∀ j, k ≤ j → j < k + r.length → s.hp (d + 1000 * j) = none
 | [], k, _, j, h1, h2 => by simp at h2; omega
 | ob :: r, k, h, j, h1, h2 => by
  unfold yN at h
  rcases Nat.eq_or_lt_of_le h1 with e | e
  · subst e; exact h.1.1
  · exact aD4 r (k + 1) h.2 j (by omega) (by simp at h2; omega)
theorem aC8 {s s' : St} {d : Nat} : ∀ (r : List OB) (k : Nat), (∀ j, k ≤ j → j < k + r.length → s'.hp (d + 1000 * j) = s.hp (d + 1000 * j)) → yN s d k r → yN s' d k r
 | [], _, _, _ => trivial
 | ob :: r, k, hh, h => by
  unfold yN at h ⊢
  exact ⟨⟨(hh k (Nat.le_refl _) (by simp)).trans h.1.1, h.1.2⟩, aC8 r (k + 1) (fun j h1 h2 => hh j (by omega) (by simp; omega)) h.2⟩
theorem aCX {d : Nat} : ∀ (r : List OB) (k j : Nat), k ≤ j → j < k + r.length → yF (uY d k r) (d + 1000 * j)
 | [], k, j, h1, h2 => by simp at h2; omega
 | ob :: r, k, j, h1, h2 => by
  unfold yF
  simp only [uY, yI]
  cases e : Nat.beq (d + 1000 * j) (d + 1000 * k) with
  | true => exact ⟨_, rfl⟩
  | false =>
   have hne : j ≠ k := fun h => by subst h; rw [Nat.beq_refl] at e; cases e
   exact aCX r (k + 1) j (by omega) (by simp at h2; omega)
theorem aDc {d : Nat} : ∀ (r : List OB) (k : Nat) (s : St), yu d k r s = shp [] (uY d k r) s
 | [], k, s => rfl
 | ob :: r, k, s => by
  show yu d (k + 1) r (s.set (d + 1000 * k) (some ob)) = _
  rw [aDc r (k + 1)]
  unfold shp St.set
  congr 1
  · funext j
    simp only [uY, yI]
    cases e : Nat.beq j (d + 1000 * k) with
    | true =>
     have := Nat.eq_of_beq_eq_true e
     subst this
     rw [aD5 r k (k + 1) (by omega)]; rfl
    | false => rfl
  · funext j
    simp only [uY, yI]
    cases e : Nat.beq j (d + 1000 * k) with
    | true =>
     have := Nat.eq_of_beq_eq_true e
     subst this
     rw [aD5 r k (k + 1) (by omega)]; rfl
    | false => rfl
section
variable {P : Program} {Θ : Tab} {s : St} {ty : TypeId} {pos : String} {after : Array Edge} {g : Option (Nat × Bool)}
theorem aCI {f : FuncId} {ags : Array Operand} {ts : Array TypeId} {t : Nat} {args : List AV} {out : Out} (hac : AC P f args out) (ha : (ags.toList.map fun x => s.dat (s.ev x)) = args) (hfl : (xq s ags.toList).isEmpty = true) (hw : (ags.toList.map s.ev).all wH = true) (hfr : yN s (t + 1) 0 out.obs) (hok : uQ s (ags.toList.map s.ev) = true) (hc : wQ ags.toList = true)
 (hv : (ren (t + 1) out.val).within (fun l => (yI (uY (t + 1) 0 out.obs) l).isSome) = true) :
 Sft P Θ ⟨some t, .call ⟨.value (.func f), ags, ts⟩, ty, pos, after, g⟩ s (ren (t + 1) out.val) [] (uY (t + 1) 0 out.obs) := by
 have hsh := aCS out.obs 0 hfr
 refine ⟨fun s' h1 h2 => ?_, fun l ob h => ?_, fun l hl => (by cases hl), fun l hl => ?_, fun l ⟨o, hl⟩ => ?_, fun l ob ⟨o, hl⟩ ho => ?_⟩
 · have hev : ∀ x ∈ ags.toList, s'.ev x = s.ev x := fun x hx => h1 x (by simp [Op.operands, Call.operands] at hx ⊢; exact .inr hx)
   have hmap : ags.toList.map s'.ev = ags.toList.map s.ev := List.map_congr_left hev
   refine ⟨⟨ren (t + 1) out.val, aAW (t + 1) out.obs⟩, aCA hac ?_ (.inl ?_) (aC8 out.obs 0 (fun j h3 h4 => (h2 _ (.inl (aCX out.obs 0 j h3 h4))).1) hfr) ?_ hc, fun K hK => .done ?_⟩
   · rw [← ha]
     refine List.map_congr_left fun x hx => ?_
     rw [hev x hx]
     exact aCQ s s' _ (List.all_eq_true.1 hw _ (List.mem_map_of_mem hx))
   · unfold xq at hfl ⊢; rw [hmap]; exact hfl
   · rw [hmap, aFJ s s' _ hw]; exact hok
   · cases ho : out.obs with
     | nil => rw [ho] at hK; exact hK
     | cons ob r =>
      rw [ho] at hK
      show K ((yu (t + 1) 0 (ob :: r) s').put (some t) (ren (t + 1) out.val))
      rw [aDc]; exact hK
 · obtain ⟨j, ob', _, e, hm, _⟩ := qY out.obs 0 l _ h
   cases e; exact hsh ob hm
 · have := uP _ hv hl
   obtain ⟨o, ho⟩ := Option.isSome_iff_exists.1 this
   exact .inl ⟨o, ho⟩
 · obtain ⟨j, ob', e, _⟩ := qY out.obs 0 l _ hl
   exact .inl ⟨t, rfl, by rw [e]; omega⟩
 · obtain ⟨j, ob', e, _, _, h4, h5⟩ := qY out.obs 0 l _ hl
   have hj := (List.getElem?_eq_some_iff.1 h5).1
   have := aD4 out.obs 0 hfr j h4 (by omega)
   rw [← e, ho] at this; cases this
end
theorem j6 (l : Nat) (ob : OB) (s : St) : s.set l (some ob) = shp [] [(l, some ob)] s := by
 unfold shp St.set
 congr 1
 · funext j; show (bif Nat.beq j l then some ob else s.hp j) = (match (bif Nat.beq j l then some (some ob) else none) with | some o => o | none => s.hp j)
   cases Nat.beq j l <;> rfl
 · funext j; show (bif Nat.beq j l then none else s.mp j) = (match (bif Nat.beq j l then some (some ob) else none) with | some _ => none | none => s.mp j)
   cases Nat.beq j l <;> rfl
theorem aMD (l : Nat) (ob : OB) (s : St) : (s.kill l).set l (some ob) = shp [l] [(l, some ob)] s := by
 unfold shp St.set St.kill
 congr 1
 · funext j; show (bif (s.sl j).names l then AV.any else s.sl j) = fgt [l] (s.sl j); unfold fgt; simp
 · funext j; show (bif Nat.beq j l then some ob else xg l (s.hp j)) = (match (bif Nat.beq j l then some (some ob) else none) with | some o => o | none => xg l (s.hp j))
   cases Nat.beq j l <;> rfl
 · funext j; show (bif Nat.beq j l then none else s.mp j) = (match (bif Nat.beq j l then some (some ob) else none) with | some _ => none | none => s.mp j)
   cases Nat.beq j l <;> rfl
theorem nu1 {l m : Nat} {ob : OB} {o : Option OB} (h : yI [(l, some ob)] m = some o) : m = l ∧ o = some ob := by
 simp only [yI] at h
 cases e : Nat.beq m l with
 | true => rw [e] at h; simp only [cond_true, Option.some.injEq] at h; exact ⟨Nat.eq_of_beq_eq_true e, h.symm⟩
 | false => rw [e] at h; cases h
theorem in1 (l : Nat) (ob : OB) : yF [(l, some ob)] l := ⟨some ob, by simp [yI]⟩
section
variable {P : Program} {Θ : Tab} {s : St} {ty : TypeId} {pos : String} {after : Array Edge} {g : Option (Nat × Bool)}
theorem aDf {d : Nat} {t : TypeId} {el sz b : Nat} {z : AV} (hf : s.hp (d + 1) = none) (ht : Θ.look t = .slice el sz b z) (hok : okL (d + 1) = true := by rfl) :
 Sft P Θ ⟨some d, .buildSlice t 0 #[], ty, pos, after, g⟩ s (.own (d + 1)) [] [(d + 1, some ⟨.s el, sz, []⟩)] := by
 refine ⟨fun s' h1 h2 => ⟨⟨.own (d + 1), some fun s'' => s''.set (d + 1) (some ⟨.s el, sz, []⟩)⟩, ?_, fun K hK => .done ?_⟩, fun l ob h => ?_, fun l hl => (by cases hl), fun l hl => .inl ?_, fun l ⟨o, hl⟩ => .inl ?_, fun l ob ⟨o, hl⟩ ho => ?_⟩
 · exact ⟨d, el, sz, b, z, rfl, (h2 _ (.inl (in1 _ _))).1.trans hf, hok, ht, by omega, .inl ⟨trivial, fun x hx => by simp at hx, by simp [xq, xY], by simp [xq, xY, qW, yT]⟩⟩
 · rw [zQ, j6]; exact hK
 · obtain ⟨_, e⟩ := nu1 h; cases e; rfl
 · simp only [AV.names] at hl; rw [← Nat.eq_of_beq_eq_true hl]; exact in1 _ _
 · obtain ⟨rfl, _⟩ := nu1 hl; exact ⟨d, rfl, rfl⟩
 · obtain ⟨rfl, _⟩ := nu1 hl; rw [hf] at ho; cases ho
theorem aDe {d : Option Tmp} {tx : Tmp} {y : Operand} {t el sz b l : Nat} {e0 : ET} {z : AV} {xs ys : List AV} (hx : s.sl tx = .own l) (hy : s.ev y = .lst sz ys) (ho : s.hp l = some ⟨e0, sz, xs⟩) (ht : Θ.look t = .slice el sz b z) (hb : (xs.length + ys.length) * b ≤ 140737488355328) (hb1 : Nat.ble 1 b = true) (he : (e0 = .s el ∨ e0 = .z el) := by first | exact .inl rfl | exact .inr rfl) (hok : okL l = true := by rfl) :
 Sft P Θ ⟨d, .call ⟨.builtin .append, #[.tmp tx, y], #[t, t]⟩, ty, pos, after, g⟩ s (.own l) [l] [(l, some ⟨.s el, sz, xs ++ ys⟩)] := by
 have hb1' := Nat.le_of_ble_eq_true hb1
 have hm : xs.length + ys.length ≤ maxLen := by
  have : (xs.length + ys.length) * 1 ≤ (xs.length + ys.length) * b := Nat.mul_le_mul_left _ hb1'
  unfold maxLen; omega
 have hmem : tx ∈ tmpsOf (⟨d, .call ⟨.builtin .append, #[.tmp tx, y], #[t, t]⟩, ty, pos, after, g⟩ : Oper) := y7 (by simp [Op.operands, Call.operands])
 have hnm : yg s (⟨d, .call ⟨.builtin .append, #[.tmp tx, y], #[t, t]⟩, ty, pos, after, g⟩ : Oper) l := ⟨tx, hmem, by rw [hx]; simp [AV.names]⟩
 refine ⟨fun s' h1 h2 => ⟨⟨.own l, some fun s'' => (s''.kill l).set l (some ⟨.s el, sz, xs ++ ys⟩)⟩, ?_, fun K hK => .done ?_⟩, fun m ob h => ?_, fun m hl => ?_, fun m hl => .inl ?_, fun m ⟨o, hl⟩ => .inr ?_, fun m ob ⟨o, hl⟩ hob => ?_⟩
 · have e1 : s'.ev (.tmp tx) = .own l := (h1 _ (by simp [Op.operands, Call.operands])).trans hx
   have e2 : s'.ev y = .lst sz ys := (h1 _ (by simp [Op.operands, Call.operands])).trans hy
   exact ⟨.tmp tx, y, t, el, sz, b, z, l, _, ys, rfl, rfl, ht, e1, (h2 _ (.inl (in1 _ _))).1.trans ho, hok, rfl, hb, hm, .inl ⟨el, he, rfl, .inl e2, rfl⟩⟩
 · rw [zQ, aMD]; exact hK
 · obtain ⟨_, e⟩ := nu1 h; cases e; rfl
 · rw [List.mem_singleton] at hl; subst hl; exact in1 _ _
 · simp only [AV.names] at hl; rw [← Nat.eq_of_beq_eq_true hl]; exact in1 _ _
 · obtain ⟨rfl, _⟩ := nu1 hl; exact hnm
 · obtain ⟨rfl, _⟩ := nu1 hl
   rw [ho] at hob; cases hob
   rcases he with rfl | rfl <;> rfl
end
section
variable {P : Program} {Θ : Tab} {s : St} {ty : TypeId} {pos : String} {after : Array Edge} {g : Option (Nat × Bool)}
end
mutual
theorem aCm {s s' : St} : ∀ x : AV, (∀ l, x.names l = true → s'.hp l = s.hp l) → s'.dat x = s.dat x ∧ xM s' x = xM s x
 | .own l, h => by
  have := h l (by simp [AV.names])
  simp only [St.dat, xM, this, and_self]
 | .optr l i p c, h => by
  have := h l (by simp [AV.names])
  simp only [St.dat, xM, this, and_self]
 | .mix xs, h => by
  obtain ⟨h1, h2⟩ := aJa xs (fun l hl => h l (by simpa [AV.names] using hl))
  simp only [St.dat, xM, h1, h2, and_self]
 | .ifc t x, h => by
  obtain ⟨h1, _⟩ := aCm x (fun l hl => h l (by simpa [AV.names] using hl))
  simp only [St.dat, xM, h1, and_self]
 | .rd x, _ => ⟨rfl, rfl⟩
 | .any, _ => ⟨rfl, rfl⟩
 | .v _, _ => ⟨rfl, rfl⟩
 | .agg _, _ => ⟨rfl, rfl⟩
 | .lst _ _, _ => ⟨rfl, rfl⟩
 | .ptr _, _ => ⟨rfl, rfl⟩
 | .tup _, _ => ⟨rfl, rfl⟩
 | .mapv _, _ => ⟨rfl, rfl⟩
 | .fn _ _ _, _ => ⟨rfl, rfl⟩
theorem aJa {s s' : St} : ∀ xs : List AV, (∀ l, xP l xs = true → s'.hp l = s.hp l) → s'.datL xs = s.datL xs ∧ vG s' xs = vG s xs
 | [], _ => ⟨rfl, rfl⟩
 | x :: xs, h => by
  obtain ⟨h1, h2⟩ := aCm x (fun l hl => h l (by simp [xP, hl]))
  obtain ⟨h3, h4⟩ := aJa xs (fun l hl => h l (by simp [xP, hl]))
  simp only [St.datL, vG, h1, h2, h3, h4, and_self]
end
theorem aPR {s s' : St} (x : AV) (h : ∀ l, x.names l = true → s'.hp l = s.hp l) : jb s' x = jb s x := by
 cases x with
 | fn f xs ys => cases xs <;> cases ys <;> rfl
 | ifc t x => exact (aCm x (fun l hl => h l (by simpa [AV.names] using hl))).2
 | _ => first | rfl | exact (aCm _ h).2
theorem aHv {s s' : St} : ∀ xs : List AV, (∀ l, xP l xs = true → s'.hp l = s.hp l) → uQ s' xs = uQ s xs
 | [], _ => rfl
 | x :: xs, h => by
  simp only [uQ]
  rw [aPR x (fun l hl => h l (by simp [xP, hl])), aHv xs (fun l hl => h l (by simp [xP, hl]))]
theorem aGi {s : St} {l : Nat} : ∀ xs : List Operand, xP l (xs.map s.ev) = true → ∃ t, Operand.tmp t ∈ xs ∧ (s.sl t).names l = true
 | [], h => by simp [xP] at h
 | x :: xs, h => by
  simp only [List.map_cons, xP, Bool.or_eq_true] at h
  rcases h with h | h
  · cases x with
    | tmp t => exact ⟨t, by simp, h⟩
    | global g => simp [St.ev, jL] at h
    | _ => simp [St.ev, AV.names, xP] at h
  · obtain ⟨t, h1, h2⟩ := aGi xs h
    exact ⟨t, List.mem_cons_of_mem _ h1, h2⟩
theorem aRR (t : Nat) (z : AV) : (kz t z).shut = true := by unfold kz; cases zm z <;> rfl
section
variable {P : Program} {Θ : Tab} {s : St} {ty : TypeId} {pos : String} {after : Array Edge} {g : Option (Nat × Bool)}
theorem aI8 {f : FuncId} {ags : Array Operand} {ts : Array TypeId} {t : Nat} {args : List AV} {out : Out} (hac : AC P f args out) (ha : (ags.toList.map fun x => s.dat (s.ev x)) = args) (hfl : out.flat) (hfr : yN s (t + 1) 0 out.obs) (hok : uQ s (ags.toList.map s.ev) = true) (hc : wQ ags.toList = true)
 (hv : (ren (t + 1) out.val).within (fun l => (yI (uY (t + 1) 0 out.obs) l).isSome) = true) :
 Sft P Θ ⟨some t, .call ⟨.value (.func f), ags, ts⟩, ty, pos, after, g⟩ s (ren (t + 1) out.val) [] (uY (t + 1) 0 out.obs) := by
 have hsh := aCS out.obs 0 hfr
 refine ⟨fun s' h1 h2 => ?_, fun l ob h => ?_, fun l hl => (by cases hl), fun l hl => ?_, fun l ⟨o, hl⟩ => ?_, fun l ob ⟨o, hl⟩ ho => ?_⟩
 · have hev : ∀ x ∈ ags.toList, s'.ev x = s.ev x := fun x hx => h1 x (by simp [Op.operands, Call.operands] at hx ⊢; exact .inr hx)
   have hmap : ags.toList.map s'.ev = ags.toList.map s.ev := List.map_congr_left hev
   have hn : ∀ l, xP l (ags.toList.map s.ev) = true → s'.hp l = s.hp l := fun l hl => by
    obtain ⟨t', h3, h4⟩ := aGi _ hl
    exact (h2 l (.inr ⟨t', y7 (by simp [Op.operands, Call.operands] at h3 ⊢; exact h3), h4⟩)).1
   refine ⟨⟨ren (t + 1) out.val, aAW (t + 1) out.obs⟩, aCA hac ?_ (.inr hfl) (aC8 out.obs 0 (fun j h3 h4 => (h2 _ (.inl (aCX out.obs 0 j h3 h4))).1) hfr) ?_ hc, fun K hK => .done ?_⟩
   · rw [← ha]
     refine List.map_congr_left fun x hx => ?_
     rw [hev x hx]
     refine (aCm _ fun l hl => ?_).1
     cases x with
     | tmp t' => exact (h2 l (.inr ⟨t', y7 (by simp [Op.operands, Call.operands] at hx ⊢; exact hx), hl⟩)).1
     | global g => simp [St.ev, jL] at hl
     | _ => simp [St.ev, AV.names, xP] at hl
   · rw [hmap, aHv _ hn]; exact hok
   · cases ho : out.obs with
     | nil => rw [ho] at hK; exact hK
     | cons ob r =>
      rw [ho] at hK
      show K ((yu (t + 1) 0 (ob :: r) s').put (some t) (ren (t + 1) out.val))
      rw [aDc]; exact hK
 · obtain ⟨j, ob', _, e, hm, _⟩ := qY out.obs 0 l _ h
   cases e; exact hsh ob hm
 · have := uP _ hv hl
   obtain ⟨o, ho⟩ := Option.isSome_iff_exists.1 this
   exact .inl ⟨o, ho⟩
 · obtain ⟨j, ob', e, _⟩ := qY out.obs 0 l _ hl
   exact .inl ⟨t, rfl, by rw [e]; omega⟩
 · obtain ⟨j, ob', e, _, _, h4, h5⟩ := qY out.obs 0 l _ hl
   have hj := (List.getElem?_eq_some_iff.1 h5).1
   have := aD4 out.obs 0 hfr j h4 (by omega)
   rw [← e, ho] at this; cases this
theorem aDd {t : TypeId} {d : Nat} (hf : s.hp (d + 1) = none) (hk : (Θ.look t).known = true) (hok : okL (d + 1) = true := by rfl) :
 Sft P Θ ⟨some d, .alloc t, ty, pos, after, g⟩ s (.optr (d + 1) 0 [] 0) [] [(d + 1, some ⟨kz t (Θ.look t).zero, (Θ.look t).size, [(Θ.look t).zero]⟩)] := by
 refine ⟨fun s' h1 h2 => ⟨⟨.optr (d + 1) 0 [] 0, some fun s => s.set (d + 1) (some ⟨kz t (Θ.look t).zero, (Θ.look t).size, [(Θ.look t).zero]⟩)⟩, aKH ((h2 _ (.inl (in1 _ _))).1.trans hf) hk hok, fun K hK => .done ?_⟩, fun l ob h => ?_, fun l hl => (by cases hl), fun l hl => .inl ?_, fun l ⟨o, hl⟩ => .inl ?_, fun l ob ⟨o, hl⟩ ho => ?_⟩
 · rw [zQ, j6]; exact hK
 · obtain ⟨_, e⟩ := nu1 h; cases e; exact aRR _ _
 · simp only [AV.names] at hl; rw [← Nat.eq_of_beq_eq_true hl]; exact in1 _ _
 · obtain ⟨rfl, _⟩ := nu1 hl; exact ⟨d, rfl, rfl⟩
 · obtain ⟨rfl, _⟩ := nu1 hl; rw [hf] at ho; cases ho
theorem aAl {t : TypeId} {tx ty' : Tmp} {l i c : Nat} {p : List Nat} {ob : OB} {q z v : AV} (hq : ob.xs[i]? = some q) (hx : s.sl tx = .optr l i p c) (ho : s.hp l = some ob) (hg : xh q p 0 = some (z, c)) (hs : ((Θ.look t).known && (Nat.beq (asz z) (Θ.look t).size && Nat.beq (asz v) (asz z))) = true) (hy : s.sl ty' = v) (hv : (match v with | .v c => c.oneCell' | .agg _ => true | .lst _ _ => true | .ptr _ => true | _ => false) = true) (hop : ob.e.open_ = true := by rfl) :
 Sft P Θ ⟨none, .store t (.tmp tx) (.tmp ty'), ty, pos, after, g⟩ s .any [] [(l, some ⟨.s (ob.e.typ.getD 0), ob.sz, ob.xs.set i (vT q p v)⟩)] := by
 have m1 : tx ∈ tmpsOf (⟨none, .store t (.tmp tx) (.tmp ty'), ty, pos, after, g⟩ : Oper) := y7 (by simp [Op.operands])
 refine ⟨fun s' h1 h2 => ⟨⟨.any, some fun s' => s'.set l (some ⟨.s (ob.e.typ.getD 0), ob.sz, ob.xs.set i (vT q p v)⟩)⟩, y8 hq ((h1 (.tmp tx) (by simp [Op.operands])).trans hx) ((h2 _ (.inl (in1 _ _))).1.trans ho) hg hs ((h1 (.tmp ty') (by simp [Op.operands])).trans hy) (by cases v <;> first | exact hv | rfl) hop, fun K hK => .done ?_⟩, fun l ob h => ?_, fun l hl => (by cases hl), fun l hl => by simp [AV.names] at hl, fun m ⟨o, hl⟩ => .inr ?_, fun m ob' ⟨o, hl⟩ ho' => ?_⟩
 · rw [zQ, j6]; exact hK
 · obtain ⟨_, e⟩ := nu1 h; cases e; rfl
 · obtain ⟨rfl, _⟩ := nu1 hl; exact ⟨tx, m1, by rw [hx]; simp [AV.names]⟩
 · obtain ⟨rfl, _⟩ := nu1 hl; rw [ho] at ho'; cases ho'
   obtain ⟨e, sz, xs⟩ := ob
   cases e <;> first | rfl | cases hop
theorem aRs {d : Option Tmp} {t : Nat} {y : AV} (hx : s.sl t = y) : Sft P Θ ⟨d, .assign (.tmp t), ty, pos, after, g⟩ s y [] [] := by
 refine ⟨fun s' h1 h2 => ⟨⟨y, none⟩, aH6 ((h1 (.tmp t) (by simp [Op.operands])).trans hx), fun K hK => .done hK⟩, fun l ob h => by simp [yI] at h, fun l hl => (by cases hl), fun l hl => .inr ⟨t, y7 (by simp [Op.operands]), by rw [hx]; exact hl⟩, fun l hl => (zl hl).elim, fun l ob hl => (zl hl).elim⟩
theorem aJn {d k : Nat} {obs : List OB} : ∀ l ∈ (uY d k obs).map (·.1), yF (uY d k obs) l := by
 induction obs generalizing k with
 | nil => intro l hl; cases hl
 | cons ob r ih =>
  intro l hl
  unfold yF
  simp only [uY, List.map_cons, List.mem_cons] at hl
  simp only [uY, yI]
  cases e : Nat.beq l (d + 1000 * k) with
  | true => exact ⟨_, rfl⟩
  | false =>
   rcases hl with h | h
   · rw [h, Nat.beq_refl] at e; cases e
   · obtain ⟨o, ho⟩ := ih l h; exact ⟨o, ho⟩
theorem aAF {l : Nat} {ob : OB} : ∀ m ∈ ([(l, some ob)] : List (Nat × Option OB)).map (·.1), yF [(l, some ob)] m := fun m hm => by
 simp only [List.map_cons, List.map_nil, List.mem_singleton] at hm
 subst hm; exact in1 _ _
theorem ul : ∀ m ∈ ([] : List (Nat × Option OB)).map (·.1), yF [] m := fun m hm => by cases hm
end
theorem aFW {s s' : St} : ∀ (ps : List (Nat × Operand)) (z : List AV), (∀ x ∈ ps, s'.ev x.2 = s.ev x.2 ∧ wH (s.ev x.2) = true) → yT s' z ps = yT s z ps ∧ (vY s z ps → vY s' z ps)
 | [], z, _ => ⟨rfl, fun h => h⟩
 | (i, x) :: ps, z, h => by
  obtain ⟨h1, h2⟩ := h (i, x) (by simp)
  simp only at h1 h2
  have e1 : s'.dat (s'.ev x) = s.dat (s.ev x) := by rw [h1, aCQ s s' _ h2]
  have e2 : xM s' (s'.ev x) = xM s (s.ev x) := by rw [h1, aAG s s' _ h2]
  obtain ⟨q1, q2⟩ := aFW ps (z.set i (s.dat (s.ev x))) (fun y hy => h y (List.mem_cons_of_mem _ hy))
  unfold yT vY
  rw [e1, e2]
  exact ⟨q1, fun ⟨a, b, c⟩ => ⟨a, b, q2 c⟩⟩
section
variable {P : Program} {Θ : Tab} {s : St} {ty : TypeId} {pos : String} {after : Array Edge} {g : Option (Nat × Bool)}
theorem qm {d : Option Tmp} {t : TypeId} {ps : Array (Nat × Operand)} {fs : List (Nat × Nat)} {z : List AV} (ht : Θ.look t = .struct fs z) (hp : vY s z ps.toList) (hc : wQ (ps.toList.map (·.2)) = true) (hw : (ps.toList.all fun x => wH (s.ev x.2)) = true) (ho : xq s (ps.toList.map (·.2)) = []) :
 Sft P Θ ⟨d, .build t ps, ty, pos, after, g⟩ s (.agg (yT s z ps.toList)) [] [] := by
 refine ⟨fun s' h1 h2 => ⟨⟨.agg (yT s z ps.toList), none⟩, ?_, fun K hK => .done hK⟩, fun l ob h => by simp [yI] at h, fun l hl => (by cases hl), fun l hl => by simp [AV.names] at hl, fun l hl => (zl hl).elim, fun l ob hl => (zl hl).elim⟩
 have hev : ∀ x ∈ ps.toList, s'.ev x.2 = s.ev x.2 := fun x hx => h1 x.2 (by simp [Op.operands]; exact ⟨x.1, by simpa using hx⟩)
 obtain ⟨q1, q2⟩ := aFW (s := s) (s' := s') ps.toList z (fun x hx => ⟨hev x hx, List.all_eq_true.1 hw x hx⟩)
 have ho' : xq s' (ps.toList.map (·.2)) = [] := by
  rw [← ho]; unfold xq
  congr 1
  rw [List.map_map, List.map_map]
  exact List.map_congr_left fun x hx => hev x hx
 refine ⟨fs, z, ht, .inl ⟨q2 hp, uz hc, by rw [ho']; rfl, ?_⟩⟩
 rw [ho', q1]; rfl
theorem aDF {o : Oper} {v : AV} (hp : Pre P Θ o s ⟨v, none⟩) (hc : calm Θ true o = true) (hn : ((jc v).all fun l => (tmpsOf o).any fun t => (s.sl t).names l) = true) : Sft P Θ o s v [] [] := by
 refine ⟨fun s' h1 h2 => ⟨⟨v, none⟩, aA9 (two := true) hc h1 (fun _ l ⟨x, hx, hn⟩ => ?_) hp, fun K hK => .done hK⟩, fun l ob h => by simp [yI] at h, fun l hl => (by cases hl), fun l hl => ?_, fun l hl => (zl hl).elim, fun l ob hl => (zl hl).elim⟩
 · cases x with
   | tmp t => exact (h2 l (.inr ⟨t, y7 hx, hn⟩)).1
   | global g => simp [St.ev, jL] at hn
   | _ => simp [St.ev, AV.names, xP] at hn
 · have h3 := List.all_eq_true.1 hn l (kJ v hl)
   obtain ⟨t, ht, h4⟩ := List.any_eq_true.1 h3
   exact .inr ⟨t, ht, h4⟩
theorem aPz {d : Nat} {t : TypeId} {x : Operand} {el sz b : Nat} {z : AV} {ys : List AV} (hf : s.hp (d + 1) = none) (ht : Θ.look t = .slice el sz b z) (hx : s.ev x = .agg ys) (hz : Nat.beq (asz (.agg ys)) (asz z) = true) (hsz : Nat.ble sz 65536 = true) (hok : okL (d + 1) = true := by rfl) :
 Sft P Θ ⟨some d, .buildSlice t 1 #[(0, x)], ty, pos, after, g⟩ s (.own (d + 1)) [] [(d + 1, some ⟨.s el, sz, [.agg ys]⟩)] := by
 refine ⟨fun s' h1 h2 => ⟨⟨.own (d + 1), some fun s'' => s''.set (d + 1) (some ⟨.s el, sz, [.agg ys]⟩)⟩, ?_, fun K hK => .done ?_⟩, fun l ob h => ?_, fun l hl => (by cases hl), fun l hl => .inl ?_, fun l ⟨o, hl⟩ => .inl ?_, fun l ob ⟨o, hl⟩ ho => ?_⟩
 · exact aBz ((h2 _ (.inl (in1 _ _))).1.trans hf) ht ((h1 x (by simp [Op.operands])).trans hx) rfl hz hsz hok
 · rw [zQ, j6]; exact hK
 · obtain ⟨_, e⟩ := nu1 h; cases e; rfl
 · simp only [AV.names] at hl; rw [← Nat.eq_of_beq_eq_true hl]; exact in1 _ _
 · obtain ⟨rfl, _⟩ := nu1 hl; exact ⟨d, rfl, rfl⟩
 · obtain ⟨rfl, _⟩ := nu1 hl; rw [hf] at ho; cases ho
end
def aAo (c : List UInt8) (s : Src) (e : Ent) : Edt := if (xB c s 3).1 = 2 then ⟨e.1, 0, true⟩ else ⟨e.1, e.2, false⟩
def edL (c : List UInt8) : List Ent → Src → List Edt → List Edt × Src
 | [], s, out => (out, s)
 | e :: m, s, out => edL c m (xB c s 3).2 (out ++ [aAo c s e])
theorem aNo {c : List UInt8} : ∀ (m : List Ent) (s : Src) (out : List Edt) (K : Nat), s.ok K → (∀ e ∈ m, e.1 ∈ wD ∧ 0 ≤ e.2 ∧ e.2 < 9) →
 (edL c m s out).2.ok (K + m.length) ∧ ∃ xs, (edL c m s out).1 = out ++ xs ∧ xs.map (·.key) = m.map (·.1) ∧ ∀ e ∈ xs, e.key ∈ wD ∧ 0 ≤ e.val ∧ e.val < 9 ∧ (e.gone = true → e.val = 0)
 | [], s, out, K, h, _ => ⟨h, [], by simp [edL], rfl, by simp⟩
 | e :: m, s, out, K, h, hm => by
  obtain ⟨h1, _⟩ := yC (c := c) (n := 3) h (by omega)
  obtain ⟨a1, xs, a2, a3, a4⟩ := aNo (c := c) m (xB c s 3).2 (out ++ [aAo c s e]) (K + 1) h1 (fun x hx => hm x (by simp [hx]))
  obtain ⟨m1, m2, m3⟩ := hm e (by simp)
  refine ⟨a1.le (by simp; omega), aAo c s e :: xs, by rw [edL, a2]; simp, ?_, fun x hx => ?_⟩
  · have : (aAo c s e).key = e.1 := by unfold aAo; split <;> rfl
    simp [this, a3]
  · rcases List.mem_cons.1 hx with rfl | hx
    · unfold aAo
      split
      · exact ⟨m1, by simp, by simp, fun _ => rfl⟩
      · exact ⟨m1, m2, m3, fun h => by cases h⟩
    · exact a4 x hx
def edS (c : List UInt8) (s : Src) : List Edt × Src := edL c (aAB c (xB c s 4).1 (xB c s 4).2 []).1 (aAB c (xB c s 4).1 (xB c s 4).2 []).2 []
theorem aGW {c : List UInt8} {s : Src} {K : Nat} (h : s.ok K) : (edS c s).2.ok (K + 10) ∧ jC (edS c s).1 ∧ (edS c s).1.length ≤ 3 := by
 obtain ⟨h1, h2⟩ := yC (c := c) (n := 4) h (by omega)
 obtain ⟨a1, a2, a3⟩ := aHV (c := c) (xB c s 4).1 _ [] _ h1 Good.nil
 obtain ⟨b1, xs, b2, b3, b4⟩ := aNo (c := c) _ _ [] _ a1 a2.2
 simp only [List.length_nil] at a3
 have hx : (edS c s).1 = xs := by unfold edS; rw [b2]; rfl
 have hlen : xs.length = (aAB c (xB c s 4).1 (xB c s 4).2 []).1.length := by have := congrArg List.length b3; simpa using this
 refine ⟨b1.le (by omega), ?_, by rw [hx]; omega⟩
 rw [hx]
 refine ⟨?_, b4⟩
 have h5 : (xs.map (·.key)).Pairwise (fun a b => klt a b = true) := by
  rw [b3, List.pairwise_map]; exact a2.1
 rwa [List.pairwise_map] at h5
theorem aTO {s : St} {t l sz : Nat} {e : ET} {xs : List AV} {Θ : Tab} (h : s.sl t = .own l) (ho : s.hp l = some ⟨e, sz, xs⟩) (hok : okL l = true := by rfl) (hsh : e.shut = true := by rfl) : vg Θ [.tmp t] ⟨.lst sz xs, []⟩ .ret s :=
 ⟨trivial, [], by simp, trivial, ⟨trivial, trivial⟩, trivial, ⟨aCd h ho hok hsh, trivial⟩⟩
theorem aTP {s : St} {t l : Nat} {ob : OB} {Θ : Tab} (h : s.sl t = .optr l 0 [] 0) (ho : s.hp l = some ob) (hok : okL l = true := by rfl) (hsh : ob.e.shut = true := by rfl) : vg Θ [.tmp t] ⟨.optr 0 0 [] 0, [ob]⟩ .ret s :=
 ⟨trivial, [l], by simp, ⟨⟨ho, hok, hsh⟩, trivial⟩, ⟨trivial, trivial⟩, trivial, ⟨.inl ⟨h, rfl⟩, trivial⟩⟩
attribute [local irreducible] xI xO xQ xX yG Pre ACG
theorem aJI {c : List UInt8} {s : Src} {K : Nat} (hc : c.length ≤ maxLen) (hs : s.ok K) (hK : K ≤ 900000000) : ACG Tryz.prog 61 [.optr 0 0 [] 0] [zu c s] [zu c (edS c s).2] ⟨.own 0, [aSi (edS c s).1]⟩ := by
 have hb := vF (n := 4) hc hs (by omega) (by omega)
 obtain ⟨n1, n2⟩ := yC (c := c) (n := 4) hs (by omega)
 refine xL (rs := [.tmp 2]) xH (by kernel_rfl) Tryz.func61 rfl Tryz.ntmps61 (by rw [Tryz.results61]) (by kernel_rfl) (by simp) rfl rfl (xA _ _ _ ?_); conv => whnf
 repeat ((first | refine qz ?_ | refine qg [0] (hb) ?_); conv => whnf)
 unfold edS
 generalize (xB c s 4).2 = s1 at n1 ⊢
 generalize hn0 : (xB c s 4).1 = n0 at n2 ⊢
 refine xZ (ι := { p : Nat × Src × List Ent // p.2.1.ok (K + 1 + 2 * (3 - p.1)) ∧ p.1 ≤ 3 ∧ Good p.2.2 ∧ p.2.2.length + p.1 ≤ 3 ∧ aAB c p.1 p.2.1 p.2.2 = aAB c n0 s1 [] }) (fun p => ⟨[(0, .optr 0 0 [] 0), (3, .own 8), (4, .v (.int .i64 (p.1.1 : Int)))], [(0, zu c p.1.2.1), (8, aM9 p.1.2.2)]⟩) (fun p => p.1.1) ⟨(n0, s1, []), n1.le (by omega), by omega, Good.nil, by simp; omega, rfl⟩ (by exact qle) ?_
 rintro ⟨⟨n, s2, m⟩, h1, h2, h3, h4, h5⟩
 dsimp only at h1 h2 h3 h4 h5 ⊢
 conv => whnf
 cases n with
 | succ n =>
  obtain ⟨k1, k2⟩ := aEh (c := c) h1
  obtain ⟨k3, k4⟩ := yC (c := c) (n := 9) k1 (by omega)
  have hk := aJM (c := c) hc h1 (by omega)
  have hx := vF (n := 9) hc k1 (by omega) (by omega)
  have hl := aAq m (uT c s2).1 (xB c (uT c s2).2 9).1
  have hp := aDs (es := m) (k := (uT c s2).1) (v := (xB c (uT c s2).2 9).1) (by omega)
  repeat ((first | refine qz ?_ | refine qg [0] (hk) ?_ | refine qg [0] (hx) ?_); conv => whnf)
  refine qC (hp) ?_
  refine qr (aIz 8 rfl rfl rfl) ?_; conv => whnf
  repeat ((first | refine qp (xC (yU (c := (n : Int)) (by omega) (by omega) (by omega)) rfl rfl rfl) ?_ | refine qz ?_); conv => whnf)
  exact ⟨⟨(n, (xB c (uT c s2).2 9).2, uq m (uT c s2).1 (xB c (uT c s2).2 9).1), k3.le (by omega), by omega, h3.put k2 (by omega) (by omega), by simp; omega, h5⟩, by exact qle, by simp⟩
 | zero =>
  have he : (m, s2) = aAB c n0 s1 [] := h5
  rw [← he]
  repeat ((refine qz ?_; conv => whnf))
  refine xZ (ι := { p : Nat × Src × List Edt // p.2.1.ok (K + 7 + p.1) ∧ p.1 ≤ m.length ∧ p.2.2.length = p.1 ∧ edL c (m.drop p.1) p.2.1 p.2.2 = edL c m s2 [] }) (fun p => ⟨[(0, .optr 0 0 [] 0), (3, .own 8), (5, .own 21), (6, .v (.int .i64 (p.1.1 : Int)))], [(0, zu c p.1.2.1), (8, aM9 m), (21, aSi p.1.2.2)]⟩) (fun p => m.length - p.1.1) ⟨(0, s2, []), h1.le (by omega), by omega, rfl, rfl⟩ (by exact qle) ?_
  rintro ⟨⟨k, s3, out⟩, g1, g2, g3, g4⟩
  dsimp only at g1 g2 g3 g4 ⊢
  conv => whnf
  by_cases hlt : k < m.length
  case neg =>
   have hkk : k = m.length := by omega
   rw [hkk, List.drop_length] at g4
   rw [← g4]
   repeat ((refine qz ?_; conv => whnf))
   exact aH9 rfl rfl rfl
  rw [List.drop_eq_getElem_cons hlt, edL] at g4
  have hch := aDp (n := 3) hc g1 (by omega) (by omega) (by omega)
  obtain ⟨c1, c2⟩ := yC (c := c) (n := 3) g1 (by omega)
  have hi : (m.map yB)[k]? = some (yB m[k]) := by simp [hlt]
  repeat ((first | refine qz ?_ | refine qg [0] (hch) ?_); conv => whnf)
  by_cases h2 : (xB c s3 3).1 = 3 - 1
  · rw [decide_eq_true h2]
    have hg : aAo c s3 m[k] = ⟨m[k].1, 0, true⟩ := by unfold aAo; rw [if_pos (by omega)]
    rw [hg] at g4
    conv => whnf
    repeat ((refine qz ?_; conv => whnf))
    refine qP (zX (by simpa using hlt) rfl rfl rfl rfl rfl) ?_
    refine qP (uG rfl rfl rfl) ?_
    refine qp (zO rfl rfl hi rfl rfl rfl rfl) ?_
    conv => whnf
    refine qr (vH (f := uf) (xs := out) ⟨m[k].1, 0, true⟩ (out ++ [⟨m[k].1, 0, true⟩]) rfl (by omega) rfl rfl rfl rfl rfl rfl rfl) ?_
    conv => whnf
    repeat ((refine qz ?_; conv => whnf))
    exact ⟨⟨(k + 1, (xB c s3 3).2, out ++ [⟨m[k].1, 0, true⟩]), c1.le (by omega), by omega, by simp; omega, g4⟩, by exact qle, by simp; omega⟩
  · rw [decide_eq_false h2]
    have hg : aAo c s3 m[k] = ⟨m[k].1, m[k].2, false⟩ := by unfold aAo; rw [if_neg (by omega)]
    rw [hg] at g4
    conv => whnf
    refine .inr ⟨by kernel_rfl, vv (by kernel_rfl), ?_⟩
    refine xJ (wT rfl) rfl rfl rfl (.inl rfl) (by kernel_rfl) ?_
    refine xJ (wT rfl) rfl rfl rfl (.inl rfl) (by kernel_rfl) ?_
    refine xJ (wT rfl) rfl rfl rfl (.inl rfl) (by kernel_rfl) ?_
    refine xU (aDF (zX (by simpa using hlt) rfl rfl rfl rfl rfl) rfl rfl) ul rfl rfl (by kernel_rfl) ?_
    refine xJ (uG rfl rfl rfl) rfl rfl rfl (.inl rfl) (by kernel_rfl) ?_
    refine xJ (zO rfl rfl hi rfl rfl rfl rfl) rfl rfl rfl (.inr rfl) (by kernel_rfl) ?_
    refine xJ (wT rfl) rfl rfl rfl (.inl rfl) (by kernel_rfl) ?_
    refine xJ (wT rfl) rfl rfl rfl (.inl rfl) (by kernel_rfl) ?_
    refine xU (aDF (zX (by simpa using hlt) rfl rfl rfl rfl rfl) rfl rfl) ul rfl rfl (by kernel_rfl) ?_
    refine xJ (uG rfl rfl rfl) rfl rfl rfl (.inl rfl) (by kernel_rfl) ?_
    refine xJ (zO rfl rfl hi rfl rfl rfl rfl) rfl rfl rfl (.inr rfl) (by kernel_rfl) ?_
    refine xU (qm rfl ⟨⟨_, rfl, rfl⟩, rfl, ⟨_, rfl, rfl⟩, rfl, trivial⟩ rfl rfl rfl) ul rfl rfl (by kernel_rfl) ?_
    refine xU (aPz rfl rfl rfl rfl rfl) aAF rfl rfl (by kernel_rfl) ?_
    refine qb (vH (f := uf) (xs := out) ⟨m[k].1, m[k].2, false⟩ (out ++ [⟨m[k].1, m[k].2, false⟩]) rfl (by omega) rfl rfl rfl rfl rfl rfl rfl) rfl rfl (by kernel_rfl) ?_
    refine qb (aH6 rfl) rfl rfl (by kernel_rfl) ?_
    refine jo ?_
    conv => whnf
    repeat ((refine qz ?_; conv => whnf))
    exact ⟨⟨(k + 1, (xB c s3 3).2, out ++ [⟨m[k].1, m[k].2, false⟩]), c1.le (by omega), by omega, by simp; omega, g4⟩, by exact qle, by simp; omega⟩
def aHm (c : List UInt8) : Src := ⟨0, ((c.length % 1000 : Nat) : Int)⟩
theorem aFC (c : List UInt8) : (aHm c).ok 0 := ⟨Nat.le_refl _, by unfold aHm; simp only; omega, by unfold aHm; simp only; omega⟩
theorem aHu {c : List UInt8} (hc : c.length ≤ maxLen) : AC Tryz.prog 27 [.lst 1 (c.map uM)] ⟨.optr 0 0 [] 0, [zu c (aHm c)]⟩ := by
 unfold maxLen at hc
 have hm : ((c.length : Nat) : Int) % 1000 = ((c.length % 1000 : Nat) : Int) := by omega
 refine qrf Tryz.func27 Tryz.ntmps27 Tryz.results27 ?_; conv => whnf
 repeat ((first | refine qp (xC (vE (by omega) (by omega) hm) rfl rfl rfl) ?_ | refine qz ?_); conv => whnf)
 exact aTP rfl rfl
theorem aJG {m : List Ent} (h : yV m = true) (hk : ∀ e ∈ m, e.1.size ≤ maxLen) : AC Tryz.prog 13 [.lst 2 (m.map yB), .lst 2 (m.map yB)] ⟨.v (.bool true), []⟩ := by
 have hl := mapOK_le h
 have hm : m.length ≤ maxLen := by unfold maxLen; omega
 have h1 := aIh h hm hk
 have h2 := aFy hm hm
 rw [decide_eq_true rfl] at h2
 refine qrf Tryz.func13 Tryz.ntmps13 Tryz.results13 ?_; conv => whnf
 repeat ((first | refine qz ?_ | refine qc (h1) ?_ | refine qc (h2) ?_); conv => whnf)
 exact xD rfl trivial
end Go.Proofs.YtfomjajdfaoogaaGreatDoor.AM
namespace Go.Proofs.YtfomjajdfaoogaaGreatDoor.AM
open Go Go.RowKit
abbrev okN (s : ByteArray) : Bool := Nm.nameOK s.data.toList
def kU (r : Rf) : Bool := okN r.name && (decide (1 ≤ r.ver ∧ r.ver ≤ 1000000) && (if r.gone = true then decide (r.head = 0) else decide (1 ≤ r.head ∧ r.head ≤ 60)))
def rAt : List Rf → ByteArray → Nat → Int
 | [], _, _ => -1
 | y :: l, x, k => if y.name = x then k else rAt l x (k + 1)
theorem aKQ {l : List Rf} {x : ByteArray} {k : Nat} (h : k < l.length) : rAt (l.drop k) x k = if l[k].name = x then (k : Int) else rAt (l.drop (k + 1)) x (k + 1) := by
 rw [List.drop_eq_getElem_cons h, rAt]
theorem aAb : ∀ (l : List Rf) (x : ByteArray) (k : Nat), (rAt l x k = -1 ∧ ∀ i (h : i < l.length), l[i].name ≠ x) ∨ ∃ j, ∃ h : j < l.length, rAt l x k = ((k + j : Nat) : Int) ∧ l[j].name = x ∧ ∀ i (hi : i < j), (l[i]'(by omega)).name ≠ x
 | [], x, k => .inl ⟨rfl, fun i h => by simp at h⟩
 | y :: l, x, k => by
  unfold rAt
  by_cases e : y.name = x
  · rw [if_pos e]; exact .inr ⟨0, by simp, by simp, e, fun i h => by omega⟩
  · rw [if_neg e]
    rcases aAb l x (k + 1) with ⟨h1, h2⟩ | ⟨j, hj, h1, h2, h3⟩
    · refine .inl ⟨h1, fun i h => ?_⟩
      cases i with
      | zero => exact e
      | succ i => exact h2 i (by simpa using h)
    · refine .inr ⟨j + 1, by simpa using hj, by rw [h1]; omega, h2, fun i h => ?_⟩
      cases i with
      | zero => exact e
      | succ i => exact h3 i (by omega)
theorem aKR {l : List Rf} {i : Nat} (h : i < l.length) : rAt l l[i].name 0 = (i : Int) ↔ rAt (l.take i) l[i].name 0 < 0 := by
 rcases aAb (l.take i) l[i].name 0 with ⟨h1, h2⟩ | ⟨j, hj, h1, h2, h3⟩
 · rw [h1]
   refine ⟨fun _ => by omega, fun _ => ?_⟩
   rcases aAb l l[i].name 0 with ⟨k1, k2⟩ | ⟨j, hj, k1, k2, k3⟩
   · exact absurd rfl (k2 i h)
   · rw [k1]
     rcases Nat.lt_trichotomy j i with q | q | q
     · exact absurd (by rw [List.getElem_take]; exact k2) (h2 j (by simp; omega))
     · omega
     · exact absurd rfl (k3 i q)
 · rw [h1]
   have hji : j < i := by simp at hj; omega
   refine ⟨fun e => ?_, fun e => by omega⟩
   rcases aAb l l[i].name 0 with ⟨k1, k2⟩ | ⟨j', hj', k1, k2, k3⟩
   · omega
   · rw [k1] at e
     have : j' = i := by omega
     subst this
     exact absurd (by rw [← h2, List.getElem_take]) (k3 j hji)
theorem aGs {l : List Rf} {x : ByteArray} (h : 0 ≤ rAt l x 0) : ∃ j, ∃ hj : j < l.length, rAt l x 0 = (j : Int) ∧ l[j].name = x := by
 rcases aAb l x 0 with ⟨h1, _⟩ | ⟨j, hj, h1, h2, _⟩
 · omega
 · exact ⟨j, hj, by rw [h1]; simp, h2⟩
theorem aO7 {l : List Rf} {x : ByteArray} : -1 ≤ rAt l x 0 ∧ rAt l x 0 ≤ l.length := by
 rcases aAb l x 0 with ⟨h1, _⟩ | ⟨j, hj, h1, h2, _⟩ <;> rw [h1] <;> omega
def aFp (l : List Rf) (i : Nat) : Prop := ∃ h : i < l.length, kU l[i] = true ∧ rAt (l.take i) l[i].name 0 < 0
open Classical in
noncomputable def uy (l : List Rf) : Bool := decide (l.length ≤ 8 ∧ ∀ i, i < l.length → aFp l i)
theorem aDB {l : List Rf} (h : ¬ (l.length ≤ 8 ∧ ∀ i, i < l.length → aFp l i)) : uy l = false := by unfold uy; simpa using h
theorem aAe {l : List Rf} (h : l.length ≤ 8 ∧ ∀ i, i < l.length → aFp l i) : uy l = true := by unfold uy; simpa using h
theorem zH {l : List Rf} (h : uy l = true) : l.length ≤ 8 ∧ ∀ i, i < l.length → aFp l i := by unfold uy at h; simpa using h
theorem aRG : ∀ vs w, (callFunc 105 vs).run Tryz.prog w = .ok (.enter 105 vs) w := wR Tryz.func105 (by kernel_rfl) (by kernel_rfl)
theorem aRH : ∀ vs w, (callFunc 110 vs).run Tryz.prog w = .ok (.enter 110 vs) w := wR Tryz.func110 (by kernel_rfl) (by kernel_rfl)
theorem wB {s : ByteArray} {b : Bool} (hs : s.size ≤ maxLen) (hb : okN s = b) : AC Tryz.prog 105 [.v (.string s)] ⟨.v (.bool b), []⟩ :=
 hb ▸ aCi aRG rfl fun w S0 vs hS hv => by
  obtain ⟨u', rfl, h2⟩ := aDb hv
  rw [aGI h2]
  exact (aFP s w hs).mono fun e w' ⟨h1, h2⟩ => ⟨h1, by subst h2; exact Below.refl _ _⟩
theorem jg {s : ByteArray} {b : Bool} (hs : s.size ≤ maxLen) (hb : okN s = b) : AC Tryz.prog 110 [.v (.string s)] ⟨.v (.bool b), []⟩ :=
 hb ▸ aCi aRH rfl fun w S0 vs hS hv => by
  obtain ⟨u', rfl, h2⟩ := aDb hv
  rw [aGI h2]
  exact (aGh s w hs).mono fun e w' ⟨h1, h2⟩ => ⟨h1, by subst h2; exact Below.refl _ _⟩
attribute [local irreducible] xI xO xQ xX yG Pre ACG
theorem aKr {x : Int} (h : 1 ≤ x) (h' : x ≤ 60) : AC Tryz.prog 142 [.v (.int .i64 x)] ⟨.v (.bool true), []⟩ := by
 refine qrf Tryz.func142 Tryz.ntmps142 Tryz.results142 ?_; conv => whnf
 repeat ((refine qz ?_; conv => whnf))
 exact xD rfl trivial
theorem aKq {x : Int} (h : ¬ (1 ≤ x ∧ x ≤ 60)) : AC Tryz.prog 142 [.v (.int .i64 x)] ⟨.v (.bool false), []⟩ := by
 by_cases h1 : 1 ≤ x
 · refine qrf Tryz.func142 Tryz.ntmps142 Tryz.results142 ?_; conv => whnf
   repeat ((refine qz ?_; conv => whnf))
   exact xD rfl trivial
 · refine qrf Tryz.func142 Tryz.ntmps142 Tryz.results142 ?_; conv => whnf
   repeat ((refine qz ?_; conv => whnf))
   exact xD rfl trivial
theorem aF2 {l : List Rf} {x : ByteArray} (hm : l.length ≤ maxLen) : AC Tryz.prog 124 [.lst 4 (l.map yL), .v (.string x)] ⟨.v (.int .i64 (rAt l x 0)), []⟩ := by
 unfold maxLen at hm
 refine qrf Tryz.func124 Tryz.ntmps124 Tryz.results124 ?_; conv => whnf
 refine xZ (ι := { k : Nat // k ≤ l.length ∧ rAt (l.drop k) x k = rAt l x 0 }) (fun k => ⟨[(0, .lst 4 (l.map yL)), (1, .v (.string x)), (5, .v (.int .i64 (k.1 : Int)))], []⟩) (fun k => l.length - k.1) ⟨0, Nat.zero_le _, rfl⟩ (by exact qle) ?_
 rintro ⟨k, hk, hd⟩
 dsimp only at hk hd ⊢
 conv => whnf
 by_cases hlt : k < l.length
 · rw [aKQ hlt] at hd
   by_cases he : l[k].name = x
   · rw [if_pos he] at hd
     rw [← hd]
     repeat ((first | refine qz ?_ | refine qp (xC (aE9 he) rfl rfl rfl) ?_); conv => whnf)
     exact xD rfl trivial
   · rw [if_neg he] at hd
     repeat ((first | refine qz ?_ | refine qp (xC (aE8 he) rfl rfl rfl) ?_); conv => whnf)
     exact ⟨⟨k + 1, hlt, hd⟩, by exact qle, by simp; omega⟩
 · rw [← hd, List.drop_eq_nil_of_le (by omega)]
   repeat ((refine qz ?_; conv => whnf))
   exact xD rfl trivial
theorem aHt {r : Rf} {x : ByteArray} {b : Bool} (hb : decide (r.name = x) = b) : AC Tryz.prog 144 [yL r, .ptr (.v (.string x))] ⟨.v (.bool b), []⟩ := by
 by_cases h : r.name = x
 · rw [← hb, decide_eq_true h]
   refine qrf Tryz.func144 Tryz.ntmps144 Tryz.results144 ?_; conv => whnf
   repeat ((first | refine qz ?_ | refine qp (xC (aE9 h) rfl rfl rfl) ?_); conv => whnf)
   exact xD rfl trivial
 · rw [← hb, decide_eq_false h]
   refine qrf Tryz.func144 Tryz.ntmps144 Tryz.results144 ?_; conv => whnf
   repeat ((first | refine qz ?_ | refine qp (xC (aE8 h) rfl rfl rfl) ?_); conv => whnf)
   exact xD rfl trivial
theorem aKs {l : List Rf} {x : ByteArray} (hm : l.length ≤ maxLen) : AC Tryz.prog 143 [.lst 4 (l.map yL), .fn 144 [] [.ptr (.v (.string x))]] ⟨.v (.int .i64 (rAt l x 0)), []⟩ := by
 unfold maxLen at hm
 refine qrf Tryz.func143 Tryz.ntmps143 Tryz.results143 ?_; conv => whnf
 repeat ((refine qz ?_; conv => whnf))
 refine xZ (ι := { k : Nat // k ≤ l.length ∧ rAt (l.drop k) x k = rAt l x 0 }) (fun k => ⟨[(0, .lst 4 (l.map yL)), (1, .fn 144 [] [.ptr (.v (.string x))]), (7, .v (.int .i64 (l.length : Int))), (8, .v (.int .i64 (k.1 : Int)))], []⟩) (fun k => l.length - k.1) ⟨0, Nat.zero_le _, rfl⟩ (by exact qle) ?_
 rintro ⟨k, hk, hd⟩
 dsimp only at hk hd ⊢
 conv => whnf
 by_cases hlt : k < l.length
 · rw [aKQ hlt] at hd
   by_cases he : l[k].name = x
   · rw [if_pos he] at hd
     rw [← hd]
     repeat ((first | refine qz ?_ | refine qr (aEq (aHt (r := l[k]) (decide_eq_true he)) rfl rfl (.inl rfl) trivial rfl rfl) ?_); conv => whnf)
     exact xD rfl trivial
   · rw [if_neg he] at hd
     repeat ((first | refine qz ?_ | refine qr (aEq (aHt (r := l[k]) (decide_eq_false he)) rfl rfl (.inl rfl) trivial rfl rfl) ?_); conv => whnf)
     exact ⟨⟨k + 1, hlt, hd⟩, by exact qle, by simp; omega⟩
 · rw [← hd, List.drop_eq_nil_of_le (by omega)]
   repeat ((refine qz ?_; conv => whnf))
   exact xD rfl trivial
theorem aIi {l : List Rf} {x : ByteArray} (hm : l.length ≤ maxLen) : AC Tryz.prog 121 [.lst 4 (l.map yL), .v (.string x)] ⟨.v (.int .i64 (rAt l x 0)), []⟩ := by
 refine qrf Tryz.func121 Tryz.ntmps121 Tryz.results121 ?_; conv => whnf
 repeat ((first | refine qz ?_ | refine qr (aMn (y := .v _) rfl rfl rfl rfl) ?_); conv => whnf)
 refine qr (wO [] (aKs hm) rfl rfl trivial rfl rfl trivial rfl rfl rfl (.inr ⟨⟨by simp [yj], aEd⟩, by simp⟩) rfl) ?_
 conv => whnf
 repeat ((refine qz ?_; conv => whnf))
 exact xD rfl trivial
theorem aOe {r : Rf} (h : okN r.name = false) : kU r = false := by simp only [kU, h, Bool.false_and]
theorem aOf {r : Rf} (h : ¬ (1 ≤ r.ver ∧ r.ver ≤ 1000000)) : kU r = false := by simp only [kU, decide_eq_false h, Bool.false_and, Bool.and_false]
theorem aOc {r : Rf} (hn : okN r.name = true) (hv : 1 ≤ r.ver ∧ r.ver ≤ 1000000) (hg : r.gone = true) : kU r = decide (r.head = 0) := by simp only [kU, hn, hg, decide_eq_true hv, Bool.true_and, if_true]
theorem aOd {r : Rf} (hn : okN r.name = true) (hv : 1 ≤ r.ver ∧ r.ver ≤ 1000000) (hg : r.gone = false) : kU r = decide (1 ≤ r.head ∧ r.head ≤ 60) := by
 simp only [kU, hn, hg, decide_eq_true hv, Bool.true_and]; rfl
theorem aPH {r : Rf} (hs : r.name.size ≤ maxLen) : AC Tryz.prog 120 [yL r] ⟨.v (.bool (kU r)), []⟩ := by
 cases hn : okN r.name with
 | false =>
  rw [aOe hn]
  refine qrf Tryz.func120 Tryz.ntmps120 Tryz.results120 ?_; conv => whnf
  repeat ((first | refine qz ?_ | refine qc (jg hs hn) ?_); conv => whnf)
  exact xD rfl trivial
 | true =>
  by_cases hv : 1 ≤ r.ver ∧ r.ver ≤ 1000000
  case neg =>
   rw [aOf hv]
   by_cases h1 : 1 ≤ r.ver
   · have h2 : ¬ r.ver ≤ 1000000 := fun e => hv ⟨h1, e⟩
     refine qrf Tryz.func120 Tryz.ntmps120 Tryz.results120 ?_; conv => whnf
     repeat ((first | refine qz ?_ | refine qc (jg hs hn) ?_); conv => whnf)
     exact xD rfl trivial
   · refine qrf Tryz.func120 Tryz.ntmps120 Tryz.results120 ?_; conv => whnf
     repeat ((first | refine qz ?_ | refine qc (jg hs hn) ?_); conv => whnf)
     exact xD rfl trivial
  obtain ⟨v1, v2⟩ := id hv
  cases hg : r.gone with
  | true =>
   rw [aOc hn hv hg]
   by_cases h0 : r.head = 0
   · rw [decide_eq_true h0]
     refine qrf Tryz.func120 Tryz.ntmps120 Tryz.results120 ?_; conv => whnf
     repeat (first | (refine qz ?_; conv => whnf) | (refine qc (jg hs hn) ?_; conv => whnf) | (rw [hg]; conv => whnf))
     exact xD rfl trivial
   · rw [decide_eq_false h0]
     refine qrf Tryz.func120 Tryz.ntmps120 Tryz.results120 ?_; conv => whnf
     repeat (first | (refine qz ?_; conv => whnf) | (refine qc (jg hs hn) ?_; conv => whnf) | (rw [hg]; conv => whnf))
     exact xD rfl trivial
  | false =>
   rw [aOd hn hv hg]
   by_cases h0 : 1 ≤ r.head ∧ r.head ≤ 60
   · rw [decide_eq_true h0]
     refine qrf Tryz.func120 Tryz.ntmps120 Tryz.results120 ?_; conv => whnf
     repeat (first | (refine qz ?_; conv => whnf) | (refine qc (jg hs hn) ?_; conv => whnf) | (rw [hg]; conv => whnf) | (refine qc (aKr h0.1 h0.2) ?_; conv => whnf))
     exact xD rfl trivial
   · rw [decide_eq_false h0]
     refine qrf Tryz.func120 Tryz.ntmps120 Tryz.results120 ?_; conv => whnf
     repeat (first | (refine qz ?_; conv => whnf) | (refine qc (jg hs hn) ?_; conv => whnf) | (rw [hg]; conv => whnf) | (refine qc (aKq h0) ?_; conv => whnf))
     exact xD rfl trivial
theorem aMO {l : List Rf} (hm : l.length ≤ maxLen) (hk : ∀ e ∈ l, e.name.size ≤ maxLen) : AC Tryz.prog 82 [.lst 4 (l.map yL)] ⟨.v (.bool (uy l)), []⟩ := by
 have hm' := hm
 unfold maxLen at hm'
 by_cases hin : l.length ≤ 8
 case neg =>
  rw [aDB (fun h => hin h.1)]
  refine qrf Tryz.func82 Tryz.ntmps82 Tryz.results82 ?_; conv => whnf
  repeat ((refine qz ?_; conv => whnf))
  exact xD rfl trivial
 refine qrf Tryz.func82 Tryz.ntmps82 Tryz.results82 ?_; conv => whnf
 repeat ((refine qz ?_; conv => whnf))
 refine xZ (ι := { k : Nat // k ≤ l.length ∧ ∀ i, i < k → aFp l i }) (fun k => ⟨[(0, .lst 4 (l.map yL)), (8, .lst 4 (l.map yL)), (9, .v (.int .i64 (l.length : Int))), (10, .v (.int .i64 (k.1 : Int)))], []⟩) (fun k => l.length - k.1) ⟨0, Nat.zero_le _, fun i h => by omega⟩ (by exact qle) ?_
 rintro ⟨k, hk', hd⟩
 dsimp only at hk' hd ⊢
 conv => whnf
 by_cases hlt : k < l.length
 case neg =>
  rw [aAe ⟨hin, fun i hi => hd i (by omega)⟩]
  repeat ((refine qz ?_; conv => whnf))
  exact xD rfl trivial
 have hsz := hk _ (List.getElem_mem hlt)
 have hac := aPH hsz
 have hpl := aIi (l := l.take k) (x := l[k].name) (by unfold maxLen; simp; omega)
 cases hb : kU l[k] with
 | false =>
  rw [hb] at hac
  rw [aDB (fun h => by obtain ⟨_, q, _⟩ := h.2 k hlt; rw [hb] at q; cases q)]
  repeat ((first | refine qz ?_ | refine qc (hac) ?_ | refine qst ?_ | refine qdr ?_); conv => whnf)
  exact xD rfl trivial
 | true =>
  rw [hb] at hac
  by_cases hp : rAt (l.take k) l[k].name 0 < 0
  · repeat ((first | refine qz ?_ | refine qc (hac) ?_ | refine qst ?_ | refine qdr ?_ | refine qp (aCu (h := k) (xs := l) (f := yL) (by omega) rfl rfl rfl) ?_ | refine qc (hpl) ?_); conv => whnf)
    exact ⟨⟨k + 1, hlt, fun i hi => by
     rcases Nat.lt_or_ge i k with h | h
     · exact hd i h
     · have : i = k := by omega
       subst this; exact ⟨hlt, hb, hp⟩⟩, by exact qle, by simp; omega⟩
  · rw [aDB (fun h => by obtain ⟨_, _, q⟩ := h.2 k hlt; exact hp q)]
    repeat ((first | refine qz ?_ | refine qc (hac) ?_ | refine qst ?_ | refine qdr ?_ | refine qp (aCu (h := k) (xs := l) (f := yL) (by omega) rfl rfl rfl) ?_ | refine qc (hpl) ?_); conv => whnf)
    exact xD rfl trivial
set_option maxHeartbeats 4000000 in
theorem aPG {l : List Rf} (hm : l.length ≤ maxLen) (hk : ∀ e ∈ l, e.name.size ≤ maxLen) : AC Tryz.prog 86 [.lst 4 (l.map yL)] ⟨.v (.bool (uy l)), []⟩ := by
 have hm' := hm
 unfold maxLen at hm'
 by_cases hin : l.length ≤ 8
 case neg =>
  rw [aDB (fun h => hin h.1)]
  refine qrf Tryz.func86 Tryz.ntmps86 Tryz.results86 ?_; conv => whnf
  repeat ((refine qz ?_; conv => whnf))
  exact xD rfl trivial
 refine qrf Tryz.func86 Tryz.ntmps86 Tryz.results86 ?_; conv => whnf
 repeat ((refine qz ?_; conv => whnf))
 refine aJ4 (fun k : { k : Nat // k ≤ l.length ∧ ∀ i, i < k → aFp l i } => ⟨[(0, .lst 4 (l.map yL)), (3, .v (.int .i64 (k.1 : Int)))], [], []⟩) (fun k => l.length - k.1) ⟨0, Nat.zero_le _, fun i h => by omega⟩ ⟨by exact qle, trivial⟩ ?_
 rintro ⟨k, hk', hd⟩
 dsimp only at hk' hd ⊢
 by_cases hlt : k < l.length
 case neg =>
  rw [aAe ⟨hin, fun i hi => hd i (by omega)⟩]
  refine xA _ _ _ ?_
  conv => whnf
  repeat (first | (refine qz ?_; conv => whnf))
  exact xD rfl trivial
 have hsz := hk _ (List.getElem_mem hlt)
 have hpl := aF2 (l := l) (x := l[k].name) hm
 have bad : (kU l[k] = true → ¬ rAt (l.take k) l[k].name 0 < 0) → uy l = false := fun q => aDB (fun h => by obtain ⟨_, q1, q2⟩ := h.2 k hlt; exact q q1 q2)
 have nxt : kU l[k] = true → rAt (l.take k) l[k].name 0 < 0 → ∀ i, i < k + 1 → aFp l i := fun q1 q2 i hi => by
  rcases Nat.lt_or_ge i k with h | h
  · exact hd i h
  · have : i = k := by omega
    subst this; exact ⟨hlt, q1, q2⟩
 refine jd ?_
 refine xA _ _ _ ?_
 conv => whnf
 repeat (first | (refine qz ?_; conv => whnf))
 refine jd (aLY ?_)
 obtain ⟨g, hgg⟩ : ∃ g, g = l[k].gone := ⟨_, rfl⟩
 have hik : (l.map yL)[k]? = some (.agg [.v (.string l[k].name), .v (.int .i64 l[k].head), .v (.int .i64 l[k].ver), .v (.bool g)]) := by rw [List.getElem?_map, List.getElem?_eq_getElem hlt, hgg]; rfl
 refine kG (ι := Unit) (fun _ => ⟨[(0, .lst 4 (l.map yL)), (3, .v (.int .i64 (k : Int))), (4, .optr 5 0 [] 0)], [(5, ⟨.s 86, 4, [.agg [.v (.string l[k].name), .v (.int .i64 l[k].head), .v (.int .i64 l[k].ver), .v (.bool g)]]⟩)], []⟩) ?_ (fun _ => ?_)
 · refine xA _ _ _ ?_
   conv => whnf
   repeat ((first | refine qp (aAO hik rfl rfl rfl) ?_ | refine qst ?_ | refine qz ?_); conv => whnf)
   exact ⟨(), ⟨by exact qle, trivial⟩⟩
 refine xA _ _ _ ?_
 conv => whnf
 cases hw : okN l[k].name with
 | false =>
  rw [bad (fun q => by rw [aOe hw] at q; cases q)]
  as_aux_lemma =>
   repeat ((first | refine qc (wB hsz hw) ?_ | refine qz ?_); conv => whnf)
   exact xD rfl trivial
 | true =>
  by_cases hv : 1 ≤ l[k].ver ∧ l[k].ver ≤ 1000000
  case neg =>
   rw [bad (fun q => by rw [aOf hv] at q; cases q)]
   as_aux_lemma =>
    repeat ((first | refine qc (wB hsz hw) ?_ | refine qc (aBX hv) ?_ | refine qz ?_); conv => whnf)
    exact xD rfl trivial
  by_cases hp : rAt l l[k].name 0 = (k : Int)
  case neg =>
   rw [bad (fun _ q => hp ((aKR hlt).2 q))]
   as_aux_lemma =>
    repeat ((first | refine qc (wB hsz hw) ?_ | refine qc (vV hv.1 hv.2) ?_ | refine qc (hpl) ?_ | refine qz ?_); conv => whnf)
    exact xD rfl trivial
  have hp' := (aKR hlt).1 hp
  cases g with
  | true =>
   have hb := aOc hw hv hgg.symm
   by_cases h0 : l[k].head = 0
   · rw [decide_eq_true h0] at hb
     as_aux_lemma =>
      repeat ((first | refine qc (wB hsz hw) ?_ | refine qc (vV hv.1 hv.2) ?_ | refine qc (hpl) ?_ | refine qz ?_); conv => whnf)
      refine xA _ _ _ ?_
      conv => whnf
      repeat ((first | refine qp (xC (zN (c := ((k + 1 : Nat) : Int)) (by omega) (by omega) (by omega)) rfl rfl rfl) ?_ | refine qz ?_); conv => whnf)
      exact ⟨⟨k + 1, hlt, nxt hb hp'⟩, ⟨by exact qle, trivial⟩, by simp; omega⟩
   · rw [decide_eq_false h0] at hb
     rw [bad (fun q => by rw [hb] at q; cases q)]
     as_aux_lemma =>
      repeat ((first | refine qc (wB hsz hw) ?_ | refine qc (vV hv.1 hv.2) ?_ | refine qc (hpl) ?_ | refine qz ?_); conv => whnf)
      exact xD rfl trivial
  | false =>
   have hb := aOd hw hv hgg.symm
   by_cases h0 : 1 ≤ l[k].head ∧ l[k].head ≤ 60
   · rw [decide_eq_true h0] at hb
     as_aux_lemma =>
      repeat ((first | refine qc (wB hsz hw) ?_ | refine qc (vV hv.1 hv.2) ?_ | refine qc (hpl) ?_ | refine qc (vV h0.1 h0.2) ?_ | refine qz ?_); conv => whnf)
      refine xA _ _ _ ?_
      conv => whnf
      repeat ((first | refine qp (xC (zN (c := ((k + 1 : Nat) : Int)) (by omega) (by omega) (by omega)) rfl rfl rfl) ?_ | refine qz ?_); conv => whnf)
      exact ⟨⟨k + 1, hlt, nxt hb hp'⟩, ⟨by exact qle, trivial⟩, by simp; omega⟩
   · rw [decide_eq_false h0] at hb
     rw [bad (fun q => by rw [hb] at q; cases q)]
     as_aux_lemma =>
      repeat ((first | refine qc (wB hsz hw) ?_ | refine qc (vV hv.1 hv.2) ?_ | refine qc (hpl) ?_ | refine qc (aBX h0) ?_ | refine qz ?_); conv => whnf)
      exact xD rfl trivial
end Go.Proofs.YtfomjajdfaoogaaGreatDoor.AM
namespace Go.Proofs.YtfomjajdfaoogaaGreatDoor.AM
open Go Go.RowKit
def aTw (N : Nat) (l : List Rf) : Prop := ∀ e ∈ l, e.name.size ≤ N
attribute [local irreducible] xI xO xQ xX yG Pre ACG
def wF (l : List Rf) (x : ByteArray) : Int := match l[(rAt l x 0).toNat]? with
 | some r => if 0 ≤ rAt l x 0 ∧ r.gone = false then rAt l x 0 else -1
 | none => -1
theorem aIR {l : List Rf} {x : ByteArray} (h : rAt l x 0 < 0) : wF l x = -1 := by unfold wF; split <;> simp; omega
theorem aL8 {l : List Rf} {x : ByteArray} {j : Nat} (hj : j < l.length) (h : rAt l x 0 = (j : Int)) : wF l x = if l[j].gone = true then -1 else (j : Int) := by
 unfold wF
 have : l[(rAt l x 0).toNat]? = some l[j] := by rw [h]; simp [hj]
 rw [this, h]
 cases hg : l[j].gone <;> simp [hg]
theorem jE {l : List Rf} {x : ByteArray} (hm : l.length ≤ maxLen) : AC Tryz.prog 113 [.lst 4 (l.map yL), .v (.string x)] ⟨.v (.int .i64 (wF l x)), []⟩ := by
 have h1 := aF2 (l := l) (x := x) hm
 by_cases h0 : rAt l x 0 < 0
 · rw [aIR h0]
   refine qrf Tryz.func113 Tryz.ntmps113 Tryz.results113 ?_; conv => whnf
   have hge := @aO7 l x
   have h2 : rAt l x 0 = -1 := by omega
   rw [h2] at h1
   repeat ((first | refine qz ?_ | refine qc (h1) ?_); conv => whnf)
   exact xD rfl trivial
 · obtain ⟨j, hj, e, _⟩ := aGs (by omega : 0 ≤ rAt l x 0)
   rw [aL8 hj e]
   rw [e] at h1
   cases hg : l[j].gone with
   | true =>
    rw [if_pos rfl]
    refine qrf Tryz.func113 Tryz.ntmps113 Tryz.results113 ?_; conv => whnf
    repeat (first | (refine qz ?_; conv => whnf) | (refine qc (h1) ?_; conv => whnf) | (rw [hg]; conv => whnf))
    exact xD rfl trivial
   | false =>
    rw [if_neg (by simp)]
    refine qrf Tryz.func113 Tryz.ntmps113 Tryz.results113 ?_; conv => whnf
    repeat (first | (refine qz ?_; conv => whnf) | (refine qc (h1) ?_; conv => whnf) | (rw [hg]; conv => whnf))
    exact xD rfl trivial
end Go.Proofs.YtfomjajdfaoogaaGreatDoor.AM
namespace Go.Proofs.YtfomjajdfaoogaaGreatDoor.AM
open Go Go.RowKit
theorem wV {s : St} {Θ : Tab} {t1 t2 t3 : Nat} {y1 y2 y3 : Value} (h1 : s.sl t1 = .v y1) (h2 : s.sl t2 = .v y2) (h3 : s.sl t3 = .v y3) : vg Θ [.tmp t1, .tmp t2, .tmp t3] ⟨.tup [.v y1, .v y2, .v y3], []⟩ .ret s := aGu (wW h1 trivial) (wW h2 trivial) (wW h3 trivial)
theorem zR {s : St} {Θ : Tab} {t1 t2 : Nat} {y1 y2 : Value} (h1 : s.sl t1 = .v y1) (h2 : s.sl t2 = .v y2) : vg Θ [.tmp t1, .tmp t2] ⟨.tup [.v y1, .v y2], []⟩ .ret s :=
 ⟨trivial, [], by simp, trivial, ⟨trivial, trivial, trivial⟩, ⟨_, rfl⟩, ⟨wW h1 trivial, wW h2 trivial, trivial⟩⟩
theorem aD0 (l : List Rf) (x : ByteArray) : wF l x = -1 ∨ ∃ j, ∃ hj : j < l.length, wF l x = (j : Int) ∧ rAt l x 0 = (j : Int) ∧ l[j].gone = false := by
 by_cases h0 : rAt l x 0 < 0
 · exact .inl (aIR h0)
 · obtain ⟨j, hj, e, _⟩ := aGs (by omega : 0 ≤ rAt l x 0)
   have := aL8 hj e
   cases hg : l[j].gone with
   | true => rw [hg, if_pos rfl] at this; exact .inl this
   | false => rw [hg, if_neg (by simp)] at this; exact .inr ⟨j, hj, this, e, hg⟩
attribute [local irreducible] xI xO xQ xX yG Pre ACG
end Go.Proofs.YtfomjajdfaoogaaGreatDoor.AM
namespace Go.Proofs.YtfomjajdfaoogaaGreatDoor
open Go.RowKit
end Go.Proofs.YtfomjajdfaoogaaGreatDoor
namespace Go.Proofs.YtfomjajdfaoogaaGreatDoor
open Go Go.RowKit
end Go.Proofs.YtfomjajdfaoogaaGreatDoor
namespace Go.Proofs.YtfomjajdfaoogaaGreatDoor.AM
open Go Go.RowKit Go.ChangeShapes Go.WideShapes Go.Deep
def refC (r : Rf) : List Value := [.string r.name, .int .i64 r.head, .int .i64 r.ver, .bool r.gone]
def refsC (l : List Rf) : List Value := l.flatMap refC
theorem refsC_length : ∀ l : List Rf, (refsC l).length = l.length * 4
 | [] => rfl
 | r :: l => by
  have := refsC_length l
  simp only [refsC, List.flatMap_cons, List.length_append, List.length_cons] at *
  rw [this]; simp [refC]; omega
section
variable {S : Nat → Prop} {w : World}
end
section
variable {H : Type} {enc : TypeId × Value → H} {P : Program} {w : World} {base : Nat} {held : Bool}
end
end Go.Proofs.YtfomjajdfaoogaaGreatDoor.AM
namespace Go.Proofs.YtfomjajdfaoogaaGreatDoor.AM
open Go Go.RowKit
section
variable {w : World}
end
end Go.Proofs.YtfomjajdfaoogaaGreatDoor.AM
namespace Go.Proofs.YtfomjajdfaoogaaGreatDoor.AM
open Go Go.RowKit Go.ChangeShapes Go.WideShapes Go.Deep
structure Opr where
 kind : Int
 frm : Int
 name : ByteArray
 key : ByteArray
 edits : List Edt
structure Bas where
 store : List Cmt
 refs : List Rf
structure Rst where
 code : Int
 com : Int
 val : Int
 keys : List ByteArray
 map : List Ent
def aH4 (o : Opr) : AV := .agg [.v (.int .i64 o.kind), .v (.int .i64 o.frm), .v (.string o.name), .v (.string o.key), .lst 3 (o.edits.map uf)]
def yA (b : Bas) : AV := .agg [.lst 2 (b.store.map xS), .lst 4 (b.refs.map yL)]
def Opr.ok (o : Opr) (N : Nat) : Prop := o.name.size ≤ N ∧ o.key.size ≤ N ∧ o.edits.length ≤ N ∧ ∀ e ∈ o.edits, e.key.size ≤ N
def Rst.ok (r : Rst) (N : Nat) : Prop := r.keys.length ≤ N ∧ (∀ k ∈ r.keys, k.size ≤ N) ∧ r.map.length ≤ N ∧ ∀ e ∈ r.map, e.1.size ≤ N
section
variable {S : Nat → Prop} {w : World}
end
section
variable {H : Type} {enc : TypeId × Value → H} {P : Program} {w : World} {base : Nat} {held : Bool}
end
end Go.Proofs.YtfomjajdfaoogaaGreatDoor.AM
