/- Rules of the machine: soft changes of rows; lists of one element; structs of rows. -/
import Derived.Test.YtnlobdhkpmeniaaN16
namespace Go.Proofs.Ytnlobdhkpmeniaa.AM
open Go Go.RowKit
set_option linter.unusedVariables false
set_option linter.unusedSimpArgs false
set_option maxRecDepth 100000
/-- what is read by operations that are not ordered against the one at k names none of ls -/
def condB (ops : Array Oper) (k : Nat) (s : St) (ls : List Nat) : Bool :=
  (List.range ops.size).all fun j => Nat.beq j k || (ordr ops j k || (match ops[j]? with
    | some o => (tmpsOf o).all fun t => ((List.range ops.size).any fun j' => match (ops[j']?).bind (·.dst) with
        | some t' => Nat.beq t' t && !(Nat.blt j' k)
        | none => false) || ls.all fun l => !((s.sl t).names l)
    | none => true))
theorem condB_ok {ops : Array Oper} {k : Nat} {s : St} {ls : List Nat} (h : condB ops k s ls = true) : ∀ j o, ops[j]? = some o → j ≠ k → ordr ops j k = false → ∀ t, t ∈ tmpsOf o → (∀ j' o', ops[j']? = some o' → o'.dst = some t → Nat.blt j' k = true) → ∀ l ∈ ls, (s.sl t).names l = false := by
  intro j o hj hne hor t ht hL l hl
  have h1 := List.all_eq_true.1 h j (List.mem_range.2 (Array.getElem?_eq_some_iff.1 hj).1)
  simp only [nbne hne, hor, Bool.false_or, hj] at h1
  have h2 := List.all_eq_true.1 h1 t ht
  rw [Bool.or_eq_true] at h2
  rcases h2 with h2 | h2
  · obtain ⟨j', hj', h3⟩ := List.any_eq_true.1 h2
    cases ho' : ops[j']? with
    | none => rw [ho'] at h3; cases h3
    | some o' =>
      rw [ho'] at h3
      cases hd : o'.dst with
      | none => simp only [Option.bind_some, hd] at h3; cases h3
      | some t' =>
        simp only [Option.bind_some, hd, Bool.and_eq_true, Bool.not_eq_true'] at h3
        have : t' = t := Nat.eq_of_beq_eq_true h3.1
        subst this
        rw [hL j' o' ho' hd] at h3
        exact absurd h3.2 (by simp)
  · have := List.all_eq_true.1 h2 l hl
    simpa using this
section
variable {Θ : Tab} {ops : Array Oper} {k : Nat} {s : St}
theorem soft_set {l : Nat} {o : Option OB} {v : AV} (hs : soft Θ ops true k = true) (hc : condB ops k s [l] = true) : SoftE Θ ops (fun j => Nat.blt j k) k s ⟨v, some fun s' => s'.set l o⟩ :=
  ⟨true, [l], _, id, fun hp j => bif Nat.beq j l then o else hp j, fun mp j => bif Nat.beq j l then none else mp j, rfl, hs, fun s => rfl, fun x _ => rfl, fun _ => ⟨fun x => rfl, fun hp j hj => by
    have : j ≠ l := by simpa using hj
    show (bif Nat.beq j l then o else hp j) = hp j
    rw [nbne this]; rfl⟩, condB_ok hc⟩
end
section
variable {P : Program} {Θ : Tab} {s : St} {ty : TypeId} {pos : String} {after : Array Edge} {g : Option (Nat × Bool)}
theorem p_buildm {d : Option Tmp} {t : TypeId} {ps : Array (Nat × Operand)} {fs : List (Nat × Nat)} {z : List AV} (ht : Θ.look t = .struct fs z) (hm : mixOK s (nilL z) ps.toList) (hc : csOK (ps.toList.map (·.2)) = true) :
    Pre P Θ ⟨d, .build t ps, ty, pos, after, g⟩ s ⟨.mix (mixParts s (nilL z) ps.toList), none⟩ := ⟨fs, z, ht, .inr ⟨hm, csOK_spec hc, rfl⟩⟩
end
end Go.Proofs.Ytnlobdhkpmeniaa.AM
