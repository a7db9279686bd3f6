/- Rules of the machine: soft changes of rows; lists of one element; structs of rows. -/
import Derived.Test.YtjhimcddgkoghaaN16
namespace Go.Proofs.Ytjhimcddgkoghaa.AM
open Go Go.RowKit
set_option linter.unusedVariables false
set_option linter.unusedSimpArgs false
set_option maxRecDepth 100000
/-- what is read by operations that are not ordered against the one at k names none of ls -/
def condB (ops : Array Oper) (k : Nat) (s : St) (ls : List Nat) : Bool :=
  (List.range ops.size).all fun j => Nat.beq j k || (ordr ops j k || (match ops[j]? with
    | some o => (tmpsOf o).all fun t => ((List.range ops.size).any fun j' => match (ops[j']?).bind (·.dst) with
        | some t' => Nat.beq t' t && (!(Nat.blt j' k) && !(lastOp ops j'))
        | none => false) || ls.all fun l => !((s.sl t).names l)
    | none => true))
theorem condB_ok {ops : Array Oper} {k : Nat} {s : St} {ls : List Nat} (h : condB ops k s ls = true) : ∀ j o, ops[j]? = some o → j ≠ k → ordr ops j k = false → ∀ t, t ∈ tmpsOf o → (∀ j' o', ops[j']? = some o' → o'.dst = some t → Nat.blt j' k = true ∨ lastOp ops j' = true) → ∀ l ∈ ls, (s.sl t).names l = false := by
  intro j o hj hne hor t ht hL l hl
  have h1 := List.all_eq_true.1 h j (List.mem_range.2 (Array.getElem?_eq_some_iff.1 hj).1)
  simp only [nbne hne, hor, Bool.false_or, hj] at h1
  have h2 := List.all_eq_true.1 h1 t ht
  rw [Bool.or_eq_true] at h2
  rcases h2 with h2 | h2
  · obtain ⟨j', hj', h3⟩ := List.any_eq_true.1 h2
    cases ho' : ops[j']? with
    | none => rw [ho'] at h3; cases h3
    | some o' =>
      rw [ho'] at h3
      cases hd : o'.dst with
      | none => simp only [Option.bind_some, hd] at h3; cases h3
      | some t' =>
        simp only [Option.bind_some, hd, Bool.and_eq_true, Bool.not_eq_true'] at h3
        have : t' = t := Nat.eq_of_beq_eq_true h3.1
        subst this
        rcases hL j' o' ho' hd with h4 | h4 <;> rw [h4] at h3 <;> simp at h3
  · have := List.all_eq_true.1 h2 l hl
    simpa using this
section
variable {Θ : Tab} {ops : Array Oper} {k : Nat} {s : St}
end
section
variable {P : Program} {Θ : Tab} {s : St} {ty : TypeId} {pos : String} {after : Array Edge} {g : Option (Nat × Bool)}
theorem p_bsl1 {d : Nat} {t : TypeId} {x : Operand} {el sz b : Nat} {z y : AV} (hf : s.hp (d + 1) = none) (ht : Θ.look t = .slice el sz b z) (hx : s.ev x = y) (hk : (match y with | .v c => c.oneCell' | .agg _ => true | .lst _ _ => true | .ptr _ => true | _ => false) = true) (hz : Nat.beq (asz y) (asz z) = true) (hsz : Nat.ble sz 65536 = true) (hok : okL (d + 1) = true := by rfl) :
    Pre P Θ ⟨some d, .buildSlice t 1 #[(0, x)], ty, pos, after, g⟩ s ⟨.own (d + 1), some fun s' => s'.set (d + 1) (some ⟨.s el, sz, [y]⟩)⟩ := by
  have hd : s.dat (s.ev x) = y := by rw [hx]; cases y <;> first | rfl | cases hk
  have ho : ownsA (s.ev x) = [] := by rw [hx]; cases y <;> first | rfl | cases hk
  have hda : isDataA s (s.ev x) = true := by rw [hx]; cases y <;> first | exact hk | rfl | cases hk
  refine ⟨d, el, sz, b, z, rfl, hf, hok, ht, by rw [Nat.one_mul]; exact Nat.le_of_ble_eq_true hsz, .inl ⟨⟨⟨z, rfl, by rw [hd]; exact Nat.eq_of_beq_eq_true hz⟩, hda, trivial⟩, fun y' hy c e => ?_, ?_, ?_⟩⟩
  · simp at hy
    subst hy; subst e
    simp only [St.ev] at hx; subst hx; exact hk
  · simp [ownsOf, ownsAL, ho]
  · have h1 : ownsOf s (([(0, x)] : List (Nat × Operand)).map (·.2)) = [] := by simp [ownsOf, ownsAL, ho]
    show _ = Eff.mk _ (frzT (ownsOf s (([(0, x)] : List (Nat × Operand)).map (·.2))) _)
    rw [h1]
    show _ = Eff.mk _ (some _)
    congr 2
    funext s'
    show s'.set (d + 1) (some ⟨.s el, sz, [y]⟩) = s'.set (d + 1) (some ⟨.s el, sz, [s.dat (s.ev x)]⟩)
    rw [hd]
end
end Go.Proofs.Ytjhimcddgkoghaa.AM
