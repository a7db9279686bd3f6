/- Commits as data: sizes, copies, comparisons of the laws. -/
import Derived.Test.YtjhimcddgkoghaaA1
import Derived.Test.YtjhimcddgkoghaaA2
import Derived.Test.YtjhimcddgkoghaaB1
namespace Go.Proofs.Ytjhimcddgkoghaa.AM
open Go Go.RowKit
set_option linter.unusedVariables false
set_option linter.unusedSimpArgs false
set_option maxRecDepth 100000

abbrev Cmt := List Int × List Ent
theorem all_int (cs : List Int) : ∀ x ∈ cs.map intA, asz x = 1 := fun x hx => by obtain ⟨e, _, rfl⟩ := List.mem_map.1 hx; rfl
theorem flat_int (e : Int) : flatA (intA e) := by unfold intA; simp [flatA]
def szI (n : Nat) (l : Int) : Int := if l - n < 0 then -1 else l - n
/-- a row that is given up is stored, to be read from now on -/
theorem p_ostoref {P : Program} {Θ : Tab} {s : St} {d : Option Tmp} {ty : TypeId} {pos : String} {after : Array Edge} {g : Option (Nat × Bool)} {t : TypeId} {x y : Operand} {l l' i c : Nat} {p : List Nat} {ob ob' : OB} {q z : AV} (hq : ob.xs[i]? = some q) (hx : s.ev x = .optr l i p c) (ho : s.hp l = some ob) (hg : getP q p 0 = some (z, c)) (hs : ((Θ.look t).known && (Nat.beq (asz z) (Θ.look t).size && Nat.beq 1 (asz z))) = true) (hy : s.ev y = .own l') (ho' : s.hp l' = some ob') (hn : Nat.beq l l' = false) (hop : ob.e.open_ = true := by rfl) (hsh : ob'.e.shut = true := by rfl) (hok : okL l' = true := by rfl) (hc : cOK y = true := by rfl) :
    Pre P Θ ⟨d, .store t x y, ty, pos, after, g⟩ s ⟨.any, some fun s' => (s'.frz l').set l (some ⟨.s (ob.e.typ.getD 0), ob.sz, ob.xs.set i (setP q p (.lst ob'.sz ob'.xs))⟩)⟩ := by
  simp only [Bool.and_eq_true] at hs
  have hd : s.dat (s.ev y) = .lst ob'.sz ob'.xs := by rw [hy]; simp [St.dat, ho', hsh]
  have hown : ownsA (s.ev y) = [l'] := by rw [hy]; rfl
  have hda : isDataA s (s.ev y) = true := by rw [hy]; simp [isDataA, ho', hsh]
  obtain ⟨t0, he⟩ : ∃ t0, ob.e = .s t0 ∨ ob.e = .z t0 := by
    cases h : ob.e with
    | s t0 => exact ⟨t0, .inl rfl⟩
    | z t0 => exact ⟨t0, .inr rfl⟩
    | _ => rw [h] at hop; cases hop
  have ht : ob.e.typ.getD 0 = t0 := by rcases he with he | he <;> rw [he] <;> rfl
  have hne : l ≠ l' := fun e => by rw [e] at hn; simp at hn
  refine ⟨cOK_spec hc, hs.1, l, i, p, c, ob, hx, ho, .inl ⟨t0, q, z, he, hq, hg, Nat.eq_of_beq_eq_true hs.2.1, by rw [hd]; exact Nat.eq_of_beq_eq_true hs.2.2, hda, by rw [hown]; simpa using hne, by rw [hown]; simp [hok], ?_⟩⟩
  rw [hd, hown, ht]; rfl
theorem r_cell1 {s : St} {a t l : Nat} {ob : OB} {x : AV} {Θ : Tab} (h1 : s.sl a = .optr l 0 [] 0) (ho : s.hp l = some ob) (hx : ob.xs[0]? = some x) (hk : ((Θ.look t).known && (Bool.xor (isAggA x) (Θ.look t).isAgg).not && Nat.beq (asz x) (Θ.look t).size) = true) (hd : (match x with | .v _ | .agg _ | .lst _ _ | .any => True | _ => False)) (hop : ob.e.open_ = true := by rfl) :
    RetQ Θ [.cell a t] ⟨x, []⟩ .ret s := by
  have hr : rvA s (.cell a t) = x := by
    simp only [rvA, h1, ho, hop, hx, cond_true, Option.getD_some]
  simp only [Bool.and_eq_true] at hk
  refine ⟨trivial, [], by simp, trivial, ⟨⟨hk.1.1, by rw [hr]; exact xor_not hk.1.2, by rw [hr]; exact Nat.eq_of_beq_eq_true hk.2, .inl ⟨l, ob, x, h1, ho, .inl ⟨hop, hx⟩⟩⟩, trivial⟩, trivial, ⟨.inl ?_, trivial⟩⟩
  rw [hr]
  cases x <;> first | exact ⟨rfl, rfl⟩ | exact hd.elim
attribute [local irreducible] ACode AOps AOps2 RetG RetM Pre ACG

end Go.Proofs.Ytjhimcddgkoghaa.AM
