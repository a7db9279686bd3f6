/- Texts of the machine over data, folded. -/
import Derived.Test.YtodckioppgjbdaaGreatDoorKd5
import Derived.Test.YtodckioppgjbdaaGreatDoorKd8
import Derived.Test.YtodckioppgjbdaaGreatDoorKd9
import Derived.Test.YtodckioppgjbdaaGreatDoorKd7
set_option linter.unusedVariables false
set_option linter.unusedSimpArgs false
set_option maxRecDepth 100000
namespace Go.Proofs.YtodckioppgjbdaaGreatDoor.AM
open Go Go.RowKit
section
variable {Θ : Tab} {s : St} {d : Option Tmp} {ty : TypeId} {pos : String} {after : Array Edge} {g : Option (Nat × Bool)}
theorem qP {x lo : Operand} {a : ByteArray} {k : IntKind} {i : Nat} (hi : i ≤ a.size) (hx : s.ev x = .v (.string a)) (hl : s.ev lo = .v (.int k (i : Int))) : Pre Tryz.prog Θ ⟨d, .slice 9 x (some lo) none none, ty, pos, after, g⟩ s ⟨.v (.string (a.extract i a.size)), none⟩ := by
 refine .inl ⟨.string a, .string (a.extract i a.size), by rw [hx]; rfl, fun y hy => ?_, fun w => ?_, rfl, rfl⟩
 · simp only [Option.toList, List.append_nil, List.mem_cons, List.not_mem_nil, or_false] at hy
   subst hy; rw [hl]; rfl
 · simp only [Option.map_some, Option.map_none, hl, xX, Option.getD_some]
   rw [run_sliceAt_string w _ _ _ _ _ Tryz.underlying9]
   have := run_slice_string_l (P := Tryz.prog) w 9 a Tryz.underlying9 k (i : Int) (by omega) (by omega)
   simpa using this
end
attribute [local irreducible] xD xJ xQ yD yJ Pre ACG
theorem aDJ {t : ByteArray} {c : Nat} (ht : t.size ≤ 1000000) : AC Tryz.prog 166 [.v (.string t), .v (.int .u8 (c : Int))] ⟨.own 0, [⟨9, 1, (yj t c).map xP⟩]⟩ := by
 refine qrf Tryz.func166 Tryz.ntmps166 Tryz.results166 ?_; conv => whnf
 repeat ((refine qz ?_; conv => whnf))
 refine kK (ι := { i : Nat // i ≤ t.size }) (fun i => ⟨[(0, .v (.string t)), (1, .v (.int .u8 (c : Int))), (5, .own 9), (6, .v (.int .i64 ((zC t c i.1).2 : Int))), (7, .v (.int .i64 (i.1 : Int)))], [(9, ⟨9, 1, (zC t c i.1).1.map xP⟩)]⟩) (fun i => t.size - i.1) ⟨0, Nat.zero_le _⟩ (by exact qle) ?_
 rintro ⟨i, hi⟩
 dsimp only
 obtain ⟨h1, h2, h3⟩ := aBI (c := c) hi
 by_cases hlt : i < t.size
 · have hs := qj (c := c) hlt
   generalize zC t c i = S at hs h1 h2 h3 ⊢
   obtain ⟨out, frm⟩ := S
   dsimp only at hs h1 h2 h3 ⊢
   conv => whnf
   by_cases hc : (t[i]).toNat = c
   · rw [if_pos hc] at hs
     repeat ((first | refine qz ?_ | refine qp (xZ (yL 9) rfl rfl hlt) ?_ | refine qp (aGi (i := frm) (j := i) h1 (by omega) rfl rfl rfl) ?_); conv => whnf)
     refine qr (kY (f := xP) (xs := out) (t.extract frm i) (out ++ [t.extract frm i]) rfl (by omega) rfl rfl rfl rfl rfl rfl rfl) ?_
     conv => whnf
     repeat ((refine qz ?_; conv => whnf))
     exact ⟨⟨i + 1, hlt⟩, by rw [hs]; exact qle, by simp; omega⟩
   · rw [if_neg hc] at hs
     repeat ((first | refine qz ?_ | refine qp (xZ (yL 9) rfl rfl hlt) ?_); conv => whnf)
     exact ⟨⟨i + 1, hlt⟩, by rw [hs]; exact qle, by simp; omega⟩
 · have e : i = t.size := by omega
   subst e
   unfold yj
   generalize zC t c t.size = S at h1 h2 h3 ⊢
   obtain ⟨out, frm⟩ := S
   dsimp only at h1 h2 h3 ⊢
   conv => whnf
   repeat ((first | refine qz ?_ | refine qp (qP (i := frm) h1 rfl rfl) ?_); conv => whnf)
   refine qr (kY (f := xP) (xs := out) (t.extract frm t.size) (out ++ [t.extract frm t.size]) rfl (by omega) rfl rfl rfl rfl rfl rfl rfl) ?_
   conv => whnf
   repeat ((refine qz ?_; conv => whnf))
   exact aC9 rfl rfl rfl
theorem jK {t : ByteArray} {i : Nat} (hi : i < t.size) : zZ t (i + 1) = (match zZ t i with | none => none | some n => if 48 ≤ (t[i]).toNat ∧ (t[i]).toNat ≤ 57 then some (n * 10 + (t[i]).toNat - 48) else none) := by rw [zZ, dif_pos hi]; try rfl
theorem wE {t : ByteArray} {i : Nat} (h : zZ t i = none) : ∀ {j : Nat}, i ≤ j → zZ t j = none
 | 0, hj => by
  have : i = 0 := by omega
  subst this; exact h
 | j + 1, hj => by
  by_cases e : i = j + 1
  · subst e; exact h
  · have := wE h (j := j) (by omega)
    unfold zZ
    split
    · rw [this]
    · rfl
theorem aKi {t : ByteArray} (h : t.size = 0) : uY t = false := by unfold uY; rw [dif_neg (by omega)]
theorem aAE {t : ByteArray} (h : 0 < t.size) : uY t = decide ((t[0]).toNat = 45) := by unfold uY; rw [dif_pos h]
def nmR (u : ByteArray) (sg : Bool) : Int × Bool :=
 if u.size = 0 ∨ 18 < u.size then (0, false)
 else if (∃ h : 0 < u.size, (u[0]).toNat = 48) ∧ (1 < u.size ∨ sg = true) then (0, false)
 else match zZ u u.size with
  | none => (0, false)
  | some n => (if sg = true then -(n : Int) else n, true)
theorem aFl (t : ByteArray) : y9 t = nmR (yH t) (uY t) := rfl
theorem aDq {u : ByteArray} {sg : Bool} {n : Nat} (h0 : ¬ u.size = 0) (h1 : ¬ 18 < u.size) (h2 : ¬ ((∃ h : 0 < u.size, (u[0]).toNat = 48) ∧ (1 < u.size ∨ sg = true))) (h : zZ u u.size = some n) : nmR u sg = (if sg = true then -(n : Int) else n, true) := by
 unfold nmR; rw [if_neg (by omega), if_neg h2, h]
theorem aBN {u : ByteArray} {sg : Bool} (h : zZ u u.size = none) : nmR u sg = (0, false) := by
 unfold nmR; rw [h]
 split
 · rfl
 · split <;> rfl
set_option maxHeartbeats 4000000 in
theorem aDb {t : ByteArray} (ht : t.size ≤ 1000000) (h0 : ¬ t.size = 0) (hsg : ¬ (t[0]'(by omega)).toNat = 45) : AC Tryz.prog 200 [.v (.string t)] ⟨.tup [.v (.int .i64 (nmR t false).1), .v (.bool (nmR t false).2)], []⟩ := by
 have h0' : 0 < t.size := by omega
 have a0 : ¬ t.size = 0 := h0
 have hU : 0 < t.size := h0'
 by_cases a1 : 18 < t.size
 · have : nmR t false = (0, false) := by unfold nmR; rw [if_pos (.inr a1)]
   rw [this]
   refine qrf Tryz.func200 Tryz.ntmps200 Tryz.results200 ?_; conv => whnf
   repeat ((first | refine qz ?_ | refine qp (xZ (yL 9) rfl rfl hU) ?_ | refine qp (xZ (yL 9) rfl rfl h0') ?_); conv => whnf)
   exact zT rfl rfl
 by_cases a2 : ((t[0]'hU).toNat = 48 ∧ (1 < t.size ∨ false = true))
 · have : nmR t false = (0, false) := by unfold nmR; rw [if_neg (by omega), if_pos ⟨⟨hU, a2.1⟩, a2.2⟩]
   rw [this]
   have a3 := a2.1
   have a4 : 1 < t.size := by rcases a2.2 with h | h; exact h; cases h
   refine qrf Tryz.func200 Tryz.ntmps200 Tryz.results200 ?_; conv => whnf
   repeat ((first | refine qz ?_ | refine qp (xZ (yL 9) rfl rfl hU) ?_ | refine qp (xZ (yL 9) rfl rfl h0') ?_); conv => whnf)
   exact zT rfl rfl
 by_cases a3 : ((t[0]'hU).toNat = 48)
 · have a4 : ¬ 1 < t.size := fun h => a2 ⟨a3, .inl h⟩
   refine qrf Tryz.func200 Tryz.ntmps200 Tryz.results200 ?_; conv => whnf
   repeat ((first | refine qz ?_ | refine qp (xZ (yL 9) rfl rfl hU) ?_ | refine qp (xZ (yL 9) rfl rfl h0') ?_); conv => whnf)
   refine kK (ι := { p : Nat × Nat // p.1 ≤ t.size ∧ zZ t p.1 = some p.2 }) (fun p => ⟨[(0, .v (.string t)), (4, .v (.int .i64 (1))), (5, .v (.int .i64 (p.1.2 : Int))), (6, .v (.int .i64 (p.1.1 : Int)))], []⟩) (fun p => t.size - p.1.1) ⟨(0, 0), Nat.zero_le _, rfl⟩ (by exact qle) ?_
   rintro ⟨⟨i, n⟩, hi, hn⟩
   dsimp only at hi hn ⊢
   have hp := aBO hn
   conv => whnf
   by_cases hlt : i < t.size
   case neg =>
    have e : i = t.size := by omega
    subst e
    have hp18 : n < 10 ^ 18 := Nat.lt_of_lt_of_le hp (Nat.pow_le_pow_right (by omega) (by omega))
    rw [aDq a0 a1 (by rintro ⟨⟨_, h1⟩, h2⟩; exact a2 ⟨h1, h2⟩) hn]
    repeat ((first | refine qz ?_ | refine qp (xA (qh (c := (n : Int)) (by omega) (by omega) (by omega)) rfl rfl rfl) ?_); conv => whnf)
    exact zT rfl rfl
   have hp17 : n < 10 ^ 17 := Nat.lt_of_lt_of_le hp (Nat.pow_le_pow_right (by omega) (by omega))
   have hs := jK hlt
   rw [hn] at hs
   dsimp only at hs
   have h8 := (t[i]).toNat_lt
   by_cases d0 : 48 ≤ (t[i]).toNat
   case neg =>
    rw [if_neg (by omega)] at hs
    rw [aBN (wE hs hlt)]
    repeat ((first | refine qz ?_ | refine qp (xZ (yL 9) rfl rfl hlt) ?_); conv => whnf)
    exact zT rfl rfl
   by_cases d1 : (t[i]).toNat ≤ 57
   case neg =>
    rw [if_neg (by omega)] at hs
    rw [aBN (wE hs hlt)]
    repeat ((first | refine qz ?_ | refine qp (xZ (yL 9) rfl rfl hlt) ?_); conv => whnf)
    exact zT rfl rfl
   rw [if_pos ⟨d0, d1⟩] at hs
   repeat ((first | refine qp (xA (qh (c := ((n * 10 : Nat) : Int)) (by omega) (by omega) (by omega)) rfl rfl rfl) ?_ | refine qp (xA (jT (c := ((n * 10 + (t[i]).toNat : Nat) : Int)) (by omega) (by omega) (by omega)) rfl rfl rfl) ?_ | refine qp (xA (aCE (c := ((n * 10 + (t[i]).toNat - 48 : Nat) : Int)) (by omega) (by omega) (by omega)) rfl rfl rfl) ?_ | refine qz ?_ | refine qp (xZ (yL 9) rfl rfl hlt) ?_ | refine qp (aGj rfl h8) ?_); conv => whnf)
   exact ⟨⟨(i + 1, n * 10 + (t[i]).toNat - 48), hlt, hs⟩, by exact qle, by simp; omega⟩
 · refine qrf Tryz.func200 Tryz.ntmps200 Tryz.results200 ?_; conv => whnf
   repeat ((first | refine qz ?_ | refine qp (xZ (yL 9) rfl rfl hU) ?_ | refine qp (xZ (yL 9) rfl rfl h0') ?_); conv => whnf)
   refine kK (ι := { p : Nat × Nat // p.1 ≤ t.size ∧ zZ t p.1 = some p.2 }) (fun p => ⟨[(0, .v (.string t)), (4, .v (.int .i64 (1))), (5, .v (.int .i64 (p.1.2 : Int))), (6, .v (.int .i64 (p.1.1 : Int)))], []⟩) (fun p => t.size - p.1.1) ⟨(0, 0), Nat.zero_le _, rfl⟩ (by exact qle) ?_
   rintro ⟨⟨i, n⟩, hi, hn⟩
   dsimp only at hi hn ⊢
   have hp := aBO hn
   conv => whnf
   by_cases hlt : i < t.size
   case neg =>
    have e : i = t.size := by omega
    subst e
    have hp18 : n < 10 ^ 18 := Nat.lt_of_lt_of_le hp (Nat.pow_le_pow_right (by omega) (by omega))
    rw [aDq a0 a1 (by rintro ⟨⟨_, h1⟩, h2⟩; exact a2 ⟨h1, h2⟩) hn]
    repeat ((first | refine qz ?_ | refine qp (xA (qh (c := (n : Int)) (by omega) (by omega) (by omega)) rfl rfl rfl) ?_); conv => whnf)
    exact zT rfl rfl
   have hp17 : n < 10 ^ 17 := Nat.lt_of_lt_of_le hp (Nat.pow_le_pow_right (by omega) (by omega))
   have hs := jK hlt
   rw [hn] at hs
   dsimp only at hs
   have h8 := (t[i]).toNat_lt
   by_cases d0 : 48 ≤ (t[i]).toNat
   case neg =>
    rw [if_neg (by omega)] at hs
    rw [aBN (wE hs hlt)]
    repeat ((first | refine qz ?_ | refine qp (xZ (yL 9) rfl rfl hlt) ?_); conv => whnf)
    exact zT rfl rfl
   by_cases d1 : (t[i]).toNat ≤ 57
   case neg =>
    rw [if_neg (by omega)] at hs
    rw [aBN (wE hs hlt)]
    repeat ((first | refine qz ?_ | refine qp (xZ (yL 9) rfl rfl hlt) ?_); conv => whnf)
    exact zT rfl rfl
   rw [if_pos ⟨d0, d1⟩] at hs
   repeat ((first | refine qp (xA (qh (c := ((n * 10 : Nat) : Int)) (by omega) (by omega) (by omega)) rfl rfl rfl) ?_ | refine qp (xA (jT (c := ((n * 10 + (t[i]).toNat : Nat) : Int)) (by omega) (by omega) (by omega)) rfl rfl rfl) ?_ | refine qp (xA (aCE (c := ((n * 10 + (t[i]).toNat - 48 : Nat) : Int)) (by omega) (by omega) (by omega)) rfl rfl rfl) ?_ | refine qz ?_ | refine qp (xZ (yL 9) rfl rfl hlt) ?_ | refine qp (aGj rfl h8) ?_); conv => whnf)
   exact ⟨⟨(i + 1, n * 10 + (t[i]).toNat - 48), hlt, hs⟩, by exact qle, by simp; omega⟩
set_option maxHeartbeats 4000000 in
theorem aDc {t u : ByteArray} (hb : u = t.extract 1 t.size) (ht : t.size ≤ 1000000) (h0 : ¬ t.size = 0) (hsg : (t[0]'(by omega)).toNat = 45) : AC Tryz.prog 200 [.v (.string t)] ⟨.tup [.v (.int .i64 (nmR u true).1), .v (.bool (nmR u true).2)], []⟩ := by
 have h0' : 0 < t.size := by omega
 have hu : u.size ≤ t.size := by rw [hb]; exact jh
 by_cases a0 : u.size = 0
 · have : nmR u true = (0, false) := by unfold nmR; rw [if_pos (.inl a0)]
   rw [this]
   have hU : 0 < t.size := h0'
   refine qrf Tryz.func200 Tryz.ntmps200 Tryz.results200 ?_; conv => whnf
   repeat (first | (refine qz ?_; conv => whnf) | (refine qp (xZ (yL 9) rfl rfl hU) ?_; conv => whnf) | (refine qp (xZ (yL 9) rfl rfl h0') ?_; conv => whnf) | (refine qp (qP (i := 1) (by omega) rfl rfl) ?_; rw [← hb]; conv => whnf))
   exact zT rfl rfl
 have hU : 0 < u.size := by omega
 by_cases a1 : 18 < u.size
 · have : nmR u true = (0, false) := by unfold nmR; rw [if_pos (.inr a1)]
   rw [this]
   refine qrf Tryz.func200 Tryz.ntmps200 Tryz.results200 ?_; conv => whnf
   repeat (first | (refine qz ?_; conv => whnf) | (refine qp (xZ (yL 9) rfl rfl hU) ?_; conv => whnf) | (refine qp (xZ (yL 9) rfl rfl h0') ?_; conv => whnf) | (refine qp (qP (i := 1) (by omega) rfl rfl) ?_; rw [← hb]; conv => whnf))
   exact zT rfl rfl
 by_cases a2 : ((u[0]'hU).toNat = 48 ∧ (1 < u.size ∨ true = true))
 · have : nmR u true = (0, false) := by unfold nmR; rw [if_neg (by omega), if_pos ⟨⟨hU, a2.1⟩, a2.2⟩]
   rw [this]
   have a3 := a2.1
   by_cases a4 : 1 < u.size
   · refine qrf Tryz.func200 Tryz.ntmps200 Tryz.results200 ?_; conv => whnf
     repeat (first | (refine qz ?_; conv => whnf) | (refine qp (xZ (yL 9) rfl rfl hU) ?_; conv => whnf) | (refine qp (xZ (yL 9) rfl rfl h0') ?_; conv => whnf) | (refine qp (qP (i := 1) (by omega) rfl rfl) ?_; rw [← hb]; conv => whnf))
     exact zT rfl rfl
   · refine qrf Tryz.func200 Tryz.ntmps200 Tryz.results200 ?_; conv => whnf
     repeat (first | (refine qz ?_; conv => whnf) | (refine qp (xZ (yL 9) rfl rfl hU) ?_; conv => whnf) | (refine qp (xZ (yL 9) rfl rfl h0') ?_; conv => whnf) | (refine qp (qP (i := 1) (by omega) rfl rfl) ?_; rw [← hb]; conv => whnf))
     exact zT rfl rfl
 have a3 : ¬ ((u[0]'hU).toNat = 48) := fun h => a2 ⟨h, .inr rfl⟩
 refine qrf Tryz.func200 Tryz.ntmps200 Tryz.results200 ?_; conv => whnf
 repeat (first | (refine qz ?_; conv => whnf) | (refine qp (xZ (yL 9) rfl rfl hU) ?_; conv => whnf) | (refine qp (xZ (yL 9) rfl rfl h0') ?_; conv => whnf) | (refine qp (qP (i := 1) (by omega) rfl rfl) ?_; rw [← hb]; conv => whnf))
 refine kK (ι := { p : Nat × Nat // p.1 ≤ u.size ∧ zZ u p.1 = some p.2 }) (fun p => ⟨[(0, .v (.string u)), (4, .v (.int .i64 (-1))), (5, .v (.int .i64 (p.1.2 : Int))), (6, .v (.int .i64 (p.1.1 : Int)))], []⟩) (fun p => u.size - p.1.1) ⟨(0, 0), Nat.zero_le _, rfl⟩ (by exact qle) ?_
 rintro ⟨⟨i, n⟩, hi, hn⟩
 dsimp only at hi hn ⊢
 have hp := aBO hn
 conv => whnf
 by_cases hlt : i < u.size
 case neg =>
  have e : i = u.size := by omega
  subst e
  have hp18 : n < 10 ^ 18 := Nat.lt_of_lt_of_le hp (Nat.pow_le_pow_right (by omega) (by omega))
  rw [aDq a0 a1 (by rintro ⟨⟨_, h1⟩, h2⟩; exact a2 ⟨h1, h2⟩) hn]
  repeat ((first | refine qz ?_ | refine qp (xA (qh (c := -(n : Int)) (by omega) (by omega) (by omega)) rfl rfl rfl) ?_); conv => whnf)
  exact zT rfl rfl
 have hp17 : n < 10 ^ 17 := Nat.lt_of_lt_of_le hp (Nat.pow_le_pow_right (by omega) (by omega))
 have hs := jK hlt
 rw [hn] at hs
 dsimp only at hs
 have h8 := (u[i]).toNat_lt
 by_cases d0 : 48 ≤ (u[i]).toNat
 case neg =>
  rw [if_neg (by omega)] at hs
  rw [aBN (wE hs hlt)]
  repeat ((first | refine qz ?_ | refine qp (xZ (yL 9) rfl rfl hlt) ?_); conv => whnf)
  exact zT rfl rfl
 by_cases d1 : (u[i]).toNat ≤ 57
 case neg =>
  rw [if_neg (by omega)] at hs
  rw [aBN (wE hs hlt)]
  repeat ((first | refine qz ?_ | refine qp (xZ (yL 9) rfl rfl hlt) ?_); conv => whnf)
  exact zT rfl rfl
 rw [if_pos ⟨d0, d1⟩] at hs
 repeat ((first | refine qp (xA (qh (c := ((n * 10 : Nat) : Int)) (by omega) (by omega) (by omega)) rfl rfl rfl) ?_ | refine qp (xA (jT (c := ((n * 10 + (u[i]).toNat : Nat) : Int)) (by omega) (by omega) (by omega)) rfl rfl rfl) ?_ | refine qp (xA (aCE (c := ((n * 10 + (u[i]).toNat - 48 : Nat) : Int)) (by omega) (by omega) (by omega)) rfl rfl rfl) ?_ | refine qz ?_ | refine qp (xZ (yL 9) rfl rfl hlt) ?_ | refine qp (aGj rfl h8) ?_); conv => whnf)
 exact ⟨⟨(i + 1, n * 10 + (u[i]).toNat - 48), hlt, hs⟩, by exact qle, by simp; omega⟩
theorem aDx {t : ByteArray} (ht : t.size ≤ 1000000) : AC Tryz.prog 200 [.v (.string t)] ⟨.tup [.v (.int .i64 (y9 t).1), .v (.bool (y9 t).2)], []⟩ := by
 rw [aFl]
 by_cases h0 : t.size = 0
 · have hb : yH t = t := by unfold yH; rw [aKi h0]; rfl
   have : nmR (yH t) (uY t) = (0, false) := by
    rw [hb]; unfold nmR; exact if_pos (.inl h0)
   rw [this]
   refine qrf Tryz.func200 Tryz.ntmps200 Tryz.results200 ?_; conv => whnf
   repeat ((refine qz ?_; conv => whnf))
   exact zT rfl rfl
 have h1 := aAE (t := t) (by omega)
 by_cases hs : (t[0]'(by omega)).toNat = 45
 · rw [decide_eq_true hs] at h1
   have hb : yH t = t.extract 1 t.size := by unfold yH; rw [h1]; rfl
   rw [h1]
   exact aDc hb ht h0 hs
 · rw [decide_eq_false hs] at h1
   have hb : yH t = t := by unfold yH; rw [h1]; rfl
   rw [h1, hb]
   exact aDb ht h0 hs
end Go.Proofs.YtodckioppgjbdaaGreatDoor.AM
