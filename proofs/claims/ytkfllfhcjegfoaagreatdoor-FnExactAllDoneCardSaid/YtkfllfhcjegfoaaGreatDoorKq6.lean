/- Texts of the machine over data, folded. -/
import Derived.Test.YtkfllfhcjegfoaaGreatDoorKq5
import Derived.Test.YtkfllfhcjegfoaaGreatDoorRows
import Derived.WalkKit
import Derived.WalkLawsBesides
import Derived.WalkSpells
import Derived.Lib.Hide
import Derived.Deep.QuietTactic
import Derived.BigQuiet
import Derived.Deep.Draws
import Derived.Deep.Slices
import Derived.Deep.Fields
import Derived.Deep.AppendLies
import Derived.ChangeSame
import Derived.StillTailTactics
import Derived.Laws.BytesArg
import Derived.Deep.RegionHeld3
set_option linter.unusedVariables false
set_option linter.unusedSimpArgs false
set_option maxRecDepth 100000
namespace Go.Proofs.YtkfllfhcjegfoaaGreatDoor.AM
open Go Go.RowKit
section
variable {P : Program} {Θ : Tab} {n : Nat} {ops : Array Oper} {draw : Bool} {s : St} {k : Nat} {r : List Oper} {K : St → Prop} {d : Option Tmp} {ty : TypeId} {pos : String} {after : Array Edge} {g : Option (Nat × Bool)}
theorem qs {x : Operand} {t : TypeId} {m : Nat} {c : ByteArray} (hx : s.ev x = .v (.string c)) (hl : ql s (.v (.string c)) = some m) (h : runK P Θ n ops draw (k + 1) r (s.put d (.v (.int .i64 (m : Int)))) K) (hok : aFV Θ t (.v (.string c)) := by exact rfl) (hg : yK ops s ⟨d, .call ⟨.builtin .len, #[x], #[t]⟩, ty, pos, after, g⟩ = some true := by exact rfl) (hin : inN n d = true := by exact rfl) : xN P Θ n ops draw k (⟨d, .call ⟨.builtin .len, #[x], #[t]⟩, ty, pos, after, g⟩ :: r) s K := aL0 (aFO hx hl hok) hg hin h
theorem qc {f : FuncId} {ags : Array Operand} {ts : Array TypeId} {t : Nat} {args : List AV} {out : Out} (hac : AC P f args out) (h : runK P Θ n ops draw (k + 1) r (s.app (some t) ⟨ren (t + 1) out.val, qh (t + 1) out.obs⟩) K) (ha : (ags.toList.map fun x => s.dat (s.ev x)) = args := by exact rfl) (hfl : (yN s ags.toList).isEmpty = true ∨ out.flat := by first | exact .inl rfl | exact .inr ⟨by simp [yu, uI], by first | exact aGH | exact aGA (by first | exact yB aAX _ | exact yB aAQ _ | exact yB aAD _ | exact yB aAL _ | exact yB aAO _ | exact yB qj _) | exact aKG (by first | exact yB aAX _ | exact yB aAQ _ | exact yB aAD _ | exact yB aAL _ | exact yB aAO _ | exact yB qj _) (by first | exact yB aAX _ | exact yB aAQ _ | exact yB aAD _ | exact yB aAL _ | exact yB aAO _ | exact yB qj _)⟩) (hfr : yX s (t + 1) 0 out.obs := by first | exact trivial | exact ⟨⟨rfl, rfl, rfl⟩, trivial⟩ | exact ⟨⟨rfl, rfl, rfl⟩, ⟨rfl, rfl, rfl⟩, trivial⟩ | exact ⟨⟨rfl, rfl, rfl⟩, ⟨rfl, rfl, rfl⟩, ⟨rfl, rfl, rfl⟩, trivial⟩) (hok : vE s (ags.toList.map s.ev) = true := by exact rfl) (hc : wD ags.toList = true := by exact rfl) (hg : yK ops s ⟨some t, .call ⟨.value (.func f), ags, ts⟩, ty, pos, after, g⟩ = some true := by exact rfl) (hin : inN n (some t) = true := by exact rfl) (hu : draw = true → (⟨ren (t + 1) out.val, qh (t + 1) out.obs⟩ : Eff).upd = none ∨ tied ops k = true ∨ wG Θ ops (fun j => Nat.blt j k) k s ⟨ren (t + 1) out.val, qh (t + 1) out.obs⟩ := by intro e; first | exact .inl rfl | contradiction | exact .inr (.inl (by kernel_rfl))) : xN P Θ n ops draw k (⟨some t, .call ⟨.value (.func f), ags, ts⟩, ty, pos, after, g⟩ :: r) s K := aAd (qG hac ha hfl hfr hok hc) hg hin hu h
theorem qf {f : FuncId} {ags : Array Operand} {ts : Array TypeId} {t : Nat} {args : List AV} {out : Out} (hac : AC P f args out) (h : runK P Θ n ops draw (k + 1) r (s.app (some t) ⟨ren (t + 1) out.val, aAA (yN s ags.toList) (uG (t + 1) 0 out.obs)⟩) K) (ha : (ags.toList.map fun x => s.dat (s.ev x)) = args := by exact rfl) (hfr : yX s (t + 1) 0 out.obs := by first | exact trivial | exact ⟨⟨rfl, rfl, rfl⟩, trivial⟩ | exact ⟨⟨rfl, rfl, rfl⟩, ⟨rfl, rfl, rfl⟩, trivial⟩ | exact ⟨⟨rfl, rfl, rfl⟩, ⟨rfl, rfl, rfl⟩, ⟨rfl, rfl, rfl⟩, trivial⟩) (hl : (yN s ags.toList).all okL = true := by exact rfl) (hok : vE s (ags.toList.map s.ev) = true := by exact rfl) (hc : wD ags.toList = true := by exact rfl) (hg : yK ops s ⟨some t, .call ⟨.value (.func f), ags, ts⟩, ty, pos, after, g⟩ = some true := by exact rfl) (hin : inN n (some t) = true := by exact rfl) (hu : draw = true → (⟨ren (t + 1) out.val, aAA (yN s ags.toList) (uG (t + 1) 0 out.obs)⟩ : Eff).upd = none ∨ tied ops k = true ∨ wG Θ ops (fun j => Nat.blt j k) k s ⟨ren (t + 1) out.val, aAA (yN s ags.toList) (uG (t + 1) 0 out.obs)⟩ := by intro e; first | exact .inl rfl | contradiction | exact .inr (.inl (by kernel_rfl))) : xN P Θ n ops draw k (⟨some t, .call ⟨.value (.func f), ags, ts⟩, ty, pos, after, g⟩ :: r) s K := aAd (aDd hac ha hfr hok hc hl) hg hin hu h
theorem qC {f : FuncId} {ags : Array Operand} {ts : Array TypeId} {t : Nat} {args : List AV} {out : Out} (hac : AC P f args out) (h : xN P Θ n ops draw (k + 1) r (s.app (some t) ⟨ren (t + 1) out.val, qh (t + 1) out.obs⟩) K) (ha : (ags.toList.map fun x => s.dat (s.ev x)) = args := by exact rfl) (hfl : (yN s ags.toList).isEmpty = true ∨ out.flat := by first | exact .inl rfl | exact .inr ⟨by simp [yu, uI], by first | exact aGH | exact aGA (by first | exact yB aAX _ | exact yB aAQ _ | exact yB aAD _ | exact yB aAL _ | exact yB aAO _ | exact yB qj _) | exact aKG (by first | exact yB aAX _ | exact yB aAQ _ | exact yB aAD _ | exact yB aAL _ | exact yB aAO _ | exact yB qj _) (by first | exact yB aAX _ | exact yB aAQ _ | exact yB aAD _ | exact yB aAL _ | exact yB aAO _ | exact yB qj _)⟩) (hfr : yX s (t + 1) 0 out.obs := by first | exact trivial | exact ⟨⟨rfl, rfl, rfl⟩, trivial⟩ | exact ⟨⟨rfl, rfl, rfl⟩, ⟨rfl, rfl, rfl⟩, trivial⟩ | exact ⟨⟨rfl, rfl, rfl⟩, ⟨rfl, rfl, rfl⟩, ⟨rfl, rfl, rfl⟩, trivial⟩) (hok : vE s (ags.toList.map s.ev) = true := by exact rfl) (hc : wD ags.toList = true := by exact rfl) (hg : yK ops s ⟨some t, .call ⟨.value (.func f), ags, ts⟩, ty, pos, after, g⟩ = some true := by exact rfl) (hin : inN n (some t) = true := by exact rfl) (hu : draw = true → (⟨ren (t + 1) out.val, qh (t + 1) out.obs⟩ : Eff).upd = none ∨ tied ops k = true ∨ wG Θ ops (fun j => Nat.blt j k) k s ⟨ren (t + 1) out.val, qh (t + 1) out.obs⟩ := by intro e; first | exact .inl rfl | contradiction | exact .inr (.inl (by kernel_rfl))) : xN P Θ n ops draw k (⟨some t, .call ⟨.value (.func f), ags, ts⟩, ty, pos, after, g⟩ :: r) s K := yA hg hin (qG hac ha hfl hfr hok hc) hu h
variable {op : Op}
theorem qz {v : AV} (h : runK P Θ n ops draw (k + 1) r (s.put d v) K) (hp : Pre P Θ ⟨d, op, ty, pos, after, g⟩ s ⟨v, none⟩ := by first | exact xB (by first | exact aM7 (by omega) | exact aNN (by omega) | exact aNS (by omega) | exact aM6 (by omega) | exact aH3 (by omega) | exact aIA (by omega) | exact aMT (by omega) | exact aNh (by omega) | exact aFG (by omega) | exact aFY (by omega) | exact aFa (by omega) | exact kT (by omega) | exact xZ rfl (by omega) (by omega) | exact jf rfl (by omega) (by omega)) rfl rfl rfl | exact xk (jh _ (by assumption)) rfl rfl rfl | exact aI2 rfl ⟨_, _, _, _, rfl⟩ | exact aK4 rfl rfl ⟨_, _, _, _, rfl⟩ | exact aFO (y := .v (.string _)) rfl rfl rfl | exact aFO rfl rfl ⟨_, _, _, _, rfl⟩) (hg : yK ops s ⟨d, op, ty, pos, after, g⟩ = some true := by exact rfl) (hin : inN n d = true := by exact rfl) : xN P Θ n ops draw k (⟨d, op, ty, pos, after, g⟩ :: r) s K := aL0 hp hg hin h
theorem qla {v : AV} (h : xN P Θ n ops draw (k + 1) r (s.put d v) K) (hp : Pre P Θ ⟨d, op, ty, pos, after, g⟩ s ⟨v, none⟩ := by first | exact kF rfl rfl rfl | exact zi rfl rfl rfl rfl rfl rfl rfl | exact kZ (by conv => lhs; whnf) | exact aLo (by conv => lhs; whnf) | exact aHY rfl | exact aEq (z := .v _) rfl rfl rfl rfl | exact aLp rfl) (hg : yK ops s ⟨d, op, ty, pos, after, g⟩ = some true := by exact rfl) (hin : inN n d = true := by exact rfl) : xN P Θ n ops draw k (⟨d, op, ty, pos, after, g⟩ :: r) s K := zN hp hg hin h
theorem qlb {v : AV} (h : xN P Θ n ops draw (k + 1) r (s.put d v) K) (hp : Pre P Θ ⟨d, op, ty, pos, after, g⟩ s ⟨v, none⟩ := by first | exact xB (by first | exact aFG (by omega) | exact aFY (by omega) | exact aFa (by omega) | exact kT (by omega) | exact aH3 (by omega) | exact aIA (by omega) | exact yJ (by assumption) | exact yo (by assumption) | exact uU (by assumption) | exact z8 (by assumption)) rfl rfl rfl | exact aI2 rfl ⟨_, _, _, _, rfl⟩) (hg : yK ops s ⟨d, op, ty, pos, after, g⟩ = some true := by exact rfl) (hin : inN n d = true := by exact rfl) : xN P Θ n ops draw k (⟨d, op, ty, pos, after, g⟩ :: r) s K := zN hp hg hin h
theorem qst {e : Eff} (h : runK P Θ n ops draw (k + 1) r (s.app d e) K) (hp : Pre P Θ ⟨d, op, ty, pos, after, g⟩ s e := by exact xS rfl rfl rfl rfl rfl (by conv => lhs; whnf) rfl) (hg : yK ops s ⟨d, op, ty, pos, after, g⟩ = some true := by exact rfl) (hin : inN n d = true := by exact rfl) (hu : draw = true → e.upd = none ∨ tied ops k = true ∨ wG Θ ops (fun j => Nat.blt j k) k s e := by intro e; first | exact .inl rfl | contradiction | exact .inr (.inl (by kernel_rfl))) : xN P Θ n ops draw k (⟨d, op, ty, pos, after, g⟩ :: r) s K := aAd hp hg hin hu h
theorem qp {v : AV} (hp : Pre P Θ ⟨d, op, ty, pos, after, g⟩ s ⟨v, none⟩) (h : runK P Θ n ops draw (k + 1) r (s.put d v) K) (hg : yK ops s ⟨d, op, ty, pos, after, g⟩ = some true := by exact rfl) (hin : inN n d = true := by exact rfl) : xN P Θ n ops draw k (⟨d, op, ty, pos, after, g⟩ :: r) s K := aL0 hp hg hin h
theorem qP {v : AV} (hp : Pre P Θ ⟨d, op, ty, pos, after, g⟩ s ⟨v, none⟩) (h : xN P Θ n ops draw (k + 1) r (s.put d v) K) (hg : yK ops s ⟨d, op, ty, pos, after, g⟩ = some true := by exact rfl) (hin : inN n d = true := by exact rfl) : xN P Θ n ops draw k (⟨d, op, ty, pos, after, g⟩ :: r) s K := zN hp hg hin h
theorem qr {e : Eff} (hp : Pre P Θ ⟨d, op, ty, pos, after, g⟩ s e) (h : runK P Θ n ops draw (k + 1) r (s.app d e) K) (hg : yK ops s ⟨d, op, ty, pos, after, g⟩ = some true := by exact rfl) (hin : inN n d = true := by exact rfl) (hu : draw = true → e.upd = none ∨ tied ops k = true ∨ wG Θ ops (fun j => Nat.blt j k) k s e := by intro e; first | exact .inl rfl | contradiction | exact .inr (.inl (by kernel_rfl))) : xN P Θ n ops draw k (⟨d, op, ty, pos, after, g⟩ :: r) s K := aAd hp hg hin hu h
theorem qx {a b : Prop} (h : a) (f : a → b := by first | exact fun h => qR (wz h) | exact vZ | exact aA0 | exact aNu (by kernel_rfl) | exact aIm rfl | exact aHc rfl | exact aD2 | exact aMp | exact aIL rfl rfl | exact wz | exact aK9 | exact aKT | exact aN7 | exact aNs | exact aN5 | exact aN9 rfl | exact aNg | exact aLj | exact aPI | exact aML | exact yA rfl rfl (aH0 (y := .agg _) rfl rfl rfl rfl) (fun e => by cases e) | exact zN (xB wE rfl rfl rfl) rfl rfl | exact zN (xB vB rfl rfl rfl) rfl rfl) : b := f h
theorem qy {a b : Prop} (h : a) (f : a → b := by first | exact zN (kZ (by conv => lhs; whnf)) rfl rfl | exact zN (aLo (by conv => lhs; whnf)) rfl rfl | exact zN (aHY rfl) rfl rfl | exact zN (xk (jh _ (by assumption)) rfl rfl rfl) rfl rfl | exact zN (qV rfl rfl rfl rfl rfl) rfl rfl | exact zN (aBN rfl rfl rfl rfl) rfl rfl | exact zN (xB (by first | exact aM7 (by omega) | exact aNN (by omega) | exact aNS (by omega) | exact aM6 (by omega) | exact aH3 (by omega) | exact aIA (by omega) | exact aMT (by omega) | exact aNh (by omega) | exact aFG (by omega) | exact aFY (by omega) | exact aFa (by omega) | exact kT (by omega) | exact xZ rfl (by omega) (by omega) | exact jf rfl (by omega) (by omega)) rfl rfl rfl) rfl rfl | exact zN (aI2 rfl ⟨_, _, _, _, rfl⟩) rfl rfl | exact zN (aK4 rfl rfl ⟨_, _, _, _, rfl⟩) rfl rfl | exact zN (aFO (y := .v (.string _)) rfl rfl rfl) rfl rfl | exact zN (aFO rfl rfl ⟨_, _, _, _, rfl⟩) rfl rfl | exact zN (aLp rfl) rfl rfl | exact zN (aEq (z := .v _) rfl rfl rfl rfl) rfl rfl | exact zN (aEq rfl rfl rfl rfl) rfl rfl | exact zN (qK rfl (by conv => lhs; whnf)) rfl rfl | exact aIL rfl rfl | exact fun h => qR (wz h) | exact vZ | exact aA0 | exact aNu (by kernel_rfl) | exact aIm rfl | exact aHc rfl | exact aD2 | exact aMp | exact wz | exact aK9 | exact aKT | exact aN7 | exact aNs | exact aN5 | exact aN9 rfl | exact aNg | exact aLj | exact aPI | exact aML | exact zN (kF rfl rfl rfl) rfl rfl | exact zN (zi rfl rfl rfl rfl rfl rfl rfl) rfl rfl | exact zN (uK (by simpa using (by assumption)) rfl rfl rfl rfl rfl) rfl rfl | exact yA rfl rfl (aH0 (y := .agg _) rfl rfl rfl rfl) (fun e => by cases e) | exact yA rfl rfl (zP rfl rfl) (fun e => by cases e)) : b := f h
theorem qle {i : Inv} (h : s.le i := by refine ⟨?_, ?_⟩ <;> (repeat (first | trivial | exact ⟨rfl, trivial⟩ | refine ⟨rfl, ?_⟩ | refine ⟨.inl ⟨rfl, rfl⟩, ?_⟩ | refine ⟨.inr ⟨_, _, rfl, rfl, rfl, rfl, rfl⟩, ?_⟩))) : s.le i := h
theorem qdr {a b c : Prop} (h : b) (ha : a := by kernel_rfl) : (a ∧ b) ∨ c := .inl ⟨ha, h⟩
theorem qe {a : Prop} (h : a := by exact ⟨trivial, [], by simp, trivial, ⟨trivial, trivial⟩, trivial, ⟨.inl ⟨rfl, rfl⟩, trivial⟩⟩) : a := h
theorem qO {f : FuncId} {fn : Func} {c : Code} {rs : List ResultVar} {args : List AV} {out : Out} (hf : P.funcs[f]? = some fn) (hnt : fn.ntmps = n) (hrs : fn.results = rs.toArray) (h : xM P Θ n c (vU Θ rs out) (St.init args)) (hΘ : zD P Θ := by exact aDY) (hb : fn.body = some c := by exact rfl) (hm : P.follows .mixedOrders = true := by kernel_rfl) (hnm : (fn.name == "runtime.NumGoroutine") = false := by kernel_rfl) (hlen : Nat.ble args.length n = true := by exact rfl) : AC P f args out := aR3 hΘ hm hf hb hnt hrs hnm hlen h
theorem qrf {f : FuncId} {fn : Func} {c : Code} {rs : List ResultVar} {args : List AV} {out : Out} (hf : P.funcs[f]? = some fn) (hnt : fn.ntmps = n) (hrs : fn.results = rs.toArray) (h : aAh P Θ n c (vU Θ rs out) (St.init args)) (hΘ : zD P Θ := by exact aDY) (hb : fn.body = some c := by exact rfl) (hm : P.follows .mixedOrders = true := by kernel_rfl) (hnm : (fn.name == "runtime.NumGoroutine") = false := by kernel_rfl) (hlen : Nat.ble args.length n = true := by exact rfl) : AC P f args out := aR6 hΘ hm hf hb hnt hrs hnm hlen h
end
def aEm (ops : Array Oper) (k : Nat) (s : St) (ls : List Nat) : Bool :=
 (List.range ops.size).all fun j => Nat.beq j k || (vV ops j k || (match ops[j]? with
  | some o => (tmpsOf o).all fun t => ((List.range ops.size).any fun j' => match (ops[j']?).bind (·.dst) with
   | some t' => Nat.beq t' t && (!(Nat.blt j' k) && !(aBY ops j'))
   | none => false) || ls.all fun l => !((s.sl t).names l)
  | none => true))
theorem aHa {ops : Array Oper} {k : Nat} {s : St} {ls : List Nat} (h : aEm ops k s ls = true) : ∀ j o, ops[j]? = some o → j ≠ k → vV ops j k = false → ∀ t, t ∈ tmpsOf o → (∀ j' o', ops[j']? = some o' → o'.dst = some t → Nat.blt j' k = true ∨ aBY ops j' = true) → ∀ l ∈ ls, (s.sl t).names l = false := by
 intro j o hj hne hor t ht hL l hl
 have h1 := List.all_eq_true.1 h j (List.mem_range.2 (Array.getElem?_eq_some_iff.1 hj).1)
 simp only [yO hne, hor, Bool.false_or, hj] at h1
 have h2 := List.all_eq_true.1 h1 t ht
 rw [Bool.or_eq_true] at h2
 rcases h2 with h2 | h2
 · obtain ⟨j', hj', h3⟩ := List.any_eq_true.1 h2
   cases ho' : ops[j']? with
   | none => rw [ho'] at h3; cases h3
   | some o' =>
    rw [ho'] at h3
    cases hd : o'.dst with
    | none => simp only [Option.bind_some, hd] at h3; cases h3
    | some t' =>
     simp only [Option.bind_some, hd, Bool.and_eq_true, Bool.not_eq_true'] at h3
     have : t' = t := Nat.eq_of_beq_eq_true h3.1
     subst this
     rcases hL j' o' ho' hd with h4 | h4 <;> rw [h4] at h3 <;> simp at h3
 · have := List.all_eq_true.1 h2 l hl
   simpa using this
theorem aG0 {ops : Array Oper} {k : Nat} {s : St} {ls : List Nat} (h : aEm ops k s ls = true) : ∀ j o, ops[j]? = some o → j ≠ k → vV ops j k = false → ∀ t, t ∈ tmpsOf o → (∀ j' o', ops[j']? = some o' → o'.dst = some t → Nat.blt j' k = true) → ∀ l ∈ ls, (s.sl t).names l = false :=
 fun j o h1 h2 h3 t ht hL => aHa h j o h1 h2 h3 t ht fun j' o' a b => .inl (hL j' o' a b)
section
variable {Θ : Tab} {ops : Array Oper} {k : Nat} {s : St}
theorem aE0 {l : Nat} {o : Option OB} {v : AV} (hs : soft Θ ops true k = true) (hc : aEm ops k s [l] = true) : wG Θ ops (fun j => Nat.blt j k) k s ⟨v, some fun s' => s'.set l o⟩ :=
 ⟨true, [l], _, id, fun hp j => bif Nat.beq j l then o else hp j, fun mp j => bif Nat.beq j l then none else mp j, rfl, hs, fun s => rfl, fun x _ => rfl, fun _ => ⟨fun x => rfl, fun hp j hj => by
  have : j ≠ l := by simpa using hj
  show (bif Nat.beq j l then o else hp j) = hp j
  rw [yO this]; rfl⟩, aG0 hc⟩
theorem aOv {l : Nat} {ob : OB} {v : AV} (hs : soft Θ ops false k = true) (hc : aEm ops k s [l] = true) : wG Θ ops (fun j => Nat.blt j k) k s ⟨v, some fun s' => (s'.kill l).set l (some ob)⟩ :=
 ⟨false, [l], _, fun x => bif x.names l then .any else x, fun hp j => bif Nat.beq j l then some ob else yE l (hp j), fun mp j => bif Nat.beq j l then none else mp j, rfl, hs, fun s => rfl, (fun x h => by show (bif AV.names l x then AV.any else x) = x; rw [h l (by simp)]; rfl), (fun h => by cases h), aG0 hc⟩
end
section
variable {P : Program} {Θ : Tab} {s : St} {ty : TypeId} {pos : String} {after : Array Edge} {g : Option (Nat × Bool)}
theorem aRA {d : Nat} {t : TypeId} {x : Operand} {el sz b : Nat} {z y : AV} (hf : s.hp (d + 1) = none) (ht : Θ.look t = .slice el sz b z) (hx : s.ev x = y) (hk : (match y with | .v c => c.oneCell' | .agg _ => true | .lst _ _ => true | .ptr _ => true | _ => false) = true) (hz : Nat.beq (asz y) (asz z) = true) (hsz : Nat.ble sz 65536 = true) (hok : okL (d + 1) = true := by rfl) :
 Pre P Θ ⟨some d, .buildSlice t 1 #[(0, x)], ty, pos, after, g⟩ s ⟨.own (d + 1), some fun s' => s'.set (d + 1) (some ⟨.s el, sz, [y]⟩)⟩ := by
 have hd : s.dat (s.ev x) = y := by rw [hx]; cases y <;> first | rfl | cases hk
 have ho : yt (s.ev x) = [] := by rw [hx]; cases y <;> first | rfl | cases hk
 have hda : xR s (s.ev x) = true := by rw [hx]; cases y <;> first | exact hk | rfl | cases hk
 refine ⟨d, el, sz, b, z, rfl, hf, hok, ht, by rw [Nat.one_mul]; exact Nat.le_of_ble_eq_true hsz, .inl ⟨⟨⟨z, rfl, by rw [hd]; exact Nat.eq_of_beq_eq_true hz⟩, hda, trivial⟩, fun y' hy c e => ?_, ?_, ?_⟩⟩
 · simp at hy
   subst hy; subst e
   simp only [St.ev] at hx; subst hx; exact hk
 · simp [yN, yP, ho]
 · have h1 : yN s (([(0, x)] : List (Nat × Operand)).map (·.2)) = [] := by simp [yN, yP, ho]
   show _ = Eff.mk _ (aAA (yN s (([(0, x)] : List (Nat × Operand)).map (·.2))) _)
   rw [h1]
   show _ = Eff.mk _ (some _)
   congr 2
   funext s'
   show s'.set (d + 1) (some ⟨.s el, sz, [y]⟩) = s'.set (d + 1) (some ⟨.s el, sz, [s.dat (s.ev x)]⟩)
   rw [hd]
theorem aCf {d : Option Tmp} {t : TypeId} {ps : Array (Nat × Operand)} {fs : List (Nat × Nat)} {z : List AV} (ht : Θ.look t = .struct fs z) (hm : aCS s (jq z) ps.toList) (hc : wD (ps.toList.map (·.2)) = true) :
 Pre P Θ ⟨d, .build t ps, ty, pos, after, g⟩ s ⟨.mix (wS s (jq z) ps.toList), none⟩ := ⟨fs, z, ht, .inr ⟨hm, uD hc, rfl⟩⟩
theorem aMV {d : Option Tmp} {t : TypeId} {x y : Operand} {l l' i i' c c' : Nat} {p p' : List Nat} {ob ob' : OB} {q z u : AV} (hq : ob.xs[i]? = some q) (hx : s.ev x = .optr l i p c) (ho : s.hp l = some ob) (hg : xq q p 0 = some (z, c)) (hs : ((Θ.look t).known && (Nat.beq (asz z) (Θ.look t).size && Nat.beq 1 (asz z))) = true) (hy : s.ev y = .optr l' i' p' c') (ho' : s.hp l' = some ob') (hr : rowAt ob' i' p' c' = .ptr u) (hn : Nat.beq l l' = false) (hop : ob.e.open_ = true := by rfl) (hsh : ob'.e.shut = true := by rfl) (hok : okL l' = true := by rfl) (hc : cOK y = true := by rfl) :
 Pre P Θ ⟨d, .store t x y, ty, pos, after, g⟩ s ⟨.any, some fun s' => (s'.frz l').set l (some ⟨.s (ob.e.typ.getD 0), ob.sz, ob.xs.set i (uM q p (.ptr u))⟩)⟩ := by
 simp only [Bool.and_eq_true] at hs
 have hd : s.dat (s.ev y) = .ptr u := by rw [hy]; simp [St.dat, ho', hsh, hr]
 have hown : yt (s.ev y) = [l'] := by rw [hy]; rfl
 have hda : xR s (s.ev y) = true := by rw [hy]; simp [xR, ho', hsh, hr]
 obtain ⟨t0, he⟩ : ∃ t0, ob.e = .s t0 ∨ ob.e = .z t0 := by
  cases h : ob.e with
  | s t0 => exact ⟨t0, .inl rfl⟩
  | z t0 => exact ⟨t0, .inr rfl⟩
  | _ => rw [h] at hop; cases hop
 have ht : ob.e.typ.getD 0 = t0 := by rcases he with he | he <;> rw [he] <;> rfl
 have hne : l ≠ l' := fun e => by rw [e] at hn; simp at hn
 refine ⟨uT hc, hs.1, l, i, p, c, ob, hx, ho, .inl ⟨t0, q, z, he, hq, hg, Nat.eq_of_beq_eq_true hs.2.1, by rw [hd]; exact Nat.eq_of_beq_eq_true hs.2.2, hda, by rw [hown]; simpa using hne, by rw [hown]; simp [hok], ?_⟩⟩
 rw [hd, hown, ht]; rfl
theorem aQf {t : Nat} {x : AV} (h : s.sl t = .ptr x) : vU Θ [.tmp t] ⟨.ptr x, []⟩ .ret s := ⟨trivial, [], by simp, trivial, ⟨trivial, trivial⟩, trivial, ⟨.inl ⟨h, rfl⟩, trivial⟩⟩
end
theorem aPf {P : Program} : zD P [] := fun t => trivial
theorem xJ {P : Program} {t : Nat} {x : TI} {Θ : Tab} (h : wZ P t x) (r : zD P Θ) : zD P ((t, x) :: Θ) := fun u => by
 show wZ P u (bif Nat.beq t u then x else Tab.look Θ u)
 by_cases e : t = u
 · subst e; simpa using h
 · rw [yO e]; exact r u
theorem aQT {P : Program} {t b : Nat} (hu : P.underlying t = some .string) (hi : (P.info? t).map (fun i => (i.zero, i.size, i.bytes)) = some (some (.string ByteArray.empty), 1, b)) : wZ P t .str := by
 obtain ⟨i, h1, h2, h3, _⟩ := info_parts hi
 exact ⟨hu, i, h1, h3, h2⟩
theorem aIP {P : Program} {t b : Nat} {k : IntKind} (hu : P.underlying t = some (.int k)) (hi : (P.info? t).map (fun i => (i.zero, i.size, i.bytes)) = some (some (.int k 0), 1, b)) : wZ P t (.int k) := by
 obtain ⟨i, h1, h2, h3, _⟩ := info_parts hi
 exact ⟨hu, i, h1, h3, h2⟩
theorem aPi {P : Program} {t b : Nat} (hu : P.underlying t = some .bool) (hi : (P.info? t).map (fun i => (i.zero, i.size, i.bytes)) = some (some (.bool false), 1, b)) : wZ P t .bool := by
 obtain ⟨i, h1, h2, h3, _⟩ := info_parts hi
 exact ⟨hu, i, h1, h3, h2⟩
theorem zG {P : Program} {t e b sz by_ : Nat} {zv : Value} {z : AV} (hu : P.underlying t = some (.slice e)) (hj : (P.info? t).map (fun i => (i.zero, i.size, i.bytes)) = some (some (.slice none 0 0), 1, b)) (hi : (P.info? e).map (fun i => (i.zero, i.size, i.bytes)) = some (some zv, sz, by_))
 (h0 : 0 < sz) (hz : asz z = sz) (hr : ∀ w, RD w z Fa zv.cells.toList) : wZ P t (.slice e sz by_ z) := by
 obtain ⟨j, j1, j2, j3, _⟩ := info_parts hj
 obtain ⟨i, h1, h2, h3, h4⟩ := info_parts hi
 exact ⟨hu, ⟨j, j1, j3, j2⟩, i, zv, h1, h2, h3, h4, h0, hz, hr⟩
theorem aQl {P : Program} {t kt vt b c : Nat} {zv : Value} {z : AV} (hu : P.underlying t = some (.map kt vt)) (hk : P.underlying kt = some .string) (hi : (P.info? vt).map (fun i => (i.zero, i.size, i.bytes)) = some (some zv, c, b)) (hz : ∀ S w hp B V, RV S w hp B V z zv) : wZ P t (.map kt vt z) := by
 obtain ⟨i, h1, h2, h3, h4⟩ := info_parts hi
 exact ⟨hu, hk, i, zv, h1, h2, hz⟩
def aDa (P : Program) : Nat → List Field → List (Nat × Nat) → Bool
 | _, [], [] => true
 | n, f :: fs, (o, z) :: r => Nat.beq f.offset o && (Nat.beq o n && (Nat.blt 0 z && ((match (P.info? f.type).map (·.size) with | some q => Nat.beq q z | none => false) && aDa P (n + z) fs r)))
 | _, _, _ => false
theorem aHm {P : Program} : ∀ (fs : List Field) (r : List (Nat × Nat)) (n : Nat), aDa P n fs r = true → qb P n fs r
 | [], [], n, _ => trivial
 | [], _ :: _, n, h => by simp [aDa] at h
 | _ :: _, [], n, h => by simp [aDa] at h
 | f :: fs, (o, z) :: r, n, h => by
  simp only [aDa, Bool.and_eq_true] at h
  obtain ⟨h1, h2, h3, h4, h5⟩ := h
  refine ⟨Nat.eq_of_beq_eq_true h1, Nat.eq_of_beq_eq_true h2, by simpa using h3, ?_, aHm fs r (n + z) h5⟩
  cases hq : (P.info? f.type).map (·.size) with
  | none => rw [hq] at h4; cases h4
  | some q => rw [hq] at h4; rw [Nat.eq_of_beq_eq_true h4]
theorem xh {P : Program} {t b : Nat} {fs : List (Nat × Nat)} {z : List AV} {cs : Array Value} (hu : P.underlying t = some (.struct (P.fieldsOf t))) (hi : (P.info? t).map (fun i => (i.zero, i.size, i.bytes)) = some (some (.agg cs), sizes fs, b))
 (ho : aDa P 0 (P.fieldsOf t).toList fs = true) (hp : 0 < sizes fs) (hm : z.map asz = fs.map (·.2)) (hr : ∀ w, RDL w z Fa cs.toList) : wZ P t (.struct fs z) := by
 obtain ⟨i, h1, h2, h3, _⟩ := info_parts hi
 exact ⟨_, i, cs, hu, aHm _ _ _ ho, h1, h3, hp, hm, h2, hr⟩
theorem xO {S : Nat → Prop} {w : World} {x : AV} {xs : List AV} {c1 c2 : List Value} (h : RA S w x c1) (r : RL S w xs c2) : RL S w (x :: xs) (c1 ++ c2) := by unfold RL; exact ⟨c1, c2, rfl, h, r⟩
theorem uL {S : Nat → Prop} {w : World} : RL S w [] [] := by unfold RL; rfl
theorem zR {S : Nat → Prop} {w : World} {x : Value} (h : x.oneCell' = true) : RA S w (.v x) [x] := by unfold RA; exact ⟨rfl, h⟩
theorem aH6 {S : Nat → Prop} {w : World} {sz : Nat} (h : 0 < sz) : RA S w (.lst sz []) [.slice none 0 0] := by unfold RA; exact ⟨none, 0, rfl, Nat.le_refl _, Nat.zero_le _, by simp, h, .inl rfl⟩
theorem ra_agg {S : Nat → Prop} {w : World} {xs : List AV} {cs : List Value} (h : RL S w xs cs) : RA S w (.agg xs) cs := by unfold RA; exact h
theorem yg {w : World} {x : Value} (h : x.oneCell' = true) : RD w (.v x) Fa [x] := by unfold RD; exact ⟨noF, rfl, h⟩
theorem zu {w : World} {sz : Nat} (h : 0 < sz) : RD w (.lst sz []) Fa [.slice none 0 0] := by
 unfold RD
 refine ⟨_, 0, [], Fa, rfl, World.ownsRow_nil _ _ _ _, by simp, h, by unfold RDL; exact ⟨rfl, noF⟩, fun g => ⟨fun h => h.elim, fun h => ?_⟩, fun g h => ?_⟩
 · rcases h with h | h
   · simp [Value.ownBlock] at h
   · exact h
 · simp [Value.ownBlock] at h
theorem zJ {w : World} {xs : List AV} {cs : List Value} (h : RDL w xs Fa cs) : RD w (.agg xs) Fa cs := by unfold RD; exact h
theorem zF {w : World} : RDL w [] Fa [] := by unfold RDL; exact ⟨rfl, noF⟩
theorem xH {w : World} {x : AV} {xs : List AV} {c1 c2 : List Value} (h : RD w x Fa c1) (r : RDL w xs Fa c2) : RDL w (x :: xs) Fa (c1 ++ c2) := by unfold RDL; exact ⟨c1, c2, Fa, Fa, rfl, Split.l0 noF, h, r⟩
theorem aDf {w : World} {x : AV} {u : Value} (h : RD w x Fa [u]) : ∀ m, RDL w (List.replicate m x) Fa (List.replicate m u)
 | 0 => zF
 | m + 1 => by simp only [List.replicate_succ]; exact xH (c1 := [u]) h (aDf h m)
theorem aQw {P : Program} {t b e : Nat} (hu : P.underlying t = some (.pointer e)) (hi : (P.info? t).map (fun i => (i.zero, i.size, i.bytes)) = some (some (.pointer none), 1, b)) : wZ P t .ptr := by
 obtain ⟨i, h1, h2, h3, _⟩ := info_parts hi
 exact ⟨⟨e, hu⟩, i, h1, h3, h2⟩
def aOx (P : Program) (t : TypeId) : Bool := match P.underlying t with | some (.func _ _ _) => true | _ => false
theorem aPY {P : Program} {t b : Nat} (hu : aOx P t = true) (hi : (P.info? t).map (fun i => (i.zero, i.size, i.bytes)) = some (some .nilFunc, 1, b)) : wZ P t .func := by
 obtain ⟨i, h1, h2, h3, _⟩ := info_parts hi
 refine ⟨?_, i, h1, h3, h2⟩
 unfold aOx at hu
 split at hu
 · rename_i x y z h; exact ⟨x, y, z, h⟩
 · cases hu
theorem aIl {P : Program} {t b e m sz be : Nat} {z : AV} {cs : Array Value} {ze : Option Value} (hu : P.underlying t = some (.array m e)) (hi : (P.info? t).map (fun i => (i.zero, i.size, i.bytes)) = some (some (.agg cs), m * sz, b)) (he : (P.info? e).map (fun i => (i.zero, i.size, i.bytes)) = some (ze, sz, be))
 (hm : 0 < m) (h0 : 0 < sz) (hz : asz z = sz) (hr : ∀ w, RDL w (List.replicate m z) Fa cs.toList) : wZ P t (.arr e m sz z) := by
 obtain ⟨i, h1, h2, h3, _⟩ := info_parts hi
 refine ⟨hu, ⟨i, cs, h1, h3, h2, hr⟩, hm, h0, hz, ?_⟩
 cases hj : P.info? e with
 | none => rw [hj] at he; simp at he
 | some j => rw [hj] at he; simp at he; exact ⟨j, rfl, he.2.1⟩
abbrev zS : AV := .v (.string ByteArray.empty)
abbrev zI : AV := .v (.int .i64 0)
abbrev zB : AV := .v (.bool false)
def Th : Tab := [(9, .str), (3, .int .i64), (4, .bool), (5, .int .u8),
 (78, .slice 9 1 16 zS),
 (167, .struct [(0, 1), (1, 1)] [zS, zI]), (51, .slice 167 2 24 (.agg [zS, zI])),
 (156, .struct [(0, 1), (1, 1)] [zS, zI]), (67, .slice 156 2 24 (.agg [zS, zI])),
 (191, .struct [(0, 1), (1, 1), (2, 1)] [zS, zI, zB]), (92, .slice 191 3 32 (.agg [zS, zI, zB])),
 (187, .struct [(0, 1), (1, 1), (2, 1)] [zS, zI, zB]), (75, .slice 187 3 32 (.agg [zS, zI, zB])),
 (111, .slice 3 1 8 zI),
 (134, .struct [(0, 1), (1, 1)] [.lst 1 [], .lst 2 []]), (33, .slice 134 2 48 (.agg [.lst 1 [], .lst 2 []])),
 (113, .struct [(0, 1), (1, 1)] [.lst 1 [], .lst 2 []]), (22, .slice 113 2 48 (.agg [.lst 1 [], .lst 2 []])),
 (221, .slice 4 1 1 zB),
 (289, .struct [(0, 1), (1, 1)] [zI, .lst 1 []]), (284, .ptr), (287, .slice 284 1 8 (.v (.pointer none))),
 (283, .arr 4 61 1 zB), (282, .arr 4 61 1 zB),
 (291, .func),
 (280, .map 9 191 (.agg [zS, zI, zB])),
 (124, .struct [(0, 1), (1, 1), (2, 1), (3, 1)] [zS, zI, zI, zB]), (34, .slice 124 4 40 (.agg [zS, zI, zI, zB])),
 (116, .struct [(0, 1), (1, 1), (2, 1), (3, 1)] [zS, zI, zI, zB]), (23, .slice 116 4 40 (.agg [zS, zI, zI, zB])),
 (36, .struct [(0, 1), (1, 1)] [.lst 2 [], .lst 4 []]),
 (25, .struct [(0, 1), (1, 1)] [.lst 2 [], .lst 4 []]),
 (94, .struct [(0, 1), (1, 1), (2, 1), (3, 1), (4, 1)] [zI, zI, zS, zS, .lst 3 []]),
 (77, .struct [(0, 1), (1, 1), (2, 1), (3, 1), (4, 1)] [zI, zI, zS, zS, .lst 3 []]),
 (96, .struct [(0, 1), (1, 1), (2, 1), (3, 1), (4, 1)] [zI, zI, zI, .lst 1 [], .lst 2 []]),
 (80, .struct [(0, 1), (1, 1), (2, 1), (3, 1), (4, 1)] [zI, zI, zI, .lst 1 [], .lst 2 []]),
 (129, .struct [(0, 1), (1, 1), (2, 1)] [zI, zI, zB]), (86, .slice 129 3 24 (.agg [zI, zI, zB])),
 (172, .struct [(0, 1), (1, 1), (2, 1)] [zI, zI, zB]), (71, .slice 172 3 24 (.agg [zI, zI, zB])),
 (88, .struct [(0, 1), (1, 1), (2, 1)] [zS, zI, .lst 3 []]),
 (73, .struct [(0, 1), (1, 1), (2, 1)] [zS, zI, .lst 3 []]),
 (162, .struct [(0, 1), (1, 1), (2, 1), (3, 1), (4, 1)] [zI, zS, zS, zS, .lst 3 []]),
 (50, .slice 162 5 80 (.agg [zI, zS, zS, zS, .lst 3 []])),
 (53, .struct [(0, 1), (1, 1), (2, 1), (3, 1), (4, 1), (5, 1), (6, 1), (7, 1), (8, 1)] [.lst 5 [], zI, zI, zI, zI, zI, zI, zI, .lst 2 []]),
 (98, .struct [(0, 1), (1, 1), (2, 1), (3, 5), (8, 5)] [zI, zI, zI, .agg [zI, zI, zS, zS, .lst 3 []], .agg [zI, zI, zI, .lst 1 [], .lst 2 []]]),
 (153, .struct [(0, 1), (1, 1), (2, 1), (3, 1), (4, 1)] [zI, zS, zS, zS, .lst 3 []]),
 (66, .slice 153 5 80 (.agg [zI, zS, zS, zS, .lst 3 []])),
 (69, .struct [(0, 1), (1, 1), (2, 1), (3, 1), (4, 1), (5, 1), (6, 1), (7, 1), (8, 1)] [.lst 5 [], zI, zI, zI, zI, zI, zI, zI, .lst 2 []]),
 (82, .struct [(0, 1), (1, 1), (2, 1), (3, 5), (8, 5)] [zI, zI, zI, .agg [zI, zI, zS, zS, .lst 3 []], .agg [zI, zI, zI, .lst 1 [], .lst 2 []]]),
 (37, .slice 53 9 104 (.agg [.lst 5 [], zI, zI, zI, zI, zI, zI, zI, .lst 2 []])),
 (38, .slice 88 3 48 (.agg [zS, zI, .lst 3 []])),
 (39, .slice 98 13 168 (.agg [zI, zI, zI, .agg [zI, zI, zS, zS, .lst 3 []], .agg [zI, zI, zI, .lst 1 [], .lst 2 []]])),
 (41, .struct [(0, 2), (2, 1), (3, 1), (4, 1), (5, 1)] [.agg [.lst 2 [], .lst 4 []], .lst 9 [], .lst 3 [], .lst 13 [], zI]),
 (30, .struct [(0, 2), (2, 1), (3, 1), (4, 1), (5, 1)] [.agg [.lst 2 [], .lst 4 []], .lst 9 [], .lst 3 [], .lst 13 [], zI]),
 (26, .slice 69 9 104 (.agg [.lst 5 [], zI, zI, zI, zI, zI, zI, zI, .lst 2 []])),
 (27, .slice 73 3 48 (.agg [zS, zI, .lst 3 []])),
 (28, .slice 82 13 168 (.agg [zI, zI, zI, .agg [zI, zI, zS, zS, .lst 3 []], .agg [zI, zI, zI, .lst 1 [], .lst 2 []]])),
 (219, .arr 9 19 1 zS),
 (241, .struct [(0, 1), (1, 1)] [zS, zI]),
 (243, .struct [(0, 2)] [.agg [zS, zI]]),
 (244, .struct [(0, 2)] [.agg [zS, zI]]),
 (247, .struct [(0, 2)] [.agg [zS, zI]]),
 (250, .struct [(0, 2)] [.agg [zS, zI]]),
 (246, .struct [(0, 2), (2, 1)] [.agg [zS, zI], .lst 3 []]),
 (249, .struct [(0, 2), (2, 1)] [.agg [zS, zI], zS]),
 (235, .struct [(0, 1), (1, 2)] [zI, .agg [.lst 1 [], .lst 2 []]]),
 (211, .struct [(0, 1), (1, 1)] [zI, .lst 2 []]),
 (272, .struct [(0, 1), (1, 1)] [.v .nilIface, .lst 1 []]),
 (238, .int .i64),
 ]
theorem aDY : zD Tryz.prog Th := by
 unfold Th
 have e2 : ∀ w, RDL w [zS, zI] Fa [.string ByteArray.empty, .int .i64 0] := fun w => xH (c1 := [_]) (yg rfl) (xH (c1 := [_]) (yg rfl) zF)
 have e3 : ∀ w, RDL w [zS, zI, zB] Fa [.string ByteArray.empty, .int .i64 0, .bool false] := fun w => xH (c1 := [_]) (yg rfl) (xH (c1 := [_]) (yg rfl) (xH (c1 := [_]) (yg rfl) zF))
 have e4 : ∀ w, RDL w [zS, zI, zI, zB] Fa [.string ByteArray.empty, .int .i64 0, .int .i64 0, .bool false] := fun w => xH (c1 := [_]) (yg rfl) (xH (c1 := [_]) (yg rfl) (xH (c1 := [_]) (yg rfl) (xH (c1 := [_]) (yg rfl) zF)))
 have eC : ∀ w, RDL w [.lst 1 [], .lst 2 []] Fa [.slice none 0 0, .slice none 0 0] := fun w => xH (c1 := [_]) (zu (by omega)) (xH (c1 := [_]) (zu (by omega)) zF)
 have eN : ∀ w, RDL w [zI, .lst 1 []] Fa [.int .i64 0, .slice none 0 0] := fun w => xH (c1 := [_]) (yg rfl) (xH (c1 := [_]) (zu (by omega)) zF)
 have eV : ∀ w, RDL w [zI, zI, zB] Fa [.int .i64 0, .int .i64 0, .bool false] := fun w => xH (c1 := [_]) (yg rfl) (xH (c1 := [_]) (yg rfl) (xH (c1 := [_]) (yg rfl) zF))
 have eW : ∀ w, RDL w [zS, zI, .lst 3 []] Fa [.string ByteArray.empty, .int .i64 0, .slice none 0 0] := fun w => xH (c1 := [_]) (yg rfl) (xH (c1 := [_]) (yg rfl) (xH (c1 := [_]) (zu (by omega)) zF))
 have eB : ∀ w, RDL w [.lst 2 [], .lst 4 []] Fa [.slice none 0 0, .slice none 0 0] := fun w => xH (c1 := [_]) (zu (by omega)) (xH (c1 := [_]) (zu (by omega)) zF)
 have eO : ∀ w, RDL w [zI, zI, zS, zS, .lst 3 []] Fa [.int .i64 0, .int .i64 0, .string ByteArray.empty, .string ByteArray.empty, .slice none 0 0] := fun w => xH (c1 := [_]) (yg rfl) (xH (c1 := [_]) (yg rfl) (xH (c1 := [_]) (yg rfl) (xH (c1 := [_]) (yg rfl) (xH (c1 := [_]) (zu (by omega)) zF))))
 have eR : ∀ w, RDL w [zI, zI, zI, .lst 1 [], .lst 2 []] Fa [.int .i64 0, .int .i64 0, .int .i64 0, .slice none 0 0, .slice none 0 0] := fun w => xH (c1 := [_]) (yg rfl) (xH (c1 := [_]) (yg rfl) (xH (c1 := [_]) (yg rfl) (xH (c1 := [_]) (zu (by omega)) (xH (c1 := [_]) (zu (by omega)) zF))))
 have eH : ∀ w, RDL w [zI, zS, zS, zS, .lst 3 []] Fa [.int .i64 0, .string ByteArray.empty, .string ByteArray.empty, .string ByteArray.empty, .slice none 0 0] := fun w => xH (c1 := [_]) (yg rfl) (xH (c1 := [_]) (yg rfl) (xH (c1 := [_]) (yg rfl) (xH (c1 := [_]) (yg rfl) (xH (c1 := [_]) (zu (by omega)) (zF)))))
 have eK : ∀ w, RDL w [.lst 5 [], zI, zI, zI, zI, zI, zI, zI, .lst 2 []] Fa [.slice none 0 0, .int .i64 0, .int .i64 0, .int .i64 0, .int .i64 0, .int .i64 0, .int .i64 0, .int .i64 0, .slice none 0 0] := fun w => xH (c1 := [_]) (zu (by omega)) (xH (c1 := [_]) (yg rfl) (xH (c1 := [_]) (yg rfl) (xH (c1 := [_]) (yg rfl) (xH (c1 := [_]) (yg rfl) (xH (c1 := [_]) (yg rfl) (xH (c1 := [_]) (yg rfl) (xH (c1 := [_]) (yg rfl) (xH (c1 := [_]) (zu (by omega)) (zF)))))))))
 have eM : ∀ w, RDL w [zI, zI, zI, .agg [zI, zI, zS, zS, .lst 3 []], .agg [zI, zI, zI, .lst 1 [], .lst 2 []]] Fa [.int .i64 0, .int .i64 0, .int .i64 0, .int .i64 0, .int .i64 0, .string ByteArray.empty, .string ByteArray.empty, .slice none 0 0, .int .i64 0, .int .i64 0, .int .i64 0, .slice none 0 0, .slice none 0 0] := fun w => xH (c1 := [_]) (yg rfl) (xH (c1 := [_]) (yg rfl) (xH (c1 := [_]) (yg rfl) (xH (c1 := [_, _, _, _, _]) (zJ (eO w)) (xH (c1 := [_, _, _, _, _]) (zJ (eR w)) zF))))
 have eG : ∀ w, RDL w [.lst 1 [], zI, zI] Fa [.slice none 0 0, .int .i64 0, .int .i64 0] := fun w => xH (c1 := [_]) (zu (by omega)) (xH (c1 := [_]) (yg rfl) (xH (c1 := [_]) (yg rfl) zF))
 refine xJ (aQT (b := 16) (by kernel_rfl) (by kernel_rfl)) (xJ (aIP (b := 8) (by kernel_rfl) (by kernel_rfl)) (xJ (aPi (b := 1) (by kernel_rfl) (by kernel_rfl)) (xJ (aIP (b := 1) (by kernel_rfl) (by kernel_rfl)) ?_)))
 refine xJ (zG (b := 24) (zv := .string ByteArray.empty) (by kernel_rfl) (by kernel_rfl) (by kernel_rfl) (by omega) rfl (fun w => yg rfl)) ?_
 refine xJ (xh (b := 24) (cs := #[.string ByteArray.empty, .int .i64 0]) (by kernel_rfl) (by kernel_rfl) (by kernel_rfl) (by decide) rfl e2) (xJ (zG (b := 24) (zv := .agg #[.string ByteArray.empty, .int .i64 0]) (by kernel_rfl) (by kernel_rfl) (by kernel_rfl) (by omega) rfl (fun w => zJ (e2 w))) ?_)
 refine xJ (xh (b := 24) (cs := #[.string ByteArray.empty, .int .i64 0]) (by kernel_rfl) (by kernel_rfl) (by kernel_rfl) (by decide) rfl e2) (xJ (zG (b := 24) (zv := .agg #[.string ByteArray.empty, .int .i64 0]) (by kernel_rfl) (by kernel_rfl) (by kernel_rfl) (by omega) rfl (fun w => zJ (e2 w))) ?_)
 refine xJ (xh (b := 32) (cs := #[.string ByteArray.empty, .int .i64 0, .bool false]) (by kernel_rfl) (by kernel_rfl) (by kernel_rfl) (by decide) rfl e3) (xJ (zG (b := 24) (zv := .agg #[.string ByteArray.empty, .int .i64 0, .bool false]) (by kernel_rfl) (by kernel_rfl) (by kernel_rfl) (by omega) rfl (fun w => zJ (e3 w))) ?_)
 refine xJ (xh (b := 32) (cs := #[.string ByteArray.empty, .int .i64 0, .bool false]) (by kernel_rfl) (by kernel_rfl) (by kernel_rfl) (by decide) rfl e3) (xJ (zG (b := 24) (zv := .agg #[.string ByteArray.empty, .int .i64 0, .bool false]) (by kernel_rfl) (by kernel_rfl) (by kernel_rfl) (by omega) rfl (fun w => zJ (e3 w))) ?_)
 refine xJ (zG (b := 24) (zv := .int .i64 0) (by kernel_rfl) (by kernel_rfl) (by kernel_rfl) (by omega) rfl (fun w => yg rfl)) ?_
 refine xJ (xh (b := 48) (cs := #[.slice none 0 0, .slice none 0 0]) (by kernel_rfl) (by kernel_rfl) (by kernel_rfl) (by decide) rfl eC) (xJ (zG (b := 24) (zv := .agg #[.slice none 0 0, .slice none 0 0]) (by kernel_rfl) (by kernel_rfl) (by kernel_rfl) (by omega) rfl (fun w => zJ (eC w))) ?_)
 refine xJ (xh (b := 48) (cs := #[.slice none 0 0, .slice none 0 0]) (by kernel_rfl) (by kernel_rfl) (by kernel_rfl) (by decide) rfl eC) (xJ (zG (b := 24) (zv := .agg #[.slice none 0 0, .slice none 0 0]) (by kernel_rfl) (by kernel_rfl) (by kernel_rfl) (by omega) rfl (fun w => zJ (eC w))) ?_)
 refine xJ (zG (b := 24) (zv := .bool false) (by kernel_rfl) (by kernel_rfl) (by kernel_rfl) (by omega) rfl (fun w => yg rfl)) ?_
 refine xJ (xh (b := 32) (cs := #[.int .i64 0, .slice none 0 0]) (by kernel_rfl) (by kernel_rfl) (by kernel_rfl) (by decide) rfl eN) (xJ (aQw (b := 8) (e := 289) (by kernel_rfl) (by kernel_rfl)) (xJ (zG (b := 24) (zv := .pointer none) (by kernel_rfl) (by kernel_rfl) (by kernel_rfl) (by omega) rfl (fun w => yg rfl)) ?_))
 refine xJ (aIl (b := 61) (be := 1) (ze := some (.bool false)) (cs := (List.replicate 61 (.bool false)).toArray) (by kernel_rfl) (by kernel_rfl) (by kernel_rfl) (by omega) (by omega) rfl (fun w => aDf (yg rfl) 61)) (xJ (aIl (b := 61) (be := 1) (ze := some (.bool false)) (cs := (List.replicate 61 (.bool false)).toArray) (by kernel_rfl) (by kernel_rfl) (by kernel_rfl) (by omega) (by omega) rfl (fun w => aDf (yg rfl) 61)) ?_)
 refine xJ (aPY (b := 8) (by kernel_rfl) (by kernel_rfl)) ?_
 refine xJ (aQl (b := 32) (c := 3) (zv := .agg #[.string ByteArray.empty, .int .i64 0, .bool false]) (by kernel_rfl) (by kernel_rfl) (by kernel_rfl) (fun S w hp B V => by unfold RV; exact ⟨[_, _, _], rfl, xO (c1 := [_]) (zR rfl) (xO (c1 := [_]) (zR rfl) (xO (c1 := [_]) (zR rfl) uL))⟩)) ?_
 refine xJ (xh (b := 40) (cs := #[.string ByteArray.empty, .int .i64 0, .int .i64 0, .bool false]) (by kernel_rfl) (by kernel_rfl) (by kernel_rfl) (by decide) rfl e4) (xJ (zG (b := 24) (zv := .agg #[.string ByteArray.empty, .int .i64 0, .int .i64 0, .bool false]) (by kernel_rfl) (by kernel_rfl) (by kernel_rfl) (by omega) rfl (fun w => zJ (e4 w))) ?_)
 refine xJ (xh (b := 40) (cs := #[.string ByteArray.empty, .int .i64 0, .int .i64 0, .bool false]) (by kernel_rfl) (by kernel_rfl) (by kernel_rfl) (by decide) rfl e4) (xJ (zG (b := 24) (zv := .agg #[.string ByteArray.empty, .int .i64 0, .int .i64 0, .bool false]) (by kernel_rfl) (by kernel_rfl) (by kernel_rfl) (by omega) rfl (fun w => zJ (e4 w))) ?_)
 refine xJ (xh (b := 48) (cs := #[.slice none 0 0, .slice none 0 0]) (by kernel_rfl) (by kernel_rfl) (by kernel_rfl) (by decide) rfl eB) ?_
 refine xJ (xh (b := 48) (cs := #[.slice none 0 0, .slice none 0 0]) (by kernel_rfl) (by kernel_rfl) (by kernel_rfl) (by decide) rfl eB) ?_
 refine xJ (xh (b := 72) (cs := #[.int .i64 0, .int .i64 0, .string ByteArray.empty, .string ByteArray.empty, .slice none 0 0]) (by kernel_rfl) (by kernel_rfl) (by kernel_rfl) (by decide) rfl eO) ?_
 refine xJ (xh (b := 72) (cs := #[.int .i64 0, .int .i64 0, .string ByteArray.empty, .string ByteArray.empty, .slice none 0 0]) (by kernel_rfl) (by kernel_rfl) (by kernel_rfl) (by decide) rfl eO) ?_
 refine xJ (xh (b := 72) (cs := #[.int .i64 0, .int .i64 0, .int .i64 0, .slice none 0 0, .slice none 0 0]) (by kernel_rfl) (by kernel_rfl) (by kernel_rfl) (by decide) rfl eR) ?_
 refine xJ (xh (b := 72) (cs := #[.int .i64 0, .int .i64 0, .int .i64 0, .slice none 0 0, .slice none 0 0]) (by kernel_rfl) (by kernel_rfl) (by kernel_rfl) (by decide) rfl eR) ?_
 refine xJ (xh (b := 24) (cs := #[.int .i64 0, .int .i64 0, .bool false]) (by kernel_rfl) (by kernel_rfl) (by kernel_rfl) (by decide) rfl eV) (xJ (zG (b := 24) (zv := .agg #[.int .i64 0, .int .i64 0, .bool false]) (by kernel_rfl) (by kernel_rfl) (by kernel_rfl) (by omega) rfl (fun w => zJ (eV w))) ?_)
 refine xJ (xh (b := 24) (cs := #[.int .i64 0, .int .i64 0, .bool false]) (by kernel_rfl) (by kernel_rfl) (by kernel_rfl) (by decide) rfl eV) (xJ (zG (b := 24) (zv := .agg #[.int .i64 0, .int .i64 0, .bool false]) (by kernel_rfl) (by kernel_rfl) (by kernel_rfl) (by omega) rfl (fun w => zJ (eV w))) ?_)
 refine xJ (xh (b := 48) (cs := #[.string ByteArray.empty, .int .i64 0, .slice none 0 0]) (by kernel_rfl) (by kernel_rfl) (by kernel_rfl) (by decide) rfl eW) ?_
 refine xJ (xh (b := 48) (cs := #[.string ByteArray.empty, .int .i64 0, .slice none 0 0]) (by kernel_rfl) (by kernel_rfl) (by kernel_rfl) (by decide) rfl eW) ?_
 refine xJ (xh (b := 80) (cs := #[.int .i64 0, .string ByteArray.empty, .string ByteArray.empty, .string ByteArray.empty, .slice none 0 0]) (by kernel_rfl) (by kernel_rfl) (by kernel_rfl) (by decide) rfl eH) ?_
 refine xJ (zG (b := 24) (zv := .agg #[.int .i64 0, .string ByteArray.empty, .string ByteArray.empty, .string ByteArray.empty, .slice none 0 0]) (by kernel_rfl) (by kernel_rfl) (by kernel_rfl) (by omega) rfl (fun w => zJ (eH w))) ?_
 refine xJ (xh (b := 104) (cs := #[.slice none 0 0, .int .i64 0, .int .i64 0, .int .i64 0, .int .i64 0, .int .i64 0, .int .i64 0, .int .i64 0, .slice none 0 0]) (by kernel_rfl) (by kernel_rfl) (by kernel_rfl) (by decide) rfl eK) ?_
 refine xJ (xh (b := 168) (cs := #[.int .i64 0, .int .i64 0, .int .i64 0, .int .i64 0, .int .i64 0, .string ByteArray.empty, .string ByteArray.empty, .slice none 0 0, .int .i64 0, .int .i64 0, .int .i64 0, .slice none 0 0, .slice none 0 0]) (by kernel_rfl) (by kernel_rfl) (by kernel_rfl) (by decide) rfl eM) ?_
 refine xJ (xh (b := 80) (cs := #[.int .i64 0, .string ByteArray.empty, .string ByteArray.empty, .string ByteArray.empty, .slice none 0 0]) (by kernel_rfl) (by kernel_rfl) (by kernel_rfl) (by decide) rfl eH) ?_
 refine xJ (zG (b := 24) (zv := .agg #[.int .i64 0, .string ByteArray.empty, .string ByteArray.empty, .string ByteArray.empty, .slice none 0 0]) (by kernel_rfl) (by kernel_rfl) (by kernel_rfl) (by omega) rfl (fun w => zJ (eH w))) ?_
 refine xJ (xh (b := 104) (cs := #[.slice none 0 0, .int .i64 0, .int .i64 0, .int .i64 0, .int .i64 0, .int .i64 0, .int .i64 0, .int .i64 0, .slice none 0 0]) (by kernel_rfl) (by kernel_rfl) (by kernel_rfl) (by decide) rfl eK) ?_
 refine xJ (xh (b := 168) (cs := #[.int .i64 0, .int .i64 0, .int .i64 0, .int .i64 0, .int .i64 0, .string ByteArray.empty, .string ByteArray.empty, .slice none 0 0, .int .i64 0, .int .i64 0, .int .i64 0, .slice none 0 0, .slice none 0 0]) (by kernel_rfl) (by kernel_rfl) (by kernel_rfl) (by decide) rfl eM) ?_
 refine xJ (zG (b := 24) (zv := .agg #[.slice none 0 0, .int .i64 0, .int .i64 0, .int .i64 0, .int .i64 0, .int .i64 0, .int .i64 0, .int .i64 0, .slice none 0 0]) (by kernel_rfl) (by kernel_rfl) (by kernel_rfl) (by omega) rfl (fun w => zJ (eK w))) ?_
 refine xJ (zG (b := 24) (zv := .agg #[.string ByteArray.empty, .int .i64 0, .slice none 0 0]) (by kernel_rfl) (by kernel_rfl) (by kernel_rfl) (by omega) rfl (fun w => zJ (eW w))) ?_
 refine xJ (zG (b := 24) (zv := .agg #[.int .i64 0, .int .i64 0, .int .i64 0, .int .i64 0, .int .i64 0, .string ByteArray.empty, .string ByteArray.empty, .slice none 0 0, .int .i64 0, .int .i64 0, .int .i64 0, .slice none 0 0, .slice none 0 0]) (by kernel_rfl) (by kernel_rfl) (by kernel_rfl) (by omega) rfl (fun w => zJ (eM w))) ?_
 refine xJ (xh (b := 128) (cs := #[.slice none 0 0, .slice none 0 0, .slice none 0 0, .slice none 0 0, .slice none 0 0, .int .i64 0]) (by kernel_rfl) (by kernel_rfl) (by kernel_rfl) (by decide) rfl (fun w => xH (c1 := [_, _]) (zJ (eB w)) (xH (c1 := [_]) (zu (by omega)) (xH (c1 := [_]) (zu (by omega)) (xH (c1 := [_]) (zu (by omega)) (xH (c1 := [_]) (yg rfl) zF)))))) ?_
 refine xJ (xh (b := 128) (cs := #[.slice none 0 0, .slice none 0 0, .slice none 0 0, .slice none 0 0, .slice none 0 0, .int .i64 0]) (by kernel_rfl) (by kernel_rfl) (by kernel_rfl) (by decide) rfl (fun w => xH (c1 := [_, _]) (zJ (eB w)) (xH (c1 := [_]) (zu (by omega)) (xH (c1 := [_]) (zu (by omega)) (xH (c1 := [_]) (zu (by omega)) (xH (c1 := [_]) (yg rfl) zF)))))) ?_
 refine xJ (zG (b := 24) (zv := .agg #[.slice none 0 0, .int .i64 0, .int .i64 0, .int .i64 0, .int .i64 0, .int .i64 0, .int .i64 0, .int .i64 0, .slice none 0 0]) (by kernel_rfl) (by kernel_rfl) (by kernel_rfl) (by omega) rfl (fun w => zJ (eK w))) ?_
 refine xJ (zG (b := 24) (zv := .agg #[.string ByteArray.empty, .int .i64 0, .slice none 0 0]) (by kernel_rfl) (by kernel_rfl) (by kernel_rfl) (by omega) rfl (fun w => zJ (eW w))) ?_
 refine xJ (zG (b := 24) (zv := .agg #[.int .i64 0, .int .i64 0, .int .i64 0, .int .i64 0, .int .i64 0, .string ByteArray.empty, .string ByteArray.empty, .slice none 0 0, .int .i64 0, .int .i64 0, .int .i64 0, .slice none 0 0, .slice none 0 0]) (by kernel_rfl) (by kernel_rfl) (by kernel_rfl) (by omega) rfl (fun w => zJ (eM w))) ?_
 refine xJ (aIl (b := 304) (be := 16) (ze := some (.string ByteArray.empty)) (cs := (List.replicate 19 (.string ByteArray.empty)).toArray) (by kernel_rfl) (by kernel_rfl) (by kernel_rfl) (by omega) (by omega) rfl (fun w => aDf (yg rfl) 19)) ?_
 refine xJ (xh (b := 24) (cs := #[.string ByteArray.empty, .int .i64 0]) (by kernel_rfl) (by kernel_rfl) (by kernel_rfl) (by decide) rfl e2) ?_
 refine xJ (xh (b := 24) (cs := #[.string ByteArray.empty, .int .i64 0]) (by kernel_rfl) (by kernel_rfl) (by kernel_rfl) (by decide) rfl (fun w => xH (c1 := [_, _]) (zJ (e2 w)) zF)) ?_
 refine xJ (xh (b := 24) (cs := #[.string ByteArray.empty, .int .i64 0]) (by kernel_rfl) (by kernel_rfl) (by kernel_rfl) (by decide) rfl (fun w => xH (c1 := [_, _]) (zJ (e2 w)) zF)) ?_
 refine xJ (xh (b := 24) (cs := #[.string ByteArray.empty, .int .i64 0]) (by kernel_rfl) (by kernel_rfl) (by kernel_rfl) (by decide) rfl (fun w => xH (c1 := [_, _]) (zJ (e2 w)) zF)) ?_
 refine xJ (xh (b := 24) (cs := #[.string ByteArray.empty, .int .i64 0]) (by kernel_rfl) (by kernel_rfl) (by kernel_rfl) (by decide) rfl (fun w => xH (c1 := [_, _]) (zJ (e2 w)) zF)) ?_
 refine xJ (xh (b := 48) (cs := #[.string ByteArray.empty, .int .i64 0, .slice none 0 0]) (by kernel_rfl) (by kernel_rfl) (by kernel_rfl) (by decide) rfl (fun w => xH (c1 := [_, _]) (zJ (e2 w)) (xH (c1 := [_]) (zu (by omega)) zF))) ?_
 refine xJ (xh (b := 40) (cs := #[.string ByteArray.empty, .int .i64 0, .string ByteArray.empty]) (by kernel_rfl) (by kernel_rfl) (by kernel_rfl) (by decide) rfl (fun w => xH (c1 := [_, _]) (zJ (e2 w)) (xH (c1 := [_]) (yg rfl) zF))) ?_
 refine xJ (xh (b := 56) (cs := #[.int .i64 0, .slice none 0 0, .slice none 0 0]) (by kernel_rfl) (by kernel_rfl) (by kernel_rfl) (by decide) rfl (fun w => xH (c1 := [_]) (yg rfl) (xH (c1 := [_, _]) (zJ (eC w)) zF))) ?_
 refine xJ (xh (b := 32) (cs := #[.int .i64 0, .slice none 0 0]) (by kernel_rfl) (by kernel_rfl) (by kernel_rfl) (by decide) rfl (fun w => xH (c1 := [_]) (yg rfl) (xH (c1 := [_]) (zu (by omega)) zF))) ?_
 refine xJ (xh (b := 40) (cs := #[.nilIface, .slice none 0 0]) (by kernel_rfl) (by kernel_rfl) (by kernel_rfl) (by decide) rfl (fun w => xH (c1 := [_]) (yg rfl) (xH (c1 := [_]) (zu (by omega)) zF))) ?_
 refine xJ (aIP (b := 8) (by kernel_rfl) (by kernel_rfl)) ?_
 exact aPf
end Go.Proofs.YtkfllfhcjegfoaaGreatDoor.AM
namespace Go.Proofs.YtkfllfhcjegfoaaGreatDoor
open Go.RowKit
theorem xQ {a b : Bool} (h : a = b) : Ending.returned (.bool a) = .returned (.bool b) := by rw [h]
theorem toList_inj {a b : ByteArray} (h : a.toList = b.toList) : a = b := by
 have e : a.data.toList = b.data.toList := by simpa [ByteArray.toList_eq] using h
 cases a; cases b; simp at e; simp [e]
theorem uQ (a b : ByteArray) : (a.toList == b.toList) = decide (a = b) := by
 rw [Bool.eq_iff_iff]; simp
 exact ⟨toList_inj, fun h => by rw [h]⟩
theorem _root_.Go.RowKit.Below.drewN {B : Nat} {a w : World} (h : Below B a w) (n : Nat) : Below B a (w.drewN n) := ⟨h.os, h.tape, h.output, h.size, h.block⟩
theorem yH {w wx w1 : World} (hb : Below w.heap.size w wx) (h1 : Below wx.heap.size wx w1) : Below w.heap.size w w1 := hb.trans (h1.mono hb.size)
theorem cellS {w wx : World} {b o : Nat} {u : Value} (hb : Below w.heap.size w wx) (hl : b < w.heap.size) (h : w.cell? ⟨b, o, none⟩ = some u) : wx.cell? ⟨b, o, none⟩ = some u := (hb.cell (p := ⟨b, o, none⟩) hl).trans h
theorem cellW {w wx : World} {b o : Nat} {u : Value} (hb : Below w.heap.size w wx) (hl : b < w.heap.size) (h : wx.cell? ⟨b, o, none⟩ = some u) : w.cell? ⟨b, o, none⟩ = some u := (hb.cell (p := ⟨b, o, none⟩) hl).symm.trans h
structure Aft (w : World) where
 at_ : World
 below : Below w.heap.size w at_
instance Aft.some_ (w : World) : Nonempty (Aft w) := ⟨⟨w, Below.refl _ _⟩⟩
theorem xD {P : Program} {id : Nat} {Q : Exit → Act → World → Prop} {a : Act} {w : World} {l : List Oper} (hm : P.follows .mixedOrders = true) (hB : Region.lexB .any l.toArray = true)
 (h : wpQuiet P l.toArray (fun w' => ∃ y : Aft w, w' = y.at_) (fun a' => ∀ w', (∃ y : Aft w, w' = y.at_) → Q .normal a' w') l a) : (Code.region id l.toArray true).wp P Q a w :=
 wp_region_quiet (C := fun w' => ∃ y : Aft w, w' = y.at_) hm hB ⟨⟨_, (Below.refl w.heap.size w).drew⟩, rfl⟩ (by simpa using h)
theorem Aft.cell {w : World} {b o : Nat} {u : Value} (hl : b < w.heap.size) (h : w.cell? ⟨b, o, none⟩ = some u) (y : Aft w) : y.at_.cell? ⟨b, o, none⟩ = some u := cellS y.below hl h
theorem Aft.call {P : Program} {f : FuncId} {args : Array Value} {w : World} {y : Aft w} {v : Value} (h : Calls P f args y.at_ fun e w' => e = .returned v ∧ Below y.at_.heap.size y.at_ w') :
 Calls P f args y.at_ fun e w'' => e = .returned v ∧ ∃ y' : Aft w, w'' = y'.at_ :=
 h.mono fun _ _ ⟨he, hb⟩ => ⟨he, ⟨_, yH y.below hb⟩, rfl⟩
theorem Aft.same {P : Program} {f : FuncId} {args : Array Value} {w : World} {y : Aft w} {v : Value} (h : Calls P f args y.at_ fun e w' => e = .returned v ∧ y.at_ = w') :
 Calls P f args y.at_ fun e w'' => e = .returned v ∧ ∃ y' : Aft w, w'' = y'.at_ :=
 h.mono fun _ _ ⟨he, hb⟩ => ⟨he, y, hb.symm⟩
def Rd (w : World) (sz : Nat) (A : Option Addr) (n : Nat) (xs : List Value) : Prop :=
 xs.length = n * sz ∧ (0 < n → ∃ b off, A = some ⟨b, off, none⟩ ∧ b < w.heap.size ∧ ∀ j u, xs[j]? = some u → w.cell? ⟨b, off + j, none⟩ = some u)
section
variable {w w' : World} {sz n : Nat} {A : Option Addr} {xs : List Value}
theorem Rd.nil : Rd w sz A 0 [] := ⟨by simp, fun h => absurd h (by omega)⟩
theorem Rd.below {B : Nat} (h : Rd w sz A n xs) (hb : Below B w w') (hB : w.heap.size ≤ B) : Rd w' sz A n xs :=
 ⟨h.1, fun hn => by
  obtain ⟨b, off, e, hlt, hc⟩ := h.2 hn
  exact ⟨b, off, e, Nat.lt_of_lt_of_le hlt hb.size, fun j u hu => (hb.cell (p := ⟨b, off + j, none⟩) (by show b < B; omega)).trans (hc j u hu)⟩⟩
theorem Rd.alloc (h : Rd w sz A n xs) (o : Obj) : Rd (w.alloc o) sz A n xs := h.below ((Below.refl _ _).alloc (Nat.le_refl _) o) (Nat.le_refl _)
theorem Rd.drew (h : Rd w sz A n xs) : Rd w.drew sz A n xs := h
theorem Rd.drewN (h : Rd w sz A n xs) (k : Nat) : Rd (w.drewN k) sz A n xs := h
end
theorem wo {P : Program} (t e : TypeId) (i : TypeInfo) (z : Value) (ht : P.underlying t = some (.slice e)) (hi : P.info? e = some i) (hz : i.zero = some z)
 (kl kc : IntKind) (n c : Nat) (hnc : n ≤ c) (hbytes : i.bytes * c ≤ 281474976710656) (h63 : c ≤ 9223372036854775807) (w : World) :
 (Instr.makeSlice t (.int kl (n : Int)) (.int kc (c : Int))).run P w = .ok (.slice (some ⟨w.heap.size, 0, none⟩) n c) (w.alloc (.cells (madeCells z.cells (c * i.size)) e)) := by
 have hb : (i.bytes : Int) * (c : Int) ≤ 281474976710656 := by
  have h : ((i.bytes * c : Nat) : Int) ≤ 281474976710656 := by omega
  rwa [Int.natCast_mul] at h
 have hr := run_make (P := P) w t e i z ht hi hz kl kc n c (by omega) (by omega) hb (by omega)
 simp only [Int.toNat_natCast] at hr
 exact hr
def Blk (w : World) (g : Nat) (t : TypeId) (cs : Array Value) : Prop := w.heap[g]? = some (.cells cs t (0, 0))
section
variable {w w' : World} {g : Nat} {t : TypeId} {cs : Array Value}
theorem Blk.lt (h : Blk w g t cs) : g < w.heap.size := by
 rcases Nat.lt_or_ge g w.heap.size with hlt | hge
 · exact hlt
 · unfold Blk at h; rw [Array.getElem?_eq_none hge] at h; cases h
theorem Blk.cell (h : Blk w g t cs) (i : Nat) : w.cell? ⟨g, i, none⟩ = cs[i]? := cell_of_row w g i cs t (0, 0) h
theorem Blk.frozen (h : Blk w g t cs) (i : Nat) : w.frozen? ⟨g, i, none⟩ = false := frozen_of_row w g i cs t h
theorem Blk.new (w : World) (t : TypeId) (cs : Array Value) : Blk (w.alloc (.cells cs t)) w.heap.size t cs := heap_alloc_new w _
theorem Blk.drew (h : Blk w g t cs) : Blk w.drew g t cs := h
theorem Blk.drewN (h : Blk w g t cs) (n : Nat) : Blk (w.drewN n) g t cs := h
theorem Blk.alloc (h : Blk w g t cs) (o : Obj) : Blk (w.alloc o) g t cs := (Below.heap_alloc w o g h.lt).trans h
theorem Blk.set_ (h : Blk w g t cs) (i : Nat) (u : Value) : Blk (w.setCell ⟨g, i, none⟩ u) g t (cs.setIfInBounds i u) := by
 unfold Blk at h ⊢
 simp [World.setCell, Array.getElem?_modify, h]
theorem Blk.far (h : Blk w g t cs) {p : Addr} (hp : g ≠ p.block) (u : Value) : Blk (w.setCell p u) g t cs := (Below.heap_setCell w p u g hp).trans h
theorem Blk.below {B : Nat} (h : Blk w g t cs) (hb : Below B w w') (hg : g < B) : Blk w' g t cs := (hb.block g hg).trans h
theorem Blk.kept (h : Blk w g t cs) (hb : Below w.heap.size w w') : Blk w' g t cs := (hb.block g h.lt).trans h
theorem Blk.own (h : Blk w g t cs) {base sz n cap : Nat} {xs : List Value} (hb : base ≤ g) (hc : n ≤ cap) (hm : cap ≤ maxLen) (hs : cs.size = cap * sz) (ht : cs.toList.take (n * sz) = xs) : w.ownsRow base t sz (.slice (some ⟨g, 0, none⟩) n cap) n xs :=
 ⟨by rw [← ht, List.length_take, Array.length_toList, hs, Nat.min_eq_left (Nat.mul_le_mul_right _ hc)], .inr ⟨g, cap, cs, rfl, hb, h, hc, hm, hs, ht⟩⟩
end
theorem ownsRow_below {w w' : World} {B base : Nat} {e : TypeId} {sz n : Nat} {v : Value} {xs : List Value} (h : w.ownsRow base e sz v n xs) (hb : Below B w w') (hB : w.heap.size ≤ B) : w'.ownsRow base e sz v n xs := by
 refine ⟨h.1, ?_⟩
 rcases h.2 with hn | ⟨g, cap, cur, hv, hbg, hg, r⟩
 · exact .inl hn
 · exact .inr ⟨g, cap, cur, hv, hbg, (hb.block g (Nat.lt_of_lt_of_le (Array.getElem?_eq_some_iff.1 hg).1 hB)).trans hg, r⟩
theorem aIN {w : World} {base base' : Nat} {e : TypeId} {sz n : Nat} {v : Value} {xs : List Value} (h : w.ownsRow base e sz v n xs) (hb : base' ≤ base) : w.ownsRow base' e sz v n xs := by
 refine ⟨h.1, ?_⟩
 rcases h.2 with hn | ⟨g, cap, cur, hv, hbg, r⟩
 · exact .inl hn
 · exact .inr ⟨g, cap, cur, hv, Nat.le_trans hb hbg, r⟩
theorem aNV (cs : Array Value) (k : Nat) (u v : Value) (h : k * 2 + 1 < cs.size) : ((cs.setIfInBounds (k * 2) u).setIfInBounds (k * 2 + 1) v).toList.take ((k + 1) * 2) = cs.toList.take (k * 2) ++ [u, v] := by
 rw [show (k + 1) * 2 = k * 2 + 1 + 1 from by omega]
 rw [List.take_succ_eq_append_getElem (by simpa using h), List.take_succ_eq_append_getElem (by simp; omega)]
 simp [List.take_set_of_le]
theorem aMi (cs : Array Value) (k : Nat) (u v z : Value) (h : k * 3 + 2 < cs.size) : (((cs.setIfInBounds (k * 3) u).setIfInBounds (k * 3 + 1) v).setIfInBounds (k * 3 + 2) z).toList.take ((k + 1) * 3) = cs.toList.take (k * 3) ++ [u, v, z] := by
 rw [show (k + 1) * 3 = k * 3 + 1 + 1 + 1 from by omega]
 rw [List.take_succ_eq_append_getElem (by simpa using h), List.take_succ_eq_append_getElem (by simp; omega), List.take_succ_eq_append_getElem (by simp; omega)]
 simp [List.take_set_of_le]
abbrev Ent := ByteArray × Int
def aQj (e : Ent) : List Value := [.string e.1, .int .i64 e.2]
def xG (es : List Ent) : List Value := es.flatMap aQj
theorem vG (e : Ent) (es : List Ent) : xG (e :: es) = .string e.1 :: .int .i64 e.2 :: xG es := rfl
theorem qJ (a b : List Ent) : xG (a ++ b) = xG a ++ xG b := by simp [xG]
theorem yU (es : List Ent) : (xG es).length = es.length * 2 := by
 induction es with
 | nil => rfl
 | cons e r ih => rw [vG, List.length_cons, List.length_cons, ih, List.length_cons]; omega
theorem aAp (es : List Ent) (k : Nat) : (xG es).take (k * 2) = xG (es.take k) := by
 induction es generalizing k with
 | nil => simp [xG]
 | cons e r ih =>
  match k with
  | 0 => simp [xG]
  | k + 1 => rw [show (k + 1) * 2 = k * 2 + 1 + 1 from by omega, vG, List.take_succ_cons, List.take_succ_cons, ih, List.take_succ_cons, vG]
theorem jG (es : List Ent) (k : Nat) : (xG es).drop (k * 2) = xG (es.drop k) := by
 induction es generalizing k with
 | nil => simp [xG]
 | cons e r ih =>
  match k with
  | 0 => simp
  | k + 1 => rw [show (k + 1) * 2 = k * 2 + 1 + 1 from by omega, vG, List.drop_succ_cons, List.drop_succ_cons, ih, List.drop_succ_cons]
theorem aGo (es : List Ent) (k : Nat) (h : k < es.length) : (xG es)[k * 2]? = some (.string es[k].1) := by
 have := jG es k
 rw [List.drop_eq_getElem_cons h, vG] at this
 have h2 : ((xG es).drop (k * 2))[0]? = some (.string es[k].1) := by rw [this]; rfl
 rwa [List.getElem?_drop, Nat.add_zero] at h2
theorem aGs (es : List Ent) (k : Nat) (h : k < es.length) : (xG es)[k * 2 + 1]? = some (.int .i64 es[k].2) := by
 have := jG es k
 rw [List.drop_eq_getElem_cons h, vG] at this
 have h2 : ((xG es).drop (k * 2))[1]? = some (.int .i64 es[k].2) := by rw [this]; rfl
 rwa [List.getElem?_drop] at h2
theorem Rd.ent {w wr : World} {A : Option Addr} {n : Nat} {es : List Ent} (h : Rd w 2 A n (xG es)) (hb : Below w.heap.size w wr) {k : Nat} (hk : k < es.length) :
 ∃ b off, A = some ⟨b, off, none⟩ ∧ b < w.heap.size ∧ b < wr.heap.size ∧ wr.cell? ⟨b, off + k * 2, none⟩ = some (.string es[k].1) ∧ wr.cell? ⟨b, off + k * 2 + 1, none⟩ = some (.int .i64 es[k].2) := by
 have hl := yU es
 obtain ⟨b, off, e, hlt, hc⟩ := h.2 (by have := h.1; omega)
 refine ⟨b, off, e, hlt, Nat.lt_of_lt_of_le hlt hb.size, ?_, ?_⟩
 · exact (hb.cell (p := ⟨b, off + k * 2, none⟩) hlt).trans (hc _ _ (aGo es k hk))
 · exact (hb.cell (p := ⟨b, off + k * 2 + 1, none⟩) hlt).trans (hc _ _ (aGs es k hk))
theorem Rd.len {w : World} {A : Option Addr} {n : Nat} {es : List Ent} (h : Rd w 2 A n (xG es)) : es.length = n := by
 have h1 := yU es; have h2 := h.1; omega
structure Edt where
 key : ByteArray
 val : Int
 gone : Bool
def aR5 (e : Edt) : List Value := [.string e.key, .int .i64 e.val, .bool e.gone]
def yD (es : List Edt) : List Value := es.flatMap aR5
theorem qQ (e : Edt) (es : List Edt) : yD (e :: es) = .string e.key :: .int .i64 e.val :: .bool e.gone :: yD es := rfl
theorem aDS (a b : List Edt) : yD (a ++ b) = yD a ++ yD b := by simp [yD]
theorem jA (es : List Edt) : (yD es).length = es.length * 3 := by
 induction es with
 | nil => rfl
 | cons e r ih => rw [qQ, List.length_cons, List.length_cons, List.length_cons, ih, List.length_cons]; omega
theorem aLM (es : List Edt) (k : Nat) : (yD es).drop (k * 3) = yD (es.drop k) := by
 induction es generalizing k with
 | nil => simp [yD]
 | cons e r ih =>
  match k with
  | 0 => simp
  | k + 1 => rw [show (k + 1) * 3 = k * 3 + 1 + 1 + 1 from by omega, qQ, List.drop_succ_cons, List.drop_succ_cons, List.drop_succ_cons, ih, List.drop_succ_cons]
theorem aHh (es : List Edt) (k : Nat) (h : k < es.length) : (yD es)[k * 3]? = some (.string es[k].key) ∧ (yD es)[k * 3 + 1]? = some (.int .i64 es[k].val) ∧ (yD es)[k * 3 + 2]? = some (.bool es[k].gone) := by
 have := aLM es k
 rw [List.drop_eq_getElem_cons h, qQ] at this
 refine ⟨?_, ?_, ?_⟩
 · have h2 : ((yD es).drop (k * 3))[0]? = some (.string es[k].key) := by rw [this]; rfl
   rwa [List.getElem?_drop, Nat.add_zero] at h2
 · have h2 : ((yD es).drop (k * 3))[1]? = some (.int .i64 es[k].val) := by rw [this]; rfl
   rwa [List.getElem?_drop] at h2
 · have h2 : ((yD es).drop (k * 3))[2]? = some (.bool es[k].gone) := by rw [this]; rfl
   rwa [List.getElem?_drop] at h2
theorem Rd.edt {w wr : World} {A : Option Addr} {n : Nat} {es : List Edt} (h : Rd w 3 A n (yD es)) (hb : Below w.heap.size w wr) {k : Nat} (hk : k < es.length) :
 ∃ b off, A = some ⟨b, off, none⟩ ∧ b < w.heap.size ∧ b < wr.heap.size ∧ wr.cell? ⟨b, off + k * 3, none⟩ = some (.string es[k].key) ∧ wr.cell? ⟨b, off + k * 3 + 1, none⟩ = some (.int .i64 es[k].val) ∧ wr.cell? ⟨b, off + k * 3 + 2, none⟩ = some (.bool es[k].gone) := by
 have hl := jA es
 obtain ⟨b, off, e, hlt, hc⟩ := h.2 (by have := h.1; omega)
 obtain ⟨e1, e2, e3⟩ := aHh es k hk
 refine ⟨b, off, e, hlt, Nat.lt_of_lt_of_le hlt hb.size, ?_, ?_, ?_⟩
 · exact (hb.cell (p := ⟨b, off + k * 3, none⟩) hlt).trans (hc _ _ e1)
 · exact (hb.cell (p := ⟨b, off + k * 3 + 1, none⟩) hlt).trans (hc _ _ e2)
 · exact (hb.cell (p := ⟨b, off + k * 3 + 2, none⟩) hlt).trans (hc _ _ e3)
theorem Rd.elen {w : World} {A : Option Addr} {n : Nat} {es : List Edt} (h : Rd w 3 A n (yD es)) : es.length = n := by
 have h1 := jA es; have h2 := h.1; omega
end Go.Proofs.YtkfllfhcjegfoaaGreatDoor
