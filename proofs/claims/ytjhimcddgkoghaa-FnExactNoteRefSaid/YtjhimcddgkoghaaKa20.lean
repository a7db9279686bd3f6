/- Texts of the machine over data, folded. -/
import Derived.Test.YtjhimcddgkoghaaKa5
import Derived.Test.YtjhimcddgkoghaaKa18
import Derived.Test.YtjhimcddgkoghaaKa11
import Derived.Test.YtjhimcddgkoghaaKa19
import Derived.Test.YtjhimcddgkoghaaKa14
/- Watches noted, taken from and drained, on both sides. -/
namespace Go.Proofs.Ytjhimcddgkoghaa.AM
open Go Go.RowKit
set_option linter.unusedVariables false
set_option linter.unusedSimpArgs false
set_option maxRecDepth 100000
theorem in_1 {l : Nat} {ob : OB} : ∀ m ∈ ([(l, some ob)] : List (Nat × Option OB)).map (·.1), inNu [(l, some ob)] m := fun m hm => by
  simp at hm; subst hm; exact in1 _ _
/-! ### what reads so reads otherwise too -/
section
variable {P : Program} {f : FuncId} {args args' : List AV} {rin rout : List OB} {out : Out}
theorem acg_arg (h : ACG P f args rin rout out) (hs : ∀ S w hp B V us, RVs S w hp B V args' us → RVs S w hp B V args us) : ACG P f args' rin rout out :=
  ⟨h.1, fun w S0 B0 V0 T0 vs hS hr hv => h.2 w S0 B0 V0 T0 vs hS hr (hs _ _ _ _ _ _ hv)⟩
end
/-- a watch whose fields may be set to what is owned -/
def watM (w : Wat) : AV := .mix [.v (.string w.name), .v (.int .i64 w.seen), .rd (.lst 3 (w.queue.map evtA))]
/-- a watch whose queue is a row of the call's own -/
def watO (w : Wat) (l : Nat) : AV := .mix [.v (.string w.name), .v (.int .i64 w.seen), .own l]
abbrev evtO (q : List Evt) : OB := ⟨185, 3, q.map evtA⟩
theorem watM_rv {w : Wat} {S : Nat → Prop} {wd : World} {hp : Nat → Option OB} {B : Nat → Nat} {V : Nat → Value} {u : Value} (h : RV S wd hp B V (watA w) u) : RV S wd hp B V (watM w) u := by
  unfold watA at h
  unfold RV at h
  obtain ⟨cs, rfl, h⟩ := h
  unfold RL at h
  obtain ⟨c1, d1, rfl, h1, h⟩ := h
  unfold RL at h
  obtain ⟨c2, d2, rfl, h2, h⟩ := h
  unfold RL at h
  obtain ⟨c3, d3, rfl, h3, h⟩ := h
  unfold RL at h
  subst h
  unfold watM RV
  refine ⟨_, rfl, ?_⟩
  unfold ROs
  refine ⟨c1, _, Fa, Fa, rfl, Split.l0 noF, ?_, ?_⟩
  · unfold RO1; unfold RD; unfold RA at h1; exact ⟨noF, h1⟩
  unfold ROs
  refine ⟨c2, _, Fa, Fa, rfl, Split.l0 noF, ?_, ?_⟩
  · unfold RO1; unfold RD; unfold RA at h2; exact ⟨noF, h2⟩
  unfold ROs
  refine ⟨c3, _, Fa, Fa, rfl, Split.l0 noF, ?_, ?_⟩
  · unfold RO1; exact ⟨noF, h3⟩
  unfold ROs; exact ⟨rfl, noF⟩
theorem ac_watM {P : Program} {f : FuncId} {w : Wat} {out : Out} (h : AC P f [watM w] out) : AC P f [watA w] out := acg_arg h fun S wd hp B V us hv => by
  unfold RVs at hv ⊢
  obtain ⟨u, us', rfl, h1, h2⟩ := hv
  exact ⟨u, us', rfl, watM_rv h1, h2⟩
theorem ac_watM2 {P : Program} {f : FuncId} {w : Wat} {x : AV} {out : Out} (h : AC P f [watM w, x] out) : AC P f [watA w, x] out := acg_arg h fun S wd hp B V us hv => by
  unfold RVs at hv ⊢
  obtain ⟨u, us', rfl, h1, h2⟩ := hv
  exact ⟨u, us', rfl, watM_rv h1, h2⟩
/-! ### ends -/
section
variable {s : St} {Θ : Tab}
theorem cellO {a t l : Nat} {ob : OB} {t' : Option Nat} {xs : List AV} (h1 : s.sl a = .optr l 0 [] 0) (ho : s.hp l = some ob) (hop : ob.e.open_ = false) (hoe : openE ob.e ob.xs 0 = some (.o t' 0 (.mix xs))) (hp : plainM xs = true) (hk : ((Θ.look t).known && (Θ.look t).isAgg && Nat.beq (aszs xs) (Θ.look t).size) = true) : rvA s (.cell a t) = .mix xs ∧ rvOK Θ s (.cell a t) := by
  have hof : ofO (.mix xs) = some (.mix xs) := by simp [ofO, hp]
  have hr : rvA s (.cell a t) = .mix xs := by
    simp only [rvA, h1, ho, hop, hoe, cond_false, hof]; rfl
  simp only [Bool.and_eq_true] at hk
  exact ⟨hr, hk.1.1, by rw [hr]; exact hk.1.2.symm, by rw [hr]; exact Nat.eq_of_beq_eq_true hk.2, .inl ⟨l, ob, _, h1, ho, .inr ⟨hop, _, _, hoe, hof⟩⟩⟩
theorem retA_watO {w : Wat} {L : Nat} {Ls : List Nat} {j : Nat} (hj : Ls.getD j 0 = L) (hlt : Nat.blt j Ls.length = true) : retA s Ls (watO w L) (watO w j) :=
  .inl ⟨by unfold watO; simp [mapA, mapAL, ← hj], by unfold watO; simp only [AV.within, withinL, hlt]; rfl⟩
theorem retA_v {v : Value} {Ls : List Nat} : retA s Ls (.v v) (.v v) := .inl ⟨rfl, rfl⟩
/-- a watch with a queue of its own -/
theorem r_wat {a l L : Nat} {ob : OB} {t' : Option Nat} {w : Wat} {q : OB} {t : Nat} (h1 : s.sl a = .optr l 0 [] 0) (ho : s.hp l = some ob) (hop : ob.e.open_ = false) (hoe : openE ob.e ob.xs 0 = some (.o t' 0 (watO w L))) (hq : s.hp L = some q) (hk : ((Θ.look t).known && (Θ.look t).isAgg && Nat.beq 3 (Θ.look t).size) = true) (hok : okL L = true := by rfl) (hsh : q.e.shut = true := by rfl) :
    RetQ Θ [.cell a t] ⟨watO w 0, [q]⟩ .ret s := by
  obtain ⟨c1, c2⟩ := cellO (Θ := Θ) (t := t) h1 ho hop hoe rfl hk
  exact ⟨trivial, [L], by simp, ⟨⟨hq, hok, hsh⟩, trivial⟩, ⟨c2, trivial⟩, trivial, ⟨by rw [c1]; exact retA_watO rfl rfl, trivial⟩⟩
theorem r_watV {a l L t2 : Nat} {ob : OB} {t' : Option Nat} {w : Wat} {q : OB} {t : Nat} {v : Value} (h1 : s.sl a = .optr l 0 [] 0) (ho : s.hp l = some ob) (hop : ob.e.open_ = false) (hoe : openE ob.e ob.xs 0 = some (.o t' 0 (watO w L))) (hq : s.hp L = some q) (hk : ((Θ.look t).known && (Θ.look t).isAgg && Nat.beq 3 (Θ.look t).size) = true) (hv : s.sl t2 = .v v) (hok : okL L = true := by rfl) (hsh : q.e.shut = true := by rfl) :
    RetQ Θ [.cell a t, .tmp t2] ⟨.tup [watO w 0, .v v], [q]⟩ .ret s := by
  obtain ⟨c1, c2⟩ := cellO (Θ := Θ) (t := t) h1 ho hop hoe rfl hk
  exact ⟨trivial, [L], by simp, ⟨⟨hq, hok, hsh⟩, trivial⟩, ⟨c2, trivial, trivial⟩, ⟨_, rfl⟩, ⟨by rw [c1]; exact retA_watO rfl rfl, by show retA _ _ (s.sl t2) _; rw [hv]; exact retA_v, trivial⟩⟩
end
section
variable {P : Program} {Θ : Tab} {s : St} {ty : TypeId} {pos : String} {after : Array Edge} {g : Option (Nat × Bool)}
theorem sft_bsl1 {d : Nat} {t : TypeId} {x : Operand} {el sz b : Nat} {z : AV} {ys : List AV} (hf : s.hp (d + 1) = none) (ht : Θ.look t = .slice el sz b z) (hx : s.ev x = .agg ys) (hz : Nat.beq (asz (.agg ys)) (asz z) = true) (hsz : Nat.ble sz 65536 = true) (hok : okL (d + 1) = true := by rfl) :
    Sft P Θ ⟨some d, .buildSlice t 1 #[(0, x)], ty, pos, after, g⟩ s (.own (d + 1)) [] [(d + 1, some ⟨.s el, sz, [.agg ys]⟩)] := by
  refine ⟨fun s' h1 h2 => ⟨⟨.own (d + 1), some fun s'' => s''.set (d + 1) (some ⟨.s el, sz, [.agg ys]⟩)⟩, ?_, fun K hK => .done ?_⟩, fun l ob h => ?_, fun l hl => (by cases hl), fun l hl => .inl ?_, fun l ⟨o, hl⟩ => .inl ?_, fun l ob ⟨o, hl⟩ ho => ?_⟩
  · exact p_bsl1 ((h2 _ (.inl (in1 _ _))).1.trans hf) ht ((h1 x (by simp [Op.operands])).trans hx) rfl hz hsz hok
  · rw [app_some, shp_set]; exact hK
  · obtain ⟨_, e⟩ := nu1 h; cases e; rfl
  · simp only [AV.names] at hl; rw [← Nat.eq_of_beq_eq_true hl]; exact in1 _ _
  · obtain ⟨rfl, _⟩ := nu1 hl; exact ⟨d, rfl, rfl⟩
  · obtain ⟨rfl, _⟩ := nu1 hl; rw [hf] at ho; cases ho
theorem sft_app1 {d : Option Tmp} {tx ty' : Tmp} {t el sz b l l' : Nat} {e0 e' : ET} {z : AV} {xs ys : List AV} (hx : s.sl tx = .own l) (hy : s.sl ty' = .own l') (ho : s.hp l = some ⟨e0, sz, xs⟩) (ho' : s.hp l' = some ⟨e', sz, ys⟩) (hn : Nat.beq l' l = false) (ht : Θ.look t = .slice el sz b z) (hb : (xs.length + ys.length) * b ≤ 140737488355328) (hb1 : Nat.ble 1 b = true) (he : (e0 = .s el ∨ e0 = .z el) := by first | exact .inl rfl | exact .inr rfl) (he' : e'.open_ = true := by rfl) (hok : okL l = true := by rfl) :
    Sft P Θ ⟨d, .call ⟨.builtin .append, #[.tmp tx, .tmp ty'], #[t, t]⟩, ty, pos, after, g⟩ s (.own l) [l] [(l, some ⟨.s el, sz, xs ++ ys⟩)] := by
  have hb1' := Nat.le_of_ble_eq_true hb1
  have hm : xs.length + ys.length ≤ maxLen := by
    have : (xs.length + ys.length) * 1 ≤ (xs.length + ys.length) * b := Nat.mul_le_mul_left _ hb1'
    unfold maxLen; omega
  have hne : l' ≠ l := fun e => by rw [e] at hn; simp at hn
  have m1 : tx ∈ tmpsOf (⟨d, .call ⟨.builtin .append, #[.tmp tx, .tmp ty'], #[t, t]⟩, ty, pos, after, g⟩ : Oper) := mem_tmps (by simp [Op.operands, Call.operands])
  have m2 : ty' ∈ tmpsOf (⟨d, .call ⟨.builtin .append, #[.tmp tx, .tmp ty'], #[t, t]⟩, ty, pos, after, g⟩ : Oper) := mem_tmps (by simp [Op.operands, Call.operands])
  have n1 : namedBy s (⟨d, .call ⟨.builtin .append, #[.tmp tx, .tmp ty'], #[t, t]⟩, ty, pos, after, g⟩ : Oper) l := ⟨tx, m1, by rw [hx]; simp [AV.names]⟩
  have n2 : namedBy s (⟨d, .call ⟨.builtin .append, #[.tmp tx, .tmp ty'], #[t, t]⟩, ty, pos, after, g⟩ : Oper) l' := ⟨ty', m2, by rw [hy]; simp [AV.names]⟩
  refine ⟨fun s' h1 h2 => ⟨⟨.own l, some fun s'' => (s''.kill l).set l (some ⟨.s el, sz, xs ++ ys⟩)⟩, ?_, fun K hK => .done ?_⟩, fun m ob h => ?_, fun m hl => ?_, fun m hl => .inl ?_, fun m ⟨o, hl⟩ => .inr ?_, fun m ob ⟨o, hl⟩ hob => ?_⟩
  · have e1 : s'.ev (.tmp tx) = .own l := (h1 _ (by simp [Op.operands, Call.operands])).trans hx
    have e2 : s'.ev (.tmp ty') = .own l' := (h1 _ (by simp [Op.operands, Call.operands])).trans hy
    exact ⟨.tmp tx, .tmp ty', t, el, sz, b, z, l, _, ys, rfl, rfl, ht, e1, (h2 _ (.inl (in1 _ _))).1.trans ho, hok, rfl, hb, hm, .inl ⟨el, he, rfl, .inr ⟨l', _, e2, hne, (h2 _ (.inr n2)).1.trans ho', he', rfl, rfl⟩, rfl⟩⟩
  · rw [app_some, shp_app]; exact hK
  · obtain ⟨_, e⟩ := nu1 h; cases e; rfl
  · rw [List.mem_singleton] at hl; subst hl; exact in1 _ _
  · simp only [AV.names] at hl; rw [← Nat.eq_of_beq_eq_true hl]; exact in1 _ _
  · obtain ⟨rfl, _⟩ := nu1 hl; exact n1
  · obtain ⟨rfl, _⟩ := nu1 hl
    rw [ho] at hob; cases hob
    rcases he with rfl | rfl <;> rfl
end
def noteW (w : Wat) (r : Rf) : Wat := ⟨w.name, r.ver, addE w.queue ⟨r.ver, r.head, false⟩⟩
attribute [local irreducible] ACode AOps AOps2 RetG RetM Pre ACG
theorem ac_l06Own' {w : Wat} (hm : w.queue.length ≤ 1048576) : AC Try.prog 142 [watM w] ⟨watO w 0, [evtO w.queue]⟩ := by
  refine r_of Th_ok (by kernel_rfl) Try.func142 rfl Try.ntmps142 Try.results142 (by kernel_rfl) rfl ?_; conv => whnf
  refine r_step (p_boxo rfl rfl rfl) rfl rfl (fun e => by first | exact .inl rfl | contradiction | exact .inr (.inl (by kernel_rfl))) ?_
  conv => whnf
  refine r_step (p_appl (xs := []) (ys := w.queue) (f := evtA) (by simp; omega) rfl rfl rfl rfl rfl rfl) rfl rfl (fun e => by first | exact .inl rfl | contradiction | exact .inr (.inl (by kernel_rfl))) ?_
  conv => whnf
  repeat (first | ((first | refine qb rfl rfl ?_ | refine qi (by assumption) rfl rfl ?_ | refine ql rfl ?_ | refine qo rfl rfl ?_ | refine qs rfl rfl ?_ | refine qn rfl rfl ?_); conv => whnf) | (refine r_step (p_ostoreo rfl rfl rfl rfl rfl rfl) rfl rfl (fun e => by first | exact .inl rfl | contradiction | exact .inr (.inl (by kernel_rfl))) ?_; conv => whnf))
  exact r_wat rfl rfl rfl rfl rfl rfl
theorem ac_l06Own {w : Wat} (hm : w.queue.length ≤ 1048576) : AC Try.prog 142 [watA w] ⟨watO w 0, [evtO w.queue]⟩ := ac_watM (ac_l06Own' hm)
theorem ac_l06Note {w : Wat} {r : Rf} (hm : w.queue.length ≤ 4) : AC Try.prog 143 [watA w, refA r] ⟨watA (noteW w r), []⟩ := by
  have fin : ∀ q : List Evt, q = addE w.queue ⟨r.ver, r.head, false⟩ → watA ⟨w.name, r.ver, q⟩ = watA (noteW w r) := fun q e => by rw [e]; rfl
  by_cases h4 : w.queue.length = 4
  · rw [← fin [⟨r.ver, r.head, true⟩] (by unfold addE; rw [if_neg (by omega)])]
    refine r_of Th_ok (by kernel_rfl) Try.func143 rfl Try.ntmps143 Try.results143 (by kernel_rfl) rfl ?_; conv => whnf
    repeat (first | ((first | refine qb rfl rfl ?_ | refine qi (by assumption) rfl rfl ?_ | refine ql rfl ?_ | refine qo rfl rfl ?_ | refine qs rfl rfl ?_ | refine qn rfl rfl ?_); conv => whnf) | (refine r_step (p_ostore rfl rfl rfl rfl rfl (by conv => lhs; whnf) rfl) rfl rfl (fun e => by first | exact .inl rfl | contradiction | exact .inr (.inl (by kernel_rfl))) ?_; conv => whnf) | (refine r_step (p_ostoref rfl rfl rfl rfl rfl rfl rfl rfl) rfl rfl (fun e => by first | exact .inl rfl | contradiction | exact .inr (.inl (by kernel_rfl))) ?_; conv => whnf))
    refine .inr ⟨by kernel_rfl, prodB_ok (by kernel_rfl), ?_⟩
    refine o2_sft (sft_bsl0 rfl rfl) in_1 rfl rfl (by kernel_rfl) ?_
    refine o2_calm (p_ofld rfl rfl rfl) rfl rfl rfl (.inl rfl) (by kernel_rfl) ?_
    refine o2_calm (p_old rfl rfl rfl rfl rfl rfl rfl) rfl rfl rfl (.inr rfl) (by kernel_rfl) ?_
    refine o2_sft (sft_appl rfl rfl rfl rfl (by simp <;> omega) rfl) in_1 rfl rfl (by kernel_rfl) ?_
    refine o2_calm (p_old rfl rfl rfl rfl rfl rfl rfl) rfl rfl rfl (.inr rfl) (by kernel_rfl) ?_
    refine o2_sft (sft_bsl1 rfl rfl rfl rfl rfl) in_1 rfl rfl (by kernel_rfl) ?_
    refine o2_sft (sft_app1 rfl rfl rfl rfl rfl rfl (by simp <;> omega) rfl) in_1 rfl rfl (by kernel_rfl) ?_
    refine o2_calm (p_ofld rfl rfl rfl) rfl rfl rfl (.inl rfl) (by kernel_rfl) ?_
    refine o2_tied (p_ostoref rfl rfl rfl rfl rfl rfl rfl rfl) rfl rfl (by kernel_rfl) ?_
    refine o2_nil ?_
    conv => whnf
    repeat (first | ((first | refine qb rfl rfl ?_ | refine qi (by assumption) rfl rfl ?_ | refine ql rfl ?_ | refine qo rfl rfl ?_ | refine qs rfl rfl ?_ | refine qn rfl rfl ?_); conv => whnf) | (refine r_step (p_ostore rfl rfl rfl rfl rfl (by conv => lhs; whnf) rfl) rfl rfl (fun e => by first | exact .inl rfl | contradiction | exact .inr (.inl (by kernel_rfl))) ?_; conv => whnf))
    exact r_cell1 (x := watA ⟨w.name, r.ver, [⟨r.ver, r.head, true⟩]⟩) rfl rfl rfl rfl trivial
  · rw [← fin (w.queue ++ [⟨r.ver, r.head, false⟩]) (by unfold addE; rw [if_pos (by omega)])]
    refine r_of Th_ok (by kernel_rfl) Try.func143 rfl Try.ntmps143 Try.results143 (by kernel_rfl) rfl ?_; conv => whnf
    repeat (first | ((first | refine qb rfl rfl ?_ | refine qi (by assumption) rfl rfl ?_ | refine ql rfl ?_ | refine qo rfl rfl ?_ | refine qs rfl rfl ?_ | refine qn rfl rfl ?_); conv => whnf) | (refine r_step (p_ostore rfl rfl rfl rfl rfl (by conv => lhs; whnf) rfl) rfl rfl (fun e => by first | exact .inl rfl | contradiction | exact .inr (.inl (by kernel_rfl))) ?_; conv => whnf) | (refine r_step (p_ostoref rfl rfl rfl rfl rfl rfl rfl rfl) rfl rfl (fun e => by first | exact .inl rfl | contradiction | exact .inr (.inl (by kernel_rfl))) ?_; conv => whnf))
    refine .inr ⟨by kernel_rfl, prodB_ok (by kernel_rfl), ?_⟩
    refine o2_sft (sft_bsl0 rfl rfl) in_1 rfl rfl (by kernel_rfl) ?_
    refine o2_calm (p_ofld rfl rfl rfl) rfl rfl rfl (.inl rfl) (by kernel_rfl) ?_
    refine o2_calm (p_old rfl rfl rfl rfl rfl rfl rfl) rfl rfl rfl (.inr rfl) (by kernel_rfl) ?_
    refine o2_sft (sft_appl rfl rfl rfl rfl (by simp; omega) rfl) in_1 rfl rfl (by kernel_rfl) ?_
    refine o2_calm (p_old rfl rfl rfl rfl rfl rfl rfl) rfl rfl rfl (.inr rfl) (by kernel_rfl) ?_
    refine o2_sft (sft_bsl1 rfl rfl rfl rfl rfl) in_1 rfl rfl (by kernel_rfl) ?_
    refine o2_sft (sft_app1 rfl rfl rfl rfl rfl rfl (by simp; omega) rfl) in_1 rfl rfl (by kernel_rfl) ?_
    refine o2_calm (p_ofld rfl rfl rfl) rfl rfl rfl (.inl rfl) (by kernel_rfl) ?_
    refine o2_tied (p_ostoref rfl rfl rfl rfl rfl rfl rfl rfl) rfl rfl (by kernel_rfl) ?_
    refine o2_nil ?_
    conv => whnf
    repeat (first | ((first | refine qb rfl rfl ?_ | refine qi (by assumption) rfl rfl ?_ | refine ql rfl ?_ | refine qo rfl rfl ?_ | refine qs rfl rfl ?_ | refine qn rfl rfl ?_); conv => whnf) | (refine r_step (p_ostore rfl rfl rfl rfl rfl (by conv => lhs; whnf) rfl) rfl rfl (fun e => by first | exact .inl rfl | contradiction | exact .inr (.inl (by kernel_rfl))) ?_; conv => whnf))
    have hq : watA ⟨w.name, r.ver, w.queue ++ [⟨r.ver, r.head, false⟩]⟩ = .agg [.v (.string w.name), .v (.int .i64 r.ver), .lst 3 (w.queue.map evtA ++ [evtA ⟨r.ver, r.head, false⟩])] := by unfold watA; simp
    rw [hq]
    exact r_cell1 (x := .agg [.v (.string w.name), .v (.int .i64 r.ver), .lst 3 (w.queue.map evtA ++ [evtA ⟨r.ver, r.head, false⟩])]) rfl rfl rfl rfl trivial
end Go.Proofs.Ytjhimcddgkoghaa.AM
/- NoteRef, NextEvent and DrainWatch on both sides. -/
namespace Go.Proofs.Ytjhimcddgkoghaa.AM
open Go Go.RowKit
set_option linter.unusedVariables false
set_option linter.unusedSimpArgs false
set_option maxRecDepth 100000
abbrev watZ : Wat := ⟨ByteArray.empty, 0, []⟩
section
variable {s : St} {Θ : Tab}
end
theorem watB_of {w : Wat} (h : watB w = true) : (0 ≤ w.seen ∧ w.seen ≤ 1000000) ∧ w.queue.length ≤ 4 := by
  unfold watB at h
  simp only [Bool.and_eq_true, decide_eq_true_eq, Bool.or_eq_true] at h
  refine ⟨h.2.1, ?_⟩
  rcases h.2.2 with h | h
  · rw [h]; simp
  · unfold qB at h
    simp only [Bool.and_eq_true, decide_eq_true_eq] at h
    exact h.1
attribute [local irreducible] ACode AOps AOps2 RetG RetM Pre ACG
end Go.Proofs.Ytjhimcddgkoghaa.AM
/- The other side of NextEvent and DrainWatch. -/
namespace Go.Proofs.Ytjhimcddgkoghaa.AM
open Go Go.RowKit
set_option linter.unusedVariables false
set_option linter.unusedSimpArgs false
set_option maxRecDepth 100000
attribute [local irreducible] ACode AOps AOps2 RetG RetM Pre ACG
end Go.Proofs.Ytjhimcddgkoghaa.AM
/- Events and watches marked and held. -/
namespace Go.Proofs.Ytjhimcddgkoghaa.AM
open Go Go.RowKit
set_option linter.unusedVariables false
set_option linter.unusedSimpArgs false
set_option maxRecDepth 100000
def markV (k : Int) : Evt := ⟨k, k + 1, decide ((k + 1 + 1) % 3 = 0)⟩
def markedV : Nat → Int → List Evt
  | 0, _ => []
  | n + 1, k => markV k :: markedV n (k + 3)
theorem markedV_length : ∀ (n : Nat) (k : Int), (markedV n k).length = n
  | 0, _ => rfl
  | n + 1, k => by simp [markedV, markedV_length n (k + 3)]
theorem markedV_get : ∀ (n : Nat) (k0 : Int) (k : Nat) (h : k < n), (markedV n k0)[k]'(by rw [markedV_length]; exact h) = markV (k0 + 3 * k)
  | n + 1, k0, 0, h => by simp [markedV]
  | n + 1, k0, k + 1, h => by
    have := markedV_get n (k0 + 3) k (by omega)
    simp only [markedV, List.getElem_cons_succ]
    rw [this]; congr 1; omega
theorem markedV_snoc : ∀ (n : Nat) (k : Int), markedV (n + 1) k = markedV n k ++ [markV (k + 3 * n)]
  | 0, k => by simp [markedV]
  | n + 1, k => by
    rw [markedV, markedV_snoc n (k + 3), markedV]
    have e : k + 3 + 3 * (n : Int) = k + 3 * ((n + 1 : Nat) : Int) := by omega
    rw [e]; rfl
theorem fold_set3 {α : Type} (l : List α) (k : Nat) (a b c : α) : ((l.set k a).set k b).set k c = l.set k c := by simp [List.set_set]
theorem r_ret1in {s : St} {Θ : Tab} {r : Nat} {v : Value} {o1 : OB} (h1 : s.sl r = .v v) (h2 : s.hp 0 = some o1) : RetG Θ [.tmp r] [o1] ⟨.v v, []⟩ .ret s := ⟨⟨h2, trivial⟩, [], by simp, trivial, ⟨trivial, trivial⟩, trivial, ⟨.inl ⟨h1, rfl⟩, trivial⟩⟩
attribute [local irreducible] ACode AOps AOps2 RetG RetM Pre ACG
set_option maxHeartbeats 2000000 in
theorem ac_markEventS {l : List Evt} {k0 : Int} (hm : l.length ≤ 1048600) (h0 : 0 ≤ k0) (h1 : k0 ≤ 8388608) : ACM Try.prog 151 (evtO l) ((markedV l.length k0).map evtA) [.v (.int .i64 k0)] (.int .i64 (k0 + 3 * l.length)) := by
  refine r_ofM Th_ok (by kernel_rfl) Try.func151 rfl Try.ntmps151 Try.results151 (by kernel_rfl) rfl ?_ ?_
  · exact flat_map flat_evt _
  conv => whnf
  refine r_loop (ι := { k : Nat // k ≤ l.length }) (fun k => ⟨[(0, .own 0), (1, .v (.int .i64 (k0 + 3 * (k.1 : Int)))), (5, .v (.int .i64 (k.1 : Int)))], [(0, ⟨185, 3, (markedV k.1 k0 ++ l.drop k.1).map evtA⟩)]⟩) (fun k => l.length - k.1) ⟨0, Nat.zero_le _⟩ (by
    refine ⟨⟨rfl, trivial⟩, .inl ⟨rfl, rfl⟩, .inl ⟨?_, rfl⟩, .inl ⟨rfl, rfl⟩, trivial⟩
    show AV.v (.int .i64 k0) = _
    simp) ?_
  rintro ⟨k, hk⟩
  dsimp only
  have hml : (markedV k k0 ++ l.drop k).length = l.length := by simp [markedV_length]; omega
  conv => whnf
  by_cases hlt : k < l.length
  · have hlt' : k < (markedV k k0 ++ l.drop k).length := by omega
    have hset : (markedV k k0 ++ l.drop k).set k (markV (k0 + 3 * k)) = markedV (k + 1) k0 ++ l.drop (k + 1) := by
      rw [List.set_append_right _ _ (by rw [markedV_length]; exact Nat.le_refl _), markedV_length, Nat.sub_self, List.drop_eq_getElem_cons hlt, List.set_cons_zero, markedV_snoc, List.append_assoc]; rfl
    have hset' : ((markedV k k0 ++ l.drop k).map evtA).set k (evtA (markV (k0 + 3 * k))) = (markedV (k + 1) k0 ++ l.drop (k + 1)).map evtA := by rw [← List.map_set, hset]
    generalize hX : markedV k k0 ++ l.drop k = X at *
    have hX0 : k < (X.map evtA).length := by simpa using hlt'
    by_cases hz : (k0 + 3 * (k : Int) + 1 + 1) % 3 = 0
    · have hdz : decide ((k0 + 3 * (k : Int) + 1 + 1) % 3 = 0) = true := decide_eq_true hz
      repeat (first | ((first | refine qb rfl rfl ?_ | refine qi (by assumption) rfl rfl ?_ | refine ql rfl ?_ | refine qo rfl rfl ?_ | refine qs rfl rfl ?_ | refine qn rfl rfl ?_); conv => whnf) | (refine .inl (And.intro (by kernel_rfl) ?_); conv => whnf) | (refine r_put (p_bin (b_rem (by omega) (by omega) (by omega) (by omega) rfl) rfl rfl rfl) rfl rfl ?_; conv => whnf) | (refine r_put (p_oidx (by simpa using hlt') rfl rfl rfl rfl rfl) rfl rfl ?_; conv => whnf) | (refine r_step (p_ostore (getA _ hlt') rfl rfl rfl rfl rfl rfl) rfl rfl (fun e => by first | exact .inl rfl | contradiction | exact .inr (.inl (by kernel_rfl))) ?_; conv => whnf) | (refine r_step (p_ostore (set_at (by simpa using hlt')) rfl rfl rfl rfl rfl rfl) rfl rfl (fun e => by first | exact .inl rfl | contradiction | exact .inr (.inl (by kernel_rfl))) ?_; conv => whnf))
      refine ⟨⟨k + 1, hlt⟩, ⟨⟨?_, trivial⟩, .inl ⟨rfl, rfl⟩, .inl ⟨?_, rfl⟩, .inl ⟨rfl, rfl⟩, trivial⟩, by simp; omega⟩
      · refine congrArg (fun x => some (OB.mk _ _ x)) (Eq.trans (fold_set3 _ _ _ _ _) (Eq.trans ?_ hset'))
        show _ = List.set _ k (evtA (markV (k0 + 3 * k)))
        unfold markV; rw [hdz]; rfl
      · show AV.v (.int .i64 (k0 + 3 * k + 1 + 1 + 1)) = _
        congr 2
        simp; omega
    · have hdz : decide ((k0 + 3 * (k : Int) + 1 + 1) % 3 = 0) = false := decide_eq_false hz
      repeat (first | ((first | refine qb rfl rfl ?_ | refine qi (by assumption) rfl rfl ?_ | refine ql rfl ?_ | refine qo rfl rfl ?_ | refine qs rfl rfl ?_ | refine qn rfl rfl ?_); conv => whnf) | (refine .inl (And.intro (by kernel_rfl) ?_); conv => whnf) | (refine r_put (p_bin (b_rem (by omega) (by omega) (by omega) (by omega) rfl) rfl rfl rfl) rfl rfl ?_; conv => whnf) | (refine r_put (p_oidx (by simpa using hlt') rfl rfl rfl rfl rfl) rfl rfl ?_; conv => whnf) | (refine r_step (p_ostore (getA _ hlt') rfl rfl rfl rfl rfl rfl) rfl rfl (fun e => by first | exact .inl rfl | contradiction | exact .inr (.inl (by kernel_rfl))) ?_; conv => whnf) | (refine r_step (p_ostore (set_at (by simpa using hlt')) rfl rfl rfl rfl rfl rfl) rfl rfl (fun e => by first | exact .inl rfl | contradiction | exact .inr (.inl (by kernel_rfl))) ?_; conv => whnf))
      refine ⟨⟨k + 1, hlt⟩, ⟨⟨?_, trivial⟩, .inl ⟨rfl, rfl⟩, .inl ⟨?_, rfl⟩, .inl ⟨rfl, rfl⟩, trivial⟩, by simp; omega⟩
      · refine congrArg (fun x => some (OB.mk _ _ x)) (Eq.trans (fold_set3 _ _ _ _ _) (Eq.trans ?_ hset'))
        show _ = List.set _ k (evtA (markV (k0 + 3 * k)))
        unfold markV; rw [hdz]; rfl
      · show AV.v (.int .i64 (k0 + 3 * k + 1 + 1 + 1)) = _
        congr 2
        simp; omega
  · have hkk : k = l.length := by omega
    subst hkk
    repeat (first | ((first | refine qb rfl rfl ?_ | refine qi (by assumption) rfl rfl ?_ | refine ql rfl ?_ | refine qo rfl rfl ?_ | refine qs rfl rfl ?_ | refine qn rfl rfl ?_); conv => whnf) | (refine .inl (And.intro (by kernel_rfl) ?_); conv => whnf) | (rw [hml]))
    exact r_retM rfl (by show some (OB.mk _ _ _) = _; simp)
set_option maxHeartbeats 2000000 in
theorem ac_heldEventS {n : Nat} {k0 : Int} (hm : n ≤ 1048600) (h0 : 0 ≤ k0) (h1 : k0 ≤ 8388608) : AC Try.prog 152 [.lst 3 ((markedV n k0).map evtA), .v (.int .i64 k0)] ⟨.v (.int .i64 (k0 + 3 * n)), []⟩ := by
  have hml := markedV_length n k0
  refine r_of Th_ok (by kernel_rfl) Try.func152 rfl Try.ntmps152 Try.results152 (by kernel_rfl) rfl ?_; conv => whnf
  refine r_loop (ι := { k : Nat // k ≤ n }) (fun k => ⟨[(0, .lst 3 ((markedV n k0).map evtA)), (1, .v (.int .i64 (k0 + 3 * (k.1 : Int)))), (5, .v (.int .i64 (k.1 : Int)))], []⟩) (fun k => n - k.1) ⟨0, Nat.zero_le _⟩ (by
    refine ⟨trivial, .inl ⟨rfl, rfl⟩, .inl ⟨?_, rfl⟩, .inl ⟨rfl, rfl⟩, trivial⟩
    show AV.v (.int .i64 k0) = _
    simp) ?_
  rintro ⟨k, hk⟩
  dsimp only
  conv => whnf
  by_cases hlt : k < n
  · have hlt' : k < (markedV n k0).length := by omega
    have hg := markedV_get n k0 k hlt
    have hg2 : (markedV n k0)[k].ver = k0 + 3 * k := by rw [hg]; rfl
    have hg3 : (markedV n k0)[k].head = k0 + 3 * k + 1 := by rw [hg]; rfl
    have hg4 : (markedV n k0)[k].lag = decide ((k0 + 3 * (k : Int) + 1 + 1) % 3 = 0) := by rw [hg]; rfl
    by_cases hz : (k0 + 3 * (k : Int) + 1 + 1) % 3 = 0
    · rw [decide_eq_true hz] at hg4
      repeat (first | ((first | refine qb rfl rfl ?_ | refine qi (by assumption) rfl rfl ?_ | refine ql rfl ?_ | refine qo rfl rfl ?_ | refine qs rfl rfl ?_ | refine qn rfl rfl ?_); conv => whnf) | (refine .inl (And.intro (by kernel_rfl) ?_); conv => whnf) | (refine r_put (p_bin (b_rem (by omega) (by omega) (by omega) (by omega) rfl) rfl rfl rfl) rfl rfl ?_; conv => whnf) | (rw [hg4]; conv => whnf) | (refine r_put (p_bin (b_bne Try.underlying4) rfl rfl rfl) rfl rfl ?_; rw [hg4]; conv => whnf) | (refine r_put (p_bin (b_bne Try.underlying4) rfl rfl rfl) rfl rfl ?_; conv => whnf))
      refine ⟨⟨k + 1, hlt⟩, ⟨trivial, .inl ⟨rfl, rfl⟩, .inl ⟨?_, rfl⟩, .inl ⟨rfl, rfl⟩, trivial⟩, by simp; omega⟩
      show AV.v (.int .i64 (k0 + 3 * k + 1 + 1 + 1)) = _
      congr 2
      simp; omega
    · rw [decide_eq_false hz] at hg4
      repeat (first | ((first | refine qb rfl rfl ?_ | refine qi (by assumption) rfl rfl ?_ | refine ql rfl ?_ | refine qo rfl rfl ?_ | refine qs rfl rfl ?_ | refine qn rfl rfl ?_); conv => whnf) | (refine .inl (And.intro (by kernel_rfl) ?_); conv => whnf) | (refine r_put (p_bin (b_rem (by omega) (by omega) (by omega) (by omega) rfl) rfl rfl rfl) rfl rfl ?_; conv => whnf) | (rw [hg4]; conv => whnf) | (refine r_put (p_bin (b_bne Try.underlying4) rfl rfl rfl) rfl rfl ?_; rw [hg4]; conv => whnf) | (refine r_put (p_bin (b_bne Try.underlying4) rfl rfl rfl) rfl rfl ?_; conv => whnf))
      refine ⟨⟨k + 1, hlt⟩, ⟨trivial, .inl ⟨rfl, rfl⟩, .inl ⟨?_, rfl⟩, .inl ⟨rfl, rfl⟩, trivial⟩, by simp; omega⟩
      show AV.v (.int .i64 (k0 + 3 * k + 1 + 1 + 1)) = _
      congr 2
      simp; omega
  · have hkk : k = n := by omega
    subst hkk
    repeat (first | ((first | refine qb rfl rfl ?_ | refine qi (by assumption) rfl rfl ?_ | refine ql rfl ?_ | refine qo rfl rfl ?_ | refine qs rfl rfl ?_ | refine qn rfl rfl ?_); conv => whnf) | (refine .inl (And.intro (by kernel_rfl) ?_); conv => whnf) | (rw [hml]))
    exact r_ret1 rfl trivial
theorem ac_markWatchM {w : Wat} {k0 : Int} (hm : w.queue.length ≤ 1048576) (h0 : 0 ≤ k0) (h1 : k0 ≤ 4194304) :
    ACG Try.prog 46 [watO w 0, .v (.int .i64 k0)] [evtO w.queue] [evtO (markedV w.queue.length k0)] ⟨.v (.int .i64 (k0 + 3 * w.queue.length)), []⟩ := by
  refine acg_of (rs := [.tmp 4]) Th_ok (by kernel_rfl) Try.func46 rfl Try.ntmps46 (by rw [Try.results46]) (by kernel_rfl) (by simp) rfl rfl (runC_sound _ _ _ ?_)
  conv => whnf
  repeat (first | ((first | refine qb rfl rfl ?_ | refine qi (by assumption) rfl rfl ?_ | refine ql rfl ?_ | refine qo rfl rfl ?_ | refine qs rfl rfl ?_ | refine qn rfl rfl ?_); conv => whnf) | (refine r_step (p_boxo rfl rfl rfl) rfl rfl (fun e => by first | exact .inl rfl | contradiction | exact .inr (.inl (by kernel_rfl))) ?_; conv => whnf) | (refine r_step (p_callm (ac_markEventS (l := w.queue) (k0 := k0) (by omega) (by omega) (by omega)) rfl rfl rfl rfl rfl rfl rfl) rfl rfl (fun e => by first | exact .inl rfl | contradiction | exact .inr (.inl (by kernel_rfl))) ?_; conv => whnf))
  exact r_ret1in rfl rfl
theorem ac_markEventS0 {k0 : Int} : AC Try.prog 151 [.lst 3 [], .v (.int .i64 k0)] ⟨.v (.int .i64 k0), []⟩ := by
  refine r_of Th_ok (by kernel_rfl) Try.func151 rfl Try.ntmps151 Try.results151 (by kernel_rfl) rfl ?_; conv => whnf
  refine r_loop (ι := Unit) (fun _ => ⟨[(0, .lst 3 []), (1, .v (.int .i64 k0)), (5, .v (.int .i64 0))], []⟩) (fun _ => 0) () (by refine ⟨?_, ?_⟩ <;> (repeat (first | trivial | exact ⟨rfl, trivial⟩ | refine ⟨rfl, ?_⟩ | refine ⟨.inl ⟨rfl, rfl⟩, ?_⟩ | refine ⟨.inr ⟨_, _, rfl, rfl, rfl, rfl, rfl⟩, ?_⟩))) ?_
  rintro ⟨⟩
  try dsimp only
  conv => whnf
  repeat (first | (refine r_put (p_bin (b_lt_f (by simp)) rfl rfl rfl) rfl rfl ?_; conv => whnf) | ((first | refine qb rfl rfl ?_ | refine qi (by assumption) rfl rfl ?_ | refine ql rfl ?_ | refine qo rfl rfl ?_ | refine qs rfl rfl ?_ | refine qn rfl rfl ?_); conv => whnf))
  exact r_ret1 rfl trivial
theorem ac_markWatch0 {nm : ByteArray} {sn k0 : Int} : AC Try.prog 46 [watA ⟨nm, sn, []⟩, .v (.int .i64 k0)] ⟨.v (.int .i64 k0), []⟩ := by
  have h := ac_markEventS0 (k0 := k0)
  refine r_of Th_ok (by kernel_rfl) Try.func46 rfl Try.ntmps46 Try.results46 (by kernel_rfl) rfl ?_; conv => whnf
  repeat (first | ((first | refine qb rfl rfl ?_ | refine qi (by assumption) rfl rfl ?_ | refine ql rfl ?_ | refine qo rfl rfl ?_ | refine qs rfl rfl ?_ | refine qn rfl rfl ?_); conv => whnf) | (refine qc (h) rfl ?_; conv => whnf))
  exact r_ret1 rfl trivial
theorem ac_heldWatch {w : Wat} {k0 : Int} (hm : w.queue.length ≤ 1048576) (h0 : 0 ≤ k0) (h1 : k0 ≤ 4194304) : AC Try.prog 47 [watA ⟨w.name, w.seen, markedV w.queue.length k0⟩, .v (.int .i64 k0)] ⟨.v (.int .i64 (k0 + 3 * w.queue.length)), []⟩ := by
  have h := ac_heldEventS (n := w.queue.length) (k0 := k0) (by omega) (by omega) (by omega)
  refine r_of Th_ok (by kernel_rfl) Try.func47 rfl Try.ntmps47 Try.results47 (by kernel_rfl) rfl ?_; conv => whnf
  repeat (first | ((first | refine qb rfl rfl ?_ | refine qi (by assumption) rfl rfl ?_ | refine ql rfl ?_ | refine qo rfl rfl ?_ | refine qs rfl rfl ?_ | refine qn rfl rfl ?_); conv => whnf) | (refine qc (h) rfl ?_; conv => whnf))
  exact r_ret1 rfl trivial
theorem ac_toWatchO {w : Wat} (hm : w.queue.length ≤ 1048576) : AC Try.prog 42 [watA w] ⟨watO w 0, [evtO w.queue]⟩ := by
  have h := ac_toEventS hm
  refine r_of Th_ok (by kernel_rfl) Try.func42 rfl Try.ntmps42 Try.results42 (by kernel_rfl) rfl ?_; conv => whnf
  repeat (first | ((first | refine qb rfl rfl ?_ | refine qi (by assumption) rfl rfl ?_ | refine ql rfl ?_ | refine qo rfl rfl ?_ | refine qs rfl rfl ?_ | refine qn rfl rfl ?_); conv => whnf) | (refine qc (h) rfl ?_; conv => whnf) | (refine r_step (p_ostoreo rfl rfl rfl rfl rfl rfl) rfl rfl (fun e => by first | exact .inl rfl | contradiction | exact .inr (.inl (by kernel_rfl))) ?_; conv => whnf) | (refine r_step (p_ostore rfl rfl rfl rfl rfl (by conv => lhs; whnf) rfl) rfl rfl (fun e => by first | exact .inl rfl | contradiction | exact .inr (.inl (by kernel_rfl))) ?_; conv => whnf))
  exact r_wat rfl rfl rfl rfl rfl rfl
end Go.Proofs.Ytjhimcddgkoghaa.AM
/- The laws of NextEvent, DrainWatch and NoteRef. -/
namespace Go.Proofs.Ytjhimcddgkoghaa.AM
open Go Go.RowKit
set_option linter.unusedVariables false
set_option linter.unusedSimpArgs false
set_option maxRecDepth 100000
attribute [local irreducible] ACode AOps AOps2 RetG RetM Pre ACG
end Go.Proofs.Ytjhimcddgkoghaa.AM
namespace Go.Proofs.Ytjhimcddgkoghaa.AM
open Go Go.RowKit
set_option linter.unusedVariables false
set_option linter.unusedSimpArgs false
set_option maxRecDepth 100000
/-- what NoteRef answers for a valid watch and ref -/
noncomputable def noteR (w : Wat) (r : Rf) : Wat × Int := if r.name = w.name then (if r.ver = w.seen + 1 then (noteW w r, 0) else (w, 16)) else (w, 10)
theorem addE_len {l : List Evt} {e : Evt} (h : l.length ≤ 4) : (addE l e).length ≤ 4 := by
  unfold addE
  split <;> simp <;> omega
theorem refsB_one {r : Rf} : refsB [r] = refB r := by
  cases h : refB r with
  | false => exact refsB_f fun ⟨_, h2⟩ => by obtain ⟨_, h3, _⟩ := h2 0 (by simp); simp [h] at h3
  | true => exact refsB_t ⟨by simp, fun i hi => by
      have : i = 0 := by simpa using hi
      subst this
      exact ⟨by simp, by simpa using h, by simp [rAt]⟩⟩
attribute [local irreducible] ACode AOps AOps2 RetG RetM Pre ACG
theorem ac_iNote_bad {w : Wat} {r : Rf} (hw : w.ok maxLen) (hr : r.name.size ≤ maxLen) (hb : (watB w && refB r) = false) : AC Try.prog 44 [watA w, refA r] ⟨.tup [watA watZ, .v (.int .i64 1)], []⟩ := by
  have h1 := ac_iWatchOK hw
  have h2 := ac_refOK hr
  cases hc : watB w with
  | false =>
    rw [hc] at h1
    refine r_of Th_ok (by kernel_rfl) Try.func44 rfl Try.ntmps44 Try.results44 (by kernel_rfl) rfl ?_; conv => whnf
    repeat (first | ((first | refine qb rfl rfl ?_ | refine qi (by assumption) rfl rfl ?_ | refine ql rfl ?_ | refine qo rfl rfl ?_ | refine qs rfl rfl ?_ | refine qn rfl rfl ?_); conv => whnf) | (refine qc (h1) rfl ?_; conv => whnf) | (refine r_step (p_ostore rfl rfl rfl rfl rfl (by conv => lhs; whnf) rfl) rfl rfl (fun e => by first | exact .inl rfl | contradiction | exact .inr (.inl (by kernel_rfl))) ?_; conv => whnf))
    exact r_tupCV (x := watA watZ) rfl rfl rfl rfl trivial rfl
  | true =>
    rw [hc, Bool.true_and] at hb
    rw [hc] at h1
    rw [hb] at h2
    refine r_of Th_ok (by kernel_rfl) Try.func44 rfl Try.ntmps44 Try.results44 (by kernel_rfl) rfl ?_; conv => whnf
    repeat (first | ((first | refine qb rfl rfl ?_ | refine qi (by assumption) rfl rfl ?_ | refine ql rfl ?_ | refine qo rfl rfl ?_ | refine qs rfl rfl ?_ | refine qn rfl rfl ?_); conv => whnf) | (refine qc (h1) rfl ?_; conv => whnf) | (refine qc (h2) rfl ?_; conv => whnf) | (refine r_step (p_ostore rfl rfl rfl rfl rfl (by conv => lhs; whnf) rfl) rfl rfl (fun e => by first | exact .inl rfl | contradiction | exact .inr (.inl (by kernel_rfl))) ?_; conv => whnf))
    exact r_tupCV (x := watA watZ) rfl rfl rfl rfl trivial rfl
theorem ac_iNote {w : Wat} {r : Rf} (hw : w.ok maxLen) (hr : r.name.size ≤ maxLen) (hb : watB w = true) (hb2 : refB r = true) : AC Try.prog 44 [watA w, refA r] ⟨.tup [watO (noteR w r).1 0, .v (.int .i64 (noteR w r).2)], [evtO (noteR w r).1.queue]⟩ := by
  have h1 := ac_iWatchOK hw
  have h2 := ac_refOK hr
  rw [hb] at h1
  rw [hb2] at h2
  obtain ⟨hs, h4⟩ := watB_of hb
  have h3 := ac_newPending h4
  refine ac_watM2 ?_
  unfold noteR
  by_cases hn : r.name = w.name
  case neg =>
    rw [if_neg hn]
    have h5 := ac_takeAll h4
    refine r_of Th_ok (by kernel_rfl) Try.func44 rfl Try.ntmps44 Try.results44 (by kernel_rfl) rfl ?_; conv => whnf
    refine r_step (p_boxo rfl rfl rfl) rfl rfl (fun e => by first | exact .inl rfl | contradiction | exact .inr (.inl (by kernel_rfl))) ?_
    conv => whnf
    repeat (first | (refine r_put (p_bin (b_sne_t hn) rfl rfl rfl) rfl rfl ?_; conv => whnf) | ((first | refine qb rfl rfl ?_ | refine qi (by assumption) rfl rfl ?_ | refine ql rfl ?_ | refine qo rfl rfl ?_ | refine qs rfl rfl ?_ | refine qn rfl rfl ?_); conv => whnf) | (refine qc (h1) rfl ?_; conv => whnf) | (refine qc (h2) rfl ?_; conv => whnf) | (refine qc (h3) rfl ?_; conv => whnf))
    refine r_step (p_callg [20] h5 rfl rfl ⟨rfl, trivial⟩ rfl rfl ⟨⟨rfl, rfl, rfl⟩, trivial⟩ rfl rfl rfl (.inl rfl) rfl) rfl rfl (fun e => by first | exact .inl rfl | contradiction | exact .inr (.inl (by kernel_rfl))) ?_
    conv => whnf
    repeat (first | ((first | refine qb rfl rfl ?_ | refine qi (by assumption) rfl rfl ?_ | refine ql rfl ?_ | refine qo rfl rfl ?_ | refine qs rfl rfl ?_ | refine qn rfl rfl ?_); conv => whnf) | (refine r_step (p_ostoreo rfl rfl rfl rfl rfl rfl) rfl rfl (fun e => by first | exact .inl rfl | contradiction | exact .inr (.inl (by kernel_rfl))) ?_; conv => whnf))
    exact r_watV rfl rfl rfl rfl rfl rfl rfl
  rw [if_pos hn]
  by_cases hv : r.ver = w.seen + 1
  case neg =>
    rw [if_neg hv]
    have h5 := ac_takeAll h4
    refine r_of Th_ok (by kernel_rfl) Try.func44 rfl Try.ntmps44 Try.results44 (by kernel_rfl) rfl ?_; conv => whnf
    refine r_step (p_boxo rfl rfl rfl) rfl rfl (fun e => by first | exact .inl rfl | contradiction | exact .inr (.inl (by kernel_rfl))) ?_
    conv => whnf
    repeat (first | (refine r_put (p_bin (b_sne_f hn) rfl rfl rfl) rfl rfl ?_; conv => whnf) | ((first | refine qb rfl rfl ?_ | refine qi (by assumption) rfl rfl ?_ | refine ql rfl ?_ | refine qo rfl rfl ?_ | refine qs rfl rfl ?_ | refine qn rfl rfl ?_); conv => whnf) | (refine qc (h1) rfl ?_; conv => whnf) | (refine qc (h2) rfl ?_; conv => whnf) | (refine qc (h3) rfl ?_; conv => whnf) | (refine r_put (p_bin (b_add (c := w.seen + 1) (by omega) (by omega) (by omega)) rfl rfl rfl) rfl rfl ?_; conv => whnf))
    refine r_step (p_callg [20] h5 rfl rfl ⟨rfl, trivial⟩ rfl rfl ⟨⟨rfl, rfl, rfl⟩, trivial⟩ rfl rfl rfl (.inl rfl) rfl) rfl rfl (fun e => by first | exact .inl rfl | contradiction | exact .inr (.inl (by kernel_rfl))) ?_
    conv => whnf
    repeat (first | ((first | refine qb rfl rfl ?_ | refine qi (by assumption) rfl rfl ?_ | refine ql rfl ?_ | refine qo rfl rfl ?_ | refine qs rfl rfl ?_ | refine qn rfl rfl ?_); conv => whnf) | (refine r_step (p_ostoreo rfl rfl rfl rfl rfl rfl) rfl rfl (fun e => by first | exact .inl rfl | contradiction | exact .inr (.inl (by kernel_rfl))) ?_; conv => whnf))
    exact r_watV rfl rfl rfl rfl rfl rfl rfl
  rw [if_pos hv]
  have h6 := ac_add (e := ⟨r.ver, r.head, false⟩) h4
  have h5 := ac_takeAll (addE_len (e := ⟨r.ver, r.head, false⟩) h4)
  refine r_of Th_ok (by kernel_rfl) Try.func44 rfl Try.ntmps44 Try.results44 (by kernel_rfl) rfl ?_; conv => whnf
  refine r_step (p_boxo rfl rfl rfl) rfl rfl (fun e => by first | exact .inl rfl | contradiction | exact .inr (.inl (by kernel_rfl))) ?_
  conv => whnf
  repeat (first | (refine r_put (p_bin (b_sne_f hn) rfl rfl rfl) rfl rfl ?_; conv => whnf) | ((first | refine qb rfl rfl ?_ | refine qi (by assumption) rfl rfl ?_ | refine ql rfl ?_ | refine qo rfl rfl ?_ | refine qs rfl rfl ?_ | refine qn rfl rfl ?_); conv => whnf) | (refine qc (h1) rfl ?_; conv => whnf) | (refine qc (h2) rfl ?_; conv => whnf) | (refine qc (h3) rfl ?_; conv => whnf) | (refine r_put (p_bin (b_add (c := w.seen + 1) (by omega) (by omega) (by omega)) rfl rfl rfl) rfl rfl ?_; conv => whnf) | (refine r_step (p_ostore rfl rfl rfl rfl rfl (by conv => lhs; whnf) rfl) rfl rfl (fun e => by first | exact .inl rfl | contradiction | exact .inr (.inl (by kernel_rfl))) ?_; conv => whnf) | (refine r_step (p_ostoreo rfl rfl rfl rfl rfl rfl) rfl rfl (fun e => by first | exact .inl rfl | contradiction | exact .inr (.inl (by kernel_rfl))) ?_; conv => whnf))
  refine r_step (p_callg [20] h6 rfl rfl ⟨rfl, trivial⟩ rfl rfl trivial rfl rfl rfl (.inl rfl) rfl) rfl rfl (fun e => by first | exact .inl rfl | contradiction | exact .inr (.inl (by kernel_rfl))) ?_
  conv => whnf
  repeat (first | ((first | refine qb rfl rfl ?_ | refine qi (by assumption) rfl rfl ?_ | refine ql rfl ?_ | refine qo rfl rfl ?_ | refine qs rfl rfl ?_ | refine qn rfl rfl ?_); conv => whnf) | (refine r_step (p_ostore rfl rfl rfl rfl rfl (by conv => lhs; whnf) rfl) rfl rfl (fun e => by first | exact .inl rfl | contradiction | exact .inr (.inl (by kernel_rfl))) ?_; conv => whnf) | (refine r_step (p_ostoreo rfl rfl rfl rfl rfl rfl) rfl rfl (fun e => by first | exact .inl rfl | contradiction | exact .inr (.inl (by kernel_rfl))) ?_; conv => whnf))
  refine r_step (p_callg [20] h5 rfl rfl ⟨rfl, trivial⟩ rfl rfl ⟨⟨rfl, rfl, rfl⟩, trivial⟩ rfl rfl rfl (.inl rfl) rfl) rfl rfl (fun e => by first | exact .inl rfl | contradiction | exact .inr (.inl (by kernel_rfl))) ?_
  conv => whnf
  repeat (first | ((first | refine qb rfl rfl ?_ | refine qi (by assumption) rfl rfl ?_ | refine ql rfl ?_ | refine qo rfl rfl ?_ | refine qs rfl rfl ?_ | refine qn rfl rfl ?_); conv => whnf) | (refine r_step (p_ostoreo rfl rfl rfl rfl rfl rfl) rfl rfl (fun e => by first | exact .inl rfl | contradiction | exact .inr (.inl (by kernel_rfl))) ?_; conv => whnf))
  exact r_watV rfl rfl rfl rfl rfl rfl rfl
theorem ac_sNote_bad {w : Wat} {r : Rf} (hw : w.ok maxLen) (hr : r.name.size ≤ maxLen) (hb : (watB w && refB r) = false) : AC Try.prog 41 [watA w, refA r] ⟨.tup [watA watZ, .v (.int .i64 1)], []⟩ := by
  have h1 := ac_l06OK hw
  have h2 := ac_l04OK (l := [r]) (by simp [maxLen]) (by simpa using hr)
  rw [refsB_one] at h2
  cases hc : watB w with
  | false =>
    rw [hc] at h1
    refine r_of Th_ok (by kernel_rfl) Try.func41 rfl Try.ntmps41 Try.results41 (by kernel_rfl) rfl ?_; conv => whnf
    repeat (first | ((first | refine qb rfl rfl ?_ | refine qi (by assumption) rfl rfl ?_ | refine ql rfl ?_ | refine qo rfl rfl ?_ | refine qs rfl rfl ?_ | refine qn rfl rfl ?_); conv => whnf) | (refine qc (h1) rfl ?_; conv => whnf) | (refine r_step (p_ostore rfl rfl rfl rfl rfl (by conv => lhs; whnf) rfl) rfl rfl (fun e => by first | exact .inl rfl | contradiction | exact .inr (.inl (by kernel_rfl))) ?_; conv => whnf))
    exact r_tupCV (x := watA watZ) rfl rfl rfl rfl trivial rfl
  | true =>
    rw [hc, Bool.true_and] at hb
    rw [hc] at h1
    rw [hb] at h2
    refine r_of Th_ok (by kernel_rfl) Try.func41 rfl Try.ntmps41 Try.results41 (by kernel_rfl) rfl ?_; conv => whnf
    repeat (first | ((first | refine qb rfl rfl ?_ | refine qi (by assumption) rfl rfl ?_ | refine ql rfl ?_ | refine qo rfl rfl ?_ | refine qs rfl rfl ?_ | refine qn rfl rfl ?_); conv => whnf) | (refine qc (h1) rfl ?_; conv => whnf) | (refine qc (h2) rfl ?_; conv => whnf) | (refine r_step (p_ostore rfl rfl rfl rfl rfl (by conv => lhs; whnf) rfl) rfl rfl (fun e => by first | exact .inl rfl | contradiction | exact .inr (.inl (by kernel_rfl))) ?_; conv => whnf))
    exact r_tupCV (x := watA watZ) rfl rfl rfl rfl trivial rfl
theorem ac_sNote {w : Wat} {r : Rf} (hw : w.ok maxLen) (hr : r.name.size ≤ maxLen) (hb : watB w = true) (hb2 : refB r = true) : AC Try.prog 41 [watA w, refA r] ⟨.tup [watO (noteR w r).1 0, .v (.int .i64 (noteR w r).2)], [evtO (noteR w r).1.queue]⟩ := by
  have h1 := ac_l06OK hw
  have h2 := ac_l04OK (l := [r]) (by simp [maxLen]) (by simpa using hr)
  rw [refsB_one] at h2
  rw [hb] at h1
  rw [hb2] at h2
  obtain ⟨hs, h4⟩ := watB_of hb
  have h3 := ac_l06Own (w := w) (by omega)
  unfold noteR
  by_cases hn : r.name = w.name
  case neg =>
    rw [if_neg hn]
    refine r_of Th_ok (by kernel_rfl) Try.func41 rfl Try.ntmps41 Try.results41 (by kernel_rfl) rfl ?_; conv => whnf
    repeat (first | (refine r_put (p_bin (b_sne_t hn) rfl rfl rfl) rfl rfl ?_; conv => whnf) | ((first | refine qb rfl rfl ?_ | refine qi (by assumption) rfl rfl ?_ | refine ql rfl ?_ | refine qo rfl rfl ?_ | refine qs rfl rfl ?_ | refine qn rfl rfl ?_); conv => whnf) | (refine qc (h1) rfl ?_; conv => whnf) | (refine qc (h2) rfl ?_; conv => whnf) | (refine qc (h3) rfl ?_; conv => whnf) | (refine r_step (p_ostoreo rfl rfl rfl rfl rfl rfl) rfl rfl (fun e => by first | exact .inl rfl | contradiction | exact .inr (.inl (by kernel_rfl))) ?_; conv => whnf))
    exact r_watV rfl rfl rfl rfl rfl rfl rfl
  rw [if_pos hn]
  by_cases hv : r.ver = w.seen + 1
  case neg =>
    rw [if_neg hv]
    refine r_of Th_ok (by kernel_rfl) Try.func41 rfl Try.ntmps41 Try.results41 (by kernel_rfl) rfl ?_; conv => whnf
    repeat (first | (refine r_put (p_bin (b_sne_f hn) rfl rfl rfl) rfl rfl ?_; conv => whnf) | (refine r_put (p_bin (b_add (c := w.seen + 1) (by omega) (by omega) (by omega)) rfl rfl rfl) rfl rfl ?_; conv => whnf) | ((first | refine qb rfl rfl ?_ | refine qi (by assumption) rfl rfl ?_ | refine ql rfl ?_ | refine qo rfl rfl ?_ | refine qs rfl rfl ?_ | refine qn rfl rfl ?_); conv => whnf) | (refine qc (h1) rfl ?_; conv => whnf) | (refine qc (h2) rfl ?_; conv => whnf) | (refine qc (h3) rfl ?_; conv => whnf) | (refine r_step (p_ostoreo rfl rfl rfl rfl rfl rfl) rfl rfl (fun e => by first | exact .inl rfl | contradiction | exact .inr (.inl (by kernel_rfl))) ?_; conv => whnf))
    exact r_watV rfl rfl rfl rfl rfl rfl rfl
  rw [if_pos hv]
  have h4' := ac_l06Note (r := r) h4
  have h5 := ac_l06Own (w := noteW w r) (by have := addE_len (e := ⟨r.ver, r.head, false⟩) h4; show (addE _ _).length ≤ _; omega)
  refine r_of Th_ok (by kernel_rfl) Try.func41 rfl Try.ntmps41 Try.results41 (by kernel_rfl) rfl ?_; conv => whnf
  repeat (first | (refine r_put (p_bin (b_sne_f hn) rfl rfl rfl) rfl rfl ?_; conv => whnf) | (refine r_put (p_bin (b_add (c := w.seen + 1) (by omega) (by omega) (by omega)) rfl rfl rfl) rfl rfl ?_; conv => whnf) | ((first | refine qb rfl rfl ?_ | refine qi (by assumption) rfl rfl ?_ | refine ql rfl ?_ | refine qo rfl rfl ?_ | refine qs rfl rfl ?_ | refine qn rfl rfl ?_); conv => whnf) | (refine qc (h1) rfl ?_; conv => whnf) | (refine qc (h2) rfl ?_; conv => whnf) | (refine qc (h4') rfl ?_; conv => whnf) | (refine qc (h5) rfl ?_; conv => whnf) | (refine r_step (p_ostoreo rfl rfl rfl rfl rfl rfl) rfl rfl (fun e => by first | exact .inl rfl | contradiction | exact .inr (.inl (by kernel_rfl))) ?_; conv => whnf))
  exact r_watV rfl rfl rfl rfl rfl rfl rfl
end Go.Proofs.Ytjhimcddgkoghaa.AM
namespace Go.Proofs.Ytjhimcddgkoghaa.AM
open Go Go.RowKit
set_option linter.unusedVariables false
set_option linter.unusedSimpArgs false
set_option maxRecDepth 100000
attribute [local irreducible] ACode AOps AOps2 RetG RetM Pre ACG
set_option maxHeartbeats 1000000 in
theorem law_Note_o {w W : Wat} {r : Rf} {code : Int} (hw : w.ok maxLen) (hr : r.name.size ≤ maxLen) (hsz : 0 ≤ szW w 1048576) (hsr : 0 ≤ szW w 1048576 - r.name.size) (hW : W.queue.length ≤ 4) (hc0 : 0 ≤ code) (hc1 : code ≤ 1000)
    (h1 : AC Try.prog 41 [watA w, refA r] ⟨.tup [watO W 0, .v (.int .i64 code)], [evtO W.queue]⟩)
    (h2 : AC Try.prog 44 [watA w, refA r] ⟨.tup [watO W 0, .v (.int .i64 code)], [evtO W.queue]⟩) : AC Try.prog 7 [watA w, refA r] ⟨.v (.bool true), []⟩ := by
  obtain ⟨z0, z1, z2⟩ := szW_le hsz
  have s0 := ac_szWatch (l := 1048576) hw (by omega) (by omega)
  have s1 := ac_szRef (e := r) (l := szW w 1048576) hr (by omega) (by omega)
  rw [if_neg (by omega)] at s1
  have r0 := ac_toRef (c := r)
  have t0 := ac_toWatch (w := w) (by omega)
  have t1 := ac_toWatchO (w := w) (by omega)
  have e1 := ac_eqWatch (w := w) hw.2
  have m0 := ac_markWatchM (w := w) (k0 := 1) (by omega) (by omega) (by omega)
  have e0 := ac_eqWatch (w := W) (by unfold maxLen; omega)
  have m1 := ac_markWatchM (w := W) (k0 := 1) (by omega) (by omega) (by omega)
  have d0 := ac_heldWatch (w := W) (k0 := 1) (by omega) (by omega) (by omega)
  refine r_of Th_ok (by kernel_rfl) Try.func7 rfl Try.ntmps7 Try.results7 (by kernel_rfl) rfl ?_; conv => whnf
  repeat (first | ((first | refine qb rfl rfl ?_ | refine qi (by assumption) rfl rfl ?_ | refine ql rfl ?_ | refine qo rfl rfl ?_ | refine qs rfl rfl ?_ | refine qn rfl rfl ?_); conv => whnf) | (refine qc (s0) rfl ?_; conv => whnf) | (refine qc (s1) rfl ?_; conv => whnf))
  refine .inr ⟨by kernel_rfl, prodB_ok (by kernel_rfl), ?_⟩
  refine o2_calm (p_old rfl rfl rfl rfl rfl rfl rfl) rfl rfl rfl (.inr rfl) (by kernel_rfl) ?_
  refine o2_sft (sft_call t0 rfl rfl rfl trivial rfl rfl rfl) in_nuO rfl rfl (by kernel_rfl) ?_
  refine o2_calm (p_old rfl rfl rfl rfl rfl rfl rfl) rfl rfl rfl (.inr rfl) (by kernel_rfl) ?_
  refine o2_sft (sft_call r0 rfl rfl rfl trivial rfl rfl rfl) in_nuO rfl rfl (by kernel_rfl) ?_
  refine o2_sft (sft_call h1 rfl rfl rfl ⟨⟨rfl, rfl, rfl⟩, trivial⟩ rfl rfl rfl) in_nuO rfl rfl (by kernel_rfl) ?_
  refine o2_calm (p_mv rfl) rfl rfl rfl (.inl rfl) (by kernel_rfl) ?_
  refine o2_calm (p_ext rfl rfl) rfl rfl rfl (.inl rfl) (by kernel_rfl) ?_
  refine o2_calm (p_ext rfl rfl) rfl rfl rfl (.inl rfl) (by kernel_rfl) ?_
  refine o2_sft (sft_allo rfl rfl) in_o1 rfl rfl (by kernel_rfl) ?_
  refine o2_sftg (sft_ostoreo rfl rfl rfl rfl rfl rfl rfl rfl) in_o1 rfl rfl (by kernel_rfl) ?_
  refine o2_sft (sft_as2 rfl) in_o0 rfl rfl (by kernel_rfl) ?_
  refine o2_nil ?_
  conv => whnf
  (refine qc (t1) rfl ?_; conv => whnf)
  repeat (first | ((first | refine qb rfl rfl ?_ | refine qi (by assumption) rfl rfl ?_ | refine ql rfl ?_ | refine qo rfl rfl ?_ | refine qs rfl rfl ?_ | refine qn rfl rfl ?_); conv => whnf) | (refine r_step (p_ostoreo rfl rfl rfl rfl rfl rfl) rfl rfl (fun e => by first | exact .inl rfl | contradiction | exact .inr (.inl (by kernel_rfl))) ?_; conv => whnf))
  refine .inr ⟨by kernel_rfl, prodB_ok (by kernel_rfl), ?_⟩
  refine o2_sftg (sft_oldo rfl rfl rfl rfl rfl rfl rfl) in_o0 rfl rfl (by kernel_rfl) ?_
  refine o2_calm (p_old rfl rfl rfl rfl rfl rfl rfl) rfl rfl rfl (.inr rfl) (by kernel_rfl) ?_
  refine o2_sft (sft_call r0 rfl rfl rfl trivial rfl rfl rfl) in_nuO rfl rfl (by kernel_rfl) ?_
  refine o2_sft (sft_callo h2 rfl ⟨by simp [flatA, flatL, watO, evtA], flat_o1 (flat_map flat_evt _)⟩ ⟨⟨rfl, rfl, rfl⟩, trivial⟩ rfl rfl rfl) in_nuO rfl rfl (by kernel_rfl) ?_
  refine o2_calm (p_mv rfl) rfl rfl rfl (.inl rfl) (by kernel_rfl) ?_
  refine o2_calm (p_ext rfl rfl) rfl rfl rfl (.inl rfl) (by kernel_rfl) ?_
  refine o2_calm (p_ext rfl rfl) rfl rfl rfl (.inl rfl) (by kernel_rfl) ?_
  refine o2_sft (sft_allo rfl rfl) in_o1 rfl rfl (by kernel_rfl) ?_
  refine o2_sftg (sft_ostoreo rfl rfl rfl rfl rfl rfl rfl rfl) in_o1 rfl rfl (by kernel_rfl) ?_
  refine o2_sft (sft_as2 rfl) in_o0 rfl rfl (by kernel_rfl) ?_
  refine o2_nil ?_
  conv => whnf
  repeat (first | ((first | refine qb rfl rfl ?_ | refine qi (by assumption) rfl rfl ?_ | refine ql rfl ?_ | refine qo rfl rfl ?_ | refine qs rfl rfl ?_ | refine qn rfl rfl ?_); conv => whnf) | (refine qc (e0) rfl ?_; conv => whnf) | (refine .inl (And.intro (by kernel_rfl) ?_); conv => whnf))
  (refine qc (t0) rfl ?_; conv => whnf)
  repeat (first | ((first | refine qb rfl rfl ?_ | refine qi (by assumption) rfl rfl ?_ | refine ql rfl ?_ | refine qo rfl rfl ?_ | refine qs rfl rfl ?_ | refine qn rfl rfl ?_); conv => whnf) | (refine qc (e1) rfl ?_; conv => whnf))
  refine r_step (p_callg [36] m0 rfl rfl ⟨rfl, trivial⟩ rfl rfl trivial rfl rfl rfl (.inl rfl) rfl) rfl rfl (fun e => by first | exact .inl rfl | contradiction | exact .inr (.inl (by kernel_rfl))) ?_
  conv => whnf
  repeat (first | ((first | refine qb rfl rfl ?_ | refine qi (by assumption) rfl rfl ?_ | refine ql rfl ?_ | refine qo rfl rfl ?_ | refine qs rfl rfl ?_ | refine qn rfl rfl ?_); conv => whnf) | (refine qc (e0) rfl ?_; conv => whnf) | (refine .inl (And.intro (by kernel_rfl) ?_); conv => whnf))
  refine r_step (p_callg [41] m1 rfl rfl ⟨rfl, trivial⟩ rfl rfl trivial rfl rfl rfl (.inl rfl) rfl) rfl rfl (fun e => by first | exact .inl rfl | contradiction | exact .inr (.inl (by kernel_rfl))) ?_
  conv => whnf
  repeat (first | ((first | refine qb rfl rfl ?_ | refine qi (by assumption) rfl rfl ?_ | refine ql rfl ?_ | refine qo rfl rfl ?_ | refine qs rfl rfl ?_ | refine qn rfl rfl ?_); conv => whnf) | (refine qc (d0) rfl ?_; conv => whnf))
  refine .inr ⟨by kernel_rfl, prodB_ok (by kernel_rfl), ?_⟩
  refine o2_calm (p_old rfl rfl rfl rfl rfl rfl rfl) rfl rfl rfl (.inr rfl) (by kernel_rfl) ?_
  refine o2_sft (sft_call t0 rfl rfl rfl trivial rfl rfl rfl) in_nuO rfl rfl (by kernel_rfl) ?_
  refine o2_calm (p_old rfl rfl rfl rfl rfl rfl rfl) rfl rfl rfl (.inr rfl) (by kernel_rfl) ?_
  refine o2_sft (sft_call r0 rfl rfl rfl trivial rfl rfl rfl) in_nuO rfl rfl (by kernel_rfl) ?_
  refine o2_sft (sft_call h2 rfl rfl rfl ⟨⟨rfl, rfl, rfl⟩, trivial⟩ rfl rfl rfl) in_nuO rfl rfl (by kernel_rfl) ?_
  refine o2_calm (p_mv rfl) rfl rfl rfl (.inl rfl) (by kernel_rfl) ?_
  refine o2_calm (p_ext rfl rfl) rfl rfl rfl (.inl rfl) (by kernel_rfl) ?_
  refine o2_calm (p_ext rfl rfl) rfl rfl rfl (.inl rfl) (by kernel_rfl) ?_
  refine o2_sft (sft_allo rfl rfl) in_o1 rfl rfl (by kernel_rfl) ?_
  refine o2_sftg (sft_ostoreo rfl rfl rfl rfl rfl rfl rfl rfl) in_o1 rfl rfl (by kernel_rfl) ?_
  refine o2_sft (sft_as2 rfl) in_o0 rfl rfl (by kernel_rfl) ?_
  refine o2_nil ?_
  conv => whnf
  repeat (first | ((first | refine qb rfl rfl ?_ | refine qi (by assumption) rfl rfl ?_ | refine ql rfl ?_ | refine qo rfl rfl ?_ | refine qs rfl rfl ?_ | refine qn rfl rfl ?_); conv => whnf) | (refine qc (e0) rfl ?_; conv => whnf) | (refine .inl (And.intro (by kernel_rfl) ?_); conv => whnf))
  repeat (first | ((first | refine qb rfl rfl ?_ | refine qi (by assumption) rfl rfl ?_ | refine ql rfl ?_ | refine qo rfl rfl ?_ | refine qs rfl rfl ?_ | refine qn rfl rfl ?_); conv => whnf) | (refine qc (d0) rfl ?_; conv => whnf))
  exact r_ret1 rfl trivial
set_option maxHeartbeats 1000000 in
theorem law_Note_b {w : Wat} {nm : ByteArray} {sn : Int} {r : Rf} {code : Int} (hw : w.ok maxLen) (hr : r.name.size ≤ maxLen) (hsz : 0 ≤ szW w 1048576) (hsr : 0 ≤ szW w 1048576 - r.name.size) (hc0 : 0 ≤ code) (hc1 : code ≤ 1000)
    (h1 : AC Try.prog 41 [watA w, refA r] ⟨.tup [watA ⟨nm, sn, []⟩, .v (.int .i64 code)], []⟩)
    (h2 : AC Try.prog 44 [watA w, refA r] ⟨.tup [watA ⟨nm, sn, []⟩, .v (.int .i64 code)], []⟩) : AC Try.prog 7 [watA w, refA r] ⟨.v (.bool true), []⟩ := by
  obtain ⟨z0, z1, z2⟩ := szW_le hsz
  have s0 := ac_szWatch (l := 1048576) hw (by omega) (by omega)
  have s1 := ac_szRef (e := r) (l := szW w 1048576) hr (by omega) (by omega)
  rw [if_neg (by omega)] at s1
  have r0 := ac_toRef (c := r)
  have t0 := ac_toWatch (w := w) (by omega)
  have t1 := ac_toWatchO (w := w) (by omega)
  have e1 := ac_eqWatch (w := w) hw.2
  have m0 := ac_markWatchM (w := w) (k0 := 1) (by omega) (by omega) (by omega)
  have e0 := ac_eqWatch (w := ⟨nm, sn, []⟩) (by simp)
  have m1 := ac_markWatch0 (nm := nm) (sn := sn) (k0 := 1)
  have d0 : AC Try.prog 47 [watA ⟨nm, sn, []⟩, .v (.int .i64 1)] ⟨.v (.int .i64 1), []⟩ := ac_heldWatch (w := ⟨nm, sn, []⟩) (k0 := 1) (by simp) (by omega) (by omega)
  refine r_of Th_ok (by kernel_rfl) Try.func7 rfl Try.ntmps7 Try.results7 (by kernel_rfl) rfl ?_; conv => whnf
  repeat (first | ((first | refine qb rfl rfl ?_ | refine qi (by assumption) rfl rfl ?_ | refine ql rfl ?_ | refine qo rfl rfl ?_ | refine qs rfl rfl ?_ | refine qn rfl rfl ?_); conv => whnf) | (refine qc (s0) rfl ?_; conv => whnf) | (refine qc (s1) rfl ?_; conv => whnf))
  refine .inr ⟨by kernel_rfl, prodB_ok (by kernel_rfl), ?_⟩
  refine o2_calm (p_old rfl rfl rfl rfl rfl rfl rfl) rfl rfl rfl (.inr rfl) (by kernel_rfl) ?_
  refine o2_sft (sft_call t0 rfl rfl rfl trivial rfl rfl rfl) in_nuO rfl rfl (by kernel_rfl) ?_
  refine o2_calm (p_old rfl rfl rfl rfl rfl rfl rfl) rfl rfl rfl (.inr rfl) (by kernel_rfl) ?_
  refine o2_sft (sft_call r0 rfl rfl rfl trivial rfl rfl rfl) in_nuO rfl rfl (by kernel_rfl) ?_
  refine o2_sft (sft_call h1 rfl rfl rfl trivial rfl rfl rfl) in_nuO rfl rfl (by kernel_rfl) ?_
  refine o2_calm (p_mv rfl) rfl rfl rfl (.inl rfl) (by kernel_rfl) ?_
  refine o2_calm (p_ext rfl rfl) rfl rfl rfl (.inl rfl) (by kernel_rfl) ?_
  refine o2_calm (p_ext rfl rfl) rfl rfl rfl (.inl rfl) (by kernel_rfl) ?_
  refine o2_sft (sft_allo rfl rfl) in_o1 rfl rfl (by kernel_rfl) ?_
  refine o2_sft (sft_osto rfl rfl rfl rfl rfl rfl rfl) in_o1 rfl rfl (by kernel_rfl) ?_
  refine o2_sft (sft_as2 rfl) in_o0 rfl rfl (by kernel_rfl) ?_
  refine o2_nil ?_
  conv => whnf
  (refine qc (t1) rfl ?_; conv => whnf)
  repeat (first | ((first | refine qb rfl rfl ?_ | refine qi (by assumption) rfl rfl ?_ | refine ql rfl ?_ | refine qo rfl rfl ?_ | refine qs rfl rfl ?_ | refine qn rfl rfl ?_); conv => whnf) | (refine r_step (p_ostoreo rfl rfl rfl rfl rfl rfl) rfl rfl (fun e => by first | exact .inl rfl | contradiction | exact .inr (.inl (by kernel_rfl))) ?_; conv => whnf))
  refine .inr ⟨by kernel_rfl, prodB_ok (by kernel_rfl), ?_⟩
  refine o2_sftg (sft_oldo rfl rfl rfl rfl rfl rfl rfl) in_o0 rfl rfl (by kernel_rfl) ?_
  refine o2_calm (p_old rfl rfl rfl rfl rfl rfl rfl) rfl rfl rfl (.inr rfl) (by kernel_rfl) ?_
  refine o2_sft (sft_call r0 rfl rfl rfl trivial rfl rfl rfl) in_nuO rfl rfl (by kernel_rfl) ?_
  refine o2_sft (sft_callo h2 rfl ⟨by simp [flatA, flatL, watA, evtA], flat_o0⟩ trivial rfl rfl rfl) in_nuO rfl rfl (by kernel_rfl) ?_
  refine o2_calm (p_mv rfl) rfl rfl rfl (.inl rfl) (by kernel_rfl) ?_
  refine o2_calm (p_ext rfl rfl) rfl rfl rfl (.inl rfl) (by kernel_rfl) ?_
  refine o2_calm (p_ext rfl rfl) rfl rfl rfl (.inl rfl) (by kernel_rfl) ?_
  refine o2_sft (sft_allo rfl rfl) in_o1 rfl rfl (by kernel_rfl) ?_
  refine o2_sft (sft_osto rfl rfl rfl rfl rfl rfl rfl) in_o1 rfl rfl (by kernel_rfl) ?_
  refine o2_sft (sft_as2 rfl) in_o0 rfl rfl (by kernel_rfl) ?_
  refine o2_nil ?_
  conv => whnf
  repeat (first | ((first | refine qb rfl rfl ?_ | refine qi (by assumption) rfl rfl ?_ | refine ql rfl ?_ | refine qo rfl rfl ?_ | refine qs rfl rfl ?_ | refine qn rfl rfl ?_); conv => whnf) | (refine qc (e0) rfl ?_; conv => whnf) | (refine .inl (And.intro (by kernel_rfl) ?_); conv => whnf))
  (refine qc (t0) rfl ?_; conv => whnf)
  repeat (first | ((first | refine qb rfl rfl ?_ | refine qi (by assumption) rfl rfl ?_ | refine ql rfl ?_ | refine qo rfl rfl ?_ | refine qs rfl rfl ?_ | refine qn rfl rfl ?_); conv => whnf) | (refine qc (e1) rfl ?_; conv => whnf))
  refine r_step (p_callg [36] m0 rfl rfl ⟨rfl, trivial⟩ rfl rfl trivial rfl rfl rfl (.inl rfl) rfl) rfl rfl (fun e => by first | exact .inl rfl | contradiction | exact .inr (.inl (by kernel_rfl))) ?_
  conv => whnf
  repeat (first | ((first | refine qb rfl rfl ?_ | refine qi (by assumption) rfl rfl ?_ | refine ql rfl ?_ | refine qo rfl rfl ?_ | refine qs rfl rfl ?_ | refine qn rfl rfl ?_); conv => whnf) | (refine qc (e0) rfl ?_; conv => whnf) | (refine .inl (And.intro (by kernel_rfl) ?_); conv => whnf))
  repeat (first | ((first | refine qb rfl rfl ?_ | refine qi (by assumption) rfl rfl ?_ | refine ql rfl ?_ | refine qo rfl rfl ?_ | refine qs rfl rfl ?_ | refine qn rfl rfl ?_); conv => whnf) | (refine qc (m1) rfl ?_; conv => whnf) | (refine qc (d0) rfl ?_; conv => whnf))
  refine .inr ⟨by kernel_rfl, prodB_ok (by kernel_rfl), ?_⟩
  refine o2_calm (p_old rfl rfl rfl rfl rfl rfl rfl) rfl rfl rfl (.inr rfl) (by kernel_rfl) ?_
  refine o2_sft (sft_call t0 rfl rfl rfl trivial rfl rfl rfl) in_nuO rfl rfl (by kernel_rfl) ?_
  refine o2_calm (p_old rfl rfl rfl rfl rfl rfl rfl) rfl rfl rfl (.inr rfl) (by kernel_rfl) ?_
  refine o2_sft (sft_call r0 rfl rfl rfl trivial rfl rfl rfl) in_nuO rfl rfl (by kernel_rfl) ?_
  refine o2_sft (sft_call h2 rfl rfl rfl trivial rfl rfl rfl) in_nuO rfl rfl (by kernel_rfl) ?_
  refine o2_calm (p_mv rfl) rfl rfl rfl (.inl rfl) (by kernel_rfl) ?_
  refine o2_calm (p_ext rfl rfl) rfl rfl rfl (.inl rfl) (by kernel_rfl) ?_
  refine o2_calm (p_ext rfl rfl) rfl rfl rfl (.inl rfl) (by kernel_rfl) ?_
  refine o2_sft (sft_allo rfl rfl) in_o1 rfl rfl (by kernel_rfl) ?_
  refine o2_sft (sft_osto rfl rfl rfl rfl rfl rfl rfl) in_o1 rfl rfl (by kernel_rfl) ?_
  refine o2_sft (sft_as2 rfl) in_o0 rfl rfl (by kernel_rfl) ?_
  refine o2_nil ?_
  conv => whnf
  repeat (first | ((first | refine qb rfl rfl ?_ | refine qi (by assumption) rfl rfl ?_ | refine ql rfl ?_ | refine qo rfl rfl ?_ | refine qs rfl rfl ?_ | refine qn rfl rfl ?_); conv => whnf) | (refine qc (e0) rfl ?_; conv => whnf) | (refine .inl (And.intro (by kernel_rfl) ?_); conv => whnf))
  repeat (first | ((first | refine qb rfl rfl ?_ | refine qi (by assumption) rfl rfl ?_ | refine ql rfl ?_ | refine qo rfl rfl ?_ | refine qs rfl rfl ?_ | refine qn rfl rfl ?_); conv => whnf) | (refine qc (d0) rfl ?_; conv => whnf))
  exact r_ret1 rfl trivial
theorem law_NoteRef {w : Wat} {r : Rf} (hw : w.ok maxLen) (hr : r.name.size ≤ maxLen) : AC Try.prog 7 [watA w, refA r] ⟨.v (.bool true), []⟩ := by
  have s0 := ac_szWatch (l := 1048576) hw (by omega) (by omega)
  by_cases hsz : szW w 1048576 < 0
  · refine r_of Th_ok (by kernel_rfl) Try.func7 rfl Try.ntmps7 Try.results7 (by kernel_rfl) rfl ?_; conv => whnf
    repeat (first | ((first | refine qb rfl rfl ?_ | refine qi (by assumption) rfl rfl ?_ | refine ql rfl ?_ | refine qo rfl rfl ?_ | refine qs rfl rfl ?_ | refine qn rfl rfl ?_); conv => whnf) | (refine qc (s0) rfl ?_; conv => whnf))
    exact r_ret1 rfl trivial
  obtain ⟨z0, z1, z2⟩ := szW_le (by omega : 0 ≤ szW w 1048576)
  have s1 := ac_szRef (e := r) (l := szW w 1048576) hr (by omega) (by omega)
  by_cases hsr : szW w 1048576 - r.name.size < 0
  · rw [if_pos hsr] at s1
    refine r_of Th_ok (by kernel_rfl) Try.func7 rfl Try.ntmps7 Try.results7 (by kernel_rfl) rfl ?_; conv => whnf
    repeat (first | ((first | refine qb rfl rfl ?_ | refine qi (by assumption) rfl rfl ?_ | refine ql rfl ?_ | refine qo rfl rfl ?_ | refine qs rfl rfl ?_ | refine qn rfl rfl ?_); conv => whnf) | (refine qc (s0) rfl ?_; conv => whnf) | (refine qc (s1) rfl ?_; conv => whnf))
    exact r_ret1 rfl trivial
  cases hb : (watB w && refB r) with
  | false => exact law_Note_b hw hr (by omega) (by omega) (by omega) (by omega) (ac_sNote_bad hw hr hb) (ac_iNote_bad hw hr hb)
  | true =>
    rw [Bool.and_eq_true] at hb
    refine law_Note_o hw hr (by omega) (by omega) ?_ ?_ ?_ (ac_sNote hw hr hb.1 hb.2) (ac_iNote hw hr hb.1 hb.2)
    · unfold noteR noteW
      split
      · split
        · exact addE_len (watB_of hb.1).2
        · exact (watB_of hb.1).2
      · exact (watB_of hb.1).2
    · unfold noteR
      split
      · split <;> simp
      · simp
    · unfold noteR
      split
      · split <;> simp
      · simp
end Go.Proofs.Ytjhimcddgkoghaa.AM
namespace Go.Proofs.Ytjhimcddgkoghaa.AM
open Go Go.RowKit Go.ChangeShapes Go.WideShapes Go.Deep
set_option linter.unusedVariables false
set_option linter.unusedSimpArgs false
def evtC (r : Evt) : List Value := [.int .i64 r.ver, .int .i64 r.head, .bool r.lag]
def evtsC (l : List Evt) : List Value := l.flatMap evtC
theorem evtsC_at : ∀ (l : List Evt) (j : Nat) (u : Value), (evtsC l)[j]? = some u → ∃ i, ∃ hi : i < l.length, (j = i * 3 ∧ u = .int .i64 l[i].ver) ∨ (j = i * 3 + 1 ∧ u = .int .i64 l[i].head) ∨ (j = i * 3 + 2 ∧ u = .bool l[i].lag)
  | [], j, u, h => by simp [evtsC] at h
  | r :: l, 0, u, h => by simp [evtsC, evtC] at h; exact ⟨0, by simp, .inl ⟨rfl, h.symm⟩⟩
  | r :: l, 1, u, h => by simp [evtsC, evtC] at h; exact ⟨0, by simp, .inr (.inl ⟨rfl, h.symm⟩)⟩
  | r :: l, 2, u, h => by simp [evtsC, evtC] at h; exact ⟨0, by simp, .inr (.inr ⟨rfl, h.symm⟩)⟩
  | r :: l, j + 3, u, h => by
    have h' : (evtsC l)[j]? = some u := by
      have : evtsC (r :: l) = evtC r ++ evtsC l := rfl
      rw [this, List.getElem?_append_right (by simp [evtC])] at h
      simpa [evtC] using h
    obtain ⟨i, hi, h⟩ := evtsC_at l j u h'
    refine ⟨i + 1, by simpa using hi, ?_⟩
    simp only [List.getElem_cons_succ]
    rcases h with ⟨h1, h2⟩ | ⟨h1, h2⟩ | ⟨h1, h2⟩
    · exact .inl ⟨by omega, h2⟩
    · exact .inr (.inl ⟨by omega, h2⟩)
    · exact .inr (.inr ⟨by omega, h2⟩)
section
variable {S : Nat → Prop} {w : World}
theorem rl_evts : ∀ (l : List Evt), RL S w (l.map evtA) (evtsC l)
  | [] => rl_nil
  | r :: l => by
    have : evtsC (r :: l) = evtC r ++ evtsC l := rfl
    rw [List.map_cons, this]
    exact rl_cons (ra_agg (rl_cons (c1 := [_]) (ra_v rfl) (rl_cons (c1 := [_]) (ra_v rfl) (rl_cons (c1 := [_]) (ra_v rfl) rl_nil)))) (rl_evts l)
end
section
variable {H : Type} {enc : TypeId × Value → H} {P : Program} {w : World} {base : Nat} {held : Bool}
theorem open_evts {t e : TypeId} {f0 f1 f2 : Field} {A : Option Addr} {n c : Nat} {d : DataW H} {p : List MemPlace} (ht : P.underlying t = some (.slice e)) (he : P.underlying e = some (.struct #[f0, f1, f2]))
    (hone : oneCellFields P #[f0, f1, f2] = true) (hC : P.cellsOf e = 3) (h0 : P.underlying f0.type = some (.int .i64)) (h1 : P.underlying f1.type = some (.int .i64)) (h2 : P.underlying f2.type = some .bool) (h : DataW.Trod enc P w base (fun _ => true) held t (.slice A n c) d p) :
    ∃ l : List Evt, (∀ hp B V, RV (InW w) w hp B V (.lst 3 (l.map evtA)) (.slice A n c)) ∧ l.length ≤ maxLen := by
  have hcap := open_cap ht h
  obtain ⟨hn, hf⟩ := open_fields ht he hone hC (by simp) h
  rcases Nat.eq_zero_or_pos n with h | hpos
  · subst h
    refine ⟨[], fun hp B V => ?_, Nat.zero_le _⟩
    simp only [List.map_nil]
    unfold RV RA
    exact ⟨_, _, rfl, Nat.zero_le _, hcap.2, by simp, by omega, .inl rfl⟩
  obtain ⟨b, off, rfl, hlt, hi⟩ := hf hpos
  obtain ⟨l, hl, hq⟩ := list_of (α := Evt) n (fun i x => w.cell? ⟨b, off + (i * 3 + 0), none⟩ = some (.int .i64 x.ver) ∧ w.cell? ⟨b, off + (i * 3 + 1), none⟩ = some (.int .i64 x.head) ∧ w.cell? ⟨b, off + (i * 3 + 2), none⟩ = some (.bool x.lag)) (fun i hin => by
    obtain ⟨k, hk⟩ := hi i hin
    obtain ⟨v0, y0, c0, t0⟩ := hk 0 f0 rfl
    obtain ⟨v1, y1, c1, t1⟩ := hk 1 f1 rfl
    obtain ⟨v2, y2, c2, t2⟩ := hk 2 f2 rfl
    obtain ⟨x, hx, _, _⟩ := DataW.trod_int h0 t0
    obtain ⟨y, hy, _, _⟩ := DataW.trod_int h1 t1
    obtain ⟨g, hg, _⟩ := DataW.trod_bool h2 t2
    simp at hx hy hg
    subst hx; subst hy; subst hg
    exact ⟨⟨x, y, g⟩, c0, c1, c2⟩)
  refine ⟨l, fun hp B V => ?_, by omega⟩
  unfold RV RA
  refine ⟨_, c, by rw [List.length_map, hl], by rw [List.length_map, hl]; exact hcap.1, hcap.2, all_evt _, by omega, .inr ⟨b, off, _, rfl, hlt, rl_evts l, fun j u hu => ?_⟩⟩
  obtain ⟨i, hi', h⟩ := evtsC_at _ j u hu
  obtain ⟨q0, q1, q2⟩ := hq i hi'
  rcases h with ⟨rfl, rfl⟩ | ⟨rfl, rfl⟩ | ⟨rfl, rfl⟩
  · exact q0
  · exact q1
  · exact q2
theorem list3 {α : Type} {l : List α} {a b c : α} (h : l.length = 3) (h0 : l[0]? = some a) (h1 : l[1]? = some b) (h2 : l[2]? = some c) : l = [a, b, c] := by
  match l, h with
  | [_, _, _], _ => simp at h0 h1 h2; subst h0 h1 h2; rfl
theorem list4 {α : Type} {l : List α} {a b c e : α} (h : l.length = 4) (h0 : l[0]? = some a) (h1 : l[1]? = some b) (h2 : l[2]? = some c) (h3 : l[3]? = some e) : l = [a, b, c, e] := by
  match l, h with
  | [_, _, _, _], _ => simp at h0 h1 h2 h3; subst h0 h1 h2 h3; rfl
/-- a watch -/
theorem open_wat {t te : TypeId} {f0 f1 f2 g0 g1 g2 : Field} {cs : Array Value} {d : DataW H} {p : List MemPlace} (ht : P.underlying t = some (.struct #[f0, f1, f2])) (hone : oneCellFields P #[f0, f1, f2] = true) (hC : P.cellsOf t = 3)
    (h0 : P.underlying f0.type = some .string) (h1 : P.underlying f1.type = some (.int .i64)) (h2 : P.underlying f2.type = some (.slice te))
    (he : P.underlying te = some (.struct #[g0, g1, g2])) (hone1 : oneCellFields P #[g0, g1, g2] = true) (hC1 : P.cellsOf te = 3) (k0 : P.underlying g0.type = some (.int .i64)) (k1 : P.underlying g1.type = some (.int .i64)) (k2 : P.underlying g2.type = some .bool)
    (h : DataW.Trod enc P w base (fun _ => true) held t (.agg cs) d p) : ∃ x : Wat, (∀ hp B V, RV (InW w) w hp B V (watA x) (.agg cs)) ∧ x.ok maxLen := by
  obtain ⟨hl, k, hk⟩ := open_agg ht hone hC h
  obtain ⟨v0, y0, c0, t0⟩ := hk 0 f0 rfl
  obtain ⟨v1, y1, c1, t1⟩ := hk 1 f1 rfl
  obtain ⟨v2, y2, c2, t2⟩ := hk 2 f2 rfl
  obtain ⟨s0, hs0, _, hz0⟩ := DataW.trod_string h0 t0
  obtain ⟨x1, hx1, _, _⟩ := DataW.trod_int h1 t1
  simp at hs0 hx1
  subst hs0 hx1
  obtain ⟨A2, n2, c2', rfl⟩ := one_slice h2 t2
  obtain ⟨es, hes, hm⟩ := open_evts h2 he hone1 hC1 k0 k1 k2 (trod_of rfl t2)
  have hra := hes (fun _ => none) (fun _ => 0) (fun _ => undef)
  unfold RV at hra
  exact ⟨⟨s0, x1, es⟩, fun hp B V => rv_agg (list3 (by simpa using hl) c0 c1 c2) (rl_cons (c1 := [_]) (ra_v rfl) (rl_cons (c1 := [_]) (ra_v rfl) (rl_cons (c1 := [_]) hra rl_nil))), hz0, hm⟩
/-- a reference -/
theorem open_ref {t : TypeId} {f0 f1 f2 f3 : Field} {cs : Array Value} {d : DataW H} {p : List MemPlace} (ht : P.underlying t = some (.struct #[f0, f1, f2, f3])) (hone : oneCellFields P #[f0, f1, f2, f3] = true) (hC : P.cellsOf t = 4)
    (h0 : P.underlying f0.type = some .string) (h1 : P.underlying f1.type = some (.int .i64)) (h2 : P.underlying f2.type = some (.int .i64)) (h3 : P.underlying f3.type = some .bool)
    (h : DataW.Trod enc P w base (fun _ => true) held t (.agg cs) d p) : ∃ x : Rf, (∀ hp B V, RV (InW w) w hp B V (refA x) (.agg cs)) ∧ x.name.size ≤ maxLen := by
  obtain ⟨hl, k, hk⟩ := open_agg ht hone hC h
  obtain ⟨v0, y0, c0, t0⟩ := hk 0 f0 rfl
  obtain ⟨v1, y1, c1, t1⟩ := hk 1 f1 rfl
  obtain ⟨v2, y2, c2, t2⟩ := hk 2 f2 rfl
  obtain ⟨v3, y3, c3, t3⟩ := hk 3 f3 rfl
  obtain ⟨s0, hs0, _, hz0⟩ := DataW.trod_string h0 t0
  obtain ⟨x1, hx1, _, _⟩ := DataW.trod_int h1 t1
  obtain ⟨x2, hx2, _, _⟩ := DataW.trod_int h2 t2
  obtain ⟨x3, hx3, _⟩ := DataW.trod_bool h3 t3
  simp at hs0 hx1 hx2 hx3
  subst hs0 hx1 hx2 hx3
  exact ⟨⟨s0, x1, x2, x3⟩, fun hp B V => rv_agg (list4 (by simpa using hl) c0 c1 c2 c3) (rl_cons (c1 := [_]) (ra_v rfl) (rl_cons (c1 := [_]) (ra_v rfl) (rl_cons (c1 := [_]) (ra_v rfl) (rl_cons (c1 := [_]) (ra_v rfl) rl_nil)))), hz0⟩
end
end Go.Proofs.Ytjhimcddgkoghaa.AM
