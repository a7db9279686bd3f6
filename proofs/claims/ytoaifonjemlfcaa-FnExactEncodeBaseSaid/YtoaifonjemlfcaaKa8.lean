/- Texts of the machine over data, folded. -/
import Derived.Test.YtoaifonjemlfcaaKa6
import Derived.Test.YtoaifonjemlfcaaKa7
import Derived.Lib.FrozenHead2
import Derived.Lib.OthersKept
import Derived.Laws.Externs
import Derived.WalkSpells
import Derived.RegionTactic
import Derived.BigRegion
import Derived.Test.YtoaifonjemlfcaaKa5
import Derived.Laws.BitsLemmas
import Derived.Laws.StructEq
set_option linter.unusedVariables false
set_option linter.unusedSimpArgs false
set_option maxRecDepth 100000
namespace Go.Proofs.Ytoaifonjemlfcaa.AM
open Go Go.RowKit Go.ChangeShapes Go.WideShapes Go.Deep
section
variable {H : Type} {enc : TypeId × Value → H} {P : Program} {w : World} {base : Nat} {spare : Nat → Bool} {held : Bool}
theorem jw {t e : TypeId} {A : Option Addr} {n c : Nat} {d : DataW H} {p : List MemPlace} (ht : P.underlying t = some (.slice e)) (h : DataW.Trod enc P w base spare held t (.slice A n c) d p) : n ≤ c ∧ c ≤ maxLen := by
 obtain ⟨fuel, hf⟩ := h
 rcases open_slice ht hf with ⟨hcs, _⟩ | ⟨a, len, cap, m, n', D, Pl, hcs, hb, hl, hm, _⟩
 · simp [Value.cells] at hcs; obtain ⟨rfl, rfl, rfl⟩ := hcs; exact ⟨Nat.le_refl _, Nat.zero_le _⟩
 · simp [Value.cells] at hcs; obtain ⟨rfl, rfl, rfl⟩ := hcs; exact ⟨hl, hm⟩
end
section
variable {w : World} {hp : Nat → Option OB} {B : Nat → Nat} {V : Nat → Value}
def InW (w : World) : Nat → Prop := fun b => b < w.heap.size
theorem aIz {sz : Nat} {A : Option Addr} {n : Nat} {xs : List Value} (h : Rd w sz A n xs) (hn : 0 < n) : ∃ b off, A = some ⟨b, off, none⟩ ∧ InW w b ∧ ∀ j u, xs[j]? = some u → w.cell? ⟨b, off + j, none⟩ = some u := by
 obtain ⟨b, off, h1, h2, h3⟩ := h.2 hn
 exact ⟨b, off, h1, h2, h3⟩
theorem aE9 {A : Option Addr} {n c : Nat} {es : List Ent} (hc : n ≤ c ∧ c ≤ maxLen) (h : Rd w 2 A n (xg es)) : RV (InW w) w hp B V (.lst 2 (es.map zR)) (.slice A n c) := by
 have hl := h.len
 unfold RV; unfold RA
 refine ⟨A, c, by rw [List.length_map, hl], by rw [List.length_map, hl]; exact hc.1, hc.2, aED _, by omega, ?_⟩
 rcases Nat.eq_zero_or_pos n with h0 | h0
 · exact .inl (by rw [List.map_eq_nil_iff]; exact List.eq_nil_of_length_eq_zero (by omega))
 · obtain ⟨b, off, h1, h2, h3⟩ := aIz h h0
   exact .inr ⟨b, off, xg es, h1, h2, jY.2 rfl, h3⟩
theorem rv_one {x : Value} (h : x.oneCell' = true) : RV (InW w) w hp B V (.v x) x := by unfold RV; exact ⟨rfl, h⟩
theorem rvs_nil : RVs (InW w) w hp B V [] [] := by unfold RVs; rfl
theorem rvs_cons {x : AV} {xs : List AV} {u : Value} {us : List Value} (h : RV (InW w) w hp B V x u) (r : RVs (InW w) w hp B V xs us) : RVs (InW w) w hp B V (x :: xs) (u :: us) := by
 unfold RVs; exact ⟨u, us, rfl, h, r⟩
theorem law_calls {P : Program} {f : FuncId} {args : List AV} {vs : List Value} {r : Value} (h : AC P f args ⟨.v r, []⟩) (hv : RVs (InW w) w (fun _ => none) (fun _ => 0) (fun _ => undef) args vs) (hG : ∀ g y, GT g = some y → RA (InW w) w (.ptr y) [.pointer (some ⟨g, 0, none⟩)] := by intro g y e; cases e) : Calls P f vs.toArray w fun e w' => e = .returned r ∧ Below w.heap.size w w' :=
 (h.2 w (InW w) (fun _ => 0) (fun _ => undef) (fun _ => Fa) vs (fun b hb => hb) hG (wS (fun _ => rfl)) (aAt (fun _ => rfl) hv)).mono fun e w' ⟨v, S, B, V, T, T1, h1, h2, _, _, h5, _⟩ => by
  unfold RV at h5
  exact ⟨by rw [h1, h5.1], h2.below (fun g ⟨l, ob, e, _⟩ => by cases e)⟩
end
end Go.Proofs.Ytoaifonjemlfcaa.AM
namespace Go.Proofs.Ytoaifonjemlfcaa
open Go Go.RowKit
abbrev wC (b : Nat) (bs : List Value) (w : World) : Prop := Lib.IsBuilderF 60 5 0 b bs w
def uV (w : World) (b g : Nat) : Prop := ∃ v, w.cell? ⟨b, 1, none⟩ = some v ∧ v.ownBlock = some g
theorem aEG {b : Nat} {bs : List Value} {w : World} (h : wC b bs w) : ∃ p, (p = .pointer none ∨ p = .pointer (some ⟨b, 0, none⟩)) ∧ Lib.BuilderAtF 60 5 0 b p bs w := by
 rcases h with h | h
 · exact ⟨_, .inl rfl, h⟩
 · exact ⟨_, .inr rfl, h⟩
set_option maxHeartbeats 1000000 in
set_option maxRecDepth 100000 in
theorem aHX (b : Nat) (w : World) (h0 : w.cell? ⟨b, 0, none⟩ = some (.pointer (some ⟨b, 0, none⟩))) :
 Calls Try.prog 67 #[.pointer (some ⟨b, 0, none⟩)] w fun e w' => e = .returned (.tuple #[]) ∧ w' = w := by
 obtain ⟨j, hj, _⟩ := Option.map_eq_some_iff.1 (show (Try.prog.info? 58).map (·.size) = some 2 from by kernel_rfl)
 go_enter Try.func67, Try.ntmps67
 go_wp2
 rw [Lib.run_neq_ptr_same w _ Try.underlying55 hj]
 go_wp2
 go_end0
 exact ⟨rfl, rfl⟩
set_option maxHeartbeats 1000000 in
set_option maxRecDepth 100000 in
theorem aGd (b : Nat) (w : World) (h0 : w.cell? ⟨b, 0, none⟩ = some (.pointer none)) (hsh : w.shape? b = some (60, 2)) (hfz : w.frozen? ⟨b, 0, none⟩ = false) :
 Calls Try.prog 67 #[.pointer (some ⟨b, 0, none⟩)] w fun e w' => e = .returned (.tuple #[]) ∧ w' = w.setCell ⟨b, 0, none⟩ (.pointer (some ⟨b, 0, none⟩)) := by
 obtain ⟨j, hj, hjs⟩ := Option.map_eq_some_iff.1 (show (Try.prog.info? 58).map (·.size) = some 2 from by kernel_rfl)
 have hlies : liesAt Try.prog Try.prog.depth 60 (2 / Try.prog.cellsOf 60) 0 58 1 = true := by kernel_rfl
 have h164 : Try.prog.underlying 117 = some .unsafePointer := by kernel_rfl
 have hext : ∃ fn, Try.prog.funcs[79]? = some fn := ⟨_, Try.func79⟩
 go_enter Try.func67, Try.ntmps67
 go_wp2
 rw [Lib.run_to_unsafe w ⟨b, 0, none⟩ Try.underlying55 h164 hj (by rw [hjs]; decide) hsh (Nat.zero_lt_succ 1)]
 simp only [Result.andThen]
 rw [Oper.upon_value]
 go_wp2
 rw [run_callFunc_extern Try.func79 (by kernel_rfl) (by kernel_rfl) (by kernel_rfl) (e := Extern.AbiNoEscape.same) (by kernel_rfl)]
 rw [Lib.run_noEscape]
 simp only [Result.andThen]
 rw [Oper.upon_value]
 go_wp2
 rw [Lib.run_from_unsafe w ⟨b, 0, none⟩ h164 Try.underlying55 hj hsh hlies]
 simp only [Result.andThen]
 rw [Oper.upon_value]
 go_wp2
 go_end0
 exact ⟨rfl, rfl⟩
structure BldPost (b : Nat) (bs : List Value) (w w' : World) : Prop where
 is : wC b bs w'
 gr : AM.Grown w w' (fun g => g = b ∨ uV w b g)
 nb : ∀ g, uV w' b g → uV w b g ∨ w.heap.size ≤ g
theorem aCD {w w' : World} {M : Nat → Prop} (h : AM.Grown w w' M) (b i : Nat) (v : Value) (hb : M b) : AM.Grown w (w'.setCell ⟨b, i, none⟩ v) M :=
 ⟨h.os, h.tape, h.output, by rw [show (w'.setCell ⟨b, i, none⟩ v).heap.size = w'.heap.size from by simp [World.setCell]]; exact h.size, fun k hk hM => by
  rw [← h.block k hk hM]
  have hne : b ≠ k := fun e => hM (e ▸ hb)
  simp [World.setCell, Array.getElem?_modify, hne]⟩
theorem aEI {w w' : World} {b g : Nat} (h : w'.cell? ⟨b, 1, none⟩ = w.cell? ⟨b, 1, none⟩) (hg : uV w' b g) : uV w b g := by
 obtain ⟨v, h1, h2⟩ := hg
 exact ⟨v, by rw [← h]; exact h1, h2⟩
theorem aFa (b : Nat) (bs : List Value) (w : World) (h : wC b bs w) :
 Calls Try.prog 67 #[.pointer (some ⟨b, 0, none⟩)] w fun e w' => e = .returned (.tuple #[]) ∧ Lib.BuilderAtF 60 5 0 b (.pointer (some ⟨b, 0, none⟩)) bs w' ∧ w'.heap.size = w.heap.size ∧ AM.Grown w w' (fun g => g = b) ∧ w'.cell? ⟨b, 1, none⟩ = w.cell? ⟨b, 1, none⟩ := by
 rcases h with h | h
 · refine (aGd b w h.cell0 h.shape h.frozen0).mono ?_
   rintro e w' ⟨rfl, rfl⟩
   exact ⟨rfl, h.used _, by simp [World.setCell], aCD (AM.Grown.refl w _) b 0 _ rfl, World.cell?_setCell_other _ _ _ _ (by simp)⟩
 · refine (aHX b w h.cell0).mono ?_
   rintro e w' ⟨rfl, rfl⟩
   exact ⟨rfl, h, rfl, AM.Grown.refl w' _, rfl⟩
structure AppP (w : World) (e : TypeId) (v : Value) (n : Nat) (bs : List Value) (v' : Value) (w' : World) : Prop where
 own : w'.ownsRowF 0 e 1 v' n bs
 gr : w.grownBy w' v.ownBlock
 at_ : ∀ g, v'.ownBlock = some g → v.ownBlock = some g ∨ w.heap.size ≤ g
section
variable {P : Program} (w : World)
theorem aF3 {t ty e : TypeId} {i : TypeInfo} {z : Value} {bytes : Nat} (ht : P.underlying t = some (.slice e)) (hi : P.info? e = some i) (hz : i.zero = some z)
 (hsize : i.size = 1) (hby : i.bytes = bytes) (hzs : z.cells.size = 1) (v : Value) (n : Nat) (xs : List Value) (hown : w.ownsRowF 0 e 1 v n xs)
 (a : Addr) (m c : Nat) (news : List Value) (hl : news.length = m * 1) (hnews : ∀ j u, news[j]? = some u → w.cell? (a.add j) = some u) (h1 : ∀ u ∈ news, u.oneCell' = true)
 (h63 : n + m ≤ maxLen) (hbytes : (n + m) * bytes ≤ 140737488355328) :
 ∃ v' w', (Builtin.append_ #[t, t] ty #[v, .slice (some a) m c]).run P w = .ok v' w' ∧ AppP w e v (n + m) (xs ++ news) v' w' := by
 have hsmall : n + m ≤ 9223372036854775807 := by simp only [maxLen] at h63; omega
 rcases hown.2 with ⟨rfl, rfl⟩ | ⟨g, cap, cur, fz, rfl, hbg, hg, hfz, hnc, hcm, hcs, htake⟩
 · obtain ⟨v', w', r1, r2, r3, _⟩ := run_append_ownF (P := P) w w.heap.size t ty e i z 1 bytes ht hi hz hsize hby hzs (by decide) (.slice none 0 0) 0 xs ⟨hown.1, .inl ⟨rfl, rfl⟩⟩ a m c news hl hnews h1 h63 hbytes (Nat.le_refl _)
   refine ⟨v', w', r1, ?_, r3, fun g hg => .inr (r2.lt g hg).1⟩
   exact ⟨r2.1, r2.2.imp id fun ⟨g, cap, cur, fz, q1, q2, q3⟩ => ⟨g, cap, cur, fz, q1, Nat.zero_le _, q3⟩⟩
 · obtain ⟨v', w', r1, r2, r3, _⟩ := run_append_ownF (P := P) w 0 t ty e i z 1 bytes ht hi hz hsize hby hzs (by decide) _ n xs hown a m c news hl hnews h1 h63 hbytes (Nat.zero_le _)
   refine ⟨v', w', r1, r2, r3, fun g' hg' => ?_⟩
   by_cases hroom : n + m ≤ cap
   · have hr := run_append_roomF (P := P) w t ty e i ht hi g n cap cur fz hg (by rw [hsize]; exact hfz) a m c news (by rw [hsize]; exact hl) hnews h1 hroom (by rw [hsize, hl, hcs]; omega)
     rw [r1] at hr
     cases hr
     exact .inl hg'
   · have hr := run_append_grow (P := P) w t ty e i z ht hi hz ⟨g, 0, none⟩ n cap xs (by rw [hsize]; exact hown.1) (hown.cells (g := g) rfl) a m c news (by rw [hsize]; exact hl) hnews (by omega) (by omega) (by rw [hby]; exact growslice_fits (by omega) hbytes)
     rw [r1] at hr
     cases hr
     simp only [Value.ownBlock, Option.some.injEq] at hg'
     exact .inr (by omega)
theorem aEj {t u ty e : TypeId} {i : TypeInfo} (ht : P.underlying t = some (.slice e)) (hu : P.underlying u = some .string) (hi : P.info? e = some i) (hz : i.zero = some (.int .u8 0))
 (hsize : i.size = 1) (hby : i.bytes = 1) (v : Value) (n : Nat) (xs : List Value) (hown : w.ownsRowF 0 e 1 v n xs) (s : ByteArray)
 (h63 : n + s.size ≤ maxLen) (hbytes : n + s.size ≤ 140737488355328) :
 ∃ v' w', (Builtin.append_ #[t, u] ty #[v, .string s]).run P w = .ok v' w' ∧ AppP w e v (n + s.size) (xs ++ Lib.strCells s) v' w' := by
 have hsmall : n + s.size ≤ 9223372036854775807 := by simp only [maxLen] at h63; omega
 rcases hown.2 with ⟨rfl, rfl⟩ | ⟨g, cap, cur, fz, rfl, hbg, hg, hfz, hnc, hcm, hcs, htake⟩
 · obtain ⟨v', w', r1, r2, r3, _⟩ := Lib.run_append_own_stringF (P := P) w w.heap.size t u ty e i ht hu hi hz hsize hby (.slice none 0 0) 0 xs ⟨hown.1, .inl ⟨rfl, rfl⟩⟩ s h63 hbytes (Nat.le_refl _)
   refine ⟨v', w', r1, ?_, r3, fun g hg => .inr (r2.lt g hg).1⟩
   exact ⟨r2.1, r2.2.imp id fun ⟨g, cap, cur, fz, q1, q2, q3⟩ => ⟨g, cap, cur, fz, q1, Nat.zero_le _, q3⟩⟩
 · obtain ⟨v', w', r1, r2, r3, _⟩ := Lib.run_append_own_stringF (P := P) w 0 t u ty e i ht hu hi hz hsize hby _ n xs hown s h63 hbytes (Nat.zero_le _)
   refine ⟨v', w', r1, r2, r3, fun g' hg' => ?_⟩
   by_cases hroom : n + s.size ≤ cap
   · have hr := Lib.run_append_room_stringF (P := P) w t u ty e i ht hu hi hsize g n cap cur fz hg (by simpa using hfz) s hroom (by omega)
     rw [r1] at hr
     cases hr
     exact .inl hg'
   · have hr := Lib.run_append_grow_string (P := P) w t u ty e i (.int .u8 0) ht hu hi hz ⟨g, 0, none⟩ n cap xs (by rw [hsize]; exact hown.1) (hown.cells (g := g) rfl) s (by omega) (by omega) (by rw [hby]; exact growslice_fits (by omega) (by omega))
     rw [r1] at hr
     cases hr
     simp only [Value.ownBlock, Option.some.injEq] at hg'
     exact .inr (by omega)
theorem aB5 {ops : Array Oper} {rest : List Oper} {o : Oper} {a : Act} {Q : Exit → Act → World → Prop} (hgd : o.guard = none) (s x : Operand) (t u : TypeId)
 (ho : o.op = .call { callee := .builtin .append, args := #[s, x], argTypes := #[t, u] }) {v y : Value} (hs : a.eval s = v) (hx : a.eval x = y) {R : Value → World → Prop}
 (hr : ∃ v' w', (Builtin.append_ #[t, u] o.type #[v, y]).run P w = .ok v' w' ∧ R v' w') (h : ∀ v' w', R v' w' → wpList P ops Q rest (a.put o.dst v') w') : wpList P ops Q (o :: rest) a w := by
 refine wpList_plain hgd fun K hK => ?_
 obtain ⟨v', w', hr, h2⟩ := hr
 unfold Oper.wp execOp
 simp only [ho, resolve, invoke, builtin, Sem.run_bind, Sem.run_pure, Result.andThen_ok, List.map_toArray, List.map_cons, List.map_nil, hs, hx, hr]
 exact hK _ _ (h v' w' h2)
end
theorem aEH {b n : Nat} {bs' : List Value} {v v' : Value} {w w0 w1 w2 : World} (hbk : w1.heap[b]? = some (.cells #[.pointer (some ⟨b, 0, none⟩), v] 60 (0, 0))) (hne : v.ownBlock ≠ some b) (hs1 : w1.heap.size = w.heap.size) (hg1 : AM.Grown w w1 (fun g => g = b)) (hc1 : w1.cell? ⟨b, 1, none⟩ = w.cell? ⟨b, 1, none⟩)
 (ha : Below w1.heap.size w1 w0) (hown' : w2.ownsRowF 0 5 1 v' n bs') (hn : n = bs'.length) (hgrow : w0.grownBy w2 v.ownBlock) (hat : ∀ g, v'.ownBlock = some g → v.ownBlock = some g ∨ w0.heap.size ≤ g) :
 w2.cell? ⟨b, 1, none⟩ = some v ∧ w2.cell? ⟨b, 0, none⟩ = some (.pointer (some ⟨b, 0, none⟩)) ∧ w2.frozen? ⟨b, 1, none⟩ = false ∧ BldPost b bs' w (w2.setCell ⟨b, 1, none⟩ v') := by
 have c1 : w1.cell? ⟨b, 1, none⟩ = some v := by rw [Lib.cell_of_heap hbk]; rfl
 have hlt : b < w1.heap.size := (Array.getElem?_eq_some_iff.1 hbk).1
 have hb2 : w2.heap[b]? = some (.cells #[.pointer (some ⟨b, 0, none⟩), v] 60 (0, 0)) := by
  rw [hgrow.block b (Nat.lt_of_lt_of_le hlt ha.size) (fun e => hne e.symm), ha.block b hlt]
  exact hbk
 have d0 : w2.cell? ⟨b, 0, none⟩ = some (.pointer (some ⟨b, 0, none⟩)) := by rw [Lib.cell_of_heap hb2]; rfl
 have d1 : w2.cell? ⟨b, 1, none⟩ = some v := by rw [Lib.cell_of_heap hb2]; rfl
 have f1 : w2.frozen? ⟨b, 1, none⟩ = false := Lib.frozen_of_heap hb2 1
 have hbuf : ∀ g, v.ownBlock = some g → uV w b g := fun g hg => ⟨v, by rw [← hc1]; exact c1, hg⟩
 have hgw : AM.Grown w w2 (fun g => g = b ∨ uV w b g) := by
  have h1 : AM.Grown w w1 (fun g => g = b ∨ uV w b g) := ⟨hg1.os, hg1.tape, hg1.output, hg1.size, fun i hi hM => hg1.block i hi (fun e => hM (.inl e))⟩
  have h2 : AM.Grown w w0 (fun g => g = b ∨ uV w b g) := h1.trans (r := fun _ => False) (AM.Grown.of ha _) (fun g hg _ => hg.elim)
  exact h2.trans (AM.Grown.by hgrow) (fun g hg _ => .inr (hbuf g hg))
 have hput := Lib.BuilderAtF.put (T := 60) (e := 5) (Nat.zero_le b) hb2 (bs' := bs') (by rw [← hn]; exact hown') (by decide)
 refine ⟨d1, d0, f1, .inr hput, aCD hgw b 1 _ (.inl rfl), fun g' hg' => ?_⟩
 obtain ⟨v2, k1, k2⟩ := hg'
 rw [World.cell?_setCell_same _ _ _ d1] at k1
 cases k1
 rcases hat g' k2 with h | h
 · exact .inl (hbuf g' h)
 · exact .inr (by have := ha.size; omega)
set_option maxHeartbeats 2000000 in
set_option maxRecDepth 100000 in
theorem aIh (b : Nat) (bs : List Value) (c : Int) (w : World) (h : wC b bs w) (hlen : bs.length + 1 ≤ 140737488355328) :
 Calls Try.prog 50 #[.pointer (some ⟨b, 0, none⟩), .int .u8 c] w fun e w' => e = .returned .nilIface ∧ BldPost b (bs ++ [.int .u8 c]) w w' := by
 obtain ⟨i0, hi, hz0, hz1, hz2⟩ := info_parts (show (Try.prog.info? 5).map (fun i => (i.zero, i.size, i.bytes)) = some (some (.int .u8 0), 1, 1) from by kernel_rfl)
 go_enter Try.func50, Try.ntmps50
 go_wp2_with (go_at_call 67; refine (aFa b bs _ h).mono ?_)
 rintro e w1 ⟨rfl, h1, hs1, hg1, hc1⟩
 have HS := Lib.hid hs1; clear hs1
 have HC := Lib.hid hc1; clear hc1
 obtain ⟨hB, v, hbk, hown, hne⟩ := h1
 have c0 : w1.cell? ⟨b, 0, none⟩ = some (.pointer (some ⟨b, 0, none⟩)) := by rw [Lib.cell_of_heap hbk]; rfl
 have c1 : w1.cell? ⟨b, 1, none⟩ = some v := by rw [Lib.cell_of_heap hbk]; rfl
 have hrun := aF3 (P := Try.prog) (w1.alloc (.cells #[.int .u8 c] 5)) (ty := 56) Try.underlying56 hi hz0 hz1 hz2 rfl v _ bs (hown.alloc _) ⟨w1.heap.size, 0, none⟩ 1 1 [.int .u8 c] rfl (by
  intro j u hj
  match j, hj with
  | 0, hj => simp at hj; subst hj; simp [Addr.add]) (by intro u hu; simp at hu; subst hu; rfl) (by unfold maxLen; omega) (by omega)
 go_wp2_with (at_builtin; refine aB5 _ rfl _ _ 56 56 rfl rfl rfl hrun ?_)
 intro v' w2 hA
 have hown' := hA.own
 have hp := aEH hbk hne HS.out hg1 HC.out ((Below.refl _ _).alloc (Nat.le_refl _) _) hown' (by simp) hA.gr hA.at_
 obtain ⟨d1, d0, f1, hpost⟩ := hp
 obtain ⟨g, cap, rfl⟩ : ∃ g cap, v' = .slice (some ⟨g, 0, none⟩) (bs.length + 1) cap := by
  rcases hown'.2 with ⟨_, h0⟩ | ⟨g, cap, cur, fz, hv, _⟩
  · omega
  · exact ⟨g, cap, hv⟩
 go_wp2
 go_ret
 exact ⟨rfl, hpost⟩
set_option maxHeartbeats 2000000 in
set_option maxRecDepth 100000 in
theorem aIj (b : Nat) (bs : List Value) (s : ByteArray) (w : World) (h : wC b bs w) (hlen : bs.length + s.size ≤ 140737488355328) :
 Calls Try.prog 42 #[.pointer (some ⟨b, 0, none⟩), .string s] w fun e w' => e = .returned (.tuple #[.int .i64 s.size, .nilIface]) ∧ BldPost b (bs ++ Lib.strCells s) w w' := by
 obtain ⟨i0, hi, hz0, hz1, hz2⟩ := info_parts (show (Try.prog.info? 5).map (fun i => (i.zero, i.size, i.bytes)) = some (some (.int .u8 0), 1, 1) from by kernel_rfl)
 go_enter Try.func42, Try.ntmps42
 go_wp2_with (go_at_call 67; refine (aFa b bs _ h).mono ?_)
 rintro e w1 ⟨rfl, h1, hs1, hg1, hc1⟩
 have HS := Lib.hid hs1; clear hs1
 have HC := Lib.hid hc1; clear hc1
 obtain ⟨hB, v, hbk, hown, hne⟩ := h1
 have c0 : w1.cell? ⟨b, 0, none⟩ = some (.pointer (some ⟨b, 0, none⟩)) := by rw [Lib.cell_of_heap hbk]; rfl
 have c1 : w1.cell? ⟨b, 1, none⟩ = some v := by rw [Lib.cell_of_heap hbk]; rfl
 have hrun := aEj (P := Try.prog) w1 (u := 9) (ty := 56) Try.underlying56 Try.underlying9 hi hz0 hz1 hz2 v _ bs hown s (by unfold maxLen; omega) (by omega)
 go_wp2_with (at_builtin; refine aB5 _ rfl _ _ 56 9 rfl rfl rfl hrun ?_)
 intro v' w2 hA
 have hown' := hA.own
 have hp := aEH hbk hne HS.out hg1 HC.out (Below.refl _ _) hown' (by rw [List.length_append, Lib.strCells_length]) hA.gr hA.at_
 obtain ⟨d1, d0, f1, hpost⟩ := hp
 obtain ⟨A, m, cap, rfl⟩ : ∃ A m cap, v' = .slice A m cap := by
  rcases hown'.2 with ⟨hv, h0⟩ | ⟨g, cap, cur, fz, hv, _⟩
  · exact ⟨_, _, _, hv⟩
  · exact ⟨_, _, _, hv⟩
 go_wp2
 go_ret2
 exact ⟨rfl, hpost⟩
set_option maxHeartbeats 2000000 in
set_option maxRecDepth 100000 in
theorem aHf (b : Nat) (l : List UInt8) (w : World) (h : wC b (Lib.byteCells l) w) (h0 : l ≠ []) :
 Calls Try.prog 24 #[.pointer (some ⟨b, 0, none⟩)] w fun e w' => e = .returned (.string ⟨l.toArray⟩) ∧ BldPost b (Lib.byteCells l) w w' := by
 obtain ⟨p, hp, hAt⟩ := aEG h
 obtain ⟨hB, v, hbk, hown, hne⟩ := hAt
 have hl0 : l.length ≠ 0 := by simpa using h0
 have hAt : Lib.BuilderAtF 60 5 0 b p (Lib.byteCells l) w := ⟨hB, v, hbk, hown, hne⟩
 rw [Lib.byteCells_length] at hown
 obtain ⟨g, cap, cur, fz, rfl, hbg, hg, hfz, hnc, hcm, hcs, htake⟩ : ∃ g cap cur fz, v = .slice (some ⟨g, 0, none⟩) l.length cap ∧ 0 ≤ g ∧ w.heap[g]? = some (.cells cur 5 fz) ∧ fz.2 ≤ l.length * 1 ∧ l.length ≤ cap ∧ cap ≤ maxLen ∧ cur.size = cap * 1 ∧ cur.toList.take (l.length * 1) = Lib.byteCells l := by
  rcases hown.2 with ⟨_, hz⟩ | ⟨g, cap, cur, fz, hv, r⟩
  · exact absurd hz hl0
  · exact ⟨g, cap, cur, fz, hv, r⟩
 have hgb : g ≠ b := fun e => hne (by rw [e]; rfl)
 have c1 : w.drew.cell? ⟨b, 1, none⟩ = some (.slice (some ⟨g, 0, none⟩) l.length cap) := by
  have : w.drew.heap[b]? = some (.cells #[p, .slice (some ⟨g, 0, none⟩) l.length cap] 60 (0, 0)) := hbk
  rw [Lib.cell_of_heap this]; rfl
 have c1w : w.cell? ⟨b, 1, none⟩ = some (.slice (some ⟨g, 0, none⟩) l.length cap) := c1
 have hSD : (Builtin.unsafeSliceData_ #[56] 93 #[.slice (some ⟨g, 0, none⟩) l.length cap]).run Try.prog w.drew = .ok (.pointer (some ⟨g, 0, none⟩)) w.drew :=
  Lib.run_unsafeSliceData_row _ _ _ _ _ _ (by omega)
 have hptr : Try.prog.underlying 93 = some (.pointer 5) := by kernel_rfl
 have hUS : (Builtin.unsafeString_ #[93, 3] 9 #[.pointer (some ⟨g, 0, none⟩), .int .i64 l.length]).run Try.prog w.drew = .ok (.string ⟨l.toArray⟩) (w.drew.freeze ⟨g, 0, none⟩ l.length) := by
  refine Lib.run_unsafeString_row w.drew 93 3 9 5 hptr (by kernel_rfl) g cur.size (by have hg' : w.drew.heap[g]? = some (.cells cur 5 fz) := hg; simp [World.shape?, hg']) l h0 (by omega) (by unfold maxLen at hcm; omega) ?_
  intro j x hx
  have := hown.cells (g := g) rfl j (.int .u8 x.toNat) (by simp [Lib.byteCells, hx])
  exact this
 have hkeep : BldPost b (Lib.byteCells l) w (w.drew.freeze ⟨g, 0, none⟩ l.length) := by
  have hF := hAt.drew.froze (g := g) (cap := cap) (by rw [Lib.byteCells_length]; exact c1)
  rw [Lib.byteCells_length] at hF
  have hsz : (w.drew.freeze ⟨g, 0, none⟩ l.length).heap.size = w.heap.size := by simp [World.freeze, hl0]
  have hblk : ∀ k, k ≠ g → (w.drew.freeze ⟨g, 0, none⟩ l.length).heap[k]? = w.heap[k]? := fun k hk => by
   simp [World.freeze, hl0, Array.getElem?_modify, Ne.symm hk]; rfl
  refine ⟨by rcases hp with rfl | rfl; exact .inl hF; exact .inr hF, ⟨?_, ?_, ?_, by omega, fun k hk hM => hblk k (fun e => hM (.inr ⟨_, c1w, by rw [e]; rfl⟩))⟩, fun g' hg' => .inl (aEI (AM.cell_same (hblk b (Ne.symm hgb)) 1) hg')⟩
  all_goals (unfold World.freeze; rw [if_neg hl0]; rfl)
 go_enter Try.func24, Try.ntmps24
 go_wp2
 go_region
 all_goals (go_wp2; go_ret; exact ⟨rfl, hkeep⟩)
end Go.Proofs.Ytoaifonjemlfcaa
namespace Go.Proofs.Ytoaifonjemlfcaa.AM
open Go Go.RowKit
def aJD (t : ByteArray) : AbsR where
 rel w b T := wC b (Lib.strCells t) w ∧ T b ∧ ∀ g, uV w b g → T g
 frame := by
  rintro w w' b T hw ⟨h1, h2, h3⟩
  have hb := hw b h2
  refine ⟨?_, h2, fun g hg => h3 g (aEI (cell_same hb 1) hg)⟩
  have key : ∀ p, Lib.BuilderAtF 60 5 0 b p (Lib.strCells t) w → Lib.BuilderAtF 60 5 0 b p (Lib.strCells t) w' := by
   rintro p ⟨k0, v, k1, k2, k3⟩
   refine ⟨k0, v, hb.trans k1, ⟨k2.1, ?_⟩, k3⟩
   rcases k2.2 with k | ⟨g, cap, cur, fz, q1, q2, q3, q4⟩
   · exact .inl k
   · exact .inr ⟨g, cap, cur, fz, q1, q2, (hw g (h3 g ⟨v, by rw [Lib.cell_of_heap k1]; rfl, by rw [q1]; rfl⟩)).trans q3, q4⟩
  exact h1.imp (key _) (key _)
abbrev yL (t : ByteArray) : OB := ⟨.c (aJD t), 2, []⟩
section
variable {P : Program} {f : FuncId} {args : List AV} {t t' : ByteArray}
theorem aF6 {b : Nat} {bs : List Value} {w : World} (h : wC b bs w) : b < w.heap.size := h.elim (·.lt) (·.lt)
theorem aF7 {b g : Nat} {bs : List Value} {w : World} (h : wC b bs w) (hg : uV w b g) : g < w.heap.size := by
 obtain ⟨p, _, _, v, k1, k2, _⟩ := aEG h
 obtain ⟨v', e1, e2⟩ := hg
 rw [Lib.cell_of_heap k1] at e1
 cases e1
 exact (k2.lt g e2).2
theorem aGJ {S : Nat → Prop} {w : World} {hp : Nat → Option OB} {B : Nat → Nat} {V : Nat → Value} {T : Nat → Prop} {b : Nat} (hT : ∀ g, T g ↔ (g = b ∨ uV w b g)) (hb : wC b (Lib.strCells t) w) : RO S w hp B V T (yL t) b (.slice none 0 0) :=
 ⟨0, [], ⟨fun t' e => (by cases e), hb, (hT _).2 (.inl rfl), fun g hg => (hT g).2 (.inr hg)⟩, ⟨rfl, rfl, fun g hg => ((hT g).1 hg).elim (fun e => e ▸ aF6 hb) (fun e => aF7 hb e)⟩, fun x hx => (by cases hx), Nat.succ_pos 1, World.ownsRow_nil _ _ _ _, fun g hg => by simp [Value.ownBlock] at hg⟩
theorem aE7 {ob o : OB} {l : Nat} (e : xH 0 [ob] l = some o) : l = 0 ∧ o = ob := by
 simp only [xH] at e
 by_cases h : l = 0
 · subst h; simp at e; exact ⟨rfl, e.symm⟩
 · rw [xV h] at e; cases e
theorem aGv {S : Nat → Prop} {w : World} {hp : Nat → Option OB} {b : Nat} {lo : Nat → Prop} {B : Nat → Nat} {V : Nat → Value} (h0 : hp 0 = some (yL t)) (hone : ∀ l o, hp l = some o → l = 0 ∧ o = yL t) (hB : B 0 = b) (hV : V 0 = .slice none 0 0) (hb : wC b (Lib.strCells t) w) (hS : ∀ g, (g = b ∨ uV w b g) → ¬ S g ∧ lo g) : Rows S w hp (fun _ => none) B V (fun _ g => g = b ∨ uV w b g) lo := by
 have hown : ∀ g, ¬ (V 0).ownBlock = some g := fun g e => by rw [hV] at e; simp [Value.ownBlock] at e
 refine ⟨fun l ob e => ?_, fun l ob g e hg => ?_, fun l ob g e hg => ?_, fun l l' o1 o2 g e1 e2 _ _ => ?_, fun l es e => (by cases e)⟩
 · obtain ⟨rfl, rfl⟩ := hone l ob e
   rw [hB, hV]
   exact aGJ (fun g => Iff.rfl) hb
 · obtain ⟨rfl, rfl⟩ := hone l ob e
   rcases hg with hg | hg
   · exact absurd hg (hown g)
   · exact ⟨(hS g hg).1, hg.elim (fun e => e ▸ aF6 hb) (fun e => aF7 hb e), (hS g hg).2⟩
 · obtain ⟨rfl, rfl⟩ := hone l ob e
   exact absurd hg (hown g)
 · rw [(hone l o1 e1).1, (hone l' o2 e2).1]
theorem aB8 {out : AV} {p : List Nat} (hent : ∀ vs w, (callFunc f vs).run P w = .ok (.enter f vs) w) (hlb : yo (fun _ => false) args = true)
 (h : ∀ (w : World) (S0 : Nat → Prop) (b : Nat) (us : List Value), wC b (Lib.strCells t) w → RVs S0 w (fun _ => none) (fun _ => 0) (fun _ => undef) args us →
  Calls P f (.pointer (some ⟨b, 0, none⟩) :: us).toArray w fun e w' => ∃ v, e = .returned v ∧ (∀ S w hp B V, RV S w hp B V out v) ∧ BldPost b (Lib.strCells t') w w') :
 ACG P f (.optr 0 0 p 0 :: args) [yL t] [yL t'] ⟨out, []⟩ := by
 refine ⟨hent, fun w S0 B0 V0 T0 vs hS _ hro hv => ?_⟩
 obtain ⟨t0, cs, ⟨_, r0⟩, r2, r3, r4, r5, r6⟩ := hro.ro 0 _ rfl
 obtain ⟨hb, hT0, hTb⟩ := r0
 unfold RVs at hv
 obtain ⟨u, us, rfl, hu, hv⟩ := hv
 unfold RV at hu
 obtain ⟨ob, ho, rfl⟩ := hu
 obtain ⟨_, rfl⟩ := aE7 ho
 have hVn : V0 0 = .slice none 0 0 := by
  rcases r5.2 with ⟨e, _⟩ | ⟨g, cap', cur, e, _⟩
  · exact e
  · have hg : (V0 0).ownBlock = some g := by rw [e]; rfl
    have := r6 g hg
    subst this
    exact absurd hT0 (hro.nd 0 _ _ rfl hg)
 have hHB : ∀ g, T0 0 g → HB (xH 0 [yL t]) V0 T0 g := fun g hg => ⟨0, _, rfl, .inr hg⟩
 have hold : ∀ g, (g = B0 0 ∨ uV w (B0 0) g) → T0 0 g := fun g hg => hg.elim (fun e => e ▸ hT0) (hTb g)
 refine (h w S0 (B0 0) us hb (aGN hlb hv)).mono fun e w' ⟨v, he, hout, hp⟩ => ?_
 refine ⟨v, S0, fun _ => 0, fun _ => undef, fun _ => Fa, fun _ g => g = B0 0 ∨ uV w' (B0 0) g, he, aFc hp.gr (fun g e => hHB g (hold g e)), fun _ h => h, fun b hb' => ⟨Nat.lt_of_lt_of_le (hS b hb') hp.gr.size, .inl hb'⟩, hout _ _ _ _ _, wS aAN, aGv rfl (fun l o e => aE7 e) rfl hVn hp.is (fun g hg => ?_), fun l l' ob ob' g e => by rw [aAN] at e; cases e⟩
 have hq : T0 0 g ∨ w.heap.size ≤ g := by
  rcases hg with e | hg
  · exact .inl (e ▸ hT0)
  · exact (hp.nb g hg).imp (hTb g) id
 rcases hq with hq | hq
 · exact ⟨(hro.me 0 _ g rfl (.inr hq)).1, .inr (hHB g hq)⟩
 · exact ⟨fun hs => by have := hS g hs; omega, .inl hq⟩
end
theorem aIM : ∀ vs w, (callFunc 50 vs).run Try.prog w = .ok (.enter 50 vs) w := vY Try.func50 (by kernel_rfl) (by kernel_rfl)
theorem aIL : ∀ vs w, (callFunc 42 vs).run Try.prog w = .ok (.enter 42 vs) w := vY Try.func42 (by kernel_rfl) (by kernel_rfl)
theorem aII : ∀ vs w, (callFunc 24 vs).run Try.prog w = .ok (.enter 24 vs) w := vY Try.func24 (by kernel_rfl) (by kernel_rfl)
theorem aJO {S : Nat → Prop} {w : World} {hp : Nat → Option OB} {B : Nat → Nat} {V : Nat → Value} {x u : Value} (h : RV S w hp B V (.v x) u) : u = x := by unfold RV at h; exact h.1
theorem aGO {S : Nat → Prop} {w : World} {hp : Nat → Option OB} {B : Nat → Nat} {V : Nat → Value} {x : Value} {us : List Value} (h : RVs S w hp B V [.v x] us) : us = [x] := by
 unfold RVs at h
 obtain ⟨u, us', rfl, h1, h2⟩ := h
 unfold RVs at h2
 subst h2
 rw [aJO h1]
theorem aAA (a b : ByteArray) : Lib.strCells (a ++ b) = Lib.strCells a ++ Lib.strCells b := by
 simp [Lib.strCells, ByteArray.data_append]
theorem aHB {t : ByteArray} {c : UInt8} (ht : t.size < 100000000) : ACG Try.prog 50 [.optr 0 0 [0] 0, .v (.int .u8 (c.toNat : Int))] [yL t] [yL (t ++ ⟨#[c]⟩)] ⟨.v .nilIface, []⟩ := by
 refine aB8 aIM rfl fun w S0 b us hb hv => ?_
 rw [aGO hv]
 refine (aIh b _ _ w hb (by rw [Lib.strCells_length]; omega)).mono ?_
 rintro e w' ⟨rfl, h⟩
 refine ⟨_, rfl, fun S w hp B V => by unfold RV; exact ⟨rfl, rfl⟩, ?_⟩
 rw [aAA]
 exact h
theorem aHC {t s : ByteArray} (ht : t.size < 100000000) (hs : s.size < 100000000) : ACG Try.prog 42 [.optr 0 0 [0] 0, .v (.string s)] [yL t] [yL (t ++ s)] ⟨.tup [.v (.int .i64 (s.size : Int)), .v .nilIface], []⟩ := by
 refine aB8 aIL rfl fun w S0 b us hb hv => ?_
 rw [aGO hv]
 refine (aIj b _ _ w hb (by rw [Lib.strCells_length]; omega)).mono ?_
 rintro e w' ⟨rfl, h⟩
 refine ⟨_, rfl, fun S w hp B V => ?_, by rw [aAA]; exact h⟩
 unfold RV
 refine ⟨_, rfl, ?_⟩
 unfold RVs
 refine ⟨_, _, rfl, by unfold RV; exact ⟨rfl, rfl⟩, ?_⟩
 unfold RVs
 refine ⟨_, _, rfl, by unfold RV; exact ⟨rfl, rfl⟩, ?_⟩
 unfold RVs; rfl
theorem aAw {t : ByteArray} (ht : t.size ≠ 0) : ACG Try.prog 24 [.optr 0 0 [0] 0] [yL t] [yL t] ⟨.v (.string t), []⟩ := by
 refine aB8 aII rfl fun w S0 b us hb hv => ?_
 unfold RVs at hv
 subst hv
 rw [Lib.strCells_eq] at hb
 refine (aHf b t.data.toList w hb (fun e => ht (by rw [← ByteArray.size_data, ← Array.length_toList, e]; rfl))).mono ?_
 rintro e w' ⟨rfl, h⟩
 refine ⟨_, rfl, fun S w hp B V => by unfold RV; exact ⟨rfl, rfl⟩, by rw [Lib.strCells_eq]; exact h⟩
section
variable {Θ : Tab} {n : Nat} {K : St → Prop} {s : St} {P : Program}
variable {W : World} {M : Hand} {S0 : Nat → Prop} {S : Nat → Prop} {B : Nat → Nat} {V : Nat → Value} {T : Nat → Nat → Prop} {tmps : Array Value} {w : World}
theorem SimW.newBld (h : SimW W M S0 s tmps w S B V T) {d : Nat} (hok : okL d = true) (hf : s.hp d = none) :
 SimW W M S0 (s.set d (some (yL ByteArray.empty))) tmps (w.alloc (.cells #[.pointer none, .slice none 0 0] 60)) S (upd B d w.heap.size) (upd V d (.slice none 0 0)) (upd T d (fun g => g = w.heap.size)) := by
 have hb : Below w.heap.size w (w.alloc (.cells #[.pointer none, .slice none 0 0] 60)) := (Below.refl _ _).alloc (Nat.le_refl _) _
 obtain ⟨hn1, hn2⟩ := vD h hf
 have hnew := heap_alloc_new w (.cells #[.pointer none, .slice none 0 0] 60)
 have hlt := (Array.getElem?_eq_some_iff.1 hnew).1
 have hbld : wC w.heap.size (Lib.strCells ByteArray.empty) (w.alloc (.cells #[.pointer none, .slice none 0 0] 60)) := .inl ⟨Nat.zero_le _, _, hnew, ⟨rfl, .inl ⟨rfl, rfl⟩⟩, by simp [Value.ownBlock]⟩
 have hbuf : ∀ g, ¬ uV (w.alloc (.cells #[.pointer none, .slice none 0 0] 60)) w.heap.size g := by
  rintro g ⟨v, e1, e2⟩
  rw [Lib.cell_of_heap hnew] at e1
  cases e1
  simp [Value.ownBlock] at e2
 exact h.repl (l := d) (ob' := yL ByteArray.empty) (b' := w.heap.size) (v' := .slice none 0 0) (T' := fun g => g = w.heap.size) hok hn1 (fun j o _ ho => hn2 j o ho) (Grown.of hb _) (aGJ (fun g => ⟨.inl, fun e => e.elim id (fun e => absurd e (hbuf g))⟩) hbld) (fun g hg => by
  rcases hg with hg | hg
  · simp [Value.ownBlock] at hg
  · exact ⟨by rw [hg]; exact hlt, .inl (.inl (by rw [hg]; exact Nat.le_refl _))⟩) (fun g hg => by simp [Value.ownBlock] at hg)
theorem aAq {id d : Nat} {ty : TypeId} {pos : String} {after : Array Edge} (hf : s.hp (d + 1) = none) (hin : inN n (some d) = true) (h : K ((s.set (d + 1) (some (yL ByteArray.empty))).put (some d) (.optr (d + 1) 0 [] 0))) (hok : okL (d + 1) = true := by rfl) :
 aGW Try.prog n id #[⟨some d, .alloc 60, ty, pos, after, none⟩] s K := fun W M S0 a w hs => by
 refine .of (wp_region_list ?_)
 obtain ⟨hn, hdf, S, B, V, T, hw⟩ := hs
 obtain ⟨i, h1, h2, h3, _⟩ := info_parts (show (Try.prog.info? 60).map (fun i => (i.zero, i.size, i.bytes)) = some (some (.agg #[.pointer none, .slice none 0 0]), 2, 32) from by kernel_rfl)
 refine wpList_plain rfl fun K' hK => yO (v := .pointer (some ⟨w.heap.size, 0, none⟩)) (w1 := w.alloc (.cells #[.pointer none, .slice none 0 0] 60)) ?_ (hK _ _ ?_)
 · simp only [execOp, Sem.run_bind, aCY h1 h2, Result.andThen_ok, Sem.run_pure]
   rfl
 · exact ⟨rfl, _, h, Sim.put hn hdf (hw.newBld hok hf) (some d) (by unfold RV; exact ⟨_, yJ, by simp [upd_same]⟩) hin⟩
def aFd (ops : Array Oper) : Bool := ops.toList.any fun o => match o.op with | .alloc t => Nat.beq t 60 | _ => false
def jB (P : Program) (Θ : Tab) (n : Nat) : Code → (AEx → St → Prop) → St → Prop
 | .region id ops false, Q, s => bif aFd ops then aGW P n id ops s (Q .normal) else runK P Θ n ops false 0 ops.toList s (Q .normal)
 | .seq a b, Q, s => jB P Θ n a (AEx.then (jB P Θ n b Q) Q) s
 | .cond c x y, Q, s => match s.ev c with
  | .v (.bool true) => jB P Θ n x Q s
  | .v (.bool false) => jB P Θ n y Q s
  | _ => xM P Θ n (.cond c x y) Q s
 | .block id c, Q, s => jB P Θ n c (AEx.inBlock id Q) s
 | c, Q, s => kT P Θ n c Q s
theorem jM : ∀ (c : Code) (Q : AEx → St → Prop) (s : St), jB P Θ n c Q s → xM P Θ n c Q s := by
 intro c
 induction c with
 | region id ops draw =>
  intro Q s h
  cases draw with
  | false =>
   simp only [jB] at h
   cases hc : aFd ops with
   | true => rw [hc] at h; exact .inr (.inr ⟨rfl, h⟩)
   | false => rw [hc] at h; exact .inl ⟨(fun e => by cases e), zi _ _ _ h⟩
  | true => exact xY _ Q s h
 | seq a b iha ihb =>
  intro Q s h
  exact .inl (j6 a s (fun e s he => by cases e <;> first | exact ihb Q s he | exact he) (iha _ s h))
 | cond c x y ihx ihy =>
  intro Q s h
  simp only [jB] at h
  split at h
  · rename_i hc; exact ⟨true, hc, ihx Q s h⟩
  · rename_i hc; exact ⟨false, hc, ihy Q s h⟩
  · exact h
 | block id c ih => intro Q s h; exact ih _ s h
 | _ => intro Q s h; exact xY _ Q s h
end
section
variable {P : Program} {t : TypeId} {x y : Operand}
theorem aIi (n : Int) (h0 : 0 ≤ n) (h1 : n < 2 ^ 62) : IntKind.i64.wrap n = n := by rw [IntKind.wrap_i64]; omega
theorem aHo {n : Nat} (h : n < 2 ^ 62) {c : Int} (hc : c = ((n % 128 : Nat) : Int)) : yS P .and t x y (.int .i64 (n : Int)) (.int .i64 127) (.int .i64 c) := fun w => by
 have := bits_mask .i64 62 (by decide) aIi 7 (by decide) (n : Int) (by omega) (by exact_mod_cast h)
 have e : bits .and .i64 (n : Int) 127 = c := by rw [show (127 : Int) = 2 ^ 7 - 1 from by decide, this, hc]; omega
 have e2 : Op.intBits .and .i64 (n : Int) 127 = pure (.int .i64 c) := by rw [← e]; rfl
 simp [eqGuard, binOp, e2]
theorem aIm {n : Nat} (h : n < 128) {c : Int} (hc : c = ((128 + n : Nat) : Int)) : yS P .or t x y (.int .i64 (n : Int)) (.int .i64 128) (.int .i64 c) := fun w => by
 have e : bits .or .i64 (n : Int) 128 = c := by
  have := (bits_nat .i64 62 (by decide) aIi n 128 (by omega) (by decide)).2
  rw [show (128 : Int) = ((128 : Nat) : Int) from rfl, this, hc, Nat.or_comm, show (128 : Nat) = 2 ^ 7 * 1 from rfl, ← Nat.two_pow_add_eq_or_of_lt (by simpa using h) 1]
 have e2 : Op.intBits .or .i64 (n : Int) 128 = pure (.int .i64 c) := by rw [← e]; rfl
 simp [eqGuard, binOp, e2]
theorem aIB {n : Nat} {c : Int} (hc : c = ((n / 128 : Nat) : Int)) : yS P .shr t x y (.int .i64 (n : Int)) (.int .u64 7) (.int .i64 c) := fun w => by
 have e : Op.shift .shr .i64 (n : Int) .u64 7 = pure (.int .i64 c) := by
  rw [shift_shr .i64 .u64 (n : Int) 7 (by omega) (by decide), hc]; congr 2
 simp [eqGuard, binOp, e]
end
theorem u6 {s : St} {Θ : Tab} {o : OB} (h0 : s.hp 0 = some o) : yu Θ [] [o] ⟨.tup [], []⟩ .ret s := ⟨⟨h0, trivial⟩, [], by simp, trivial, trivial, ⟨_, rfl⟩, trivial⟩
theorem zq {s : St} {Θ : Tab} {o : OB} (h0 : s.hp 0 = some o) : yu Θ [] [o] ⟨.tup [], []⟩ .normal s := ⟨⟨h0, trivial⟩, [], by simp, trivial, trivial, ⟨_, rfl⟩, trivial⟩
attribute [local irreducible] xM xO yD yu zU Pre ACG
theorem aIH {n : Nat} (h : n < 128) : xC n = ⟨#[UInt8.ofNat n]⟩ := by unfold xC; rw [aBE h]
theorem aIG {n : Nat} (h : ¬ n < 128) : xC n = ⟨#[UInt8.ofNat (128 + n % 128)]⟩ ++ xC (n / 128) := by
 unfold xC; rw [aDA h]; apply ByteArray.ext; simp
set_option maxHeartbeats 1000000 in
theorem zV {t : ByteArray} {n : Nat} (hn : n ≤ 268435455) (ht : t.size ≤ 90000000) : ACG Try.prog 23 [.optr 0 0 [] 0, .v (.int .i64 (n : Int))] [yL t] [yL (t ++ xC n)] ⟨.tup [], []⟩ := by
 have h4 := qW hn
 have hsz : (xC n).size = (vN n).length := by simp [xC, ByteArray.size]
 refine zY (rs := []) zm (by kernel_rfl) Try.func23 rfl Try.ntmps23 (by rw [Try.results23]) (by kernel_rfl) (by simp) rfl rfl (xY _ _ _ ?_)
 conv => whnf
 refine xX (ι := { p : ByteArray × Nat // p.1 ++ xC p.2 = t ++ xC n ∧ p.2 ≤ 268435455 }) (fun p => ⟨[(0, .optr 0 0 [] 0), (1, .v (.int .i64 (p.1.2 : Int)))], [(0, yL p.1.1)]⟩) (fun p => p.1.2) ⟨(t, n), rfl, hn⟩ (by exact qle) ?_
 rintro ⟨⟨u, m⟩, hu, hm⟩
 dsimp only at hu hm ⊢
 have hus : u.size ≤ 90000004 := by have := congrArg ByteArray.size hu; simp only [ByteArray.size_append] at this; omega
 conv => whnf
 by_cases hlt : m < 128
 · have hb := aFQ (n := m) (by omega)
   have c1 := aHB (t := u) (c := UInt8.ofNat m) (by omega)
   rw [aIH hlt] at hu
   repeat ((first | refine qz ?_ | refine qp (aCd (b := UInt8.ofNat m) (by omega) rfl) ?_ | refine qr (xP [0] (c1) rfl rfl (by first | exact ⟨rfl, trivial⟩ | exact ⟨rfl, rfl, trivial⟩ | exact ⟨rfl, rfl, rfl, trivial⟩) rfl rfl (by first | exact trivial | exact ⟨⟨rfl, rfl, rfl⟩, trivial⟩ | exact ⟨⟨rfl, rfl, rfl⟩, ⟨rfl, rfl, rfl⟩, trivial⟩ | exact ⟨⟨rfl, rfl, rfl⟩, ⟨rfl, rfl, rfl⟩, ⟨rfl, rfl, rfl⟩, trivial⟩) rfl rfl rfl (.inl rfl) rfl) ?_); conv => whnf)
   rw [← hu]
   first | exact zq rfl | exact u6 rfl
 · have hb := aFQ (n := 128 + m % 128) (by omega)
   have c1 := aHB (t := u) (c := UInt8.ofNat (128 + m % 128)) (by omega)
   rw [aIG hlt, ← ByteArray.append_assoc] at hu
   repeat ((first | refine qp (xQ (aHo (by omega) rfl) rfl rfl rfl) ?_ | refine qp (xQ (aIm (by omega) rfl) rfl rfl rfl) ?_ | refine qp (xQ (aIB rfl) rfl rfl rfl) ?_ | refine qz ?_ | refine qp (aCd (b := UInt8.ofNat (128 + m % 128)) (by omega) rfl) ?_ | refine qr (xP [0] (c1) rfl rfl (by first | exact ⟨rfl, trivial⟩ | exact ⟨rfl, rfl, trivial⟩ | exact ⟨rfl, rfl, rfl, trivial⟩) rfl rfl (by first | exact trivial | exact ⟨⟨rfl, rfl, rfl⟩, trivial⟩ | exact ⟨⟨rfl, rfl, rfl⟩, ⟨rfl, rfl, rfl⟩, trivial⟩ | exact ⟨⟨rfl, rfl, rfl⟩, ⟨rfl, rfl, rfl⟩, ⟨rfl, rfl, rfl⟩, trivial⟩) rfl rfl rfl (.inl rfl) rfl) ?_); conv => whnf)
   exact ⟨⟨(u ++ ⟨#[UInt8.ofNat (128 + m % 128)]⟩, m / 128), hu, by dsimp only; omega⟩, by exact qle, by dsimp only; omega⟩
theorem aGg {n : Nat} (hn : n ≤ 268435455) : (xC n).size ≤ 4 := by have := qW hn; simpa [xC, ByteArray.size] using this
theorem aCs {t k : ByteArray} (hk : k.size ≤ 1000000) (ht : t.size ≤ 80000000) : ACG Try.prog 68 [.optr 0 0 [] 0, .v (.string k)] [yL t] [yL (t ++ uO k)] ⟨.tup [], []⟩ := by
 have h4 := aGg (n := k.size) (by omega)
 have c1 := zV (t := t) (n := k.size) (by omega) (by omega)
 have c2 := aHC (t := t ++ xC k.size) (s := k) (by simp only [ByteArray.size_append]; omega) (by omega)
 refine zY (rs := []) zm (by kernel_rfl) Try.func68 rfl Try.ntmps68 (by rw [Try.results68]) (by kernel_rfl) (by simp) rfl rfl (xY _ _ _ ?_)
 conv => whnf
 repeat ((first | refine qz ?_ | refine qr (xP [0] (c1) rfl rfl (by first | exact ⟨rfl, trivial⟩ | exact ⟨rfl, rfl, trivial⟩ | exact ⟨rfl, rfl, rfl, trivial⟩) rfl rfl (by first | exact trivial | exact ⟨⟨rfl, rfl, rfl⟩, trivial⟩ | exact ⟨⟨rfl, rfl, rfl⟩, ⟨rfl, rfl, rfl⟩, trivial⟩ | exact ⟨⟨rfl, rfl, rfl⟩, ⟨rfl, rfl, rfl⟩, ⟨rfl, rfl, rfl⟩, trivial⟩) rfl rfl rfl (.inl rfl) rfl) ?_ | refine qr (xP [0] (c2) rfl rfl (by first | exact ⟨rfl, trivial⟩ | exact ⟨rfl, rfl, trivial⟩ | exact ⟨rfl, rfl, rfl, trivial⟩) rfl rfl (by first | exact trivial | exact ⟨⟨rfl, rfl, rfl⟩, trivial⟩ | exact ⟨⟨rfl, rfl, rfl⟩, ⟨rfl, rfl, rfl⟩, trivial⟩ | exact ⟨⟨rfl, rfl, rfl⟩, ⟨rfl, rfl, rfl⟩, ⟨rfl, rfl, rfl⟩, trivial⟩) rfl rfl rfl (.inl rfl) rfl) ?_); conv => whnf)
 rw [ByteArray.append_assoc]
 first | exact zq rfl | exact u6 rfl
theorem aHR {t : ByteArray} {v : Int} (hv : -1000000 ≤ v ∧ v ≤ 1000000) (ht : t.size ≤ 80000000) : ACG Try.prog 73 [.optr 0 0 [] 0, .v (.int .i64 v)] [yL t] [yL (t ++ wI v)] ⟨.tup [], []⟩ := by
 refine zY (rs := []) zm (by kernel_rfl) Try.func73 rfl Try.ntmps73 (by rw [Try.results73]) (by kernel_rfl) (by simp) rfl rfl (xY _ _ _ ?_)
 conv => whnf
 unfold wI
 by_cases h0 : v < 0
 · rw [if_pos h0]
   obtain ⟨n, hn⟩ : ∃ n : Nat, -2 * v - 1 = (n : Int) := ⟨(-2 * v - 1).toNat, by omega⟩
   have c1 := zV (t := t) (n := n) (by omega) (by omega)
   rw [hn, Int.toNat_natCast]
   repeat (first | (refine qz ?_; conv => whnf) | (refine qp (xQ (jO (c := -2 * v) rfl (by omega) (by omega)) rfl rfl rfl) ?_; conv => whnf) | (refine qp (xQ (aEm hn (by omega) (by omega)) rfl rfl rfl) ?_; conv => whnf) | (rw [hn]; (refine qr (xP [0] (c1) rfl rfl (by first | exact ⟨rfl, trivial⟩ | exact ⟨rfl, rfl, trivial⟩ | exact ⟨rfl, rfl, rfl, trivial⟩) rfl rfl (by first | exact trivial | exact ⟨⟨rfl, rfl, rfl⟩, trivial⟩ | exact ⟨⟨rfl, rfl, rfl⟩, ⟨rfl, rfl, rfl⟩, trivial⟩ | exact ⟨⟨rfl, rfl, rfl⟩, ⟨rfl, rfl, rfl⟩, ⟨rfl, rfl, rfl⟩, trivial⟩) rfl rfl rfl (.inl rfl) rfl) ?_; conv => whnf)) | (refine qr (xP [0] (c1) rfl rfl (by first | exact ⟨rfl, trivial⟩ | exact ⟨rfl, rfl, trivial⟩ | exact ⟨rfl, rfl, rfl, trivial⟩) rfl rfl (by first | exact trivial | exact ⟨⟨rfl, rfl, rfl⟩, trivial⟩ | exact ⟨⟨rfl, rfl, rfl⟩, ⟨rfl, rfl, rfl⟩, trivial⟩ | exact ⟨⟨rfl, rfl, rfl⟩, ⟨rfl, rfl, rfl⟩, ⟨rfl, rfl, rfl⟩, trivial⟩) rfl rfl rfl (.inl rfl) rfl) ?_; conv => whnf))
   first | exact zq rfl | exact u6 rfl
 · rw [if_neg h0]
   obtain ⟨n, hn⟩ : ∃ n : Nat, 2 * v = (n : Int) := ⟨(2 * v).toNat, by omega⟩
   have c1 := zV (t := t) (n := n) (by omega) (by omega)
   rw [hn, Int.toNat_natCast]
   repeat ((first | refine qz ?_ | refine qp (xQ (jO hn (by omega) (by omega)) rfl rfl rfl) ?_ | refine qr (xP [0] (c1) rfl rfl (by first | exact ⟨rfl, trivial⟩ | exact ⟨rfl, rfl, trivial⟩ | exact ⟨rfl, rfl, rfl, trivial⟩) rfl rfl (by first | exact trivial | exact ⟨⟨rfl, rfl, rfl⟩, trivial⟩ | exact ⟨⟨rfl, rfl, rfl⟩, ⟨rfl, rfl, rfl⟩, trivial⟩ | exact ⟨⟨rfl, rfl, rfl⟩, ⟨rfl, rfl, rfl⟩, ⟨rfl, rfl, rfl⟩, trivial⟩) rfl rfl rfl (.inl rfl) rfl) ?_); conv => whnf)
   first | exact zq rfl | exact u6 rfl
def uP (N : Nat) (cs : List Cmt) : Prop := ∀ c ∈ cs, c.1.length ≤ N ∧ c.2.length ≤ N ∧ ∀ e ∈ c.2, e.1.size ≤ N
theorem uP.le {N M : Nat} {cs : List Cmt} (h : uP N cs) (k : N ≤ M) : uP M cs := fun c hc => ⟨Nat.le_trans (h c hc).1 k, Nat.le_trans (h c hc).2.1 k, fun e he => Nat.le_trans ((h c hc).2.2 e he) k⟩
end Go.Proofs.Ytoaifonjemlfcaa.AM
namespace Go.Proofs.Ytoaifonjemlfcaa.AM
open Go Go.RowKit Go.ChangeShapes Go.WideShapes Go.Deep
def wP : List (Value × Value) → List Value
 | [] => []
 | p :: l => p.1 :: p.2 :: wP l
theorem aCT : ∀ (l : List (Value × Value)) (j : Nat) (u : Value), (wP l)[j]? = some u → ∃ i, ∃ hi : i < l.length, (j = i * 2 ∧ u = l[i].1) ∨ (j = i * 2 + 1 ∧ u = l[i].2)
 | [], j, u, h => by simp [wP] at h
 | p :: l, 0, u, h => by simp [wP] at h; exact ⟨0, by simp, .inl ⟨rfl, h.symm⟩⟩
 | p :: l, 1, u, h => by simp [wP] at h; exact ⟨0, by simp, .inr ⟨rfl, h.symm⟩⟩
 | p :: l, j + 2, u, h => by
  simp only [wP, List.getElem?_cons_succ] at h
  obtain ⟨i, hi, h⟩ := aCT l j u h
  refine ⟨i + 1, by simpa using hi, ?_⟩
  simp only [List.getElem_cons_succ]
  rcases h with ⟨h1, h2⟩ | ⟨h1, h2⟩
  · exact .inl ⟨by omega, h2⟩
  · exact .inr ⟨by omega, h2⟩
section
variable {S : Nat → Prop} {w : World}
theorem aE4 : ∀ (l : List Int), RL S w (l.map yV) (l.map fun x => .int .i64 x)
 | [] => by simp only [List.map_nil]; exact wR
 | x :: l => by simp only [List.map_cons]; exact yx (c1 := [_]) (aAo rfl) (aE4 l)
theorem aE3 : ∀ (l : List (Cmt × Value × Value)), (∀ p ∈ l, RA S w (.lst 1 (p.1.1.map yV)) [p.2.1] ∧ RA S w (.lst 2 (p.1.2.map zR)) [p.2.2]) → RL S w ((l.map (·.1)).map x9) (wP (l.map (·.2)))
 | [], _ => by simp only [List.map_nil]; exact wR
 | p :: l, h => by
  simp only [List.map_cons, wP]
  obtain ⟨h1, h2⟩ := h p (by simp)
  exact yx (c1 := [_, _]) (aD4 (yx (c1 := [_]) h1 (yx (c1 := [_]) h2 wR))) (aE3 l (fun q hq => h q (List.mem_cons_of_mem _ hq)))
end
section
variable {H : Type} {enc : TypeId × Value → H} {P : Program} {w : World} {base : Nat} {held : Bool}
theorem kr {t e : TypeId} {v : Value} {k : Nat} {y : DataW H × List MemPlace} (ht : P.underlying t = some (.slice e)) (h : DataW.trod enc P w base (fun _ => true) held k t [v] = some y) : ∃ A n c, v = .slice A n c := by
 rcases open_slice ht h with ⟨hcs, _⟩ | ⟨a, len, cap, m, n, D, Pl, hcs, _⟩
 · simp at hcs; exact ⟨_, _, _, hcs⟩
 · simp at hcs; exact ⟨_, _, _, hcs⟩
theorem open_ints {t e : TypeId} {v : Value} {k : Nat} {y : DataW H × List MemPlace} (ht : P.underlying t = some (.slice e)) (he : P.underlying e = some (.int .i64)) (hC : P.cellsOf e = 1) (h : DataW.trod enc P w base (fun _ => true) held k t [v] = some y) :
 ∃ l : List Int, RA (InW w) w (.lst 1 (l.map yV)) [v] ∧ l.length ≤ maxLen := by
 rcases open_slice ht h with ⟨hcs, _⟩ | ⟨a, len, cap, m, n, D, Pl, hcs, hb, hl, hm, hmm, hx, hi⟩
 · exact ⟨[], by rw [hcs]; exact aI5 (by omega), Nat.zero_le _⟩
 · rw [hcs]
   simp at hmm
   subst hmm
   rcases Nat.eq_zero_or_pos len with h0 | hpos
   · subst h0
     refine ⟨[], ?_, Nat.zero_le _⟩
     simp only [List.map_nil]
     unfold RA
     exact ⟨_, _, rfl, Nat.zero_le _, hm, by simp, by omega, .inl rfl⟩
   have hall : ∀ i, i < len → ∃ x : Int, w.cell? (a.add i) = some (.int .i64 x) := fun i hil => by
    obtain ⟨cs', hc, ht'⟩ := hi i (by omega)
    rw [hC, Nat.mul_one] at hc
    obtain ⟨_, hcl, hat⟩ := World.cells?_some hc
    obtain ⟨x, hx, _⟩ := DataW.trod_int he ht'
    subst hx
    have := hat 0 (by omega)
    rw [qP] at this
    exact ⟨x, this⟩
   obtain ⟨x0, hx0⟩ := hall 0 hpos
   rw [qP] at hx0
   have hsp := qx hx0
   obtain ⟨b, off, sp⟩ := a
   simp at hsp
   subst hsp
   have hadd : ∀ j, (⟨b, off, none⟩ : Addr).add j = ⟨b, off + j, none⟩ := fun j => by unfold Addr.add; split <;> simp_all
   obtain ⟨l, hll, hq⟩ := aAK (α := Int) len (fun i x => w.cell? ⟨b, off + i, none⟩ = some (.int .i64 x)) (fun i hil => by
    obtain ⟨x, hx⟩ := hall i hil
    rw [hadd] at hx; exact ⟨x, hx⟩)
   refine ⟨l, ?_, by omega⟩
   unfold RA
   refine ⟨_, _, by rw [List.length_map, hll], by rw [List.length_map]; omega, hm, aHT l, by omega, .inr ⟨b, off, _, rfl, World.block_lt_of_cell? w _ hx0, aE4 l, fun j u hu => ?_⟩⟩
   rw [List.getElem?_map] at hu
   obtain ⟨x, hx, rfl⟩ := Option.map_eq_some_iff.1 hu
   obtain ⟨hj, hx⟩ := List.getElem?_eq_some_iff.1 hx
   rw [← hx]; exact hq j hj
theorem aFw {t e te : TypeId} {f0 f1 g0 g1 : Field} {e0 : TypeId} {A : Option Addr} {n c : Nat} {d : DataW H} {p : List MemPlace} (ht : P.underlying t = some (.slice e)) (he : P.underlying e = some (.struct #[f0, f1]))
 (hone : oneCellFields P #[f0, f1] = true) (hC : P.cellsOf e = 2) (h0 : P.underlying f0.type = some (.slice e0)) (hi0 : P.underlying e0 = some (.int .i64)) (hC0 : P.cellsOf e0 = 1)
 (h1 : P.underlying f1.type = some (.slice te)) (h2 : P.underlying te = some (.struct #[g0, g1])) (hone1 : oneCellFields P #[g0, g1] = true) (hC1 : P.cellsOf te = 2) (k0 : P.underlying g0.type = some .string) (k1 : P.underlying g1.type = some (.int .i64)) (h : DataW.Trod enc P w base (fun _ => true) held t (.slice A n c) d p) :
 ∃ cs : List Cmt, (∀ hp B V, RV (InW w) w hp B V (.lst 2 (cs.map x9)) (.slice A n c)) ∧ cs.length ≤ maxLen ∧ uP maxLen cs := by
 have hcap := jw ht h
 obtain ⟨hn, hf⟩ := jK ht he hone hC (by simp) h
 rcases Nat.eq_zero_or_pos n with h | hpos
 · subst h
   refine ⟨[], fun hp B V => ?_, Nat.zero_le _, fun c hc => by cases hc⟩
   simp only [List.map_nil]
   unfold RV RA
   exact ⟨_, _, rfl, Nat.zero_le _, hcap.2, by simp, by omega, .inl rfl⟩
 obtain ⟨b, off, rfl, hlt, hi⟩ := hf hpos
 obtain ⟨l, hl, hq⟩ := aAK (α := Cmt × Value × Value) n (fun i x => w.cell? ⟨b, off + (i * 2 + 0), none⟩ = some x.2.1 ∧ w.cell? ⟨b, off + (i * 2 + 1), none⟩ = some x.2.2 ∧ RA (InW w) w (.lst 1 (x.1.1.map yV)) [x.2.1] ∧ RA (InW w) w (.lst 2 (x.1.2.map zR)) [x.2.2] ∧ x.1.1.length ≤ maxLen ∧ x.1.2.length ≤ maxLen ∧ ∀ e ∈ x.1.2, e.1.size ≤ maxLen) (fun i hin => by
  obtain ⟨k, hk⟩ := hi i hin
  obtain ⟨v0, y0, c0, t0⟩ := hk 0 f0 rfl
  obtain ⟨v1, y1, c1, t1⟩ := hk 1 f1 rfl
  obtain ⟨ps, hps, hpl⟩ := open_ints h0 hi0 hC0 t0
  obtain ⟨A1, n1, c1', rfl⟩ := kr h1 t1
  have T1 : DataW.Trod enc P w base (fun _ => true) held f1.type (.slice A1 n1 c1') y1.1 y1.2 := ⟨k, by simpa [Value.cells] using t1⟩
  obtain ⟨es, hrd, hm, hks⟩ := aCQ h1 h2 hone1 hC1 k0 k1 T1
  have := aE9 (hp := fun _ => none) (B := fun _ => 0) (V := fun _ => undef) (jw h1 T1) hrd
  unfold RV at this
  exact ⟨((ps, es), v0, _), c0, c1, hps, this, hpl, Nat.le_trans (Nat.le_of_eq hrd.len) hm, hks⟩)
 refine ⟨l.map (·.1), fun hp B V => ?_, by rw [List.length_map]; omega, fun c hc => ?_⟩
 · unfold RV RA
   refine ⟨_, c, by rw [List.length_map, List.length_map, hl], by rw [List.length_map, List.length_map]; omega, hcap.2, aHS _, by omega, .inr ⟨b, off, _, rfl, hlt, aE3 l (fun p hp => by
    obtain ⟨i, hi', rfl⟩ := List.getElem_of_mem hp
    exact ⟨(hq i hi').2.2.1, (hq i hi').2.2.2.1⟩), fun j u hu => ?_⟩⟩
   obtain ⟨i, hi', h⟩ := aCT _ j u hu
   rw [List.length_map] at hi'
   obtain ⟨q1, q2, _⟩ := hq i hi'
   rcases h with ⟨rfl, rfl⟩ | ⟨rfl, rfl⟩
   · simpa using q1
   · simpa using q2
 · obtain ⟨x, hx, rfl⟩ := List.mem_map.1 hc
   obtain ⟨i, hi', rfl⟩ := List.getElem_of_mem hx
   exact (hq i hi').2.2.2.2
end
def qE (r : Rf) : List Value := [.string r.name, .int .i64 r.head, .int .i64 r.ver, .bool r.gone]
def vI (l : List Rf) : List Value := l.flatMap qE
theorem aD5 : ∀ (l : List Rf) (j : Nat) (u : Value), (vI l)[j]? = some u → ∃ i, ∃ hi : i < l.length, (j = i * 4 ∧ u = .string l[i].name) ∨ (j = i * 4 + 1 ∧ u = .int .i64 l[i].head) ∨ (j = i * 4 + 2 ∧ u = .int .i64 l[i].ver) ∨ (j = i * 4 + 3 ∧ u = .bool l[i].gone)
 | [], j, u, h => by simp [vI] at h
 | r :: l, 0, u, h => by simp [vI, qE] at h; exact ⟨0, by simp, .inl ⟨rfl, h.symm⟩⟩
 | r :: l, 1, u, h => by simp [vI, qE] at h; exact ⟨0, by simp, .inr (.inl ⟨rfl, h.symm⟩)⟩
 | r :: l, 2, u, h => by simp [vI, qE] at h; exact ⟨0, by simp, .inr (.inr (.inl ⟨rfl, h.symm⟩))⟩
 | r :: l, 3, u, h => by simp [vI, qE] at h; exact ⟨0, by simp, .inr (.inr (.inr ⟨rfl, h.symm⟩))⟩
 | r :: l, j + 4, u, h => by
  have h' : (vI l)[j]? = some u := by
   have : vI (r :: l) = qE r ++ vI l := rfl
   rw [this, List.getElem?_append_right (by simp [qE])] at h
   simpa [qE] using h
  obtain ⟨i, hi, h⟩ := aD5 l j u h'
  refine ⟨i + 1, by simpa using hi, ?_⟩
  simp only [List.getElem_cons_succ]
  rcases h with ⟨h1, h2⟩ | ⟨h1, h2⟩ | ⟨h1, h2⟩ | ⟨h1, h2⟩
  · exact .inl ⟨by omega, h2⟩
  · exact .inr (.inl ⟨by omega, h2⟩)
  · exact .inr (.inr (.inl ⟨by omega, h2⟩))
  · exact .inr (.inr (.inr ⟨by omega, h2⟩))
section
variable {S : Nat → Prop} {w : World}
theorem aE5 : ∀ (l : List Rf), RL S w (l.map xq) (vI l)
 | [] => wR
 | r :: l => by
  have : vI (r :: l) = qE r ++ vI l := rfl
  rw [List.map_cons, this]
  exact yx (aD4 (yx (c1 := [_]) (aAo rfl) (yx (c1 := [_]) (aAo rfl) (yx (c1 := [_]) (aAo rfl) (yx (c1 := [_]) (aAo rfl) wR))))) (aE5 l)
end
section
variable {H : Type} {enc : TypeId × Value → H} {P : Program} {w : World} {base : Nat} {held : Bool}
theorem aFx {t e : TypeId} {f0 f1 f2 f3 : Field} {A : Option Addr} {n c : Nat} {d : DataW H} {p : List MemPlace} (ht : P.underlying t = some (.slice e)) (he : P.underlying e = some (.struct #[f0, f1, f2, f3]))
 (hone : oneCellFields P #[f0, f1, f2, f3] = true) (hC : P.cellsOf e = 4) (h0 : P.underlying f0.type = some .string) (h1 : P.underlying f1.type = some (.int .i64)) (h2 : P.underlying f2.type = some (.int .i64)) (h3 : P.underlying f3.type = some .bool) (h : DataW.Trod enc P w base (fun _ => true) held t (.slice A n c) d p) :
 ∃ l : List Rf, (∀ hp B V, RV (InW w) w hp B V (.lst 4 (l.map xq)) (.slice A n c)) ∧ l.length ≤ maxLen ∧ ∀ r ∈ l, r.name.size ≤ maxLen := by
 have hcap := jw ht h
 obtain ⟨hn, hf⟩ := jK ht he hone hC (by simp) h
 rcases Nat.eq_zero_or_pos n with h | hpos
 · subst h
   refine ⟨[], fun hp B V => ?_, Nat.zero_le _, fun c hc => by cases hc⟩
   simp only [List.map_nil]
   unfold RV RA
   exact ⟨_, _, rfl, Nat.zero_le _, hcap.2, by simp, by omega, .inl rfl⟩
 obtain ⟨b, off, rfl, hlt, hi⟩ := hf hpos
 obtain ⟨l, hl, hq⟩ := aAK (α := Rf) n (fun i x => w.cell? ⟨b, off + (i * 4 + 0), none⟩ = some (.string x.name) ∧ w.cell? ⟨b, off + (i * 4 + 1), none⟩ = some (.int .i64 x.head) ∧ w.cell? ⟨b, off + (i * 4 + 2), none⟩ = some (.int .i64 x.ver) ∧ w.cell? ⟨b, off + (i * 4 + 3), none⟩ = some (.bool x.gone) ∧ x.name.size ≤ maxLen) (fun i hin => by
  obtain ⟨k, hk⟩ := hi i hin
  obtain ⟨v0, y0, c0, t0⟩ := hk 0 f0 rfl
  obtain ⟨v1, y1, c1, t1⟩ := hk 1 f1 rfl
  obtain ⟨v2, y2, c2, t2⟩ := hk 2 f2 rfl
  obtain ⟨v3, y3, c3, t3⟩ := hk 3 f3 rfl
  obtain ⟨s, hs, _, hsz⟩ := DataW.trod_string h0 t0
  obtain ⟨x, hx, _, _⟩ := DataW.trod_int h1 t1
  obtain ⟨y, hy, _, _⟩ := DataW.trod_int h2 t2
  obtain ⟨g, hg, _⟩ := DataW.trod_bool h3 t3
  simp at hs hx hy hg
  subst hs; subst hx; subst hy; subst hg
  exact ⟨⟨s, x, y, g⟩, c0, c1, c2, c3, hsz⟩)
 refine ⟨l, fun hp B V => ?_, by omega, fun r hr => ?_⟩
 · unfold RV RA
   refine ⟨_, c, by rw [List.length_map, hl], by rw [List.length_map, hl]; exact hcap.1, hcap.2, aHU _, by omega, .inr ⟨b, off, _, rfl, hlt, aE5 l, fun j u hu => ?_⟩⟩
   obtain ⟨i, hi', h⟩ := aD5 _ j u hu
   obtain ⟨q0, q1, q2, q3, _⟩ := hq i hi'
   rcases h with ⟨rfl, rfl⟩ | ⟨rfl, rfl⟩ | ⟨rfl, rfl⟩ | ⟨rfl, rfl⟩
   · exact q0
   · exact q1
   · exact q2
   · exact q3
 · obtain ⟨i, hi', rfl⟩ := List.getElem_of_mem hr
   exact (hq i hi').2.2.2.2
end
end Go.Proofs.Ytoaifonjemlfcaa.AM
namespace Go.Proofs.Ytoaifonjemlfcaa
open Go.RowKit Go.ChangeShapes Go.WideShapes Go.Deep
section
variable {H : Type} {enc : TypeId × Value → H} {P : Program} {w : World} {base : Nat} {held : Bool}
end
end Go.Proofs.Ytoaifonjemlfcaa
namespace Go.Proofs.Ytoaifonjemlfcaa.AM
open Go Go.RowKit
end Go.Proofs.Ytoaifonjemlfcaa.AM
namespace Go.Proofs.Ytoaifonjemlfcaa.AM
open Go Go.RowKit Go.ChangeShapes Go.WideShapes Go.Deep
structure Opr where
 kind : Int
 frm : Int
 name : ByteArray
 key : ByteArray
 edits : List Edt
structure Bas where
 store : List Cmt
 refs : List Rf
structure Rst where
 code : Int
 com : Int
 val : Int
 keys : List ByteArray
 map : List Ent
def uE (b : Bas) : AV := .agg [.lst 2 (b.store.map x9), .lst 4 (b.refs.map xq)]
def Opr.ok (o : Opr) (N : Nat) : Prop := o.name.size ≤ N ∧ o.key.size ≤ N ∧ o.edits.length ≤ N ∧ ∀ e ∈ o.edits, e.key.size ≤ N
def Rst.ok (r : Rst) (N : Nat) : Prop := r.keys.length ≤ N ∧ (∀ k ∈ r.keys, k.size ≤ N) ∧ r.map.length ≤ N ∧ ∀ e ∈ r.map, e.1.size ≤ N
section
variable {S : Nat → Prop} {w : World}
end
section
variable {H : Type} {enc : TypeId × Value → H} {P : Program} {w : World} {base : Nat} {held : Bool}
theorem aDW {t : TypeId} {fs : Array Field} {cs : Array Value} {d : DataW H} {p : List MemPlace} (ht : P.underlying t = some (.struct fs)) (hone : oneCellFields P fs = true) (hC : P.cellsOf t = fs.size) (h : DataW.Trod enc P w base (fun _ => true) held t (.agg cs) d p) :
 cs.toList.length = fs.size ∧ ∃ k, ∀ (j : Nat) (f : Field), fs[j]? = some f → ∃ (v : Value) (y : DataW H × List MemPlace), cs.toList[j]? = some v ∧ DataW.trod enc P w base (fun _ => true) held k f.type [v] = some y := by
 obtain ⟨fuel, hf⟩ := h
 obtain ⟨ys, n', hn', hy, hlen, hyl, hf⟩ := DataW.trod_struct ht hf
 rw [hC] at hlen
 have hlen' : cs.toList.length = fs.size := by simpa [Value.cells] using hlen
 refine ⟨hlen', n', fun j f hj => ?_⟩
 obtain ⟨ho, hk⟩ := hone_of hone j f hj
 have hjl : j < fs.size := (Array.getElem?_eq_some_iff.1 hj).1
 have hv : cs.toList[j]? = some (cs.toList[j]'(by omega)) := List.getElem?_eq_getElem (by omega)
 have h1 := hf j f hj
 rw [ho, hk] at h1
 have hone' : ((Value.cells (.agg cs)).toList.drop j).take 1 = [cs.toList[j]'(by omega)] := by
  show (cs.toList.drop j).take 1 = _
  rw [List.drop_eq_getElem_cons (by omega)]
  rfl
 rw [hone'] at h1
 have hys : ys[j]? = some (ys[j]'(by omega)) := List.getElem?_eq_getElem (by omega)
 exact ⟨_, _, hv, h1.trans hys⟩
theorem aHH {α : Type} {l : List α} {a b : α} (h : l.length = 2) (h0 : l[0]? = some a) (h1 : l[1]? = some b) : l = [a, b] := by
 match l, h with
 | [_, _], _ => simp at h0 h1; subst h0 h1; rfl
theorem aBq {t : TypeId} {v : Value} {k : Nat} {y : DataW H × List MemPlace} (hv : (Value.cells v).toList = [v]) (h : DataW.trod enc P w base (fun _ => true) held k t [v] = some y) : DataW.Trod enc P w base (fun _ => true) held t v y.1 y.2 := ⟨k, by rw [hv]; exact h⟩
theorem aGM {hp : Nat → Option OB} {B : Nat → Nat} {V : Nat → Value} {xs : List AV} {cs : Array Value} {l : List Value} (h : cs.toList = l) (hr : RL (InW w) w xs l) : RV (InW w) w hp B V (.agg xs) (.agg cs) := by
 unfold RV; exact ⟨l, by rw [← h], hr⟩
theorem open_com {t te : TypeId} {f0 f1 g0 g1 : Field} {e0 : TypeId} {cs : Array Value} {d : DataW H} {p : List MemPlace} (ht : P.underlying t = some (.struct #[f0, f1])) (hone : oneCellFields P #[f0, f1] = true) (hC : P.cellsOf t = 2)
 (h0 : P.underlying f0.type = some (.slice e0)) (hi0 : P.underlying e0 = some (.int .i64)) (hC0 : P.cellsOf e0 = 1)
 (h1 : P.underlying f1.type = some (.slice te)) (h2 : P.underlying te = some (.struct #[g0, g1])) (hone1 : oneCellFields P #[g0, g1] = true) (hC1 : P.cellsOf te = 2) (k0 : P.underlying g0.type = some .string) (k1 : P.underlying g1.type = some (.int .i64))
 (h : DataW.Trod enc P w base (fun _ => true) held t (.agg cs) d p) : ∃ c : Cmt, (∀ hp B V, RV (InW w) w hp B V (x9 c) (.agg cs)) ∧ uP maxLen [c] := by
 obtain ⟨hl, k, hk⟩ := aDW ht hone hC h
 obtain ⟨v0, y0, c0, t0⟩ := hk 0 f0 rfl
 obtain ⟨v1, y1, c1, t1⟩ := hk 1 f1 rfl
 obtain ⟨ps, hps, hpl⟩ := open_ints h0 hi0 hC0 t0
 obtain ⟨A1, n1, c1', rfl⟩ := kr h1 t1
 have T1 := aBq rfl t1
 obtain ⟨es, hrd, hm, hks⟩ := aCQ h1 h2 hone1 hC1 k0 k1 T1
 have hra := aE9 (hp := fun _ => none) (B := fun _ => 0) (V := fun _ => undef) (jw h1 T1) hrd
 unfold RV at hra
 refine ⟨(ps, es), fun hp B V => aGM (aHH (by simpa using hl) c0 c1) (yx (c1 := [_]) hps (yx (c1 := [_]) hra wR)), fun c hc => ?_⟩
 rw [List.mem_singleton] at hc
 subst hc
 exact ⟨hpl, Nat.le_trans (Nat.le_of_eq hrd.len) hm, hks⟩
theorem open_bas {t tc te tr : TypeId} {f0 f1 c0f c1f g0 g1 r0 r1 r2 r3 : Field} {e0 : TypeId} {cs : Array Value} {d : DataW H} {p : List MemPlace} (ht : P.underlying t = some (.struct #[f0, f1])) (hone : oneCellFields P #[f0, f1] = true) (hC : P.cellsOf t = 2)
 (u0 : P.underlying f0.type = some (.slice tc)) (uc : P.underlying tc = some (.struct #[c0f, c1f])) (honec : oneCellFields P #[c0f, c1f] = true) (hCc : P.cellsOf tc = 2)
 (h0 : P.underlying c0f.type = some (.slice e0)) (hi0 : P.underlying e0 = some (.int .i64)) (hC0 : P.cellsOf e0 = 1)
 (h1 : P.underlying c1f.type = some (.slice te)) (h2 : P.underlying te = some (.struct #[g0, g1])) (hone1 : oneCellFields P #[g0, g1] = true) (hC1 : P.cellsOf te = 2) (k0 : P.underlying g0.type = some .string) (k1 : P.underlying g1.type = some (.int .i64))
 (u1 : P.underlying f1.type = some (.slice tr)) (ur : P.underlying tr = some (.struct #[r0, r1, r2, r3])) (honer : oneCellFields P #[r0, r1, r2, r3] = true) (hCr : P.cellsOf tr = 4) (q0 : P.underlying r0.type = some .string) (q1 : P.underlying r1.type = some (.int .i64)) (q2 : P.underlying r2.type = some (.int .i64)) (q3 : P.underlying r3.type = some .bool)
 (h : DataW.Trod enc P w base (fun _ => true) held t (.agg cs) d p) : ∃ b : Bas, (∀ hp B V, RV (InW w) w hp B V (uE b) (.agg cs)) ∧ (b.store.length ≤ maxLen ∧ uP maxLen b.store) ∧ b.refs.length ≤ maxLen ∧ ∀ r ∈ b.refs, r.name.size ≤ maxLen := by
 obtain ⟨hl, k, hk⟩ := aDW ht hone hC h
 obtain ⟨v0, y0, c0, t0⟩ := hk 0 f0 rfl
 obtain ⟨v1, y1, c1, t1⟩ := hk 1 f1 rfl
 obtain ⟨A0, n0, c0', rfl⟩ := kr u0 t0
 obtain ⟨A1, n1, c1', rfl⟩ := kr u1 t1
 obtain ⟨st, hst, hsm, hsk⟩ := aFw u0 uc honec hCc h0 hi0 hC0 h1 h2 hone1 hC1 k0 k1 (aBq rfl t0)
 obtain ⟨rf, hrf, hrm, hrk⟩ := aFx u1 ur honer hCr q0 q1 q2 q3 (aBq rfl t1)
 have a0 := hst (fun _ => none) (fun _ => 0) (fun _ => undef)
 have a1 := hrf (fun _ => none) (fun _ => 0) (fun _ => undef)
 unfold RV at a0 a1
 exact ⟨⟨st, rf⟩, fun hp B V => aGM (aHH (by simpa using hl) c0 c1) (yx (c1 := [_]) a0 (yx (c1 := [_]) a1 wR)), ⟨hsm, hsk⟩, hrm, hrk⟩
end
end Go.Proofs.Ytoaifonjemlfcaa.AM
namespace Go.Proofs.Ytoaifonjemlfcaa
open Go.RowKit
end Go.Proofs.Ytoaifonjemlfcaa
namespace Go.Proofs.Ytoaifonjemlfcaa.AM
open Go Go.RowKit
attribute [local irreducible] xM xO yD yu zU Pre ACG
theorem aBw {cs : List Cmt} {l : Int} (h : 0 ≤ uN cs l) (h1 : l ≤ 1048576) : uN cs l ≤ l ∧ cs.length ≤ 1048576 ∧ uP 1048576 cs := by
 obtain ⟨k1, k2⟩ := aHg h
 refine ⟨?_, by omega, fun c hc => by obtain ⟨q1, q2, q3⟩ := k2 c hc; exact ⟨by omega, by omega, fun e he => by have := q3 e he; omega⟩⟩
 unfold uN at h ⊢
 split
 · omega
 · rename_i hn
   rw [if_neg hn] at h
   have := (aDe h).1
   omega
end Go.Proofs.Ytoaifonjemlfcaa.AM
namespace Go.Proofs.Ytoaifonjemlfcaa.AM
open Go Go.RowKit
instance : DecidableEq Rf := fun a b => decidable_of_iff _ aHc.symm
def qg (n : Nat) (l : List Rf) : Bool := l.all fun r => decide (r.head ≤ n)
noncomputable def jd (b : Bas) : Bool := qy b.store && (vH b.refs && qg b.store.length b.refs)
theorem aCE {n : Nat} {l : List Rf} {k : Nat} (h : k < l.length) : qg n (l.drop k) = (decide (l[k].head ≤ n) && qg n (l.drop (k + 1))) := by
 unfold qg; rw [List.drop_eq_getElem_cons h, List.all_cons]
structure Bas.ok (b : Bas) (N : Nat) : Prop where
 sm : b.store.length ≤ N
 sc : uP N b.store
 rm : b.refs.length ≤ N
 rk : aJH N b.refs
def szB (b : Bas) (l : Int) : Int := if uN b.store l < 0 then -1 else if szL rSz b.refs (uN b.store l) < 0 then -1 else szL rSz b.refs (uN b.store l)
attribute [local irreducible] xM xO yD yu zU Pre ACG
theorem aFY {b : Bas} {l : Int} (hb : b.ok maxLen) (h0 : 0 ≤ l) (h1 : l ≤ 1048576) : AC Try.prog 14 [uE b, .v (.int .i64 l)] ⟨.v (.int .i64 (szB b l)), []⟩ := by
 have z1 := aCp hb.sm hb.sc h0 h1
 unfold szB
 by_cases ha : uN b.store l < 0
 · rw [if_pos ha]
   refine qrf Try.func14 Try.ntmps14 Try.results14 ?_; conv => whnf
   repeat ((first | refine qz ?_ | refine qc (z1) ?_ | refine qst ?_); conv => whnf)
   exact xA rfl trivial
 rw [if_neg ha]
 obtain ⟨z0, _, _⟩ := aBw (by omega : 0 ≤ uN b.store l) h1
 have z2 := aFZ (l := uN b.store l) hb.rm hb.rk (by omega) (by omega)
 by_cases hn : szL rSz b.refs (uN b.store l) < 0
 · rw [if_pos hn]
   refine qrf Try.func14 Try.ntmps14 Try.results14 ?_; conv => whnf
   repeat ((first | refine qz ?_ | refine qc (z1) ?_ | refine qc (z2) ?_ | refine qst ?_); conv => whnf)
   exact xA rfl trivial
 · rw [if_neg hn]
   refine qrf Try.func14 Try.ntmps14 Try.results14 ?_; conv => whnf
   repeat ((first | refine qz ?_ | refine qc (z1) ?_ | refine qc (z2) ?_ | refine qst ?_); conv => whnf)
   exact xA rfl trivial
theorem aIf {b : Bas} {l : Int} (h : 0 ≤ szB b l) (h1 : l ≤ 1048576) : szB b l ≤ 1048576 ∧ b.store.length ≤ 1048576 ∧ uP 1048576 b.store ∧ b.refs.length ≤ 1048576 := by
 unfold szB at h ⊢
 by_cases ha : uN b.store l < 0
 · rw [if_pos ha] at h; omega
 rw [if_neg ha] at h ⊢
 obtain ⟨z0, z1, z2⟩ := aBw (by omega : 0 ≤ uN b.store l) h1
 by_cases hn : szL rSz b.refs (uN b.store l) < 0
 · rw [if_pos hn] at h; omega
 rw [if_neg hn] at h ⊢
 obtain ⟨k1, k2, _⟩ := aGT h
 exact ⟨by omega, z1, z2, by omega⟩
theorem aF0 {b : Bas} (hm : b.store.length ≤ 1048576) (hc : uP 1048576 b.store) (hr : b.refs.length ≤ 1048576) : AC Try.prog 16 [uE b] ⟨uE b, []⟩ := by
 have h1 := aCr hm (fun c h => ⟨(hc c h).1, (hc c h).2.1⟩)
 have h2 := aF2 hr
 refine qrf Try.func16 Try.ntmps16 Try.results16 ?_; conv => whnf
 repeat (first | (refine qz ?_; conv => whnf) | (refine qf (h1) ?_; conv => whnf) | (refine qf (h2) ?_; conv => whnf) | (refine qr (aCS rfl rfl rfl rfl rfl rfl rfl rfl) ?_; conv => whnf) | (refine qr (zl rfl rfl rfl rfl rfl (by conv => lhs; whnf) rfl) ?_; conv => whnf))
 exact aBk (x := uE b) rfl rfl rfl rfl trivial
theorem aFT {b : Bas} (hb : b.ok maxLen) : AC Try.prog 18 [uE b, uE b] ⟨.v (.bool true), []⟩ := by
 have h1 := aCi hb.sm (fun c h => ⟨(hb.sc c h).1, (hb.sc c h).2.1⟩)
 have h2 := aFV hb.rm
 refine qrf Try.func18 Try.ntmps18 Try.results18 ?_; conv => whnf
 repeat ((first | refine qz ?_ | refine qc (h1) ?_ | refine qc (h2) ?_ | refine qst ?_); conv => whnf)
 exact xA rfl trivial
set_option maxHeartbeats 1000000 in
theorem aEg {b : Bas} (hb : b.ok maxLen) : AC Try.prog 41 [uE b] ⟨.v (.bool (jd b)), []⟩ := by
 have h1 := aDn hb.sm hb.sc
 have h2 := aEh hb.rm hb.rk
 have hm := hb.rm
 have hm2 := hb.sm
 unfold maxLen at hm hm2
 unfold jd
 generalize qy b.store = x at h1
 generalize vH b.refs = y at h2
 cases x
 case false =>
  refine qrf Try.func41 Try.ntmps41 Try.results41 ?_; conv => whnf
  repeat ((first | refine qz ?_ | refine qc (h1) ?_ | refine qc (h2) ?_); conv => whnf)
  exact xA rfl trivial
 cases y
 case false =>
  refine qrf Try.func41 Try.ntmps41 Try.results41 ?_; conv => whnf
  repeat ((first | refine qz ?_ | refine qc (h1) ?_ | refine qc (h2) ?_); conv => whnf)
  exact xA rfl trivial
 rw [Bool.true_and, Bool.true_and]
 refine qrf Try.func41 Try.ntmps41 Try.results41 ?_; conv => whnf
 repeat ((first | refine qz ?_ | refine qc (h1) ?_ | refine qc (h2) ?_); conv => whnf)
 refine xX (ι := { k : Nat // k ≤ b.refs.length ∧ qg b.store.length (b.refs.drop k) = qg b.store.length b.refs }) (fun k => ⟨[(1, .optr 2 0 [] 0), (16, .lst 4 (b.refs.map xq)), (17, .v (.int .i64 (b.refs.length : Int))), (18, .v (.int .i64 (k.1 : Int)))], [(2, ⟨46, 2, [uE b]⟩)]⟩) (fun k => b.refs.length - k.1) ⟨0, Nat.zero_le _, rfl⟩ (by exact qle) ?_
 rintro ⟨k, hk, hd⟩
 dsimp only at hk hd ⊢
 conv => whnf
 by_cases hlt : k < b.refs.length
 · rw [aCE hlt] at hd
   by_cases he : b.refs[k].head ≤ b.store.length
   · rw [decide_eq_true he, Bool.true_and] at hd
     repeat ((first | refine qz ?_ | refine qst ?_); conv => whnf)
     exact ⟨⟨k + 1, hlt, hd⟩, by exact qle, by simp; omega⟩
   · rw [decide_eq_false he, Bool.false_and] at hd
     rw [← hd]
     repeat ((first | refine qz ?_ | refine qst ?_); conv => whnf)
     exact xA rfl trivial
 · rw [← hd, List.drop_eq_nil_of_le (by omega)]
   repeat ((refine qz ?_; conv => whnf))
   exact xA rfl trivial
set_option maxHeartbeats 1000000 in
theorem aG3 {b : Bas} (hb : b.ok maxLen) : AC Try.prog 37 [uE b] ⟨.v (.bool (jd b)), []⟩ := by
 have h1 := aG0 hb.sm hb.sc
 have h2 := aG2 hb.rm hb.rk
 have hm := hb.rm
 have hm2 := hb.sm
 unfold maxLen at hm hm2
 unfold jd
 generalize qy b.store = x at h1
 generalize vH b.refs = y at h2
 cases x
 case false =>
  refine qrf Try.func37 Try.ntmps37 Try.results37 ?_; conv => whnf
  repeat ((first | refine qz ?_ | refine qc (h1) ?_ | refine qc (h2) ?_); conv => whnf)
  exact xA rfl trivial
 cases y
 case false =>
  refine qrf Try.func37 Try.ntmps37 Try.results37 ?_; conv => whnf
  repeat ((first | refine qz ?_ | refine qc (h1) ?_ | refine qc (h2) ?_); conv => whnf)
  exact xA rfl trivial
 rw [Bool.true_and, Bool.true_and]
 refine qrf Try.func37 Try.ntmps37 Try.results37 ?_; conv => whnf
 repeat ((first | refine qz ?_ | refine qc (h1) ?_ | refine qc (h2) ?_); conv => whnf)
 refine xX (ι := { k : Nat // k ≤ b.refs.length ∧ qg b.store.length (b.refs.drop k) = qg b.store.length b.refs }) (fun k => ⟨[(1, .optr 2 0 [] 0), (3, .v (.int .i64 (k.1 : Int)))], [(2, ⟨46, 2, [uE b]⟩)]⟩) (fun k => b.refs.length - k.1) ⟨0, Nat.zero_le _, rfl⟩ (by exact qle) ?_
 rintro ⟨k, hk, hd⟩
 dsimp only at hk hd ⊢
 conv => whnf
 by_cases hlt : k < b.refs.length
 · rw [aCE hlt] at hd
   by_cases he : b.refs[k].head ≤ b.store.length
   · rw [decide_eq_true he, Bool.true_and] at hd
     repeat ((refine qz ?_; conv => whnf))
     refine .inl ⟨by kernel_rfl, ?_⟩
     conv => whnf
     repeat ((first | refine qz ?_ | refine qst ?_); conv => whnf)
     exact ⟨⟨k + 1, hlt, hd⟩, by exact qle, by simp; omega⟩
   · rw [decide_eq_false he, Bool.false_and] at hd
     rw [← hd]
     repeat ((refine qz ?_; conv => whnf))
     refine .inl ⟨by kernel_rfl, ?_⟩
     conv => whnf
     repeat ((first | refine qz ?_ | refine qst ?_); conv => whnf)
     exact xA rfl trivial
 · rw [← hd, List.drop_eq_nil_of_le (by omega)]
   repeat ((refine qz ?_; conv => whnf))
   exact xA rfl trivial
theorem aHV {a b : Bas} : a = b ↔ a.store = b.store ∧ a.refs = b.refs := by cases a; cases b; simp
instance : DecidableEq Bas := fun a b => decidable_of_iff _ aHV.symm
end Go.Proofs.Ytoaifonjemlfcaa.AM
namespace Go.Proofs.Ytoaifonjemlfcaa.AM
open Go Go.RowKit
def zo (a : ByteArray) (l : List Int) : ByteArray := l.foldl (fun t p => t ++ xC p.toNat) a
def uz (a : ByteArray) (l : List Ent) : ByteArray := l.foldl (fun t e => t ++ (uO e.1 ++ wI e.2)) a
def uy (c : Cmt) : ByteArray := uz (zo (xC c.1.length) c.1 ++ xC c.2.length) c.2
theorem zx {α β : Type} {f : β → α → β} {a : β} {l : List α} {i : Nat} (h : i < l.length) : (l.take (i + 1)).foldl f a = f ((l.take i).foldl f a) l[i] := by
 rw [List.take_succ_eq_append_getElem h, List.foldl_append]; rfl
theorem yF {n : Nat} (h : n ≤ 268435455) : (xC n).size ≤ 4 := qW h
theorem aEb {n : Int} (h0 : -1000000 ≤ n) (h1 : n ≤ 1000000) : (wI n).size ≤ 4 := by
 unfold wI
 split <;> exact yF (by omega)
theorem kG {t : ByteArray} (h : t.size ≤ 268435455) : (uO t).size ≤ 4 + t.size := by
 unfold uO
 rw [ByteArray.size_append]
 have := yF h
 omega
theorem kE : ∀ (l : List Int) (a : ByteArray), (∀ p ∈ l, p.toNat ≤ 268435455) → (zo a l).size ≤ a.size + 4 * l.length
 | [], a, h => by simp [zo]
 | p :: l, a, h => by
  have h1 := kE l (a ++ xC p.toNat) (fun q hq => h q (by simp [hq]))
  have h2 := yF (h p (by simp))
  rw [ByteArray.size_append] at h1
  show (zo (a ++ xC p.toNat) l).size ≤ _
  simp only [List.length_cons]; omega
def aEq (l : List Ent) : Prop := ∀ e ∈ l, e.1.size ≤ 12 ∧ -1000000 ≤ e.2 ∧ e.2 ≤ 1000000
theorem aAI : ∀ (l : List Ent) (a : ByteArray), aEq l → (uz a l).size ≤ a.size + 20 * l.length
 | [], a, h => by simp [uz]
 | e :: l, a, h => by
  obtain ⟨k1, k2, k3⟩ := h e (by simp)
  have h1 := aAI l (a ++ (uO e.1 ++ wI e.2)) (fun q hq => h q (by simp [hq]))
  have h2 := kG (t := e.1) (by omega)
  have h3 := aEb k2 k3
  rw [ByteArray.size_append, ByteArray.size_append] at h1
  show (uz (a ++ (uO e.1 ++ wI e.2)) l).size ≤ _
  simp only [List.length_cons]; omega
structure CmtS (c : Cmt) : Prop where
 pl : c.1.length ≤ 60
 pp : ∀ p ∈ c.1, 0 ≤ p ∧ p ≤ 1000
 ml : c.2.length ≤ 100
 me : aEq c.2
theorem aEJ {c : Cmt} (h : CmtS c) : (uy c).size ≤ 8 + 4 * c.1.length + 20 * c.2.length := by
 unfold uy
 have h1 := aAI c.2 (zo (xC c.1.length) c.1 ++ xC c.2.length) h.me
 have h2 := kE c.1 (xC c.1.length) (fun p hp => by have := h.pp p hp; omega)
 have h3 := yF (n := c.1.length) (by have := h.pl; omega)
 have h4 := yF (n := c.2.length) (by have := h.ml; omega)
 rw [ByteArray.size_append] at h1
 omega
attribute [local irreducible] xM xO yD yu zU Pre ACG
theorem qM {c : Cmt} (h : CmtS c) : AC Try.prog 28 [x9 c] ⟨.v (.string (uy c)), []⟩ := by
 have hpl := h.pl
 have hml := h.ml
 have c1 := yP (n := c.1.length) (by omega)
 have c2 := yP (n := c.2.length) (by omega)
 have z1 := yF (n := c.1.length) (by omega)
 have z2 := yF (n := c.2.length) (by omega)
 refine qrf Try.func28 Try.ntmps28 Try.results28 ?_; conv => whnf
 repeat ((first | refine qz ?_ | refine qc (c1) ?_); conv => whnf)
 refine xX (ι := { i : Nat // i ≤ c.1.length }) (fun i => ⟨[(1, .optr 2 0 [] 0), (3, .v (.string (zo (xC c.1.length) (c.1.take i.1)))), (4, .v (.int .i64 (i.1 : Int)))], [(2, ⟨33, 2, [x9 c]⟩)]⟩) (fun i => c.1.length - i.1) ⟨0, Nat.zero_le _⟩ (by exact qle) ?_
 rintro ⟨i, hi⟩
 dsimp only
 conv => whnf
 by_cases hlt : i < c.1.length
 · have hp := h.pp _ (List.getElem_mem hlt)
   have hs : zo (xC c.1.length) (c.1.take (i + 1)) = zo (xC c.1.length) (c.1.take i) ++ xC (c.1[i]).toNat := zx hlt
   have hz := kE (c.1.take i) (xC c.1.length) (fun p hp => by have := h.pp p (List.mem_of_mem_take hp); omega)
   rw [List.length_take] at hz
   obtain ⟨m, hm⟩ : ∃ m : Nat, c.1[i] = (m : Int) := ⟨(c.1[i]).toNat, by omega⟩
   rw [hm, Int.toNat_natCast] at hs
   have c3 := yP (n := m) (by omega)
   have z3 := yF (n := m) (by omega)
   generalize zo (xC c.1.length) (c.1.take i) = A at hs hz ⊢
   rw [← hm] at c3
   repeat ((first | refine qz ?_ | refine qc (c3) ?_ | refine qp (xQ (wm (by omega)) rfl rfl rfl) ?_); conv => whnf)
   rw [← hs]
   exact ⟨⟨i + 1, hlt⟩, by exact qle, by simp; omega⟩
 have e : i = c.1.length := by omega
 subst e
 rw [List.take_length]
 have hz := kE c.1 (xC c.1.length) (fun p hp => by have := h.pp p hp; omega)
 unfold uy
 generalize zo (xC c.1.length) c.1 = A at hz ⊢
 repeat ((first | refine qz ?_ | refine qc (c2) ?_ | refine qp (xQ (wm (by omega)) rfl rfl rfl) ?_); conv => whnf)
 refine xX (ι := { i : Nat // i ≤ c.2.length }) (fun i => ⟨[(1, .optr 2 0 [] 0), (3, .v (.string (uz (A ++ xC c.2.length) (c.2.take i.1)))), (5, .v (.int .i64 (i.1 : Int)))], [(2, ⟨33, 2, [x9 c]⟩)]⟩) (fun i => c.2.length - i.1) ⟨0, Nat.zero_le _⟩ (by exact qle) ?_
 rintro ⟨i, hi⟩
 dsimp only
 conv => whnf
 by_cases hlt : i < c.2.length
 · obtain ⟨k1, k2, k3⟩ := h.me _ (List.getElem_mem hlt)
   have hs : uz (A ++ xC c.2.length) (c.2.take (i + 1)) = uz (A ++ xC c.2.length) (c.2.take i) ++ (uO (c.2[i]).1 ++ wI (c.2[i]).2) := zx hlt
   have hz' := aAI (c.2.take i) (A ++ xC c.2.length) (fun e he => h.me e (List.mem_of_mem_take he))
   rw [List.length_take, ByteArray.size_append] at hz'
   have c3 := aAv (t := (c.2[i]).1) (by omega)
   have c4 := aCn k2 k3
   have z3 := kG (t := (c.2[i]).1) (by omega)
   have z4 := aEb k2 k3
   have z5 : (uO (c.2[i]).1 ++ wI (c.2[i]).2).size ≤ 1000 := by rw [ByteArray.size_append]; omega
   generalize uz (A ++ xC c.2.length) (c.2.take i) = E at hs hz' ⊢
   repeat ((first | refine qz ?_ | refine qdr ?_ | refine qc (c3) ?_ | refine qc (c4) ?_ | refine qp (xQ (wm (by omega)) rfl rfl rfl) ?_); conv => whnf)
   rw [← hs]
   exact ⟨⟨i + 1, hlt⟩, by exact qle, by simp; omega⟩
 have e : i = c.2.length := by omega
 subst e
 rw [List.take_length]
 repeat ((refine qz ?_; conv => whnf))
 exact xA rfl trivial
def aAk (p0 : Int) (i : Nat) (p : Int) : Bool := decide (1 ≤ p ∧ p ≤ 60) && (decide (i = 0) || !decide (p = p0))
def wG (p0 : Int) : Nat → List Int → Bool
 | _, [] => true
 | i, p :: l => aAk p0 i p && wG p0 (i + 1) l
theorem aFq {p0 : Int} {l : List Int} {i : Nat} (h : i < l.length) : wG p0 i (l.drop i) = (aAk p0 i l[i] && wG p0 (i + 1) (l.drop (i + 1))) := by
 rw [List.drop_eq_getElem_cons h, wG]
def vk (c : Cmt) : Bool := yK c.2 && (decide (c.1.length ≤ 2) && wG ((c.1[0]?).getD 0) 0 c.1)
set_option maxHeartbeats 1000000 in
theorem aDp {c : Cmt} (hm : c.1.length ≤ maxLen) (hn : c.2.length ≤ maxLen) (hk : ∀ e ∈ c.2, e.1.size ≤ maxLen) : AC Try.prog 27 [x9 c] ⟨.v (.bool (vk c)), []⟩ := by
 have c1 := aCl hn hk
 unfold maxLen at hm
 unfold vk
 cases h0 : yK c.2
 case false =>
  rw [h0] at c1
  rw [Bool.false_and]
  refine qrf Try.func27 Try.ntmps27 Try.results27 ?_; conv => whnf
  repeat ((first | refine qz ?_ | refine qc (c1) ?_); conv => whnf)
  exact xA rfl trivial
 rw [h0] at c1
 rw [Bool.true_and]
 by_cases h1 : c.1.length ≤ 2
 case neg =>
  rw [decide_eq_false h1, Bool.false_and]
  refine qrf Try.func27 Try.ntmps27 Try.results27 ?_; conv => whnf
  repeat ((first | refine qz ?_ | refine qc (c1) ?_); conv => whnf)
  exact xA rfl trivial
 rw [decide_eq_true h1, Bool.true_and]
 refine qrf Try.func27 Try.ntmps27 Try.results27 ?_; conv => whnf
 repeat ((first | refine qz ?_ | refine qc (c1) ?_); conv => whnf)
 generalize hq : (c.1[0]?).getD 0 = p0
 refine xX (ι := { i : Nat // i ≤ c.1.length ∧ wG p0 i (c.1.drop i) = wG p0 0 c.1 }) (fun i => ⟨[(1, .optr 2 0 [] 0), (3, .v (.int .i64 (i.1 : Int)))], [(2, ⟨33, 2, [x9 c]⟩)]⟩) (fun i => c.1.length - i.1) ⟨0, Nat.zero_le _, rfl⟩ (by exact qle) ?_
 rintro ⟨i, hi, hd⟩
 dsimp only at hi hd ⊢
 conv => whnf
 by_cases hlt : i < c.1.length
 case neg =>
  rw [← hd, List.drop_eq_nil_of_le (by omega)]
  repeat ((refine qz ?_; conv => whnf))
  exact xA rfl trivial
 rw [aFq hlt] at hd
 have hz : 0 < c.1.length := by omega
 have e0 : c.1[0] = p0 := by rw [← hq]; simp [hz]
 repeat ((refine qz ?_; conv => whnf))
 (refine qdr ?_; conv => whnf)
 by_cases hp : 1 ≤ c.1[i] ∧ c.1[i] ≤ 60
 case neg =>
  rw [aAk, decide_eq_false hp, Bool.false_and, Bool.false_and] at hd
  rw [← hd]
  repeat ((first | refine qz ?_ | refine qc (kC hp) ?_); conv => whnf)
  exact xA rfl trivial
 rw [aAk, decide_eq_true hp, Bool.true_and] at hd
 by_cases h2 : i = 0
 · rw [decide_eq_true h2, Bool.true_or, Bool.true_and] at hd
   repeat ((first | refine qz ?_ | refine qc (zF hp.1 hp.2) ?_); conv => whnf)
   exact ⟨⟨i + 1, hlt, hd⟩, by exact qle, by simp; omega⟩
 rw [decide_eq_false h2, Bool.false_or] at hd
 by_cases h3 : c.1[i] = p0
 · rw [decide_eq_true h3, Bool.not_true, Bool.false_and] at hd
   rw [← hd]
   repeat ((first | refine qp (ku (jG (k := i) _ hlt) rfl rfl rfl) ?_ | refine qp (ku (jG (k := 0) _ hz) rfl rfl rfl) ?_ | refine qz ?_ | refine qc (zF hp.1 hp.2) ?_); conv => whnf)
   exact xA rfl trivial
 · rw [decide_eq_false h3, Bool.not_false, Bool.true_and] at hd
   repeat ((first | refine qp (ku (jG (k := i) _ hlt) rfl rfl rfl) ?_ | refine qp (ku (jG (k := 0) _ hz) rfl rfl rfl) ?_ | refine qz ?_ | refine qc (zF hp.1 hp.2) ?_); conv => whnf)
   exact ⟨⟨i + 1, hlt, hd⟩, by exact qle, by simp; omega⟩
theorem aCO {m : List Ent} (h : yK m = true) : m.length ≤ 12 := by
 unfold yK at h
 simp only [Bool.and_eq_true, decide_eq_true_eq] at h
 exact h.1
theorem aFu {x : ByteArray} (h : okN x = true) : x.size ≤ 12 := by
 unfold okN Nm.nameOK at h
 have e : x.size = x.data.toList.length := by rw [Array.length_toList]; rfl
 rw [e]
 split at h
 · simp at h
 · rename_i c cs hc
   rw [hc]
   simp only [Bool.and_eq_true, decide_eq_true_eq] at h
   simp only [List.length_cons]
   omega
theorem aBQ {m : List Ent} (h : yK m = true) : aEq m := by
 intro e he
 obtain ⟨i, hi, rfl⟩ := List.getElem_of_mem he
 unfold yK at h
 simp only [Bool.and_eq_true] at h
 have h1 := aEU h.2.1 hi
 have h2 := aHj h.2.2 hi
 unfold yh at h1
 rw [Bool.and_eq_true, qi _ _ hi] at h1
 unfold zH aFR at h2
 simp only [hi, List.getD_eq_getElem?_getD, List.getElem?_eq_getElem, Option.getD_some, Bool.and_eq_true, decide_eq_true_eq] at h2
 exact ⟨aFu h1.1, h2.1, h2.2⟩
theorem aEP {p0 : Int} : ∀ {l : List Int} {i : Nat}, wG p0 i l = true → ∀ p ∈ l, 1 ≤ p ∧ p ≤ 60
 | [], _, _, p, hp => by cases hp
 | q :: l, i, h, p, hp => by
  unfold wG aAk at h
  simp only [Bool.and_eq_true, decide_eq_true_eq] at h
  rcases List.mem_cons.1 hp with rfl | hp
  · exact h.1.1
  · exact aEP h.2 p hp
theorem aFn {c : Cmt} (h : vk c = true) : CmtS c := by
 unfold vk at h
 simp only [Bool.and_eq_true, decide_eq_true_eq] at h
 have := aCO h.1
 exact ⟨by omega, fun p hp => by have := aEP h.2.2 p hp; omega, by omega, aBQ h.1⟩
def jf (c : Cmt) : ByteArray × Int := if vk c = true then (uy c, 0) else (⟨#[]⟩, 1)
theorem aG6 {c : Cmt} (hm : c.1.length ≤ maxLen) (hn : c.2.length ≤ maxLen) (hk : ∀ e ∈ c.2, e.1.size ≤ maxLen) : AC Try.prog 10 [x9 c] ⟨.tup [.v (.string (jf c).1), .v (.int .i64 (jf c).2)], []⟩ := by
 have c1 := aDp hm hn hk
 unfold jf
 cases h : vk c
 · rw [h] at c1
   rw [if_neg (by simp)]
   refine qrf Try.func10 Try.ntmps10 Try.results10 ?_; conv => whnf
   repeat ((first | refine qz ?_ | refine qc (c1) ?_); conv => whnf)
   exact y7 rfl rfl
 · rw [h] at c1
   rw [if_pos rfl]
   have c2 := qM (aFn h)
   refine qrf Try.func10 Try.ntmps10 Try.results10 ?_; conv => whnf
   repeat ((first | refine qz ?_ | refine qc (c1) ?_ | refine qc (c2) ?_); conv => whnf)
   exact y7 rfl rfl
end Go.Proofs.Ytoaifonjemlfcaa.AM
