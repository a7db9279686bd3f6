/- Texts of the machine over data, folded. -/
import Derived.Test.YtodckioppgjbdaaDoorKa8
import Derived.Lib.AppendIntMem
import Derived.Test.YtodckioppgjbdaaDoorKa5
set_option linter.unusedVariables false
set_option linter.unusedSimpArgs false
set_option maxRecDepth 100000
namespace Go.Proofs.YtodckioppgjbdaaDoor.AM
open Go Go.RowKit
theorem aDK {P : Program} {f : FuncId} {args : List AV} {v : Value} (hent : ∀ vs w, (callFunc f vs).run P w = .ok (.enter f vs) w) (hv : v.oneCell' = true)
 (h : ∀ (w : World) (S0 : Nat → Prop) (us : List Value), (∀ b, S0 b → b < w.heap.size) → (∀ g y, GT g = some y → RG S0 w g y) → RVs S0 w (fun _ => none) (fun _ => 0) (fun _ => undef) args us → Calls P f us.toArray w fun e w' => e = .returned v ∧ Below w.heap.size w w') : AC P f args ⟨.v v, []⟩ := by
 refine ⟨hent, fun w S0 B0 V0 T0 vs hS hG _ hv' => (h w S0 vs hS hG (jR (fun _ => rfl) hv')).mono fun e w' ⟨he, hb⟩ => ?_⟩
 exact ⟨v, S0, fun _ => 0, fun _ => undef, fun _ => Fa, fun _ => Fa, he, Grown.of hb _, fun _ h => h, fun b hb' => ⟨Nat.lt_of_lt_of_le (hS b hb') hb.size, .inl hb'⟩, (by unfold RV; exact ⟨rfl, hv⟩), vC qL, vC (fun _ => rfl), fun l l' ob ob' g e => by rw [qL] at e; cases e⟩
theorem aBz {α : Type} (f : α → Value) : ∀ (l : List α), asz (.agg (l.map fun x => .v (f x))) = l.length
 | [] => rfl
 | x :: l => by
  have h2 : xA (l.map fun x => .v (f x)) = l.length := aBz f l
  rw [List.map_cons]
  show 1 + xA _ = _
  rw [h2, List.length_cons]; omega
theorem aHG {P : Program} {S0 : Nat → Prop} {w : World} {g : Nat} {name : String} {k : IntKind} {zs : List Int} (hg : P.globalNamed name = some g) (h : RG S0 w g (.agg (zs.map fun x => .v (.int k x)))) : Lib.TabIs P w name k zs := by
 have h1 := h.ra rfl
 obtain ⟨cs, t, p, hb, hn⟩ := h.full
 unfold Lib.TabIs World.var?
 rw [hg]
 simp only [Option.bind_some, hb, Option.some.injEq]
 unfold RA at h1
 obtain ⟨b, off, us, e, _, h2, h3⟩ := h1
 simp only [List.cons.injEq, Value.pointer.injEq, Option.some.injEq, Addr.mk.injEq, and_true] at e
 obtain ⟨rfl, rfl⟩ := e
 unfold RA at h2
 have hus : us = zs.map fun z => Value.int k z := by
  clear h3 hn h
  induction zs generalizing us with
  | nil => unfold List.map RL at h2; exact h2
  | cons z zs ih =>
   rw [List.map_cons] at h2
   unfold RL at h2
   obtain ⟨c1, c2, rfl, k1, k2⟩ := h2
   unfold RA at k1
   rw [k1.1, ih _ k2]; rfl
 subst hus
 have hsz : cs.size = zs.length := by
  have hn' : cs.size = asz (.agg (zs.map fun x => .v (.int k x))) := hn
  rw [hn', aBz]
 apply Array.ext
 · simp [hsz]
 · intro i hi hi2
   have hi3 : i < zs.length := by omega
   have := h3 i (.int k zs[i]) (by rw [List.getElem?_map, List.getElem?_eq_getElem hi3]; rfl)
   rw [Nat.zero_add, Lib.cell_of_heap hb] at this
   rw [Array.getElem?_eq_getElem hi, Option.some.injEq] at this
   rw [this]; simp
theorem aCD : ∀ (n : Nat), Lib.decDigits n = kG n := fun n => by
 induction n using Nat.strongRecOn with
 | _ n ih =>
  rw [Lib.decDigits, kG]
  by_cases h : n < 10
  · rw [dif_pos h, dif_pos h]
  · rw [dif_neg h, dif_neg h, ih (n / 10) (by omega)]
theorem aGg {n : Int} : (⟨(Lib.itoa n).toArray⟩ : ByteArray) = wO n := by
 unfold Lib.itoa wO
 split
 · rw [aCD]
   apply ByteArray.ext
   rw [ByteArray.data_append]
   unfold kF
   have : n.natAbs = (-n).toNat := by omega
   rw [this]; simp
 · rw [aCD]; rfl
theorem aGa : ∀ vs w, (callFunc 95 vs).run Tryd.prog w = .ok (.enter 95 vs) w := u7 Tryd.func95 (by kernel_rfl) (by kernel_rfl)
theorem aFd {n : Int} (h0 : -1000000000000 ≤ n) (h1 : n ≤ 1000000000000) : AC Tryd.prog 95 [.v (.int .i64 n)] ⟨.v (.string (wO n)), []⟩ := by
 refine aDK aGa rfl fun w S0 us hS hG hv => ?_
 obtain ⟨u, rfl, h2⟩ := kL hv
 unfold RV at h2
 obtain ⟨rfl, _⟩ := h2
 have htab : Lib.TabIs Tryd.prog w "internal/strconv.uint64pow10" .u64 Lib.pow10Tab := by
  rw [show Lib.pow10Tab = p10L from by decide]
  exact aHG (g := 3) (by kernel_rfl) (hG _ _ rfl)
 refine (Tryd.strconv_Itoa n (by omega) (by omega) w htab).mono ?_
 rintro e w' ⟨rfl, k, os, rfl⟩
 rw [aGg]
 exact ⟨rfl, Lib.below_grow _ w (Nat.le_refl _) k os⟩
theorem aCP {sep : ByteArray} {g g' : Nat → ByteArray} : ∀ {n : Nat}, (∀ i, i < n → g i = g' i) → jn sep g n = jn sep g' n
 | 0, _ => rfl
 | i + 1, h => by
  rw [jn, jn, h i (by omega), aCP (n := i) (fun k hk => h k (by omega))]
theorem inter_snoc {sep : List UInt8} : ∀ {xs : List (List UInt8)} {x : List UInt8}, xs ≠ [] → sep.intercalate (xs ++ [x]) = (sep.intercalate xs ++ sep) ++ x
 | [], x, h => absurd rfl h
 | [y], x, _ => by simp [List.intercalate]
 | y :: z :: r, x, _ => by
  have := inter_snoc (sep := sep) (xs := z :: r) (x := x) (by simp)
  simp only [List.intercalate, List.cons_append, List.intersperse_cons_cons, List.flatten_cons, List.append_assoc] at this ⊢
  rw [this]
theorem aGi {sep : ByteArray} (xs : List ByteArray) : (⟨(Lib.join (xs.map (·.data.toList)) sep.data.toList).toArray⟩ : ByteArray) = jn sep (fun i => (xs[i]?).getD ⟨#[]⟩) xs.length := by
 unfold Lib.join
 induction h : xs.length generalizing xs with
 | zero =>
  obtain rfl := List.eq_nil_of_length_eq_zero h
  rfl
 | succ n ih =>
  obtain ⟨ys, y, rfl⟩ : ∃ ys y, xs = ys ++ [y] := ⟨xs.dropLast, xs.getLast (by intro e; subst e; simp at h), (List.dropLast_concat_getLast _).symm⟩
  have hn : ys.length = n := by simpa using h
  have h1 := ih ys hn
  have h2 : jn sep (fun i => ((ys ++ [y])[i]?).getD ⟨#[]⟩) n = jn sep (fun i => (ys[i]?).getD ⟨#[]⟩) n := aCP fun i hi => by rw [List.getElem?_append_left (by omega)]
  have h3 : ((ys ++ [y])[n]?).getD ⟨#[]⟩ = y := by rw [List.getElem?_append_right (by omega), hn]; simp
  rw [jn, h2, h3, ← h1]
  by_cases h0 : n = 0
  · subst h0
    obtain rfl := List.eq_nil_of_length_eq_zero hn
    rw [if_pos rfl]
    apply ByteArray.ext
    simp [List.intercalate]
  · rw [if_neg h0, List.map_append, List.map_cons, List.map_nil, inter_snoc (by intro e; rw [List.map_eq_nil_iff] at e; subst e; exact h0 hn.symm)]
    apply ByteArray.ext
    simp [ByteArray.data_append]
theorem aD5 {S : Nat → Prop} {w : World} : ∀ {l : List ByteArray} {us : List Value}, RL S w (l.map uQ) us → us = l.map Value.string
 | [], us, h => by unfold List.map RL at h; exact h
 | x :: l, us, h => by
  rw [List.map_cons] at h
  unfold RL at h
  obtain ⟨c1, c2, rfl, k1, k2⟩ := h
  unfold uQ RA at k1
  rw [k1.1, aD5 k2]; rfl
theorem aFg : ∀ vs w, (callFunc 122 vs).run Tryd.prog w = .ok (.enter 122 vs) w := u7 Tryd.func122 (by kernel_rfl) (by kernel_rfl)
theorem aDJ {sep : ByteArray} {xs : List ByteArray} (hx : xs.length ≤ 100000) (hs : (jn sep (fun i => (xs[i]?).getD ⟨#[]⟩) xs.length).size ≤ 100000000000) : AC Tryd.prog 122 [.lst 1 (xs.map uQ), .v (.string sep)] ⟨.v (.string (jn sep (fun i => (xs[i]?).getD ⟨#[]⟩) xs.length)), []⟩ := by
 refine aDK aFg rfl fun w S0 us hS hG hv => ?_
 unfold RVs at hv
 obtain ⟨u, us, rfl, h1, hv⟩ := hv
 obtain ⟨u2, rfl, h2⟩ := kL hv
 unfold RV at h2
 obtain ⟨rfl, _⟩ := h2
 unfold RV RA at h1
 obtain ⟨A, c, e, hc, _, _, _, h4⟩ := h1
 simp only [List.cons.injEq, and_true] at e
 subst e
 rw [List.length_map] at hc ⊢
 rw [← aGi] at hs ⊢
 have hl : (Lib.join (xs.map (·.data.toList)) sep.data.toList).length ≤ 100000000000 := by
  have : (⟨(Lib.join (xs.map (·.data.toList)) sep.data.toList).toArray⟩ : ByteArray).size = (Lib.join (xs.map (·.data.toList)) sep.data.toList).length := by simp [ByteArray.size]
  omega
 by_cases hn : xs = []
 · subst hn
   refine (Tryd.strings_Join_none A c sep w).mono ?_
   rintro e w' ⟨rfl, rfl⟩
   exact ⟨rfl, Below.refl _ _⟩
 · rcases h4 with h4 | ⟨b, off, us, rfl, hb, hr, hcell⟩
   · exact absurd (List.map_eq_nil_iff.1 h4) hn
   · have hus := aD5 hr
     subst hus
     refine (Tryd.strings_Join b off c xs sep w (fun j x hj => hcell j _ (by rw [List.getElem?_map, hj]; rfl)) (hS b hb) (by omega) hc (by omega)).mono ?_
     rintro e w' ⟨rfl, hbel⟩
     exact ⟨rfl, hbel⟩
attribute [local irreducible] xR xO xX y5 yh Pre ACG
theorem aAP {e : Ent} (h : e.1.size ≤ 12) (h1 : -1000000 ≤ e.2) (h2 : e.2 ≤ 1000000) : AC Tryd.prog 103 [yS e] ⟨.v (.string (zO e)), []⟩ := by
 have c1 := aFd (n := e.2) (by omega) (by omega)
 have hs := qI (n := e.2) (by omega) (by omega)
 have e1 : (⟨#[61]⟩ : ByteArray).size = 1 := rfl
 unfold zO
 refine qrf Tryd.func103 Tryd.ntmps103 Tryd.results103 ?_; conv => whnf
 repeat (first | (refine qz ?_; conv => whnf) | (refine qc (c1) ?_; conv => whnf) | (refine qp (zf (vS (by first | omega | (simp only [ByteArray.size_append]; omega))) rfl rfl rfl) ?_; conv => whnf) | (refine qdr ?_; conv => whnf))
 exact xk rfl trivial
theorem aDc {e : Edt} (h : e.key.size ≤ 12) (h1 : -1000000 ≤ e.val) (h2 : e.val ≤ 1000000) : AC Tryd.prog 64 [yR e] ⟨.v (.string (yx e)), []⟩ := by
 have c1 := aAP (e := (e.key, e.val)) h h1 h2
 have e1 : (⟨#[33]⟩ : ByteArray).size = 1 := rfl
 unfold yx
 cases hg : e.gone with
 | true =>
  have he : yR e = .agg [.v (.string e.key), .v (.int .i64 e.val), .v (.bool true)] := by unfold yR; rw [hg]
  rw [he]
  rw [if_pos rfl]
  refine qrf Tryd.func64 Tryd.ntmps64 Tryd.results64 ?_; conv => whnf
  repeat (first | (refine qz ?_; conv => whnf) | (refine qp (zf (vS (by first | omega | (simp only [ByteArray.size_append]; omega))) rfl rfl rfl) ?_; conv => whnf) | (refine qdr ?_; conv => whnf))
  exact xk rfl trivial
 | false =>
  have he : yR e = .agg [.v (.string e.key), .v (.int .i64 e.val), .v (.bool false)] := by unfold yR; rw [hg]
  rw [he]
  rw [if_neg (by decide)]
  refine qrf Tryd.func64 Tryd.ntmps64 Tryd.results64 ?_; conv => whnf
  repeat ((first | refine qz ?_ | refine qc (c1) ?_ | refine qst ?_ | refine qdr ?_); conv => whnf)
  exact xk rfl trivial
theorem aA4 {α : Type} {sep : ByteArray} {f : α → ByteArray} {z : α} (l : List α) : jn sep (fun i => ((l.map f)[i]?).getD ⟨#[]⟩) (l.map f).length = jn sep (fun i => f ((l[i]?).getD z)) l.length := by
 rw [List.length_map]
 exact aCP fun i hi => by rw [List.getElem?_map, List.getElem?_eq_getElem hi]; rfl
theorem aAu {es : List Ent} (hm : es.length ≤ 4096) (hk : aAx es) : AC Tryd.prog 123 [.lst 2 (es.map yS), .fn 103 [] []] ⟨.v (.string (jn ⟨#[44]⟩ (fun i => zO ((es[i]?).getD zEn)) es.length)), []⟩ := by
 have hsz : (jn ⟨#[44]⟩ (fun i => zO ((es[i]?).getD zEn)) es.length).size ≤ es.length * (1 + 27) := aA5 (by rw [j4]; omega) fun i hi => by
  rw [List.getElem?_eq_getElem hi]
  obtain ⟨p1, p2, p3⟩ := hk _ (List.getElem_mem hi)
  exact aAy p1 p2 p3
 have hj := aDJ (sep := ⟨#[44]⟩) (xs := es.map zO) (by rw [List.length_map]; omega) (by rw [aA4 (z := zEn)]; omega)
 rw [aA4 (z := zEn)] at hj
 obtain ⟨hsl⟩ : Nonempty ((es.map zO).length = es.length) := ⟨by rw [List.length_map]⟩
 generalize jn ⟨#[44]⟩ (fun i => zO ((es[i]?).getD zEn)) es.length = R at *
 have hgt : ∀ k (h : k < es.length), (es.map zO)[k]? = some (zO es[k]) := fun k h => by rw [List.getElem?_map, List.getElem?_eq_getElem h]; rfl
 generalize hE : es.map zO = E at *
 refine qrf Tryd.func123 Tryd.ntmps123 Tryd.results123 ?_; conv => whnf
 repeat (first | (refine qz ?_; conv => whnf) | (refine qr (aEe (n := es.length) (by omega) (by omega) (by simp; rfl) (by simp; rfl) rfl rfl) ?_; conv => whnf))
 have hrow : List.replicate es.length (AV.v (.string ByteArray.empty)) = (E.take 0 ++ List.replicate (E.length - 0) ByteArray.empty).map uQ := by simp [hsl, uQ]
 refine kW (ι := { k : Nat // k ≤ es.length }) (fun k => ⟨[(0, .lst 2 (es.map yS)), (1, .fn 103 [] []), (5, .own 11), (11, .lst 2 (es.map yS)), (12, .v (.int .i64 (es.length : Int))), (13, .v (.int .i64 (k.1 : Int)))], [(11, ⟨9, 1, (E.take k.1 ++ List.replicate (E.length - k.1) ByteArray.empty).map uQ⟩)]⟩) (fun k => es.length - k.1) ⟨0, Nat.zero_le _⟩ ⟨⟨congrArg (fun x => some (OB.mk _ _ x)) hrow, trivial⟩, .inl ⟨rfl, rfl⟩, .inl ⟨rfl, rfl⟩, .inl ⟨rfl, rfl⟩, .inl ⟨rfl, rfl⟩, .inl ⟨rfl, rfl⟩, .inl ⟨rfl, rfl⟩, trivial⟩ ?_
 rintro ⟨k, hk'⟩
 dsimp only
 conv => whnf
 by_cases hlt : k < es.length
 · have hlt' : k < E.length := by omega
   have hlt2 : k < (E.take k ++ List.replicate (E.length - k) ByteArray.empty).length := by simp; omega
   have hset := congrArg (List.map uQ) (aCN E ByteArray.empty k hlt')
   have hgk : E[k] = zO es[k] := by have := hgt k hlt; rw [List.getElem?_eq_getElem hlt'] at this; exact Option.some.inj this
   rw [List.map_set, hgk] at hset
   obtain ⟨p1, p2, p3⟩ := hk _ (List.getElem_mem hlt)
   have hac := aAP p1 p2 p3
   repeat ((first | refine qz ?_ | refine qp (aEf (by simpa using hlt2) rfl rfl rfl rfl rfl) ?_ | refine qr (aAL (aFF _ hlt2) rfl rfl rfl rfl rfl rfl) ?_ | refine qst ?_ | refine qdr ?_ | refine qr (aD1 hac rfl rfl (.inl rfl) trivial rfl rfl) ?_); conv => whnf)
   exact ⟨⟨k + 1, hlt⟩, ⟨⟨congrArg (fun x => some (OB.mk _ _ x)) hset, trivial⟩, .inl ⟨rfl, rfl⟩, .inl ⟨rfl, rfl⟩, .inl ⟨rfl, rfl⟩, .inl ⟨rfl, rfl⟩, .inl ⟨rfl, rfl⟩, .inl ⟨rfl, rfl⟩, trivial⟩, by simp; omega⟩
 · have hkk : k = es.length := by omega
   subst hkk
   have hfin : (E.take es.length ++ List.replicate (E.length - es.length) ByteArray.empty).map uQ = E.map uQ := by rw [← hsl, List.take_length, Nat.sub_self, List.replicate_zero, List.append_nil]
   rw [hfin]
   repeat ((first | refine qz ?_ | refine qc (hj) ?_); conv => whnf)
   exact xk rfl trivial
theorem aAA {es : List Ent} (hm : es.length ≤ 4096) (hk : aAx es) : AC Tryd.prog 102 [.lst 2 (es.map yS), .fn 103 [] []] ⟨.v (.string (aBA es)), []⟩ := by
 have hj := aAu hm hk
 unfold aBA
 by_cases h0 : es.length = 0
 · rw [if_pos h0]
   refine qrf Tryd.func102 Tryd.ntmps102 Tryd.results102 ?_; conv => whnf
   repeat ((refine qz ?_; conv => whnf))
   exact xk rfl trivial
 · rw [if_neg h0]
   refine qrf Tryd.func102 Tryd.ntmps102 Tryd.results102 ?_; conv => whnf
   repeat ((first | refine qz ?_ | refine qc (hj) ?_); conv => whnf)
   exact xk rfl trivial
theorem aBj {es : List Edt} (hm : es.length ≤ 4096) (hk : aDm es) : AC Tryd.prog 111 [.lst 3 (es.map yR), .fn 64 [] []] ⟨.v (.string (jn ⟨#[44]⟩ (fun i => yx ((es[i]?).getD zEd)) es.length)), []⟩ := by
 have hsz : (jn ⟨#[44]⟩ (fun i => yx ((es[i]?).getD zEd)) es.length).size ≤ es.length * (1 + 27) := aA5 (by rw [j4]; omega) fun i hi => by
  rw [List.getElem?_eq_getElem hi]
  obtain ⟨p1, p2, p3⟩ := hk _ (List.getElem_mem hi)
  exact aDR p1 p2 p3
 have hj := aDJ (sep := ⟨#[44]⟩) (xs := es.map yx) (by rw [List.length_map]; omega) (by rw [aA4 (z := zEd)]; omega)
 rw [aA4 (z := zEd)] at hj
 obtain ⟨hsl⟩ : Nonempty ((es.map yx).length = es.length) := ⟨by rw [List.length_map]⟩
 generalize jn ⟨#[44]⟩ (fun i => yx ((es[i]?).getD zEd)) es.length = R at *
 have hgt : ∀ k (h : k < es.length), (es.map yx)[k]? = some (yx es[k]) := fun k h => by rw [List.getElem?_map, List.getElem?_eq_getElem h]; rfl
 generalize hE : es.map yx = E at *
 refine qrf Tryd.func111 Tryd.ntmps111 Tryd.results111 ?_; conv => whnf
 repeat (first | (refine qz ?_; conv => whnf) | (refine qr (aEe (n := es.length) (by omega) (by omega) (by simp; rfl) (by simp; rfl) rfl rfl) ?_; conv => whnf))
 have hrow : List.replicate es.length (AV.v (.string ByteArray.empty)) = (E.take 0 ++ List.replicate (E.length - 0) ByteArray.empty).map uQ := by simp [hsl, uQ]
 refine kW (ι := { k : Nat // k ≤ es.length }) (fun k => ⟨[(0, .lst 3 (es.map yR)), (1, .fn 64 [] []), (5, .own 11), (11, .lst 3 (es.map yR)), (12, .v (.int .i64 (es.length : Int))), (13, .v (.int .i64 (k.1 : Int)))], [(11, ⟨9, 1, (E.take k.1 ++ List.replicate (E.length - k.1) ByteArray.empty).map uQ⟩)]⟩) (fun k => es.length - k.1) ⟨0, Nat.zero_le _⟩ ⟨⟨congrArg (fun x => some (OB.mk _ _ x)) hrow, trivial⟩, .inl ⟨rfl, rfl⟩, .inl ⟨rfl, rfl⟩, .inl ⟨rfl, rfl⟩, .inl ⟨rfl, rfl⟩, .inl ⟨rfl, rfl⟩, .inl ⟨rfl, rfl⟩, trivial⟩ ?_
 rintro ⟨k, hk'⟩
 dsimp only
 conv => whnf
 by_cases hlt : k < es.length
 · have hlt' : k < E.length := by omega
   have hlt2 : k < (E.take k ++ List.replicate (E.length - k) ByteArray.empty).length := by simp; omega
   have hset := congrArg (List.map uQ) (aCN E ByteArray.empty k hlt')
   have hgk : E[k] = yx es[k] := by have := hgt k hlt; rw [List.getElem?_eq_getElem hlt'] at this; exact Option.some.inj this
   rw [List.map_set, hgk] at hset
   obtain ⟨p1, p2, p3⟩ := hk _ (List.getElem_mem hlt)
   have hac := aDc p1 p2 p3
   repeat ((first | refine qz ?_ | refine qp (aEf (by simpa using hlt2) rfl rfl rfl rfl rfl) ?_ | refine qr (aAL (aFF _ hlt2) rfl rfl rfl rfl rfl rfl) ?_ | refine qst ?_ | refine qdr ?_ | refine qr (aD1 hac rfl rfl (.inl rfl) trivial rfl rfl) ?_); conv => whnf)
   exact ⟨⟨k + 1, hlt⟩, ⟨⟨congrArg (fun x => some (OB.mk _ _ x)) hset, trivial⟩, .inl ⟨rfl, rfl⟩, .inl ⟨rfl, rfl⟩, .inl ⟨rfl, rfl⟩, .inl ⟨rfl, rfl⟩, .inl ⟨rfl, rfl⟩, .inl ⟨rfl, rfl⟩, trivial⟩, by simp; omega⟩
 · have hkk : k = es.length := by omega
   subst hkk
   have hfin : (E.take es.length ++ List.replicate (E.length - es.length) ByteArray.empty).map uQ = E.map uQ := by rw [← hsl, List.take_length, Nat.sub_self, List.replicate_zero, List.append_nil]
   rw [hfin]
   repeat ((first | refine qz ?_ | refine qc (hj) ?_); conv => whnf)
   exact xk rfl trivial
theorem aAQ {es : List Edt} (hm : es.length ≤ 4096) (hk : aDm es) : AC Tryd.prog 63 [.lst 3 (es.map yR), .fn 64 [] []] ⟨.v (.string (aCG es)), []⟩ := by
 have hj := aBj hm hk
 unfold aCG
 by_cases h0 : es.length = 0
 · rw [if_pos h0]
   refine qrf Tryd.func63 Tryd.ntmps63 Tryd.results63 ?_; conv => whnf
   repeat ((refine qz ?_; conv => whnf))
   exact xk rfl trivial
 · rw [if_neg h0]
   refine qrf Tryd.func63 Tryd.ntmps63 Tryd.results63 ?_; conv => whnf
   repeat ((first | refine qz ?_ | refine qc (hj) ?_); conv => whnf)
   exact xk rfl trivial
theorem aDe {es : List Ent} (hm : es.length ≤ 4096) (hk : aAx es) : AC Tryd.prog 52 [.lst 2 (es.map yS)] ⟨.v (.string (aBA es)), []⟩ := by
 have hj := aAA hm hk
 refine qrf Tryd.func52 Tryd.ntmps52 Tryd.results52 ?_; conv => whnf
 repeat ((first | refine qz ?_ | refine qc (hj) ?_); conv => whnf)
 exact xk rfl trivial
theorem aCo {m : List Ent} (hm : m.length ≤ maxLen) (hk : ∀ e ∈ m, e.1.size ≤ maxLen) : AC Tryd.prog 13 [.lst 2 (m.map yS)] ⟨.tup [.v (.string (jJ m).1), .v (.int .i64 (jJ m).2)], []⟩ := by
 unfold jJ
 have hml := hm
 unfold maxLen at hml
 by_cases hl : 4096 < m.length
 · rw [if_pos hl]
   refine qrf Tryd.func13 Tryd.ntmps13 Tryd.results13 ?_; conv => whnf
   repeat ((refine qz ?_; conv => whnf))
   exact zW rfl rfl
 · rw [if_neg hl]
   by_cases hb : yJ m = true
   · rw [if_pos hb]
     have c1 := jU hb hm hk
     have c2 := aDe (es := m) (by omega) (aAd hb)
     refine qrf Tryd.func13 Tryd.ntmps13 Tryd.results13 ?_; conv => whnf
     repeat ((first | refine qz ?_ | refine qc (c1) ?_ | refine qc (c2) ?_); conv => whnf)
     exact zW rfl rfl
   · rw [if_neg hb]
     have c1 := jU (Bool.eq_false_iff.2 hb) hm hk
     refine qrf Tryd.func13 Tryd.ntmps13 Tryd.results13 ?_; conv => whnf
     repeat ((first | refine qz ?_ | refine qc (c1) ?_); conv => whnf)
     exact zW rfl rfl
theorem aBi {m : List Edt} (hm : m.length ≤ maxLen) (hk : ∀ e ∈ m, e.key.size ≤ maxLen) : AC Tryd.prog 22 [.lst 3 (m.map yR)] ⟨.tup [.v (.string (jD m).1), .v (.int .i64 (jD m).2)], []⟩ := by
 unfold jD
 have hml := hm
 unfold maxLen at hml
 by_cases hl : 4096 < m.length
 · rw [if_pos hl]
   refine qrf Tryd.func22 Tryd.ntmps22 Tryd.results22 ?_; conv => whnf
   repeat ((refine qz ?_; conv => whnf))
   exact zW rfl rfl
 · rw [if_neg hl]
   by_cases hb : xQ m = true
   · rw [if_pos hb]
     have c1 := kN hb hm hk
     have c2 := aAQ (es := m) (by omega) (aBR hb)
     refine qrf Tryd.func22 Tryd.ntmps22 Tryd.results22 ?_; conv => whnf
     repeat ((first | refine qz ?_ | refine qc (c1) ?_ | refine qc (c2) ?_); conv => whnf)
     exact zW rfl rfl
   · rw [if_neg hb]
     have c1 := kN (Bool.eq_false_iff.2 hb) hm hk
     refine qrf Tryd.func22 Tryd.ntmps22 Tryd.results22 ?_; conv => whnf
     repeat ((first | refine qz ?_ | refine qc (c1) ?_); conv => whnf)
     exact zW rfl rfl
end Go.Proofs.YtodckioppgjbdaaDoor.AM
namespace Go.Proofs.YtodckioppgjbdaaDoor.AM
open Go Go.RowKit
theorem law_MapTextP {m : List Ent} (hm : m.length ≤ maxLen) (hk : ∀ e ∈ m, e.1.size ≤ maxLen) : AC Tryd.prog 3 [.lst 2 (m.map yS)] ⟨.v (.bool true), []⟩ := aDB hm hk (aCo hm hk)
theorem law_EditsTextP {m : List Edt} (hm : m.length ≤ maxLen) (hk : ∀ e ∈ m, e.key.size ≤ maxLen) : AC Tryd.prog 5 [.lst 3 (m.map yR)] ⟨.v (.bool true), []⟩ := aBm hm hk (aBi hm hk)
end Go.Proofs.YtodckioppgjbdaaDoor.AM
