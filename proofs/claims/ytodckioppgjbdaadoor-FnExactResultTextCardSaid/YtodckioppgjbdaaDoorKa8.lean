/- Texts of the machine over data, folded. -/
import Derived.Shelf.Strings.OnBuilder
import Derived.Shelf.Small.Wraps
import Derived.Shelf.LaysM
import Derived.Shelf.Strconv.Itoa3
import Derived.Shelf.Strconv.Clone
import Derived.Shelf.LaysC
import Derived.Shelf.Strconv.AtoiAll
import Derived.Shelf.Strconv.ErrVarAll
import Derived.Shelf.Strings.Search2
import Derived.Shelf.Strings.Search3
import Derived.Shelf.Strings.Prefix
import Derived.Test.YtodckioppgjbdaaDoorProg
import Derived.Test.YtodckioppgjbdaaDoorKa7
import Derived.Lib.AppendIntMem
import Derived.Test.YtodckioppgjbdaaDoorKa5
import Derived.Test.YtodckioppgjbdaaDoorKa6
import Derived.Conc.LoneCalls
import Derived.Conc.LoneSelect
set_option linter.unusedVariables false
set_option linter.unusedSimpArgs false
set_option maxRecDepth 100000
namespace Go.Proofs
open Go.Shelf
def Tryd.lays156_ren : Go.Shelf.Ren := ⟨fun | 156 => 122 | 165 => 150 | 166 => 151 | 169 => 152 | 240 => 171 | 241 => 172 | 276 => 190 | 277 => 191 | n => n, fun | 31 => 44 | 9 => 9 | 3 => 3 | 4 => 4 | 0 => 0 | 20 => 20 | 72 => 191 | 76 => 185 | 70 => 189 | 37 => 157 | 75 => 184 | 127 => 203 | 164 => 222 | 5 => 5 | 80 => 181 | n => n, fun | n => n⟩
theorem Tryd.lays156 : Go.Proofs.Lays.n156 Tryd.prog Tryd.lays156_ren := {
 mixed := by kernel_rfl
 f156 := Tryd.func122.trans (congrArg some (by kernel_rfl))
 f165 := Tryd.func150.trans (congrArg some (by kernel_rfl))
 f166 := Tryd.func151.trans (congrArg some (by kernel_rfl))
 f169 := Tryd.func152.trans (congrArg some (by kernel_rfl))
 f240 := Tryd.func171.trans (congrArg some (by kernel_rfl))
 f241 := Tryd.func172.trans (congrArg some (by kernel_rfl))
 f276 := Tryd.func190.trans (congrArg some (by kernel_rfl))
 f277 := Tryd.func191.trans (congrArg some (by kernel_rfl))
 t0 := Tryd.underlying0
 a0 := Tryd.isAgg0
 z0 := Tryd.sizeOf0
 v0 := Tryd.zeroValue0
 t3 := Tryd.underlying3
 a3 := Tryd.isAgg3
 z3 := Tryd.sizeOf3
 v3 := Tryd.zeroValue3
 t4 := Tryd.underlying4
 a4 := Tryd.isAgg4
 z4 := Tryd.sizeOf4
 v4 := Tryd.zeroValue4
 t9 := Tryd.underlying9
 a9 := Tryd.isAgg9
 z9 := Tryd.sizeOf9
 v9 := Tryd.zeroValue9
 t20 := Tryd.underlying20
 a20 := Tryd.isAgg20
 z20 := Tryd.sizeOf20
 v20 := Tryd.zeroValue20
 t31 := Tryd.underlying44
 a31 := Tryd.isAgg44
 z31 := Tryd.sizeOf44
 v31 := Tryd.zeroValue44
 t37 := Tryd.underlying157
 a37 := Tryd.isAgg157
 z37 := Tryd.sizeOf157
 v37 := Tryd.zeroValue157
 t70 := Tryd.underlying189
 a70 := Tryd.isAgg189
 z70 := Tryd.sizeOf189
 v70 := Tryd.zeroValue189
 t72 := Tryd.underlying191
 a72 := Tryd.isAgg191
 z72 := Tryd.sizeOf191
 v72 := Tryd.zeroValue191
 t75 := Tryd.underlying184
 a75 := Tryd.isAgg184
 z75 := Tryd.sizeOf184
 v75 := Tryd.zeroValue184
 t76 := Tryd.underlying185
 a76 := Tryd.isAgg185
 z76 := Tryd.sizeOf185
 v76 := Tryd.zeroValue185
 t127 := Tryd.underlying203
 a127 := Tryd.isAgg203
 z127 := Tryd.sizeOf203
 v127 := Tryd.zeroValue203
 t164 := Tryd.underlying222
 a164 := Tryd.isAgg222
 z164 := Tryd.sizeOf222
 v164 := Tryd.zeroValue222 }
theorem Tryd.Builder_Extra_156 : Builder.Extra Tryd.prog Tryd.lays156_ren := {
 sizeBuilder := by kernel_rfl
 liesBuilder := by kernel_rfl
 t5 := Tryd.underlying5
 a5 := Tryd.isAgg5
 z5 := Tryd.sizeOf5
 v5 := Tryd.zeroValue5
 infoByte := by kernel_rfl
 cellsByte := by kernel_rfl
 sizeByte := by kernel_rfl
 neB5 := by decide }
open Go.RowKit in
theorem Tryd.strings_Join_none (a : Option Addr) (c : Nat) (sep : ByteArray) (w : World) :
 Calls Tryd.prog 122 #[.slice a 0 c, .string sep] w fun e w' => e = .returned (.string ⟨#[]⟩) ∧ w' = w := Any.strings_Join_none Tryd.lays156 Tryd.Builder_Extra_156 a c sep w
open Go.RowKit in
theorem Tryd.strings_Join (bk o c : Nat) (xs : List ByteArray) (sep : ByteArray) (w : World) (hcells : ∀ (j : Nat) x, xs[j]? = some x → w.cell? ⟨bk, o + j, none⟩ = some (.string x)) (hbk : bk < w.heap.size) (hN : xs.length ≤ 140737488355328) (hcap : xs.length ≤ c) (hlen : (Lib.join (xs.map (·.data.toList)) sep.data.toList).length ≤ 140737488355328) :
 Calls Tryd.prog 122 #[.slice (some ⟨bk, o, none⟩) xs.length c, .string sep] w fun e w' => e = .returned (.string ⟨(Lib.join (xs.map (·.data.toList)) sep.data.toList).toArray⟩) ∧ Below w.heap.size w w' := Any.strings_Join Tryd.lays156 Tryd.Builder_Extra_156 bk o c xs sep w hcells hbk hN hcap hlen
def Tryd.laysM171_ren : Go.Shelf.Ren := ⟨fun | 171 => 95 | 243 => 137 | 246 => 162 | 283 => 176 | 284 => 177 | 285 => 178 | 286 => 179 | 129 => 194 | 317 => 193 | 318 => 195 | 319 => 196 | 320 => 197 | 337 => 203 | 338 => 204 | n => n, fun | 3 => 3 | 9 => 9 | 2 => 2 | 4 => 4 | 171 => 207 | 0 => 0 | 53 => 208 | 37 => 157 | 5 => 5 | 173 => 211 | 212 => 227 | 51 => 228 | 20 => 20 | 213 => 229 | 46 => 215 | 232 => 247 | 233 => 248 | n => n, fun | 17 => 3 | 18 => 8 | 19 => 9 | n => n⟩
theorem Tryd.laysM171 : Go.Proofs.LaysM.n171 Tryd.prog Tryd.laysM171_ren := {
 mixed := by kernel_rfl
 f129 := Tryd.func194.trans (congrArg some (by kernel_rfl))
 f171 := Tryd.func95.trans (congrArg some (by kernel_rfl))
 f243 := Tryd.func137.trans (congrArg some (by kernel_rfl))
 f246 := Tryd.func162.trans (congrArg some (by kernel_rfl))
 f283 := Tryd.func176.trans (congrArg some (by kernel_rfl))
 f284 := Tryd.func177.trans (congrArg some (by kernel_rfl))
 f285 := Tryd.func178.trans (congrArg some (by kernel_rfl))
 f286 := Tryd.func179.trans (congrArg some (by kernel_rfl))
 f317 := Tryd.func193.trans (congrArg some (by kernel_rfl))
 f318 := Tryd.func195.trans (congrArg some (by kernel_rfl))
 f319 := Tryd.func196.trans (congrArg some (by kernel_rfl))
 f320 := Tryd.func197.trans (congrArg some (by kernel_rfl))
 f337 := Tryd.func203.trans (congrArg some (by kernel_rfl))
 f338 := Tryd.func204.trans (congrArg some (by kernel_rfl))
 t0 := Tryd.underlying0
 a0 := Tryd.isAgg0
 z0 := Tryd.sizeOf0
 v0 := Tryd.zeroValue0
 t2 := Tryd.underlying2
 a2 := Tryd.isAgg2
 z2 := Tryd.sizeOf2
 v2 := Tryd.zeroValue2
 t3 := Tryd.underlying3
 a3 := Tryd.isAgg3
 z3 := Tryd.sizeOf3
 v3 := Tryd.zeroValue3
 t4 := Tryd.underlying4
 a4 := Tryd.isAgg4
 z4 := Tryd.sizeOf4
 v4 := Tryd.zeroValue4
 t5 := Tryd.underlying5
 a5 := Tryd.isAgg5
 z5 := Tryd.sizeOf5
 v5 := Tryd.zeroValue5
 t9 := Tryd.underlying9
 a9 := Tryd.isAgg9
 z9 := Tryd.sizeOf9
 v9 := Tryd.zeroValue9
 t20 := Tryd.underlying20
 a20 := Tryd.isAgg20
 z20 := Tryd.sizeOf20
 v20 := Tryd.zeroValue20
 t37 := Tryd.underlying157
 a37 := Tryd.isAgg157
 z37 := Tryd.sizeOf157
 v37 := Tryd.zeroValue157
 t46 := Tryd.underlying215
 a46 := Tryd.isAgg215
 z46 := Tryd.sizeOf215
 v46 := Tryd.zeroValue215
 t51 := Tryd.underlying228
 a51 := Tryd.isAgg228
 z51 := Tryd.sizeOf228
 v51 := Tryd.zeroValue228
 t53 := Tryd.underlying208
 a53 := Tryd.isAgg208
 z53 := Tryd.sizeOf208
 v53 := Tryd.zeroValue208
 t171 := Tryd.underlying207
 a171 := Tryd.isAgg207
 z171 := Tryd.sizeOf207
 v171 := Tryd.zeroValue207
 t173 := Tryd.underlying211
 a173 := Tryd.isAgg211
 z173 := Tryd.sizeOf211
 v173 := Tryd.zeroValue211
 t212 := Tryd.underlying227
 a212 := Tryd.isAgg227
 z212 := Tryd.sizeOf227
 v212 := Tryd.zeroValue227
 t213 := Tryd.underlying229
 a213 := Tryd.isAgg229
 z213 := Tryd.sizeOf229
 t232 := Tryd.underlying247
 a232 := Tryd.isAgg247
 z232 := Tryd.sizeOf247
 v232 := Tryd.zeroValue247
 t233 := Tryd.underlying248
 a233 := Tryd.isAgg248
 z233 := Tryd.sizeOf248
 v233 := Tryd.zeroValue248
 g17 := by kernel_rfl
 g18 := by kernel_rfl
 g19 := by kernel_rfl
 i0 := by kernel_rfl
 i2 := by kernel_rfl
 i3 := by kernel_rfl
 i4 := by kernel_rfl
 i5 := by kernel_rfl
 i9 := by kernel_rfl
 i20 := by kernel_rfl
 i37 := by kernel_rfl
 i46 := by kernel_rfl
 i51 := by kernel_rfl
 i53 := by kernel_rfl
 i171 := by kernel_rfl
 i173 := by kernel_rfl
 i212 := by kernel_rfl
 i232 := by kernel_rfl
 i233 := by kernel_rfl
 m17 := by kernel_rfl
 m18 := by kernel_rfl
 m19 := by kernel_rfl }
open Go.RowKit Go.Sort Go.Lib in
theorem Tryd.strconv_Itoa (n : Int) (h0 : -9223372036854775808 ≤ n) (h1 : n ≤ 9223372036854775807) (w : World) (htab : Lib.TabIs Tryd.prog w "internal/strconv.uint64pow10" .u64 Lib.pow10Tab) :
 Calls Tryd.prog 95 #[.int .i64 n] w fun e w' => e = .returned (.string ⟨(Lib.itoa n).toArray⟩) ∧ ∃ k os, w' = grow (w.drewN k) os := Any.strconv_Itoa Tryd.laysM171 n h0 h1 w htab
end Go.Proofs
namespace Go.Proofs.YtodckioppgjbdaaDoor.AM
open Go Go.RowKit
theorem aD2 {P : Program} {f : FuncId} {args : List AV} {v : Value} (hent : ∀ vs w, (callFunc f vs).run P w = .ok (.enter f vs) w) (hv : v.oneCell' = true)
 (h : ∀ (w : World) (S0 : Nat → Prop) (us : List Value), (∀ b, S0 b → b < w.heap.size) → (∀ g y, GT g = some y → RG S0 w g y) → RVs S0 w (fun _ => none) (fun _ => 0) (fun _ => undef) args us → Calls P f us.toArray w fun e w' => e = .returned v ∧ Below w.heap.size w w') : AC P f args ⟨.v v, []⟩ := by
 refine ⟨hent, fun w S0 B0 V0 T0 vs hS hG _ hv' => (h w S0 vs hS hG (j6 (fun _ => rfl) hv')).mono fun e w' ⟨he, hb⟩ => ?_⟩
 exact ⟨v, S0, fun _ => 0, fun _ => undef, fun _ => Fa, fun _ => Fa, he, Grown.of hb _, fun _ h => h, fun b hb' => ⟨Nat.lt_of_lt_of_le (hS b hb') hb.size, .inl hb'⟩, (by unfold RV; exact ⟨rfl, hv⟩), vG qb, vG (fun _ => rfl), fun l l' ob ob' g e => by rw [qb] at e; cases e⟩
theorem aCR {α : Type} (f : α → Value) : ∀ (l : List α), asz (.agg (l.map fun x => .v (f x))) = l.length
 | [] => rfl
 | x :: l => by
  have h2 : xA (l.map fun x => .v (f x)) = l.length := aCR f l
  rw [List.map_cons]
  show 1 + xA _ = _
  rw [h2, List.length_cons]; omega
theorem aIM {P : Program} {S0 : Nat → Prop} {w : World} {g : Nat} {name : String} {k : IntKind} {zs : List Int} (hg : P.globalNamed name = some g) (h : RG S0 w g (.agg (zs.map fun x => .v (.int k x)))) : Lib.TabIs P w name k zs := by
 have h1 := h.ra rfl
 obtain ⟨cs, t, p, hb, hn⟩ := h.full
 unfold Lib.TabIs World.var?
 rw [hg]
 simp only [Option.bind_some, hb, Option.some.injEq]
 unfold RA at h1
 obtain ⟨b, off, us, e, _, h2, h3⟩ := h1
 simp only [List.cons.injEq, Value.pointer.injEq, Option.some.injEq, Addr.mk.injEq, and_true] at e
 obtain ⟨rfl, rfl⟩ := e
 unfold RA at h2
 have hus : us = zs.map fun z => Value.int k z := by
  clear h3 hn h
  induction zs generalizing us with
  | nil => unfold List.map RL at h2; exact h2
  | cons z zs ih =>
   rw [List.map_cons] at h2
   unfold RL at h2
   obtain ⟨c1, c2, rfl, k1, k2⟩ := h2
   unfold RA at k1
   rw [k1.1, ih _ k2]; rfl
 subst hus
 have hsz : cs.size = zs.length := by
  have hn' : cs.size = asz (.agg (zs.map fun x => .v (.int k x))) := hn
  rw [hn', aCR]
 apply Array.ext
 · simp [hsz]
 · intro i hi hi2
   have hi3 : i < zs.length := by omega
   have := h3 i (.int k zs[i]) (by rw [List.getElem?_map, List.getElem?_eq_getElem hi3]; rfl)
   rw [Nat.zero_add, Lib.cell_of_heap hb] at this
   rw [Array.getElem?_eq_getElem hi, Option.some.injEq] at this
   rw [this]; simp
theorem aCY : ∀ (n : Nat), Lib.decDigits n = wW n := fun n => by
 induction n using Nat.strongRecOn with
 | _ n ih =>
  rw [Lib.decDigits, wW]
  by_cases h : n < 10
  · rw [dif_pos h, dif_pos h]
  · rw [dif_neg h, dif_neg h, ih (n / 10) (by omega)]
theorem aHh {n : Int} : (⟨(Lib.itoa n).toArray⟩ : ByteArray) = uP n := by
 unfold Lib.itoa uP
 split
 · rw [aCY]
   apply ByteArray.ext
   rw [ByteArray.data_append]
   unfold wV
   have : n.natAbs = (-n).toNat := by omega
   rw [this]; simp
 · rw [aCY]; rfl
theorem aHb : ∀ vs w, (callFunc 95 vs).run Tryd.prog w = .ok (.enter 95 vs) w := wB Tryd.func95 (by kernel_rfl) (by kernel_rfl)
theorem aD1 {n : Int} (h0 : -1000000000000 ≤ n) (h1 : n ≤ 1000000000000) : AC Tryd.prog 95 [.v (.int .i64 n)] ⟨.v (.string (uP n)), []⟩ := by
 refine aD2 aHb rfl fun w S0 us hS hG hv => ?_
 obtain ⟨u, rfl, h2⟩ := qH hv
 unfold RV at h2
 obtain ⟨rfl, _⟩ := h2
 have htab : Lib.TabIs Tryd.prog w "internal/strconv.uint64pow10" .u64 Lib.pow10Tab := by
  rw [show Lib.pow10Tab = p10L from by decide]
  exact aIM (g := 3) (by kernel_rfl) (hG _ _ rfl)
 refine (Tryd.strconv_Itoa n (by omega) (by omega) w htab).mono ?_
 rintro e w' ⟨rfl, k, os, rfl⟩
 rw [aHh]
 exact ⟨rfl, Lib.below_grow _ w (Nat.le_refl _) k os⟩
theorem aA8 {sep : ByteArray} {g g' : Nat → ByteArray} : ∀ {n : Nat}, (∀ i, i < n → g i = g' i) → jn sep g n = jn sep g' n
 | 0, _ => rfl
 | i + 1, h => by
  rw [jn, jn, h i (by omega), aA8 (n := i) (fun k hk => h k (by omega))]
theorem inter_snoc {sep : List UInt8} : ∀ {xs : List (List UInt8)} {x : List UInt8}, xs ≠ [] → sep.intercalate (xs ++ [x]) = (sep.intercalate xs ++ sep) ++ x
 | [], x, h => absurd rfl h
 | [y], x, _ => by simp [List.intercalate]
 | y :: z :: r, x, _ => by
  have := inter_snoc (sep := sep) (xs := z :: r) (x := x) (by simp)
  simp only [List.intercalate, List.cons_append, List.intersperse_cons_cons, List.flatten_cons, List.append_assoc] at this ⊢
  rw [this]
theorem aHj {sep : ByteArray} (xs : List ByteArray) : (⟨(Lib.join (xs.map (·.data.toList)) sep.data.toList).toArray⟩ : ByteArray) = jn sep (fun i => (xs[i]?).getD ⟨#[]⟩) xs.length := by
 unfold Lib.join
 induction h : xs.length generalizing xs with
 | zero =>
  obtain rfl := List.eq_nil_of_length_eq_zero h
  rfl
 | succ n ih =>
  obtain ⟨ys, y, rfl⟩ : ∃ ys y, xs = ys ++ [y] := ⟨xs.dropLast, xs.getLast (by intro e; subst e; simp at h), (List.dropLast_concat_getLast _).symm⟩
  have hn : ys.length = n := by simpa using h
  have h1 := ih ys hn
  have h2 : jn sep (fun i => ((ys ++ [y])[i]?).getD ⟨#[]⟩) n = jn sep (fun i => (ys[i]?).getD ⟨#[]⟩) n := aA8 fun i hi => by rw [List.getElem?_append_left (by omega)]
  have h3 : ((ys ++ [y])[n]?).getD ⟨#[]⟩ = y := by rw [List.getElem?_append_right (by omega), hn]; simp
  rw [jn, h2, h3, ← h1]
  by_cases h0 : n = 0
  · subst h0
    obtain rfl := List.eq_nil_of_length_eq_zero hn
    rw [if_pos rfl]
    apply ByteArray.ext
    simp [List.intercalate]
  · rw [if_neg h0, List.map_append, List.map_cons, List.map_nil, inter_snoc (by intro e; rw [List.map_eq_nil_iff] at e; subst e; exact h0 hn.symm)]
    apply ByteArray.ext
    simp [ByteArray.data_append]
theorem aDo {S : Nat → Prop} {w : World} : ∀ {l : List ByteArray} {us : List Value}, RL S w (l.map yI) us → us = l.map Value.string
 | [], us, h => by unfold List.map RL at h; exact h
 | x :: l, us, h => by
  rw [List.map_cons] at h
  unfold RL at h
  obtain ⟨c1, c2, rfl, k1, k2⟩ := h
  unfold yI RA at k1
  rw [k1.1, aDo k2]; rfl
theorem aGb : ∀ vs w, (callFunc 122 vs).run Tryd.prog w = .ok (.enter 122 vs) w := wB Tryd.func122 (by kernel_rfl) (by kernel_rfl)
theorem aBA {sep : ByteArray} {xs : List ByteArray} (hx : xs.length ≤ 100000) (hs : (jn sep (fun i => (xs[i]?).getD ⟨#[]⟩) xs.length).size ≤ 100000000000) : AC Tryd.prog 122 [.lst 1 (xs.map yI), .v (.string sep)] ⟨.v (.string (jn sep (fun i => (xs[i]?).getD ⟨#[]⟩) xs.length)), []⟩ := by
 refine aD2 aGb rfl fun w S0 us hS hG hv => ?_
 unfold RVs at hv
 obtain ⟨u, us, rfl, h1, hv⟩ := hv
 obtain ⟨u2, rfl, h2⟩ := qH hv
 unfold RV at h2
 obtain ⟨rfl, _⟩ := h2
 unfold RV RA at h1
 obtain ⟨A, c, e, hc, _, _, _, h4⟩ := h1
 simp only [List.cons.injEq, and_true] at e
 subst e
 rw [List.length_map] at hc ⊢
 rw [← aHj] at hs ⊢
 have hl : (Lib.join (xs.map (·.data.toList)) sep.data.toList).length ≤ 100000000000 := by
  have : (⟨(Lib.join (xs.map (·.data.toList)) sep.data.toList).toArray⟩ : ByteArray).size = (Lib.join (xs.map (·.data.toList)) sep.data.toList).length := by simp [ByteArray.size]
  omega
 by_cases hn : xs = []
 · subst hn
   refine (Tryd.strings_Join_none A c sep w).mono ?_
   rintro e w' ⟨rfl, rfl⟩
   exact ⟨rfl, Below.refl _ _⟩
 · rcases h4 with h4 | ⟨b, off, us, rfl, hb, hr, hcell⟩
   · exact absurd (List.map_eq_nil_iff.1 h4) hn
   · have hus := aDo hr
     subst hus
     refine (Tryd.strings_Join b off c xs sep w (fun j x hj => hcell j _ (by rw [List.getElem?_map, hj]; rfl)) (hS b hb) (by omega) hc (by omega)).mono ?_
     rintro e w' ⟨rfl, hbel⟩
     exact ⟨rfl, hbel⟩
theorem aIQ {P : Program} {t : TypeId} {x y : Operand} {k : IntKind} {a b : Int} : yR P .eql t x y (.int k a) (.int k b) (.bool (decide (a = b))) := by
 by_cases h : a = b
 · rw [decide_eq_true h]; exact aCT h
 · rw [decide_eq_false h]; exact aCS h
theorem aHQ {P : Program} {t : TypeId} {x y : Operand} {a b : ByteArray} : yR P .eql t x y (.string a) (.string b) (.bool (decide (a = b))) := by
 by_cases h : a = b
 · rw [decide_eq_true h]; exact qM h
 · rw [decide_eq_false h]; exact uz h
abbrev eB : ByteArray := ⟨#[]⟩
attribute [local irreducible] xH xJ xP yM yQ Pre ACG
theorem aDx {e : Ent} (h : e.1.size ≤ 12) (h1 : -1000000 ≤ e.2) (h2 : e.2 ≤ 1000000) : AC Tryd.prog 103 [zO e] ⟨.v (.string (yh e)), []⟩ := by
 have c1 := aD1 (n := e.2) (by omega) (by omega)
 have hs := vU (n := e.2) (by omega) (by omega)
 have e1 : (⟨#[61]⟩ : ByteArray).size = 1 := rfl
 unfold yh
 refine qrf Tryd.func103 Tryd.ntmps103 Tryd.results103 ?_; conv => whnf
 repeat (first | (refine qz ?_; conv => whnf) | (refine qc (c1) ?_; conv => whnf) | (refine qp (yJ (kH (by first | omega | (simp only [ByteArray.size_append]; omega))) rfl rfl rfl) ?_; conv => whnf) | (refine qdr ?_; conv => whnf))
 exact xI rfl trivial
theorem aEm {α : Type} {sep : ByteArray} {f : α → ByteArray} {z : α} (l : List α) : jn sep (fun i => ((l.map f)[i]?).getD ⟨#[]⟩) (l.map f).length = jn sep (fun i => f ((l[i]?).getD z)) l.length := by
 rw [List.length_map]
 exact aA8 fun i hi => by rw [List.getElem?_map, List.getElem?_eq_getElem hi]; rfl
theorem aBB {es : List Ent} (hm : es.length ≤ 4096) (hk : aBF es) : AC Tryd.prog 123 [.lst 2 (es.map zO), .fn 103 [] []] ⟨.v (.string (jn ⟨#[44]⟩ (fun i => yh ((es[i]?).getD zEn)) es.length)), []⟩ := by
 have hsz : (jn ⟨#[44]⟩ (fun i => yh ((es[i]?).getD zEn)) es.length).size ≤ es.length * (1 + 27) := kL (by rw [wG]; omega) fun i hi => by
  rw [List.getElem?_eq_getElem hi]
  obtain ⟨p1, p2, p3⟩ := hk _ (List.getElem_mem hi)
  exact qV p1 p2 p3
 have hj := aBA (sep := ⟨#[44]⟩) (xs := es.map yh) (by rw [List.length_map]; omega) (by rw [aEm (z := zEn)]; omega)
 rw [aEm (z := zEn)] at hj
 obtain ⟨hsl⟩ : Nonempty ((es.map yh).length = es.length) := ⟨by rw [List.length_map]⟩
 generalize jn ⟨#[44]⟩ (fun i => yh ((es[i]?).getD zEn)) es.length = R at *
 have hgt : ∀ k (h : k < es.length), (es.map yh)[k]? = some (yh es[k]) := fun k h => by rw [List.getElem?_map, List.getElem?_eq_getElem h]; rfl
 generalize hE : es.map yh = E at *
 refine qrf Tryd.func123 Tryd.ntmps123 Tryd.results123 ?_; conv => whnf
 repeat (first | (refine qz ?_; conv => whnf) | (refine qr (aFJ (n := es.length) (by omega) (by omega) (by simp; rfl) (by simp; rfl) rfl rfl) ?_; conv => whnf))
 have hrow : List.replicate es.length (AV.v (.string ByteArray.empty)) = (E.take 0 ++ List.replicate (E.length - 0) ByteArray.empty).map yI := by simp [hsl, yI]
 refine ul (ι := { k : Nat // k ≤ es.length }) (fun k => ⟨[(0, .lst 2 (es.map zO)), (1, .fn 103 [] []), (5, .own 11), (11, .lst 2 (es.map zO)), (12, .v (.int .i64 (es.length : Int))), (13, .v (.int .i64 (k.1 : Int)))], [(11, ⟨9, 1, (E.take k.1 ++ List.replicate (E.length - k.1) ByteArray.empty).map yI⟩)]⟩) (fun k => es.length - k.1) ⟨0, Nat.zero_le _⟩ ⟨⟨congrArg (fun x => some (OB.mk _ _ x)) hrow, trivial⟩, .inl ⟨rfl, rfl⟩, .inl ⟨rfl, rfl⟩, .inl ⟨rfl, rfl⟩, .inl ⟨rfl, rfl⟩, .inl ⟨rfl, rfl⟩, .inl ⟨rfl, rfl⟩, trivial⟩ ?_
 rintro ⟨k, hk'⟩
 dsimp only
 conv => whnf
 by_cases hlt : k < es.length
 · have hlt' : k < E.length := by omega
   have hlt2 : k < (E.take k ++ List.replicate (E.length - k) ByteArray.empty).length := by simp; omega
   have hset := congrArg (List.map yI) (aC5 E ByteArray.empty k hlt')
   have hgk : E[k] = yh es[k] := by have := hgt k hlt; rw [List.getElem?_eq_getElem hlt'] at this; exact Option.some.inj this
   rw [List.map_set, hgk] at hset
   obtain ⟨p1, p2, p3⟩ := hk _ (List.getElem_mem hlt)
   have hac := aDx p1 p2 p3
   repeat ((first | refine qz ?_ | refine qp (aCm (by simpa using hlt2) rfl rfl rfl rfl rfl) ?_ | refine qr (jY (aFh _ hlt2) rfl rfl rfl rfl rfl rfl) ?_ | refine qst ?_ | refine qdr ?_ | refine qr (aBP hac rfl rfl (.inl rfl) trivial rfl rfl) ?_); conv => whnf)
   exact ⟨⟨k + 1, hlt⟩, ⟨⟨congrArg (fun x => some (OB.mk _ _ x)) hset, trivial⟩, .inl ⟨rfl, rfl⟩, .inl ⟨rfl, rfl⟩, .inl ⟨rfl, rfl⟩, .inl ⟨rfl, rfl⟩, .inl ⟨rfl, rfl⟩, .inl ⟨rfl, rfl⟩, trivial⟩, by simp; omega⟩
 · have hkk : k = es.length := by omega
   subst hkk
   have hfin : (E.take es.length ++ List.replicate (E.length - es.length) ByteArray.empty).map yI = E.map yI := by rw [← hsl, List.take_length, Nat.sub_self, List.replicate_zero, List.append_nil]
   rw [hfin]
   repeat ((first | refine qz ?_ | refine qc (hj) ?_); conv => whnf)
   exact xI rfl trivial
end Go.Proofs.YtodckioppgjbdaaDoor.AM
namespace Go.Proofs.YtodckioppgjbdaaDoor.AM
open Go Go.RowKit
abbrev sSz (s : ByteArray) : Nat := s.size
def szR (r : Rst) (l : Int) : Int := if szL sSz r.keys l < 0 then -1 else if szL eSz r.map (szL sSz r.keys l) < 0 then -1 else szL eSz r.map (szL sSz r.keys l)
attribute [local irreducible] xH xJ xP yM yQ Pre ACG
theorem aCO {es : List ByteArray} {l : Int} (hm : es.length ≤ maxLen) (hk : ∀ e ∈ es, e.size ≤ maxLen) (h0 : 0 ≤ l) (h1 : l ≤ 1048576) : AC Tryd.prog 69 [.lst 1 (es.map yI), .v (.int .i64 l)] ⟨.v (.int .i64 (szL sSz es l)), []⟩ := by
 unfold maxLen at hm hk
 by_cases hn : l - es.length < 0
 · rw [szL, if_pos hn]
   refine qrf Tryd.func69 Tryd.ntmps69 Tryd.results69 ?_; conv => whnf
   repeat ((refine qz ?_; conv => whnf))
   exact xI rfl trivial
 · rw [szL, if_neg hn]
   refine qrf Tryd.func69 Tryd.ntmps69 Tryd.results69 ?_; conv => whnf
   repeat ((refine qz ?_; conv => whnf))
   refine ul (ι := { p : Nat × Int // p.1 ≤ es.length ∧ 0 ≤ p.2 ∧ p.2 ≤ l ∧ szF sSz (es.drop p.1) p.2 = szF sSz es (l - es.length) }) (fun p => ⟨[(0, .lst 1 (es.map yI)), (1, .v (.int .i64 p.1.2)), (5, .v (.int .i64 (p.1.1 : Int)))], []⟩) (fun p => es.length - p.1.1) ⟨(0, l - es.length), by simp, by omega, by omega, rfl⟩ (by exact qle) ?_
   rintro ⟨⟨k, cur⟩, hkl, hc0, hc1, hsz⟩
   simp only at hkl hc0 hc1 hsz ⊢
   conv => whnf
   by_cases hlt : k < es.length
   · have hd := aCz (g := sSz) (l := cur) hlt
     rw [hsz] at hd
     have hkk := hk _ (List.getElem_mem hlt)
     by_cases hneg : cur - (es[k]).size < 0
     · rw [if_pos hneg] at hd
       rw [hd]
       repeat ((refine qz ?_; conv => whnf))
       exact xI rfl trivial
     · rw [if_neg hneg] at hd
       repeat ((refine qz ?_; conv => whnf))
       exact ⟨⟨(k + 1, cur - (es[k]).size), by simp; omega, by omega, by omega, hd.symm⟩, by exact qle, by simp; omega⟩
   · have hkk : k = es.length := by omega
     rw [hkk, List.drop_length] at hsz
     rw [← hsz]
     repeat ((refine qz ?_; conv => whnf))
     exact xI rfl trivial
theorem aCP {l : List ByteArray} (hm : l.length ≤ 1048576) : AC Tryd.prog 72 [.lst 1 (l.map yI)] ⟨.own 0, [⟨9, 1, l.map yI⟩]⟩ := by
 refine qrf Tryd.func72 Tryd.ntmps72 Tryd.results72 ?_; conv => whnf
 repeat (first | (refine qz ?_; conv => whnf) | (refine qr (aFJ (n := l.length) (by omega) (by omega) (by simp; rfl) (by simp; rfl) rfl rfl) ?_; conv => whnf))
 have hrow : List.replicate l.length zS = (l.take 0 ++ List.replicate (l.length - 0) ByteArray.empty).map yI := by simp [yI]
 refine ul (ι := { k : Nat // k ≤ l.length }) (fun k => ⟨[(0, .lst 1 (l.map yI)), (3, .own 8), (4, .v (.int .i64 (k.1 : Int)))], [(8, ⟨9, 1, (l.take k.1 ++ List.replicate (l.length - k.1) ByteArray.empty).map yI⟩)]⟩) (fun k => l.length - k.1) ⟨0, Nat.zero_le _⟩ ⟨⟨congrArg (fun x => some (OB.mk _ _ x)) hrow, trivial⟩, .inl ⟨rfl, rfl⟩, .inl ⟨rfl, rfl⟩, .inl ⟨rfl, rfl⟩, trivial⟩ ?_
 rintro ⟨k, hk⟩
 dsimp only
 conv => whnf
 by_cases hlt : k < l.length
 · have hlt2 : k < (l.take k ++ List.replicate (l.length - k) ByteArray.empty).length := by simp; omega
   have hset := congrArg (List.map yI) (aC5 l ByteArray.empty k hlt)
   rw [List.map_set] at hset
   repeat ((first | refine qz ?_ | refine qp (aCm (by simpa using hlt2) rfl rfl rfl rfl rfl) ?_ | refine qr (jY (aFh _ hlt2) rfl rfl rfl rfl rfl rfl) ?_); conv => whnf)
   exact ⟨⟨k + 1, hlt⟩, ⟨⟨congrArg (fun x => some (OB.mk _ _ x)) hset, trivial⟩, .inl ⟨rfl, rfl⟩, .inl ⟨rfl, rfl⟩, .inl ⟨rfl, rfl⟩, trivial⟩, by simp; omega⟩
 · have hkk : k = l.length := by omega
   subst hkk
   repeat ((refine qz ?_; conv => whnf))
   exact aHy rfl (by show some (OB.mk _ _ _) = _; rw [List.take_length, Nat.sub_self, List.replicate_zero, List.append_nil])
theorem aDM {r : Rst} {l : Int} (hr : r.ok maxLen) (h0 : 0 ≤ l) (h1 : l ≤ 1048576) : AC Tryd.prog 28 [uG r, .v (.int .i64 l)] ⟨.v (.int .i64 (szR r l)), []⟩ := by
 have z1 := aCO hr.1 hr.2.1 h0 h1
 unfold szR
 by_cases ha : szL sSz r.keys l < 0
 · rw [if_pos ha]
   refine qrf Tryd.func28 Tryd.ntmps28 Tryd.results28 ?_; conv => whnf
   repeat ((first | refine qz ?_ | refine qc (z1) ?_ | refine qst ?_); conv => whnf)
   exact xI rfl trivial
 rw [if_neg ha]
 have hle := (aDA (by omega : 0 ≤ szL sSz r.keys l)).1
 have z2 := aDL (l := szL sSz r.keys l) hr.2.2.1 hr.2.2.2 (by omega) (by omega)
 by_cases hn : szL eSz r.map (szL sSz r.keys l) < 0
 · rw [if_pos hn]
   refine qrf Tryd.func28 Tryd.ntmps28 Tryd.results28 ?_; conv => whnf
   repeat ((first | refine qz ?_ | refine qc (z1) ?_ | refine qc (z2) ?_ | refine qst ?_); conv => whnf)
   exact xI rfl trivial
 · rw [if_neg hn]
   refine qrf Tryd.func28 Tryd.ntmps28 Tryd.results28 ?_; conv => whnf
   repeat ((first | refine qz ?_ | refine qc (z1) ?_ | refine qc (z2) ?_ | refine qst ?_); conv => whnf)
   exact xI rfl trivial
theorem aIL {r : Rst} {l : Int} (h : 0 ≤ szR r l) (h1 : l ≤ 1048576) : szR r l ≤ 1048576 ∧ r.keys.length ≤ 1048576 ∧ r.map.length ≤ 1048576 := by
 unfold szR at h ⊢
 by_cases ha : szL sSz r.keys l < 0
 · rw [if_pos ha] at h; omega
 rw [if_neg ha] at h ⊢
 obtain ⟨k1, k2, _⟩ := aDA (by omega : 0 ≤ szL sSz r.keys l)
 by_cases hn : szL eSz r.map (szL sSz r.keys l) < 0
 · rw [if_pos hn] at h; omega
 rw [if_neg hn] at h ⊢
 obtain ⟨j1, j2, _⟩ := aDA h
 exact ⟨by omega, by omega, by omega⟩
theorem aDO {r : Rst} (hm : r.keys.length ≤ 1048576) (hm2 : r.map.length ≤ 1048576) : AC Tryd.prog 30 [uG r] ⟨uG r, []⟩ := by
 have h1 := aCP hm
 have h2 := aDN hm2
 refine qrf Tryd.func30 Tryd.ntmps30 Tryd.results30 ?_; conv => whnf
 repeat (first | (refine qz ?_; conv => whnf) | (refine qc (h1) ?_; conv => whnf) | (refine qc (h2) ?_; conv => whnf) | (refine qr (aFK rfl rfl rfl rfl rfl rfl rfl rfl) ?_; conv => whnf) | (refine qr (jY rfl rfl rfl rfl rfl (by conv => lhs; whnf) rfl) ?_; conv => whnf))
 exact aGt (x := uG r) rfl rfl rfl rfl trivial
theorem aDI {r : Rst} (hm : r.keys.length ≤ maxLen) (hm2 : r.map.length ≤ maxLen) : AC Tryd.prog 32 [uG r, uG r] ⟨.v (.bool true), []⟩ := by
 have h1 := aCI hm
 have h2 := aDH (es := r.map) (es' := r.map) hm2 hm2
 rw [decide_eq_true rfl] at h2
 refine qrf Tryd.func32 Tryd.ntmps32 Tryd.results32 ?_; conv => whnf
 repeat ((first | refine qp (yJ (aCU rfl) rfl rfl rfl) ?_ | refine qz ?_ | refine qc (h1) ?_ | refine qc (h2) ?_); conv => whnf)
 exact xI rfl trivial
end Go.Proofs.YtodckioppgjbdaaDoor.AM
namespace Go.Proofs.YtodckioppgjbdaaDoor.AM
open Go Go.RowKit
section
variable {P : Program} {Θ : Tab} {s : St}
def mkC : Nat → List Value → List (Nat × Operand)
 | _, [] => []
 | i, c :: r => (i, .const c) :: mkC (i + 1) r
theorem aDb : ∀ (cs : List Value) (i : Nat), xY s ((mkC i cs).map (·.2)) = []
 | [], _ => by simp [mkC, xY, xR]
 | c :: cs, i => by
  have := aDb cs (i + 1)
  unfold xY at this ⊢
  simp only [mkC, List.map_cons, xR, St.ev, xu, List.nil_append]
  exact this
theorem aEu : ∀ (cs : List Value) (i : Nat), (∀ c ∈ cs, c.oneCell' = true) → zn ((mkC i cs).map (·.2))
 | [], _, _ => by intro y hy; simp [mkC] at hy
 | c :: cs, i, h => by
  intro y hy v hv
  simp only [mkC, List.map_cons, List.mem_cons] at hy
  rcases hy with rfl | hy
  · cases hv; exact h _ (by simp)
  · exact aEu cs (i + 1) (fun c hc => h c (by simp [hc])) y hy v hv
theorem aEv : ∀ (cs : List Value) (i : Nat) (zs : List AV), (∀ c ∈ cs, c.oneCell' = true) → i + cs.length = zs.length → (∀ z ∈ zs, asz z = 1) → zb s zs (mkC i cs) ∧ xq s zs (mkC i cs) = zs.take i ++ cs.map .v
 | [], i, zs, _, h, _ => by
  refine ⟨trivial, ?_⟩
  simp only [mkC, xq, List.map_nil, List.append_nil]
  rw [List.take_of_length_le (by simp at h; omega)]
 | c :: cs, i, zs, hc, h, hz => by
  have hi : i < zs.length := by simp only [List.length_cons] at h; omega
  have h1 := aEv cs (i + 1) (zs.set i (.v c)) (fun c hc' => hc c (by simp [hc'])) (by rw [List.length_set]; simp only [List.length_cons] at h; omega) (fun z hz' => by
   rcases List.mem_or_eq_of_mem_set hz' with q | q
   · exact hz z q
   · subst q; rfl)
  have hd : s.dat (s.ev (.const c)) = .v c := rfl
  refine ⟨⟨⟨zs[i], by simp [hi], by rw [hd, hz _ (List.getElem_mem hi)]; rfl⟩, hc c (by simp), by rw [hd]; exact h1.1⟩, ?_⟩
  simp only [mkC, xq, hd]
  rw [h1.2, List.take_succ_eq_append_getElem (by simpa using hi), List.getElem_set_self, List.take_set_of_le (Nat.le_refl _)]
  simp
theorem aHp {d : Nat} {ty : TypeId} {pos : String} {after : Array Edge} {g : Option (Nat × Bool)} {t el b m : Nat} {z : AV} {ps : Array (Nat × Operand)} (cs : List Value) (hf : s.hp (d + 1) = none) (ht : Θ.look t = .slice el 1 b z) (hps : ps = (mkC 0 cs).toArray) (hm : m = cs.length) (hz : Nat.beq (asz z) 1 = true) (hl : Nat.ble cs.length 65536 = true) (hc : ∀ c ∈ cs, c.oneCell' = true) (hok : okL (d + 1) = true := by rfl) :
 Pre P Θ ⟨some d, .buildSlice t m ps, ty, pos, after, g⟩ s ⟨.own (d + 1), some fun s' => s'.set (d + 1) (some ⟨.s el, 1, cs.map .v⟩)⟩ := by
 subst hps hm
 have h1 := aEv (s := s) cs 0 (List.replicate cs.length z) hc (by simp) (fun y hy => by rw [List.eq_of_mem_replicate hy]; exact Nat.eq_of_beq_eq_true hz)
 have ho := aDb (s := s) cs 0
 refine ⟨d, el, 1, b, z, rfl, hf, hok, ht, by have := Nat.le_of_ble_eq_true hl; omega, .inl ⟨h1.1, aEu cs 0 hc, ?_, ?_⟩⟩
 · show (xY s ((mkC 0 cs).map (·.2))).all okL = true
   rw [ho]; rfl
 · show _ = Eff.mk _ (kV (xY s ((mkC 0 cs).map (·.2))) fun s' => s'.set (d + 1) (some ⟨.s el, 1, xq s (List.replicate cs.length z) (mkC 0 cs)⟩))
   rw [ho, h1.2]; rfl
end
def zo : List ByteArray := [⟨#[111, 107]⟩, ⟨#[98, 97, 100]⟩, ⟨#[108, 111, 110, 103]⟩, ⟨#[102, 111, 114, 109]⟩, ⟨#[114, 97, 110, 103, 101]⟩, ⟨#[110, 111, 110, 101]⟩, ⟨#[109, 97, 110, 121]⟩, ⟨#[102, 117, 108, 108]⟩, ⟨#[115, 105, 122, 101]⟩, ⟨#[107, 105, 110, 100]⟩, ⟨#[110, 97, 109, 101]⟩, ⟨#[99, 111, 110, 102, 108, 105, 99, 116]⟩, ⟨#[114, 101, 116, 114, 105, 101, 115]⟩, ⟨#[115, 116, 97, 108, 101]⟩, ⟨#[101, 120, 105, 115, 116, 115]⟩, ⟨#[100, 111, 110, 101]⟩, ⟨#[111, 114, 100, 101, 114]⟩, ⟨#[108, 97, 103]⟩, ⟨#[115, 97, 109, 101]⟩]
def cwT (c : Int) : ByteArray := (zo[c.toNat]?).getD ⟨#[]⟩
theorem aH1 {i : Nat} (h : i < zo.length) : (zo[i]).size ≤ 8 := by
 have : ∀ x ∈ zo, x.size ≤ 8 := by
  have : zo.all (fun x => decide (x.size ≤ 8)) = true := by decide +kernel
  intro x hx
  simpa using List.all_eq_true.1 this x hx
 exact this _ (List.getElem_mem h)
def zW (l : List ByteArray) : ByteArray := jn ⟨#[44]⟩ (fun i => (l[i]?).getD ⟨#[]⟩) l.length
def rT1 (r : Rst) : ByteArray := if 0 < r.com then cwT r.code ++ (⟨#[32, 99, 111, 109, 109, 105, 116, 32]⟩ ++ uP r.com) else cwT r.code
def rT2 (r : Rst) : ByteArray := if r.val = 0 then rT1 r else rT1 r ++ (⟨#[32, 118, 97, 108, 117, 101, 32]⟩ ++ uP r.val)
def rT3 (r : Rst) : ByteArray := if 0 < r.keys.length then rT2 r ++ (⟨#[32, 107, 101, 121, 115, 32]⟩ ++ zW r.keys) else rT2 r
def aAS (r : Rst) : ByteArray := if 0 < r.map.length then rT3 r ++ (⟨#[32, 109, 97, 112, 32]⟩ ++ jR r.map) else rT3 r
def rsB (r : Rst) : Bool := decide (0 ≤ r.code ∧ r.code ≤ 18) && (decide (0 ≤ r.com ∧ r.com ≤ 60) && (decide (-1000000 ≤ r.val ∧ r.val ≤ 1000000) && (decide (r.keys.length ≤ 24) && (yF r.map && r.keys.all okN))))
def j4 (r : Rst) : ByteArray × Int := if rsB r = true then (aAS r, 0) else (⟨#[]⟩, 1)
theorem aC8 {l : List ByteArray} (h : l.all okN = true) : (zW l).size ≤ l.length * 13 := by
 unfold zW
 have := kL (sep := ⟨#[44]⟩) (g := fun i => (l[i]?).getD ⟨#[]⟩) (A := 1) (B := 12) (n := l.length) (Nat.le_of_eq (wG _)) (fun i hi => by
  have h1 := List.all_eq_true.1 h _ (List.getElem_mem hi)
  simp only [List.getElem?_eq_getElem hi, Option.getD_some]
  exact aAm h1)
 omega
theorem aF7 {l : List ByteArray} {i : Nat} (h : i < l.length) : (l.drop i).all okN = (okN l[i] && (l.drop (i + 1)).all okN) := by
 rw [List.drop_eq_getElem_cons h, List.all_cons]
attribute [local irreducible] xH xJ xP yM yQ Pre ACG
set_option maxHeartbeats 4000000 in
theorem aCN {c : Nat} (hc : c < 19) : AC Tryd.prog 113 [.v (.int .i64 (c : Int))] ⟨.v (.string (cwT (c : Int))), []⟩ := by
 have hl : c < zo.length := hc
 have hg : (zo.map yI)[c]? = some (yI zo[c]) := by simp [hl]
 have e : cwT (c : Int) = zo[c] := by unfold cwT; simp [hl]
 rw [e]
 have hall : ∀ v ∈ zo.map Value.string, v.oneCell' = true := fun v hv => by
  obtain ⟨x, _, rfl⟩ := List.mem_map.1 hv; rfl
 have hg' : ((zo.map Value.string).map AV.v)[c]? = some (.v (.string zo[c])) := by simp [hl]
 have hcl : c < ((zo.map Value.string).map AV.v).length := by rw [List.length_map, List.length_map]; exact hl
 have hlen : (zo.map Value.string).length = 19 := rfl
 refine qO Tryd.func113 Tryd.ntmps113 Tryd.results113 ?_
 repeat (first | refine qla ?_ | refine qlb ?_ | refine qx ?_)
 refine jB rfl rfl (aHp (zo.map Value.string) rfl rfl rfl rfl rfl rfl hall) (fun e => by cases e) ?_
 repeat (first | refine qla ?_ | (refine qP (aDk (xs := zo.map Value.string) (f := AV.v) rfl rfl ⟨_, _, _, _, rfl⟩) ?_) | (refine qP (yJ (aEg (by omega)) rfl rfl rfl) ?_) | (refine qP (yJ (aEd (by omega)) rfl rfl rfl) ?_) | (refine qP (aCm hcl rfl rfl rfl rfl rfl) ?_; refine qP (aCE rfl rfl hg' rfl rfl rfl rfl) ?_) | refine qlb ?_ | refine qx ?_)
 exact qe
theorem aDy {l : List ByteArray} (hm : l.length ≤ 24) (hk : l.all okN = true) : AC Tryd.prog 114 [.lst 1 (l.map yI), .v (.string ⟨#[44]⟩)] ⟨.v (.string (zW l)), []⟩ := by
 have c44 := wG 44
 unfold zW
 refine qrf Tryd.func114 Tryd.ntmps114 Tryd.results114 ?_; conv => whnf
 repeat ((refine qz ?_; conv => whnf))
 refine ul (ι := { i : Nat // i ≤ l.length }) (fun i => ⟨[(0, .lst 1 (l.map yI)), (1, .v (.string ⟨#[44]⟩)), (5, .v (.string (jn ⟨#[44]⟩ (fun i => (l[i]?).getD ⟨#[]⟩) i.1))), (6, .v (.int .i64 (i.1 : Int)))], []⟩) (fun i => l.length - i.1) ⟨0, Nat.zero_le _⟩ (by exact qle) ?_
 rintro ⟨i, hi⟩
 dsimp only
 conv => whnf
 by_cases hlt : i < l.length
 case neg =>
  have e : i = l.length := by omega
  subst e
  repeat ((refine qz ?_; conv => whnf))
  exact xI rfl trivial
 have hz := aAm (List.all_eq_true.1 hk _ (List.getElem_mem hlt))
 have z2 := kL (sep := ⟨#[44]⟩) (g := fun i => (l[i]?).getD ⟨#[]⟩) (A := 1) (B := 12) (n := i) (Nat.le_of_eq (wG _)) (fun j hj => by
  have h1 := List.all_eq_true.1 hk _ (List.getElem_mem (by omega : j < l.length))
  simp only [List.getElem?_eq_getElem (by omega : j < l.length), Option.getD_some]
  exact aAm h1)
 have hT : (l[i]?).getD ⟨#[]⟩ = l[i] := by simp [hlt]
 by_cases h0 : i = 0
 · subst h0
   have hs : jn ⟨#[44]⟩ (fun i => (l[i]?).getD ⟨#[]⟩) (0 + 1) = jn ⟨#[44]⟩ (fun i => (l[i]?).getD ⟨#[]⟩) 0 ++ (l[0]?).getD ⟨#[]⟩ := aEG
   rw [hT] at hs
   generalize jn ⟨#[44]⟩ (fun i => (l[i]?).getD ⟨#[]⟩) 0 = A at hs z2 ⊢
   repeat (first | (refine qz ?_; conv => whnf) | (refine qp (yJ (kH (by first | omega | (simp only [ByteArray.size_append]; omega))) rfl rfl rfl) ?_; conv => whnf))
   rw [← hs]
   exact ⟨⟨0 + 1, hlt⟩, by exact qle, by simp; omega⟩
 · have hs : jn ⟨#[44]⟩ (fun i => (l[i]?).getD ⟨#[]⟩) (i + 1) = (jn ⟨#[44]⟩ (fun i => (l[i]?).getD ⟨#[]⟩) i ++ ⟨#[44]⟩) ++ (l[i]?).getD ⟨#[]⟩ := aEI (by omega)
   rw [hT] at hs
   generalize jn ⟨#[44]⟩ (fun i => (l[i]?).getD ⟨#[]⟩) i = A at hs z2 ⊢
   repeat (first | (refine qz ?_; conv => whnf) | (refine qp (yJ (kH (by first | omega | (simp only [ByteArray.size_append]; omega))) rfl rfl rfl) ?_; conv => whnf))
   rw [← hs]
   exact ⟨⟨i + 1, hlt⟩, by exact qle, by simp; omega⟩
set_option maxHeartbeats 4000000 in
theorem aF6 {r : Rst} (hr : r.ok maxLen) : AC Tryd.prog 70 [uG r] ⟨.v (.bool (rsB r)), []⟩ := by
 obtain ⟨q1, q2, q3, q4⟩ := hr
 have q1' := q1
 unfold maxLen at q1'
 unfold rsB
 by_cases a1 : 0 ≤ r.code ∧ r.code ≤ 18
 case neg =>
  rw [decide_eq_false a1, Bool.false_and]
  refine qO Tryd.func70 Tryd.ntmps70 Tryd.results70 ?_
  repeat (first | refine qla ?_ | refine qC (aAy a1) ?_ | refine qlb ?_ | refine qx ?_)
  exact qe
 rw [decide_eq_true a1, Bool.true_and]
 by_cases a2 : 0 ≤ r.com ∧ r.com ≤ 60
 case neg =>
  rw [decide_eq_false a2, Bool.false_and]
  refine qO Tryd.func70 Tryd.ntmps70 Tryd.results70 ?_
  repeat (first | refine qla ?_ | refine qC (zR a1.1 a1.2) ?_ | refine qC (aAy a2) ?_ | refine qlb ?_ | refine qx ?_)
  exact qe
 rw [decide_eq_true a2, Bool.true_and]
 by_cases a3 : -1000000 ≤ r.val ∧ r.val ≤ 1000000
 case neg =>
  rw [decide_eq_false a3, Bool.false_and]
  refine qO Tryd.func70 Tryd.ntmps70 Tryd.results70 ?_
  repeat (first | refine qla ?_ | refine qC (zR a1.1 a1.2) ?_ | refine qC (zR a2.1 a2.2) ?_ | refine qC (aAy a3) ?_ | refine qlb ?_ | refine qx ?_)
  exact qe
 rw [decide_eq_true a3, Bool.true_and]
 by_cases a4 : r.keys.length ≤ 24
 case neg =>
  rw [decide_eq_false a4, Bool.false_and]
  refine qO Tryd.func70 Tryd.ntmps70 Tryd.results70 ?_
  repeat (first | refine qla ?_ | refine qC (zR a1.1 a1.2) ?_ | refine qC (zR a2.1 a2.2) ?_ | refine qC (zR a3.1 a3.2) ?_ | refine qlb ?_ | refine qx ?_)
  exact qe
 rw [decide_eq_true a4, Bool.true_and]
 have cm := aF5 q3 q4
 cases a5 : yF r.map
 case false =>
  rw [a5] at cm
  rw [Bool.false_and]
  refine qO Tryd.func70 Tryd.ntmps70 Tryd.results70 ?_
  repeat (first | refine qla ?_ | refine qC (zR a1.1 a1.2) ?_ | refine qC (zR a2.1 a2.2) ?_ | refine qC (zR a3.1 a3.2) ?_ | refine qC (cm) ?_ | refine qlb ?_ | refine qx ?_)
  exact qe
 rw [a5] at cm
 rw [Bool.true_and]
 refine qO Tryd.func70 Tryd.ntmps70 Tryd.results70 ?_
 repeat (first | refine qla ?_ | refine qC (zR a1.1 a1.2) ?_ | refine qC (zR a2.1 a2.2) ?_ | refine qC (zR a3.1 a3.2) ?_ | refine qC (cm) ?_ | refine qlb ?_ | refine qx ?_)
 refine j5 _ _ _ ?_
 conv => whnf
 refine ul (ι := { i : Nat // i ≤ r.keys.length ∧ (r.keys.drop i).all okN = r.keys.all okN }) (fun i => ⟨[(1, .optr 2 0 [] 0), (3, .v (.int .i64 (i.1 : Int)))], [(2, ⟨50, 5, [uG r]⟩)]⟩) (fun i => r.keys.length - i.1) ⟨0, Nat.zero_le _, rfl⟩ (by exact qle) ?_
 rintro ⟨i, hi, hd⟩
 dsimp only at hi hd ⊢
 conv => whnf
 by_cases hlt : i < r.keys.length
 case neg =>
  rw [List.drop_eq_nil_of_le (by omega)] at hd
  rw [← hd]
  repeat ((refine qz ?_; conv => whnf))
  repeat (first | refine qla ?_ | refine qlb ?_ | refine qx ?_)
  exact qe
 rw [aF7 hlt] at hd
 have hks := q2 _ (List.getElem_mem hlt)
 cases hw : okN (r.keys[i])
 · have cw := aAU hks hw
   rw [hw, Bool.false_and] at hd
   rw [← hd]
   repeat ((first | refine qz ?_ | refine qc (cw) ?_); conv => whnf)
   repeat (first | refine qla ?_ | refine qlb ?_ | refine qx ?_)
   exact qe
 · have cw := aAU hks hw
   rw [hw, Bool.true_and] at hd
   repeat ((first | refine qz ?_ | refine qc (cw) ?_); conv => whnf)
   exact ⟨⟨i + 1, hlt, hd⟩, by exact qle, by simp; omega⟩
end Go.Proofs.YtodckioppgjbdaaDoor.AM
namespace Go.Proofs.YtodckioppgjbdaaDoor.AM
open Go Go.RowKit
structure RsS (r : Rst) : Prop where
 c : ∃ n : Nat, n < 19 ∧ r.code = (n : Int)
 m0 : 0 ≤ r.com
 m1 : r.com ≤ 60
 v0 : -1000000 ≤ r.val
 v1 : r.val ≤ 1000000
 kl : r.keys.length ≤ 24
 kk : r.keys.all okN = true
 ml : r.map.length ≤ 12
 me : aBF r.map
theorem aE2 {r : Rst} (h : rsB r = true) : RsS r := by
 unfold rsB at h
 simp only [Bool.and_eq_true, decide_eq_true_eq] at h
 obtain ⟨h1, h2, h3, h4, h5, h6⟩ := h
 exact ⟨⟨r.code.toNat, by omega, by omega⟩, h2.1, h2.2, h3.1, h3.2, h4, h6, aEt h5, aEP h5⟩
theorem aEj {n : Nat} (h : n < 19) : (cwT (n : Int)).size ≤ 8 := by
 have hl : n < zo.length := h
 have e : cwT (n : Int) = zo[n] := by unfold cwT; simp [hl]
 rw [e]; exact aH1 hl
attribute [local irreducible] xH xJ xP yM yQ Pre ACG
set_option maxHeartbeats 4000000 in
theorem aCL {r : Rst} (h : RsS r) : AC Tryd.prog 71 [uG r] ⟨.v (.string (aAS r)), []⟩ := by
 obtain ⟨⟨n, hn, hc⟩, m0, m1, v0, v1, kl, kk, ml, mk⟩ := h
 have c0 := aCN hn
 rw [← hc] at c0
 have z0 := aEj hn
 rw [← hc] at z0
 have z1 := vU (n := r.com) (by omega) (by omega)
 have z2 := vU (n := r.val) (by omega) (by omega)
 have z3 := aC8 kk
 have z4 := aGk mk
 have c1 := aCK (n := r.com) (by omega) (by omega)
 have c2 := aCK (n := r.val) (by omega) (by omega)
 have c3 := aDy kl kk
 have c4 := aE9 ml mk
 have w1 : (⟨#[32, 99, 111, 109, 109, 105, 116, 32]⟩ : ByteArray).size = 8 := rfl
 have w2 : (⟨#[32, 118, 97, 108, 117, 101, 32]⟩ : ByteArray).size = 7 := rfl
 have w3 : (⟨#[32, 107, 101, 121, 115, 32]⟩ : ByteArray).size = 6 := rfl
 have w4 : (⟨#[32, 109, 97, 112, 32]⟩ : ByteArray).size = 5 := rfl
 clear hn hc n
 by_cases h1 : 0 < r.com <;> by_cases h2 : r.val = 0 <;> by_cases h3 : 0 < r.keys.length <;> by_cases h4 : 0 < r.map.length
 all_goals
  simp only [aAS, rT3, rT2, rT1, h1, h2, h3, h4, if_true, if_false]
  try simp only [h2] at c2
  generalize cwT r.code = W at c0 z0 ⊢
  refine qrf Tryd.func71 Tryd.ntmps71 Tryd.results71 ?_; conv => whnf
  repeat (first | (refine qz ?_; conv => whnf) | (refine qc (c0) ?_; conv => whnf) | (refine qc (c1) ?_; conv => whnf) | (refine qc (c2) ?_; conv => whnf) | (refine qc (c3) ?_; conv => whnf) | (refine qc (c4) ?_; conv => whnf) | (refine qp (yJ (kH (by first | omega | (simp only [ByteArray.size_append]; omega))) rfl rfl rfl) ?_; conv => whnf))
  exact xI rfl trivial
theorem aBC {r : Rst} (hr : r.ok maxLen) : AC Tryd.prog 29 [uG r] ⟨.tup [.v (.string (j4 r).1), .v (.int .i64 (j4 r).2)], []⟩ := by
 have c1 := aF6 hr
 unfold j4
 cases h : rsB r
 case false =>
  rw [h] at c1
  refine qrf Tryd.func29 Tryd.ntmps29 Tryd.results29 ?_; conv => whnf
  repeat ((first | refine qz ?_ | refine qc (c1) ?_); conv => whnf)
  exact qh rfl rfl
 rw [h] at c1
 have c2 := aCL (aE2 h)
 refine qrf Tryd.func29 Tryd.ntmps29 Tryd.results29 ?_; conv => whnf
 repeat ((first | refine qz ?_ | refine qc (c1) ?_ | refine qc (c2) ?_); conv => whnf)
 exact qh rfl rfl
theorem aBJ {r : Rst} (hr : r.ok maxLen) (h2 : AC Tryd.prog 31 [uG r] ⟨.tup [.v (.string (j4 r).1), .v (.int .i64 (j4 r).2)], []⟩) : AC Tryd.prog 7 [uG r] ⟨.v (.bool true), []⟩ := by
 have hz := aDM hr (l := 1048576) (by omega) (by omega)
 by_cases hsz : szR r 1048576 < 0
 · refine qrf Tryd.func7 Tryd.ntmps7 Tryd.results7 ?_; conv => whnf
   repeat ((first | refine qz ?_ | refine qc (hz) ?_); conv => whnf)
   exact xI rfl trivial
 obtain ⟨_, m1, m2⟩ := aIL (by omega : 0 ≤ szR r 1048576) (by omega)
 have t1 := aDO (r := r) m1 m2
 have e1 := aDI (r := r) hr.1 hr.2.2.1
 have h1 := aBC hr
 generalize j4 r = R at h1 h2
 refine qrf Tryd.func7 Tryd.ntmps7 Tryd.results7 ?_; conv => whnf
 repeat ((first | refine qz ?_ | refine qc (hz) ?_ | refine qc (t1) ?_ | refine qc (h1) ?_ | refine qc (h2) ?_ | refine qc (e1) ?_ | refine qst ?_ | refine qdr ?_ | refine qp (yJ (qN rfl) rfl rfl rfl) ?_); conv => whnf)
 exact xI rfl trivial
end Go.Proofs.YtodckioppgjbdaaDoor.AM
namespace Go.Proofs.YtodckioppgjbdaaDoor.AM
open Go Go.RowKit Go.ChangeShapes Go.WideShapes Go.Deep
structure Wsh where
 kind : Int
 name : ByteArray
 source : ByteArray
 key : ByteArray
 edits : List Edt
structure Mom where
 client : Int
 wish : Int
 step : Int
 op : Opr
 res : Rst
def Wsh.ok (o : Wsh) (N : Nat) : Prop := o.name.size ≤ N ∧ o.source.size ≤ N ∧ o.key.size ≤ N ∧ o.edits.length ≤ N ∧ ∀ e ∈ o.edits, e.key.size ≤ N
section
variable {S : Nat → Prop} {w : World}
end
section
variable {H : Type} {enc : TypeId × Value → H} {P : Program} {w : World} {base : Nat} {held : Bool}
end
end Go.Proofs.YtodckioppgjbdaaDoor.AM
namespace Go.Proofs.YtodckioppgjbdaaDoor.AM
open Go Go.RowKit
attribute [local irreducible] xH xJ xP yM yQ Pre ACG
end Go.Proofs.YtodckioppgjbdaaDoor.AM
namespace Go.Proofs.YtodckioppgjbdaaDoor.AM
open Go Go.RowKit
structure Evt where
 ver : Int
 head : Int
 lag : Bool
def aHe (e : Evt) : AV := .agg [.v (.int .i64 e.ver), .v (.int .i64 e.head), .v (.bool e.lag)]
theorem vP (e : Evt) : xh (aHe e) := by unfold aHe; simp [xh, yT]
theorem aGd {a b : Evt} : a = b ↔ a.ver = b.ver ∧ a.head = b.head ∧ a.lag = b.lag := by
 cases a; cases b; simp
instance : DecidableEq Evt := fun a b => decidable_of_iff _ aGd.symm
structure Wat where
 name : ByteArray
 seen : Int
 queue : List Evt
def Wat.ok (w : Wat) (N : Nat) : Prop := w.name.size ≤ N ∧ w.queue.length ≤ N
attribute [local irreducible] xH xJ xP yM yQ Pre ACG
end Go.Proofs.YtodckioppgjbdaaDoor.AM
namespace Go.Proofs.YtodckioppgjbdaaDoor.AM
open Go Go.RowKit
def aIW (cap : Nat) (es : List AV) : AbsR where
 rel w b T := (∀ g, T g ↔ g = b) ∧ ∃ s r buf, w.heap[b]? = some (.chan cap buf false s r false) ∧ buf.toList.map some = es.map xw
 frame := by
  rintro w w' b T h ⟨h1, s, r, buf, h2, h3⟩
  exact ⟨h1, s, r, buf, (h b ((h1 b).2 rfl)).trans h2, h3⟩
abbrev aED (cap : Nat) (es : List AV) : OB := ⟨.c (aIW cap es), 2, []⟩
section
variable {P : Program} {f : FuncId} {args : List AV} {cap : Nat} {es es' : List AV}
end
end Go.Proofs.YtodckioppgjbdaaDoor.AM
namespace Go.Proofs.YtodckioppgjbdaaDoor.AM
open Go Go.RowKit Go.Conc
section
variable {P : Program} {Θ : Tab} {n : Nat}
end
section
variable {P : Program} {Θ : Tab} {n : Nat} {ops : Array Oper} {K : St → Prop} {s : St} {k : Nat}
variable {W : World} {M : Hand} {S0 : Nat → Prop} {S : Nat → Prop} {B : Nat → Nat} {V : Nat → Value} {T : Nat → Nat → Prop} {tmps : Array Value} {w : World}
theorem SimW.chan (h : SimW W M S0 s tmps w S B V T) {l cap : Nat} {es : List AV} (hl : s.hp l = some (aED cap es)) :
 ∃ sq rq buf, w.heap[B l]? = some (.chan cap buf false sq rq false) ∧ buf.toList.map some = es.map xw ∧
  ∀ (buf' : Array Value) (s' r' : Nat) (es' : List AV), buf'.toList.map some = es'.map xw → ∃ T', SimW W M S0 (s.set l (some (aED cap es'))) tmps (w.setChan (B l) cap buf' false s' r' false) S B V T' := by
 obtain ⟨t0, cs, ⟨_, r0⟩, r2, r3, r4, r5, r6⟩ := h.rows.ro l _ hl
 obtain ⟨hT, sq, rq, buf, hc, hq⟩ := r0
 refine ⟨sq, rq, buf, hc, hq, fun buf' s' r' es' he => ?_⟩
 have hlt := (Array.getElem?_eq_some_iff.1 hc).1
 have hTb : T l (B l) := (hT _).2 rfl
 have hoth : ∀ g, g ≠ B l → (w.setChan (B l) cap buf' false s' r' false).heap[g]? = w.heap[g]? := fun g hg => by
  simp [World.setChan, Array.getElem?_setIfInBounds_ne (Ne.symm hg)]
 have hown : ∀ g, ¬ (V l).ownBlock = some g := fun g e => by
  have := r6 g e
  subst this
  exact h.rows.nd l _ _ hl e hTb
 have hgr : Grown w (w.setChan (B l) cap buf' false s' r' false) (Blk V T l) := ⟨rfl, rfl, rfl, by simp [World.setChan], fun g _ hg => hoth g (fun e => hg (by rw [e]; exact .inr hTb))⟩
 refine ⟨_, h.inpl (ob' := aED cap es') hl rfl hgr ?_ (fun g hg => hg)⟩
 exact ⟨t0, [], ⟨fun t' e => (by cases e), hT, s', r', buf', heap_setChan _ _ _ _ _ _ _ _ hlt, he⟩, ⟨rfl, rfl, fun g hg => by rw [(hT g).1 hg]; simp [World.setChan]; exact hlt⟩, fun x hx => (by cases hx), Nat.succ_pos 1, by
  have := wO (w' := w.setChan (B l) cap buf' false s' r' false) r5 (fun g hg => absurd hg (hown g))
  exact ⟨rfl, this.2.imp id (fun ⟨g, cap1, cur, q1, q2⟩ => absurd (show (V l).ownBlock = some g by rw [q1]; rfl) (hown g))⟩, r6⟩
end
section
variable {P : Program} {Θ : Tab} {n : Nat} {ops : Array Oper} {K : St → Prop} {s : St} {k : Nat} {x y : Operand} {ty : TypeId} {pos : String} {after : Array Edge} {l cap : Nat} {es r : List AV} {u z : Value} {v : AV} {t : Nat} {elem : TypeId}
end
end Go.Proofs.YtodckioppgjbdaaDoor.AM
namespace Go.Proofs.YtodckioppgjbdaaDoor.AM
open Go Go.RowKit
attribute [local irreducible] xH xJ xP yM yQ Pre ACG
end Go.Proofs.YtodckioppgjbdaaDoor.AM
namespace Go.Proofs.YtodckioppgjbdaaDoor.AM
open Go Go.RowKit
def aIX (e : Evt) : Bool := decide (1 ≤ e.ver ∧ e.ver ≤ 1000000) && decide (0 ≤ e.head ∧ e.head ≤ 60)
def fB (e b : Evt) : Bool := decide (e.ver = b.ver + 1) || (e.lag && decide (b.ver < e.ver))
def evG (l : List Evt) (i : Nat) : Prop := ∃ h : i < l.length, aIX l[i] = true ∧ ∀ m, (hm : m + 1 = i) → fB l[i] (l[m]'(by omega)) = true
open Classical in
noncomputable def aIk (l : List Evt) : Bool := decide (∀ i, i < l.length → evG l i)
attribute [local irreducible] xH xJ xP yM yQ Pre ACG
end Go.Proofs.YtodckioppgjbdaaDoor.AM
namespace Go.Proofs.YtodckioppgjbdaaDoor.AM
open Go Go.RowKit
def aIm (l : List Evt) : Bool := (l.drop 1).any (·.lag)
noncomputable def qB (l : List Evt) (s : Int) : Bool := decide (l.length ≤ 4) && (aIk l && (decide ((l.getLast?.map (·.ver)) = some s) && !aIm l))
attribute [local irreducible] xH xJ xP yM yQ Pre ACG
theorem aHG {a b : Wat} : a = b ↔ a.name = b.name ∧ a.seen = b.seen ∧ a.queue = b.queue := by cases a; cases b; simp
instance : DecidableEq Wat := fun a b => decidable_of_iff _ aHG.symm
end Go.Proofs.YtodckioppgjbdaaDoor.AM
namespace Go.Proofs.YtodckioppgjbdaaDoor.AM
open Go Go.RowKit
section
variable {P : Program} {f : FuncId} {args args' : List AV} {rin rout : List OB} {out : Out}
end
section
variable {s : St} {Θ : Tab}
end
section
variable {P : Program} {Θ : Tab} {s : St} {ty : TypeId} {pos : String} {after : Array Edge} {g : Option (Nat × Bool)}
end
attribute [local irreducible] xH xJ xP yM yQ Pre ACG
end Go.Proofs.YtodckioppgjbdaaDoor.AM
namespace Go.Proofs.YtodckioppgjbdaaDoor.AM
open Go Go.RowKit
section
variable {s : St} {Θ : Tab}
end
attribute [local irreducible] xH xJ xP yM yQ Pre ACG
end Go.Proofs.YtodckioppgjbdaaDoor.AM
namespace Go.Proofs.YtodckioppgjbdaaDoor.AM
open Go Go.RowKit
instance : DecidableEq Edt := fun a b => decidable_of_iff _ aG9.symm
attribute [local irreducible] xH xJ xP yM yQ Pre ACG
end Go.Proofs.YtodckioppgjbdaaDoor.AM
namespace Go.Proofs.YtodckioppgjbdaaDoor.AM
open Go Go.RowKit
def jl (sep : ByteArray) (l : List ByteArray) : ByteArray := jn sep (fun i => (l[i]?).getD ⟨#[]⟩) l.length
theorem aFa (a b c : ByteArray) : (a ++ b) ++ c = a ++ (b ++ c) := by
 apply ByteArray.ext
 simp [ByteArray.data_append, Array.append_assoc]
theorem aHT (a : ByteArray) : (⟨#[]⟩ : ByteArray) ++ a = a := by
 apply ByteArray.ext
 simp [ByteArray.data_append]
theorem aHi {sep x : ByteArray} : jl sep [x] = x := by
 show jn sep _ (0 + 1) = x
 rw [aEG, aFk, aHT]; rfl
theorem aGi {sep x : ByteArray} {l : List ByteArray} (h : l ≠ []) : jl sep (l ++ [x]) = (jl sep l ++ sep) ++ x := by
 unfold jl
 have hl : 0 < l.length := List.length_pos_iff.2 h
 rw [List.length_append, show l.length + [x].length = l.length + 1 from rfl, aEI hl]
 have h1 : jn sep (fun i => ((l ++ [x])[i]?).getD ⟨#[]⟩) l.length = jn sep (fun i => (l[i]?).getD ⟨#[]⟩) l.length := aA8 fun i hi => by rw [List.getElem?_append_left hi]
 rw [h1]
 have h2 : ((l ++ [x])[l.length]?).getD ⟨#[]⟩ = x := by rw [List.getElem?_append_right (Nat.le_refl _), Nat.sub_self]; rfl
 rw [h2]
theorem aI1 {sep : ByteArray} {l : List ByteArray} {A B : Nat} (hs : sep.size ≤ A) (h : ∀ x ∈ l, x.size ≤ B) : (jl sep l).size ≤ l.length * (A + B) :=
 kL hs fun i hi => by rw [List.getElem?_eq_getElem hi]; exact h _ (List.getElem_mem hi)
def neB (p : ByteArray) : Bool := !(Nat.beq p.size 0)
def spA (a : ByteArray) (ps : List ByteArray) : ByteArray := ps.foldl (fun a p => if p.size = 0 then a else (a ++ ⟨#[32]⟩) ++ p) a
theorem aBX {a : ByteArray} : spA a [] = a := rfl
theorem aG0 {a p : ByteArray} {ps : List ByteArray} (h : p.size = 0) : spA a (p :: ps) = spA a ps := by unfold spA; rw [List.foldl_cons, if_pos h]
theorem aE6 {a p : ByteArray} {ps : List ByteArray} (h : ¬ p.size = 0) : spA a (p :: ps) = spA ((a ++ ⟨#[32]⟩) ++ p) ps := by unfold spA; rw [List.foldl_cons, if_neg h]
theorem aGS {p : ByteArray} (h : p.size = 0) : neB p = false := by unfold neB; rw [h]; rfl
theorem aES {p : ByteArray} (h : ¬ p.size = 0) : neB p = true := by
 unfold neB
 cases hb : Nat.beq p.size 0 with
 | false => rfl
 | true => exact absurd (Nat.eq_of_beq_eq_true hb) h
theorem aC7 : ∀ (ps l : List ByteArray), l ≠ [] → jl ⟨#[32]⟩ (l ++ ps.filter neB) = spA (jl ⟨#[32]⟩ l) ps
 | [], l, _ => by rw [List.filter_nil, List.append_nil, aBX]
 | p :: ps, l, h => by
  by_cases hp : p.size = 0
  · rw [List.filter_cons_of_neg (by rw [aGS hp]; decide), aG0 hp, aC7 ps l h]
  · rw [List.filter_cons_of_pos (aES hp), aE6 hp, ← aGi h, ← aC7 ps (l ++ [p]) (by simp), List.append_assoc]; rfl
def jc (ps : List ByteArray) : ByteArray := jl ⟨#[32]⟩ (ps.filter neB)
theorem aF0 {p : ByteArray} {ps : List ByteArray} (hp : ¬ p.size = 0) : jc (p :: ps) = spA p ps := by
 unfold jc
 rw [List.filter_cons_of_pos (aES hp), show p :: ps.filter neB = [p] ++ ps.filter neB from rfl, aC7 ps [p] (by simp), aHi]
theorem aDu {ps : List ByteArray} {B : Nat} (h : ∀ x ∈ ps, x.size ≤ B) : (jc ps).size ≤ ps.length * (1 + B) := by
 unfold jc
 refine Nat.le_trans (aI1 (A := 1) (B := B) (by rw [wG]; omega) fun x hx => h x (List.mem_filter.1 hx).1) ?_
 exact Nat.mul_le_mul_right _ (List.length_filter_le _ _)
def uF (l t : ByteArray) : ByteArray := if t.size = 0 then ⟨#[]⟩ else jc [l, t]
def uzT (n : Int) : ByteArray := if n = 0 then ⟨#[]⟩ else uP n
def u6 (x : Int) : ByteArray := if 0 ≤ x ∧ x < 19 then cwL.getD x.toNat ByteArray.empty else ByteArray.empty
theorem aBz {j : Nat} (h : j < 19) : u6 (j : Int) = cwL[j]'(by exact h) := by
 rw [u6, if_pos (by omega), Int.toNat_natCast, List.getD_eq_getElem?_getD, List.getElem?_eq_getElem (by exact h)]; rfl
theorem aGN : ∀ w ∈ cwL, w.size ≠ 0 := by decide
theorem jK {x : Int} : u6 x = ⟨#[]⟩ ↔ ¬ (0 ≤ x ∧ x < 19) := by
 constructor
 · intro h hx
   obtain ⟨j, rfl⟩ : ∃ j : Nat, x = (j : Int) := ⟨x.toNat, by omega⟩
   have hj : j < 19 := by omega
   have e := (congrArg ByteArray.size ((aBz hj).symm.trans h))
   exact aGN _ (List.getElem_mem (by exact hj)) e
 · intro h; rw [u6, if_neg h]; rfl
def aCq (r : Rst) (n : Nat) : Bool := decide (0 ≤ r.code ∧ r.code < 19) && (decide (0 ≤ r.com ∧ r.com ≤ (n : Int)) && (decide (-1000000 ≤ r.val ∧ r.val ≤ 1000000) && (decide (r.keys.length ≤ 24) && yF r.map)))
attribute [local irreducible] xH xJ xP yM yQ Pre ACG
theorem aAA {x : Int} : AC Tryd.prog 119 [.v (.int .i64 x)] ⟨.v (.string (u6 x)), []⟩ := by
 by_cases h1 : x < 0
 · rw [show u6 x = ⟨#[]⟩ from jK.2 (by omega)]
   refine qrf Tryd.func119 Tryd.ntmps119 Tryd.results119 ?_; conv => whnf
   repeat ((first | refine qz ?_ | refine qdr ?_); conv => whnf)
   exact xI rfl trivial
 by_cases h2 : 19 ≤ x
 · rw [show u6 x = ⟨#[]⟩ from jK.2 (by omega)]
   refine qrf Tryd.func119 Tryd.ntmps119 Tryd.results119 ?_; conv => whnf
   repeat ((first | refine qz ?_ | refine qdr ?_); conv => whnf)
   exact xI rfl trivial
 obtain ⟨j, rfl⟩ : ∃ j : Nat, x = (j : Int) := ⟨x.toNat, by omega⟩
 have hj : j < 19 := by omega
 rw [aBz hj]
 refine qrf Tryd.func119 Tryd.ntmps119 Tryd.results119 ?_; conv => whnf
 repeat (first | (refine qz ?_; conv => whnf) | (refine qdr ?_; conv => whnf) | (refine qp (aGm (xs := cwL.map fun s => .v (.string s)) (y := .v (.string (cwL[j]'(by exact hj)))) (by rw [List.getElem?_map, List.getElem?_eq_getElem (by exact hj)]; rfl) hj rfl rfl rfl (fun x hx => by obtain ⟨e, _, rfl⟩ := List.mem_map.1 hx; rfl)) ?_; conv => whnf))
 exact xI rfl trivial
theorem aEb {x : Int} : AC Tryd.prog 101 [.v (.int .i64 x)] ⟨.v (.bool (decide (-1000000 ≤ x ∧ x ≤ 1000000))), []⟩ := by
 by_cases h1 : -1000000 ≤ x
 · by_cases h2 : x ≤ 1000000
   · rw [decide_eq_true ⟨h1, h2⟩]
     refine qrf Tryd.func101 Tryd.ntmps101 Tryd.results101 ?_; conv => whnf
     repeat ((refine qz ?_; conv => whnf))
     exact xI rfl trivial
   · rw [decide_eq_false (by omega)]
     refine qrf Tryd.func101 Tryd.ntmps101 Tryd.results101 ?_; conv => whnf
     repeat ((refine qz ?_; conv => whnf))
     exact xI rfl trivial
 · rw [decide_eq_false (by omega)]
   refine qrf Tryd.func101 Tryd.ntmps101 Tryd.results101 ?_; conv => whnf
   repeat ((refine qz ?_; conv => whnf))
   exact xI rfl trivial
theorem aDK {r : Rst} {n : Nat} (hr : r.ok maxLen) : AC Tryd.prog 115 [uG r, .v (.int .i64 (n : Int))] ⟨.v (.bool (aCq r n)), []⟩ := by
 have c1 := aAA (x := r.code)
 have c2 := aEb (x := r.val)
 obtain ⟨hk, _, hm, hm2⟩ := hr
 unfold maxLen at hk
 have c3 := aCJ hm hm2
 unfold aCq
 by_cases h1 : 0 ≤ r.code ∧ r.code < 19
 case neg =>
  rw [decide_eq_false h1, Bool.false_and]
  rw [show u6 r.code = ⟨#[]⟩ from jK.2 h1] at c1
  refine qrf Tryd.func115 Tryd.ntmps115 Tryd.results115 ?_; conv => whnf
  repeat ((first | refine qz ?_ | refine qc (c1) ?_ | refine qdr ?_ | refine qp (yJ (qM rfl) rfl rfl rfl) ?_); conv => whnf)
  exact xI rfl trivial
 rw [decide_eq_true h1, Bool.true_and]
 have hne : u6 r.code ≠ ⟨#[]⟩ := fun e => jK.1 e h1
 generalize u6 r.code = s at c1 hne
 by_cases h2 : 0 ≤ r.com
 case neg =>
  rw [decide_eq_false (by omega), Bool.false_and]
  refine qrf Tryd.func115 Tryd.ntmps115 Tryd.results115 ?_; conv => whnf
  repeat ((first | refine qz ?_ | refine qc (c1) ?_ | refine qdr ?_ | refine qp (yJ (uz hne) rfl rfl rfl) ?_); conv => whnf)
  exact xI rfl trivial
 by_cases h3 : r.com ≤ (n : Int)
 case neg =>
  rw [decide_eq_false (by omega), Bool.false_and]
  refine qrf Tryd.func115 Tryd.ntmps115 Tryd.results115 ?_; conv => whnf
  repeat ((first | refine qz ?_ | refine qc (c1) ?_ | refine qdr ?_ | refine qp (yJ (uz hne) rfl rfl rfl) ?_); conv => whnf)
  exact xI rfl trivial
 rw [decide_eq_true (show 0 ≤ r.com ∧ r.com ≤ (n : Int) from ⟨h2, h3⟩), Bool.true_and]
 cases hv : decide (-1000000 ≤ r.val ∧ r.val ≤ 1000000) with
 | false =>
  rw [Bool.false_and]
  rw [hv] at c2
  refine qrf Tryd.func115 Tryd.ntmps115 Tryd.results115 ?_; conv => whnf
  repeat ((first | refine qz ?_ | refine qc (c1) ?_ | refine qc (c2) ?_ | refine qdr ?_ | refine qp (yJ (uz hne) rfl rfl rfl) ?_); conv => whnf)
  exact xI rfl trivial
 | true =>
  rw [Bool.true_and]
  rw [hv] at c2
  by_cases h4 : r.keys.length ≤ 24
  · rw [decide_eq_true h4, Bool.true_and]
    refine qrf Tryd.func115 Tryd.ntmps115 Tryd.results115 ?_; conv => whnf
    repeat ((first | refine qz ?_ | refine qc (c1) ?_ | refine qc (c2) ?_ | refine qc (c3) ?_ | refine qdr ?_ | refine qp (yJ (uz hne) rfl rfl rfl) ?_); conv => whnf)
    exact xI rfl trivial
  · rw [decide_eq_false h4, Bool.false_and]
    refine qrf Tryd.func115 Tryd.ntmps115 Tryd.results115 ?_; conv => whnf
    repeat ((first | refine qz ?_ | refine qc (c1) ?_ | refine qc (c2) ?_ | refine qc (c3) ?_ | refine qdr ?_ | refine qp (yJ (uz hne) rfl rfl rfl) ?_); conv => whnf)
    exact xI rfl trivial
end Go.Proofs.YtodckioppgjbdaaDoor.AM
namespace Go.Proofs.YtodckioppgjbdaaDoor.AM
open Go Go.RowKit
section
variable {s : St} {Θ : Tab}
end
section
variable {P : Program} {Θ : Tab} {s : St} {ty : TypeId} {pos : String} {after : Array Edge} {g : Option (Nat × Bool)}
end
section
variable {P : Program} {Θ : Tab} {s : St}
def mkO : Nat → List Operand → List (Nat × Operand)
 | _, [] => []
 | i, c :: r => (i, c) :: mkO (i + 1) r
theorem aDc : ∀ (xs : List Operand) (cs : List Value) (i : Nat), xs.map s.ev = cs.map .v → xY s ((mkO i xs).map (·.2)) = []
 | [], _, _, _ => by simp [mkO, xY, xR]
 | x :: xs, [], _, h => by cases h
 | x :: xs, c :: cs, i, h => by
  obtain ⟨h1, h2⟩ := List.cons.inj h
  have := aDc xs cs (i + 1) h2
  unfold xY at this ⊢
  simp only [mkO, List.map_cons, xR, h1, xu, List.nil_append]
  exact this
theorem aEw : ∀ (xs : List Operand) (cs : List Value) (i : Nat), xs.map s.ev = cs.map .v → (∀ c ∈ cs, c.oneCell' = true) → zn ((mkO i xs).map (·.2))
 | [], _, _, _, _ => by intro y hy; simp [mkO] at hy
 | x :: xs, [], _, h, _ => by cases h
 | x :: xs, c :: cs, i, h, hc => by
  obtain ⟨h1, h2⟩ := List.cons.inj h
  intro y hy v hv
  simp only [mkO, List.map_cons, List.mem_cons] at hy
  rcases hy with rfl | hy
  · subst hv
    have e : c = v := by have : AV.v v = AV.v c := h1; cases this; rfl
    subst e; exact hc _ (by simp)
  · exact aEw xs cs (i + 1) h2 (fun c hc' => hc c (by simp [hc'])) y hy v hv
theorem aEx : ∀ (xs : List Operand) (cs : List Value) (i : Nat) (zs : List AV), xs.map s.ev = cs.map .v → (∀ c ∈ cs, c.oneCell' = true) → i + cs.length = zs.length → (∀ z ∈ zs, asz z = 1) → zb s zs (mkO i xs) ∧ xq s zs (mkO i xs) = zs.take i ++ cs.map .v
 | [], [], i, zs, _, _, h, _ => by
  refine ⟨trivial, ?_⟩
  simp only [mkO, xq, List.map_nil, List.append_nil]
  rw [List.take_of_length_le (by simp at h; omega)]
 | [], c :: cs, _, _, h, _, _, _ => by cases h
 | x :: xs, [], _, _, h, _, _, _ => by cases h
 | x :: xs, c :: cs, i, zs, he, hc, h, hz => by
  obtain ⟨e1, e2⟩ := List.cons.inj he
  have hi : i < zs.length := by simp only [List.length_cons] at h; omega
  have h1 := aEx xs cs (i + 1) (zs.set i (.v c)) e2 (fun c hc' => hc c (by simp [hc'])) (by rw [List.length_set]; simp only [List.length_cons] at h; omega) (fun z hz' => by
   rcases List.mem_or_eq_of_mem_set hz' with q | q
   · exact hz z q
   · subst q; rfl)
  have hd : s.dat (s.ev x) = .v c := by rw [e1]; rfl
  refine ⟨⟨⟨zs[i], by simp [hi], by rw [hd, hz _ (List.getElem_mem hi)]; rfl⟩, by rw [e1]; exact hc c (by simp), by rw [hd]; exact h1.1⟩, ?_⟩
  simp only [mkO, xq, hd]
  rw [h1.2, List.take_succ_eq_append_getElem (by simpa using hi), List.getElem_set_self, List.take_set_of_le (Nat.le_refl _)]
  simp
theorem aFH {d : Nat} {ty : TypeId} {pos : String} {after : Array Edge} {g : Option (Nat × Bool)} {t el b m : Nat} {z : AV} {ps : Array (Nat × Operand)} (xs : List Operand) (cs : List Value) (hev : xs.map s.ev = cs.map .v) (hf : s.hp (d + 1) = none) (ht : Θ.look t = .slice el 1 b z) (hps : ps = (mkO 0 xs).toArray) (hm : m = cs.length) (hz : Nat.beq (asz z) 1 = true) (hl : Nat.ble cs.length 65536 = true) (hc : ∀ c ∈ cs, c.oneCell' = true) (hok : okL (d + 1) = true := by rfl) :
 Pre P Θ ⟨some d, .buildSlice t m ps, ty, pos, after, g⟩ s ⟨.own (d + 1), some fun s' => s'.set (d + 1) (some ⟨.s el, 1, cs.map .v⟩)⟩ := by
 subst hps hm
 have h1 := aEx (s := s) xs cs 0 (List.replicate cs.length z) hev hc (by simp) (fun y hy => by rw [List.eq_of_mem_replicate hy]; exact Nat.eq_of_beq_eq_true hz)
 have ho := aDc (s := s) xs cs 0 hev
 refine ⟨d, el, 1, b, z, rfl, hf, hok, ht, by have := Nat.le_of_ble_eq_true hl; omega, .inl ⟨h1.1, aEw xs cs 0 hev hc, ?_, ?_⟩⟩
 · show (xY s ((mkO 0 xs).map (·.2))).all okL = true
   rw [ho]; rfl
 · show _ = Eff.mk _ (kV (xY s ((mkO 0 xs).map (·.2))) fun s' => s'.set (d + 1) (some ⟨.s el, 1, xq s (List.replicate cs.length z) (mkO 0 xs)⟩))
   rw [ho, h1.2]; rfl
theorem aGD {d : Nat} {ty : TypeId} {pos : String} {after : Array Edge} {g : Option (Nat × Bool)} {t el b m : Nat} {z : AV} {ps : Array (Nat × Operand)} (xs : List Operand) (cs : List Value) (hev : xs.map s.ev = cs.map .v) (hf : s.hp (d + 1) = none) (ht : Θ.look t = .slice el 1 b z) (hps : ps = (mkO 0 xs).toArray) (hm : m = cs.length) (hz : Nat.beq (asz z) 1 = true) (hl : Nat.ble cs.length 65536 = true) (hc : ∀ c ∈ cs, c.oneCell' = true) (hok : okL (d + 1) = true := by rfl) :
 Sft P Θ ⟨some d, .buildSlice t m ps, ty, pos, after, g⟩ s (.own (d + 1)) [] [(d + 1, some ⟨.s el, 1, cs.map .v⟩)] := by
 have hmem : ∀ (ys : List Operand) (i : Nat) (x : Operand), x ∈ ys → ∃ j, (j, x) ∈ mkO i ys := by
  intro ys
  induction ys with
  | nil => intro i x h; cases h
  | cons y ys ih =>
   intro i x h
   rcases List.mem_cons.1 h with rfl | h
   · exact ⟨i, by simp [mkO]⟩
   · obtain ⟨j, hj⟩ := ih (i + 1) x h
     exact ⟨j, by simp [mkO, hj]⟩
 refine ⟨fun s' h1 h2 => ⟨⟨.own (d + 1), some fun s'' => s''.set (d + 1) (some ⟨.s el, 1, cs.map .v⟩)⟩, ?_, fun K hK => .done ?_⟩, fun l ob h => ?_, fun l hl => (by cases hl), fun l hl => .inl ?_, fun l ⟨o, hl⟩ => .inl ?_, fun l ob ⟨o, hl⟩ ho => ?_⟩
 · have hev' : xs.map s'.ev = cs.map .v := by
    rw [← hev]
    refine List.map_congr_left fun x hx => h1 x ?_
    obtain ⟨j, hj⟩ := hmem xs 0 x hx
    subst hps
    simp only [Op.operands, List.map_toArray, List.mem_toArray, List.mem_map]
    exact ⟨(j, x), hj, rfl⟩
   exact aFH xs cs hev' ((h2 _ (.inl (in1 _ _))).1.trans hf) ht hps hm hz hl hc hok
 · rw [zl, aDt]; exact hK
 · obtain ⟨_, e⟩ := nu1 h; cases e; rfl
 · simp only [AV.names] at hl; rw [← Nat.eq_of_beq_eq_true hl]; exact in1 _ _
 · obtain ⟨rfl, _⟩ := nu1 hl; exact ⟨d, rfl, rfl⟩
 · obtain ⟨rfl, _⟩ := nu1 hl; rw [hf] at ho; cases ho
end
section
variable {P : Program} {Θ : Tab} {s : St} {ty : TypeId} {pos : String} {after : Array Edge} {g : Option (Nat × Bool)}
end
section
variable {s : St} {Θ : Tab}
end
section
variable {P : Program} {Θ : Tab} {s : St} {ty : TypeId} {pos : String} {after : Array Edge} {g : Option (Nat × Bool)}
end
theorem aIZ {ps : List ByteArray} {k : Nat} (h : k < ps.length) (hp : ¬ ps[k].size = 0) : (ps.take k).filter neB ++ [ps[k]] = (ps.take (k + 1)).filter neB := by
 rw [List.take_succ_eq_append_getElem h, List.filter_append, List.filter_cons_of_pos (aES hp)]; rfl
theorem aIY {ps : List ByteArray} {k : Nat} (h : k < ps.length) (hp : ps[k].size = 0) : (ps.take (k + 1)).filter neB = (ps.take k).filter neB := by
 rw [List.take_succ_eq_append_getElem h, List.filter_append, List.filter_cons_of_neg (by rw [aGS hp]; decide), List.filter_nil, List.append_nil]
theorem aHR {p : ByteArray} (h : p.size = 0) : p = ⟨#[]⟩ := by
 obtain ⟨a⟩ := p
 have : a = #[] := Array.eq_empty_of_size_eq_zero h
 rw [this]
theorem aHS {p : ByteArray} (h : ¬ p.size = 0) : ¬ p = ⟨#[]⟩ := fun e => h (by rw [e]; rfl)
attribute [local irreducible] xH xJ xP yM yQ Pre ACG
theorem aB1 {ps : List ByteArray} (hm : ps.length ≤ 4096) (hk : ∀ p ∈ ps, p.size ≤ 1000000) : AC Tryd.prog 94 [.lst 1 (ps.map yI)] ⟨.v (.string (jc ps)), []⟩ := by
 have hfl := List.length_filter_le neB ps
 have hj := aBA (sep := ⟨#[32]⟩) (xs := ps.filter neB) (by omega) (by
  have h1 := aDu hk
  have h2 : ps.length * (1 + 1000000) ≤ 4096 * (1 + 1000000) := Nat.mul_le_mul_right _ hm
  unfold jc jl at h1; omega)
 unfold jc jl
 generalize jn ⟨#[32]⟩ (fun i => ((ps.filter neB)[i]?).getD ⟨#[]⟩) (ps.filter neB).length = R at *
 refine qrf Tryd.func94 Tryd.ntmps94 Tryd.results94 ?_; conv => whnf
 repeat ((refine qz ?_; conv => whnf))
 refine ul (ι := { k : Nat // k ≤ ps.length }) (fun k => ⟨[(3, .own 4), (6, .lst 1 (ps.map yI)), (7, .v (.int .i64 (ps.length : Int))), (8, .v (.int .i64 (k.1 : Int)))], [(4, ⟨9, 1, ((ps.take k.1).filter neB).map yI⟩)]⟩) (fun k => ps.length - k.1) ⟨0, Nat.zero_le _⟩ (by exact qle) ?_
 rintro ⟨k, hk'⟩
 dsimp only
 conv => whnf
 by_cases hlt : k < ps.length
 · have hle := List.length_filter_le neB (ps.take k)
   rw [List.length_take] at hle
   by_cases hp : ps[k].size = 0
   · have he := aHR hp
     repeat ((first | refine qp (yJ (qN he) rfl rfl rfl) ?_ | refine qz ?_ | refine qst ?_); conv => whnf)
     exact ⟨⟨k + 1, hlt⟩, ⟨⟨(show some (OB.mk _ _ (List.map yI ((ps.take k).filter neB))) = some (OB.mk _ _ (List.map yI ((ps.take (k + 1)).filter neB))) by rw [aIY hlt hp]), trivial⟩, .inl ⟨rfl, rfl⟩, .inl ⟨rfl, rfl⟩, .inl ⟨rfl, rfl⟩, .inl ⟨rfl, rfl⟩, trivial⟩, by simp; omega⟩
   · have he := aHS hp
     repeat ((first | refine qp (yJ (aD5 he) rfl rfl rfl) ?_ | refine qz ?_ | refine qst ?_ | refine qr (aGn _ _ (aIZ hlt hp) (by omega) rfl rfl rfl rfl rfl rfl rfl) ?_); conv => whnf)
     exact ⟨⟨k + 1, hlt⟩, by exact qle, by simp; omega⟩
 · have hkk : k = ps.length := by omega
   subst hkk
   rw [List.take_length]
   repeat ((first | refine qz ?_ | refine qc (hj) ?_); conv => whnf)
   exact xI rfl trivial
theorem aGJ {n : Int} (h0 : -1000000000000 ≤ n) (h1 : n ≤ 1000000000000) : AC Tryd.prog 121 [.v (.int .i64 n)] ⟨.v (.string (uzT n)), []⟩ := by
 have c1 := aD1 h0 h1
 unfold uzT
 by_cases h : n = 0
 · rw [if_pos h]
   refine qrf Tryd.func121 Tryd.ntmps121 Tryd.results121 ?_; conv => whnf
   repeat ((refine qz ?_; conv => whnf))
   exact xI rfl trivial
 · rw [if_neg h]
   refine qrf Tryd.func121 Tryd.ntmps121 Tryd.results121 ?_; conv => whnf
   repeat ((first | refine qz ?_ | refine qc (c1) ?_); conv => whnf)
   exact xI rfl trivial
theorem aAV {l t : ByteArray} (h0 : l.size ≤ 1000) (h1 : t.size ≤ 100000) : AC Tryd.prog 120 [.v (.string l), .v (.string t)] ⟨.v (.string (uF l t)), []⟩ := by
 unfold uF
 by_cases h : t.size = 0
 · rw [if_pos h]
   have he := aHR h
   refine qrf Tryd.func120 Tryd.ntmps120 Tryd.results120 ?_; conv => whnf
   repeat ((first | refine qp (yJ (qM he) rfl rfl rfl) ?_ | refine qz ?_); conv => whnf)
   exact xI rfl trivial
 · rw [if_neg h]
   have he := aHS h
   have c1 := aB1 (ps := [l, t]) (by simp) (by intro p hp; simp only [List.mem_cons, List.not_mem_nil, or_false] at hp; rcases hp with rfl | rfl <;> omega)
   refine qrf Tryd.func120 Tryd.ntmps120 Tryd.results120 ?_; conv => whnf
   repeat (first | (refine qp (yJ (uz he) rfl rfl rfl) ?_; conv => whnf) | (refine qz ?_; conv => whnf) | (refine qr (aFH [.tmp 7, .tmp 8] [.string l, .string t] rfl rfl rfl rfl rfl rfl rfl (by intro c hc; simp only [List.mem_cons, List.not_mem_nil, or_false] at hc; rcases hc with rfl | rfl <;> rfl)) ?_; conv => whnf) | (refine qc (c1) ?_; conv => whnf))
   exact xI rfl trivial
end Go.Proofs.YtodckioppgjbdaaDoor.AM
