/- Texts of the machine over data, folded. -/
import Derived.Test.YtodckioppgjbdaaDoorKa7
import Derived.Test.YtodckioppgjbdaaDoorKa8
import Derived.Test.YtodckioppgjbdaaDoorKa5
import Derived.Shelf.Strings.OnBuilder
import Derived.Shelf.Small.Wraps
import Derived.Shelf.LaysM
import Derived.Shelf.Strconv.Itoa3
import Derived.Shelf.Strconv.Clone
import Derived.Shelf.LaysC
import Derived.Shelf.Strconv.AtoiAll
import Derived.Shelf.Strconv.ErrVarAll
import Derived.Shelf.Strings.Search2
import Derived.Shelf.Strings.Search3
import Derived.Shelf.Strings.Prefix
import Derived.Test.YtodckioppgjbdaaDoorProg
import Derived.Lib.AppendIntMem
import Derived.Test.YtodckioppgjbdaaDoorKa6
set_option linter.unusedVariables false
set_option linter.unusedSimpArgs false
set_option maxRecDepth 100000
namespace Go.Proofs.YtodckioppgjbdaaDoor.AM
open Go Go.RowKit
attribute [local irreducible] xJ xN xQ yQ yU Pre ACG
end Go.Proofs.YtodckioppgjbdaaDoor.AM
namespace Go.Proofs.YtodckioppgjbdaaDoor.AM
open Go Go.RowKit
attribute [local irreducible] xJ xN xQ yQ yU Pre ACG
end Go.Proofs.YtodckioppgjbdaaDoor.AM
namespace Go.Proofs.YtodckioppgjbdaaDoor.AM
open Go Go.RowKit
attribute [local irreducible] xJ xN xQ yQ yU Pre ACG
end Go.Proofs.YtodckioppgjbdaaDoor.AM
namespace Go.Proofs.YtodckioppgjbdaaDoor.AM
open Go Go.RowKit
theorem kT (b : UInt8) : (⟨#[b]⟩ : ByteArray).size = 1 := rfl
def jn (sep : ByteArray) (g : Nat → ByteArray) : Nat → ByteArray
 | 0 => ⟨#[]⟩
 | i + 1 => (if i = 0 then ⟨#[]⟩ else jn sep g i ++ sep) ++ g i
theorem aHY {sep : ByteArray} {g : Nat → ByteArray} : jn sep g 0 = ⟨#[]⟩ := rfl
theorem aFa {sep : ByteArray} {g : Nat → ByteArray} : jn sep g (0 + 1) = jn sep g 0 ++ g 0 := rfl
theorem aFc {sep : ByteArray} {g : Nat → ByteArray} {i : Nat} (h : 0 < i) : jn sep g (i + 1) = (jn sep g i ++ sep) ++ g i := by rw [jn, if_neg (by omega)]
theorem j5 {sep : ByteArray} {g : Nat → ByteArray} {A B : Nat} (hs : sep.size ≤ A) : ∀ {n : Nat}, (∀ i, i < n → (g i).size ≤ B) → (jn sep g n).size ≤ n * (A + B)
 | 0, _ => by rw [aHY]; show 0 ≤ _; exact Nat.zero_le _
 | i + 1, h => by
  have h1 := j5 (sep := sep) (g := g) hs (n := i) (fun k hk => h k (by omega))
  have h2 := h i (by omega)
  rw [Nat.succ_mul]
  by_cases hi : i = 0
  · subst hi
    rw [aFa, ByteArray.size_append, aHY]
    have : (⟨#[]⟩ : ByteArray).size = 0 := rfl
    omega
  · rw [aFc (by omega), ByteArray.size_append, ByteArray.size_append]
    omega
def zEn : Ent := (⟨#[]⟩, 0)
def zQ (e : Ent) : ByteArray := (e.1 ++ ⟨#[61]⟩) ++ y5 e.2
def qo (m : List Ent) : ByteArray := if m.length = 0 then ⟨#[45]⟩ else jn ⟨#[44]⟩ (fun i => zQ ((m[i]?).getD zEn)) m.length
theorem aAn {e : Ent} (h : e.1.size ≤ 12) (h1 : -1000000 ≤ e.2) (h2 : e.2 ≤ 1000000) : (zQ e).size ≤ 27 := by
 unfold zQ
 rw [ByteArray.size_append, ByteArray.size_append, kT]
 have := yc (n := e.2) (by omega) (by omega)
 omega
theorem aEx {m : List Ent} (h : aCO m) : (qo m).size ≤ 1 + m.length * 28 := by
 unfold qo
 split
 · rw [kT]; omega
 · have := j5 (sep := ⟨#[44]⟩) (g := fun i => zQ ((m[i]?).getD zEn)) (A := 1) (B := 27) (n := m.length) (Nat.le_of_eq (kT _)) (fun i hi => by
    obtain ⟨k1, k2, k3⟩ := h _ (List.getElem_mem hi)
    simp only [List.getElem?_eq_getElem hi, Option.getD_some]
    exact aAn k1 k2 k3)
   omega
attribute [local irreducible] xJ xN xQ yQ yU Pre ACG
set_option maxHeartbeats 4000000 in
theorem aGF {m : List Ent} (hm : m.length ≤ 12) (hk : aCO m) : AC Tryd.prog 49 [.lst 2 (m.map zY)] ⟨.v (.string (qo m)), []⟩ := by
 have e1 : ∀ b : UInt8, (⟨#[b]⟩ : ByteArray).size = 1 := kT
 have c44 := e1 44
 have c61 := e1 61
 unfold qo
 by_cases h0 : m.length = 0
 · rw [if_pos h0]
   refine qrf Tryd.func49 Tryd.ntmps49 Tryd.results49 ?_; conv => whnf
   repeat ((refine qz ?_; conv => whnf))
   exact xB rfl trivial
 rw [if_neg h0]
 refine qrf Tryd.func49 Tryd.ntmps49 Tryd.results49 ?_; conv => whnf
 repeat ((refine qz ?_; conv => whnf))
 refine vI (ι := { i : Nat // i ≤ m.length }) (fun i => ⟨[(0, .lst 2 (m.map zY)), (3, .v (.string (jn ⟨#[44]⟩ (fun i => zQ ((m[i]?).getD zEn)) i.1))), (4, .v (.int .i64 (i.1 : Int)))], []⟩) (fun i => m.length - i.1) ⟨0, Nat.zero_le _⟩ (by exact qle) ?_
 rintro ⟨i, hi⟩
 dsimp only
 conv => whnf
 by_cases hlt : i < m.length
 case neg =>
  have e : i = m.length := by omega
  subst e
  repeat ((refine qz ?_; conv => whnf))
  exact xB rfl trivial
 obtain ⟨k1, k2, k3⟩ := hk _ (List.getElem_mem hlt)
 have z1 := yc (n := (m[i]).2) (by omega) (by omega)
 have c1 := vU (n := (m[i]).2) (by omega) (by omega)
 have z2 := j5 (sep := ⟨#[44]⟩) (g := fun i => zQ ((m[i]?).getD zEn)) (A := 1) (B := 27) (n := i) (Nat.le_of_eq (kT _)) (fun j hj => by
  obtain ⟨k1, k2, k3⟩ := hk _ (List.getElem_mem (by omega : j < m.length))
  simp only [List.getElem?_eq_getElem (by omega : j < m.length), Option.getD_some]
  exact aAn k1 k2 k3)
 have hi12 : i * (1 + 27) ≤ 400 := by omega
 by_cases hz : i = 0
 · subst hz
   have hs : jn ⟨#[44]⟩ (fun i => zQ ((m[i]?).getD zEn)) (0 + 1) = jn ⟨#[44]⟩ (fun i => zQ ((m[i]?).getD zEn)) 0 ++ ((m[0]).1 ++ ⟨#[61]⟩ ++ y5 (m[0]).2) := by
    rw [aFa]; simp only [List.getElem?_eq_getElem hlt, Option.getD_some]; rfl
   generalize jn ⟨#[44]⟩ (fun i => zQ ((m[i]?).getD zEn)) 0 = A at hs z2 ⊢
   repeat (first | (refine qz ?_; conv => whnf) | (refine qdr ?_; conv => whnf) | (refine qc (c1) ?_; conv => whnf) | (refine qp (xA (uL (by first | omega | (simp only [ByteArray.size_append]; omega))) rfl rfl rfl) ?_; conv => whnf))
   rw [← hs]
   exact ⟨⟨0 + 1, hlt⟩, by exact qle, by simp; omega⟩
 · have hs : jn ⟨#[44]⟩ (fun i => zQ ((m[i]?).getD zEn)) (i + 1) = (jn ⟨#[44]⟩ (fun i => zQ ((m[i]?).getD zEn)) i ++ ⟨#[44]⟩) ++ ((m[i]).1 ++ ⟨#[61]⟩ ++ y5 (m[i]).2) := by
    rw [aFc (by omega)]; simp only [List.getElem?_eq_getElem hlt, Option.getD_some]; rfl
   generalize jn ⟨#[44]⟩ (fun i => zQ ((m[i]?).getD zEn)) i = A at hs z2 ⊢
   repeat (first | (refine qz ?_; conv => whnf) | (refine qdr ?_; conv => whnf) | (refine qc (c1) ?_; conv => whnf) | (refine qp (xA (uL (by first | omega | (simp only [ByteArray.size_append]; omega))) rfl rfl rfl) ?_; conv => whnf))
   rw [← hs]
   exact ⟨⟨i + 1, hlt⟩, by exact qle, by simp; omega⟩
end Go.Proofs.YtodckioppgjbdaaDoor.AM
namespace Go.Proofs
open Go.Shelf
def Tryd.lays156_ren : Go.Shelf.Ren := ⟨fun | 156 => 122 | 165 => 150 | 166 => 151 | 169 => 152 | 240 => 171 | 241 => 172 | 276 => 190 | 277 => 191 | n => n, fun | 31 => 44 | 9 => 9 | 3 => 3 | 4 => 4 | 0 => 0 | 20 => 20 | 72 => 191 | 76 => 185 | 70 => 189 | 37 => 157 | 75 => 184 | 127 => 203 | 164 => 222 | 5 => 5 | 80 => 181 | n => n, fun | n => n⟩
theorem Tryd.lays156 : Go.Proofs.Lays.n156 Tryd.prog Tryd.lays156_ren := {
 mixed := by kernel_rfl
 f156 := Tryd.func122.trans (congrArg some (by kernel_rfl))
 f165 := Tryd.func150.trans (congrArg some (by kernel_rfl))
 f166 := Tryd.func151.trans (congrArg some (by kernel_rfl))
 f169 := Tryd.func152.trans (congrArg some (by kernel_rfl))
 f240 := Tryd.func171.trans (congrArg some (by kernel_rfl))
 f241 := Tryd.func172.trans (congrArg some (by kernel_rfl))
 f276 := Tryd.func190.trans (congrArg some (by kernel_rfl))
 f277 := Tryd.func191.trans (congrArg some (by kernel_rfl))
 t0 := Tryd.underlying0
 a0 := Tryd.isAgg0
 z0 := Tryd.sizeOf0
 v0 := Tryd.zeroValue0
 t3 := Tryd.underlying3
 a3 := Tryd.isAgg3
 z3 := Tryd.sizeOf3
 v3 := Tryd.zeroValue3
 t4 := Tryd.underlying4
 a4 := Tryd.isAgg4
 z4 := Tryd.sizeOf4
 v4 := Tryd.zeroValue4
 t9 := Tryd.underlying9
 a9 := Tryd.isAgg9
 z9 := Tryd.sizeOf9
 v9 := Tryd.zeroValue9
 t20 := Tryd.underlying20
 a20 := Tryd.isAgg20
 z20 := Tryd.sizeOf20
 v20 := Tryd.zeroValue20
 t31 := Tryd.underlying44
 a31 := Tryd.isAgg44
 z31 := Tryd.sizeOf44
 v31 := Tryd.zeroValue44
 t37 := Tryd.underlying157
 a37 := Tryd.isAgg157
 z37 := Tryd.sizeOf157
 v37 := Tryd.zeroValue157
 t70 := Tryd.underlying189
 a70 := Tryd.isAgg189
 z70 := Tryd.sizeOf189
 v70 := Tryd.zeroValue189
 t72 := Tryd.underlying191
 a72 := Tryd.isAgg191
 z72 := Tryd.sizeOf191
 v72 := Tryd.zeroValue191
 t75 := Tryd.underlying184
 a75 := Tryd.isAgg184
 z75 := Tryd.sizeOf184
 v75 := Tryd.zeroValue184
 t76 := Tryd.underlying185
 a76 := Tryd.isAgg185
 z76 := Tryd.sizeOf185
 v76 := Tryd.zeroValue185
 t127 := Tryd.underlying203
 a127 := Tryd.isAgg203
 z127 := Tryd.sizeOf203
 v127 := Tryd.zeroValue203
 t164 := Tryd.underlying222
 a164 := Tryd.isAgg222
 z164 := Tryd.sizeOf222
 v164 := Tryd.zeroValue222 }
theorem Tryd.Builder_Extra_156 : Builder.Extra Tryd.prog Tryd.lays156_ren := {
 sizeBuilder := by kernel_rfl
 liesBuilder := by kernel_rfl
 t5 := Tryd.underlying5
 a5 := Tryd.isAgg5
 z5 := Tryd.sizeOf5
 v5 := Tryd.zeroValue5
 infoByte := by kernel_rfl
 cellsByte := by kernel_rfl
 sizeByte := by kernel_rfl
 neB5 := by decide }
open Go.RowKit in
theorem Tryd.strings_Join_none (a : Option Addr) (c : Nat) (sep : ByteArray) (w : World) :
 Calls Tryd.prog 122 #[.slice a 0 c, .string sep] w fun e w' => e = .returned (.string ⟨#[]⟩) ∧ w' = w := Any.strings_Join_none Tryd.lays156 Tryd.Builder_Extra_156 a c sep w
open Go.RowKit in
theorem Tryd.strings_Join (bk o c : Nat) (xs : List ByteArray) (sep : ByteArray) (w : World) (hcells : ∀ (j : Nat) x, xs[j]? = some x → w.cell? ⟨bk, o + j, none⟩ = some (.string x)) (hbk : bk < w.heap.size) (hN : xs.length ≤ 140737488355328) (hcap : xs.length ≤ c) (hlen : (Lib.join (xs.map (·.data.toList)) sep.data.toList).length ≤ 140737488355328) :
 Calls Tryd.prog 122 #[.slice (some ⟨bk, o, none⟩) xs.length c, .string sep] w fun e w' => e = .returned (.string ⟨(Lib.join (xs.map (·.data.toList)) sep.data.toList).toArray⟩) ∧ Below w.heap.size w w' := Any.strings_Join Tryd.lays156 Tryd.Builder_Extra_156 bk o c xs sep w hcells hbk hN hcap hlen
def Tryd.laysM171_ren : Go.Shelf.Ren := ⟨fun | 171 => 95 | 243 => 137 | 246 => 162 | 283 => 176 | 284 => 177 | 285 => 178 | 286 => 179 | 129 => 194 | 317 => 193 | 318 => 195 | 319 => 196 | 320 => 197 | 337 => 203 | 338 => 204 | n => n, fun | 3 => 3 | 9 => 9 | 2 => 2 | 4 => 4 | 171 => 207 | 0 => 0 | 53 => 208 | 37 => 157 | 5 => 5 | 173 => 211 | 212 => 227 | 51 => 228 | 20 => 20 | 213 => 229 | 46 => 215 | 232 => 247 | 233 => 248 | n => n, fun | 17 => 3 | 18 => 8 | 19 => 9 | n => n⟩
theorem Tryd.laysM171 : Go.Proofs.LaysM.n171 Tryd.prog Tryd.laysM171_ren := {
 mixed := by kernel_rfl
 f129 := Tryd.func194.trans (congrArg some (by kernel_rfl))
 f171 := Tryd.func95.trans (congrArg some (by kernel_rfl))
 f243 := Tryd.func137.trans (congrArg some (by kernel_rfl))
 f246 := Tryd.func162.trans (congrArg some (by kernel_rfl))
 f283 := Tryd.func176.trans (congrArg some (by kernel_rfl))
 f284 := Tryd.func177.trans (congrArg some (by kernel_rfl))
 f285 := Tryd.func178.trans (congrArg some (by kernel_rfl))
 f286 := Tryd.func179.trans (congrArg some (by kernel_rfl))
 f317 := Tryd.func193.trans (congrArg some (by kernel_rfl))
 f318 := Tryd.func195.trans (congrArg some (by kernel_rfl))
 f319 := Tryd.func196.trans (congrArg some (by kernel_rfl))
 f320 := Tryd.func197.trans (congrArg some (by kernel_rfl))
 f337 := Tryd.func203.trans (congrArg some (by kernel_rfl))
 f338 := Tryd.func204.trans (congrArg some (by kernel_rfl))
 t0 := Tryd.underlying0
 a0 := Tryd.isAgg0
 z0 := Tryd.sizeOf0
 v0 := Tryd.zeroValue0
 t2 := Tryd.underlying2
 a2 := Tryd.isAgg2
 z2 := Tryd.sizeOf2
 v2 := Tryd.zeroValue2
 t3 := Tryd.underlying3
 a3 := Tryd.isAgg3
 z3 := Tryd.sizeOf3
 v3 := Tryd.zeroValue3
 t4 := Tryd.underlying4
 a4 := Tryd.isAgg4
 z4 := Tryd.sizeOf4
 v4 := Tryd.zeroValue4
 t5 := Tryd.underlying5
 a5 := Tryd.isAgg5
 z5 := Tryd.sizeOf5
 v5 := Tryd.zeroValue5
 t9 := Tryd.underlying9
 a9 := Tryd.isAgg9
 z9 := Tryd.sizeOf9
 v9 := Tryd.zeroValue9
 t20 := Tryd.underlying20
 a20 := Tryd.isAgg20
 z20 := Tryd.sizeOf20
 v20 := Tryd.zeroValue20
 t37 := Tryd.underlying157
 a37 := Tryd.isAgg157
 z37 := Tryd.sizeOf157
 v37 := Tryd.zeroValue157
 t46 := Tryd.underlying215
 a46 := Tryd.isAgg215
 z46 := Tryd.sizeOf215
 v46 := Tryd.zeroValue215
 t51 := Tryd.underlying228
 a51 := Tryd.isAgg228
 z51 := Tryd.sizeOf228
 v51 := Tryd.zeroValue228
 t53 := Tryd.underlying208
 a53 := Tryd.isAgg208
 z53 := Tryd.sizeOf208
 v53 := Tryd.zeroValue208
 t171 := Tryd.underlying207
 a171 := Tryd.isAgg207
 z171 := Tryd.sizeOf207
 v171 := Tryd.zeroValue207
 t173 := Tryd.underlying211
 a173 := Tryd.isAgg211
 z173 := Tryd.sizeOf211
 v173 := Tryd.zeroValue211
 t212 := Tryd.underlying227
 a212 := Tryd.isAgg227
 z212 := Tryd.sizeOf227
 v212 := Tryd.zeroValue227
 t213 := Tryd.underlying229
 a213 := Tryd.isAgg229
 z213 := Tryd.sizeOf229
 t232 := Tryd.underlying247
 a232 := Tryd.isAgg247
 z232 := Tryd.sizeOf247
 v232 := Tryd.zeroValue247
 t233 := Tryd.underlying248
 a233 := Tryd.isAgg248
 z233 := Tryd.sizeOf248
 v233 := Tryd.zeroValue248
 g17 := by kernel_rfl
 g18 := by kernel_rfl
 g19 := by kernel_rfl
 i0 := by kernel_rfl
 i2 := by kernel_rfl
 i3 := by kernel_rfl
 i4 := by kernel_rfl
 i5 := by kernel_rfl
 i9 := by kernel_rfl
 i20 := by kernel_rfl
 i37 := by kernel_rfl
 i46 := by kernel_rfl
 i51 := by kernel_rfl
 i53 := by kernel_rfl
 i171 := by kernel_rfl
 i173 := by kernel_rfl
 i212 := by kernel_rfl
 i232 := by kernel_rfl
 i233 := by kernel_rfl
 m17 := by kernel_rfl
 m18 := by kernel_rfl
 m19 := by kernel_rfl }
open Go.RowKit Go.Sort Go.Lib in
theorem Tryd.strconv_Itoa (n : Int) (h0 : -9223372036854775808 ≤ n) (h1 : n ≤ 9223372036854775807) (w : World) (htab : Lib.TabIs Tryd.prog w "internal/strconv.uint64pow10" .u64 Lib.pow10Tab) :
 Calls Tryd.prog 95 #[.int .i64 n] w fun e w' => e = .returned (.string ⟨(Lib.itoa n).toArray⟩) ∧ ∃ k os, w' = grow (w.drewN k) os := Any.strconv_Itoa Tryd.laysM171 n h0 h1 w htab
end Go.Proofs
namespace Go.Proofs.YtodckioppgjbdaaDoor.AM
open Go Go.RowKit
theorem aEo {P : Program} {f : FuncId} {args : List AV} {v : Value} (hent : ∀ vs w, (callFunc f vs).run P w = .ok (.enter f vs) w) (hv : v.oneCell' = true)
 (h : ∀ (w : World) (S0 : Nat → Prop) (us : List Value), (∀ b, S0 b → b < w.heap.size) → (∀ g y, GT g = some y → RG S0 w g y) → RVs S0 w (fun _ => none) (fun _ => 0) (fun _ => undef) args us → Calls P f us.toArray w fun e w' => e = .returned v ∧ Below w.heap.size w w') : AC P f args ⟨.v v, []⟩ := by
 refine ⟨hent, fun w S0 B0 V0 T0 vs hS hG _ hv' => (h w S0 vs hS hG (aAI (fun _ => rfl) hv')).mono fun e w' ⟨he, hb⟩ => ?_⟩
 exact ⟨v, S0, fun _ => 0, fun _ => undef, fun _ => Fa, fun _ => Fa, he, Grown.of hb _, fun _ h => h, fun b hb' => ⟨Nat.lt_of_lt_of_le (hS b hb') hb.size, .inl hb'⟩, (by unfold RV; exact ⟨rfl, hv⟩), wE aAs, wE (fun _ => rfl), fun l l' ob ob' g e => by rw [aAs] at e; cases e⟩
theorem aD3 {α : Type} (f : α → Value) : ∀ (l : List α), asz (.agg (l.map fun x => .v (f x))) = l.length
 | [] => rfl
 | x :: l => by
  have h2 : xC (l.map fun x => .v (f x)) = l.length := aD3 f l
  rw [List.map_cons]
  show 1 + xC _ = _
  rw [h2, List.length_cons]; omega
theorem aJt {P : Program} {S0 : Nat → Prop} {w : World} {g : Nat} {name : String} {k : IntKind} {zs : List Int} (hg : P.globalNamed name = some g) (h : RG S0 w g (.agg (zs.map fun x => .v (.int k x)))) : Lib.TabIs P w name k zs := by
 have h1 := h.ra rfl
 obtain ⟨cs, t, p, hb, hn⟩ := h.full
 unfold Lib.TabIs World.var?
 rw [hg]
 simp only [Option.bind_some, hb, Option.some.injEq]
 unfold RA at h1
 obtain ⟨b, off, us, e, _, h2, h3⟩ := h1
 simp only [List.cons.injEq, Value.pointer.injEq, Option.some.injEq, Addr.mk.injEq, and_true] at e
 obtain ⟨rfl, rfl⟩ := e
 unfold RA at h2
 have hus : us = zs.map fun z => Value.int k z := by
  clear h3 hn h
  induction zs generalizing us with
  | nil => unfold List.map RL at h2; exact h2
  | cons z zs ih =>
   rw [List.map_cons] at h2
   unfold RL at h2
   obtain ⟨c1, c2, rfl, k1, k2⟩ := h2
   unfold RA at k1
   rw [k1.1, ih _ k2]; rfl
 subst hus
 have hsz : cs.size = zs.length := by
  have hn' : cs.size = asz (.agg (zs.map fun x => .v (.int k x))) := hn
  rw [hn', aD3]
 apply Array.ext
 · simp [hsz]
 · intro i hi hi2
   have hi3 : i < zs.length := by omega
   have := h3 i (.int k zs[i]) (by rw [List.getElem?_map, List.getElem?_eq_getElem hi3]; rfl)
   rw [Nat.zero_add, Lib.cell_of_heap hb] at this
   rw [Array.getElem?_eq_getElem hi, Option.some.injEq] at this
   rw [this]; simp
theorem aDa : ∀ (n : Nat), Lib.decDigits n = jJ n := fun n => by
 induction n using Nat.strongRecOn with
 | _ n ih =>
  rw [Lib.decDigits, jJ]
  by_cases h : n < 10
  · rw [dif_pos h, dif_pos h]
  · rw [dif_neg h, dif_neg h, ih (n / 10) (by omega)]
theorem aJV {n : Int} : (⟨(Lib.itoa n).toArray⟩ : ByteArray) = y5 n := by
 unfold Lib.itoa y5
 split
 · rw [aDa]
   apply ByteArray.ext
   rw [ByteArray.data_append]
   unfold jI
   have : n.natAbs = (-n).toNat := by omega
   rw [this]; simp
 · rw [aDa]; rfl
theorem aJP : ∀ vs w, (callFunc 95 vs).run Tryd.prog w = .ok (.enter 95 vs) w := uf Tryd.func95 (by kernel_rfl) (by kernel_rfl)
theorem qA {n : Int} (h0 : -1000000000000 ≤ n) (h1 : n ≤ 1000000000000) : AC Tryd.prog 95 [.v (.int .i64 n)] ⟨.v (.string (y5 n)), []⟩ := by
 refine aEo aJP rfl fun w S0 us hS hG hv => ?_
 obtain ⟨u, rfl, h2⟩ := kZ hv
 unfold RV at h2
 obtain ⟨rfl, _⟩ := h2
 have htab : Lib.TabIs Tryd.prog w "internal/strconv.uint64pow10" .u64 Lib.pow10Tab := by
  rw [show Lib.pow10Tab = p10L from by decide]
  exact aJt (g := 3) (by kernel_rfl) (hG _ _ rfl)
 refine (Tryd.strconv_Itoa n (by omega) (by omega) w htab).mono ?_
 rintro e w' ⟨rfl, k, os, rfl⟩
 rw [aJV]
 exact ⟨rfl, Lib.below_grow _ w (Nat.le_refl _) k os⟩
theorem aBi {sep : ByteArray} {g g' : Nat → ByteArray} : ∀ {n : Nat}, (∀ i, i < n → g i = g' i) → jn sep g n = jn sep g' n
 | 0, _ => rfl
 | i + 1, h => by
  rw [jn, jn, h i (by omega), aBi (n := i) (fun k hk => h k (by omega))]
theorem inter_snoc {sep : List UInt8} : ∀ {xs : List (List UInt8)} {x : List UInt8}, xs ≠ [] → sep.intercalate (xs ++ [x]) = (sep.intercalate xs ++ sep) ++ x
 | [], x, h => absurd rfl h
 | [y], x, _ => by simp [List.intercalate]
 | y :: z :: r, x, _ => by
  have := inter_snoc (sep := sep) (xs := z :: r) (x := x) (by simp)
  simp only [List.intercalate, List.cons_append, List.intersperse_cons_cons, List.flatten_cons, List.append_assoc] at this ⊢
  rw [this]
theorem aJX {sep : ByteArray} (xs : List ByteArray) : (⟨(Lib.join (xs.map (·.data.toList)) sep.data.toList).toArray⟩ : ByteArray) = jn sep (fun i => (xs[i]?).getD ⟨#[]⟩) xs.length := by
 unfold Lib.join
 induction h : xs.length generalizing xs with
 | zero =>
  obtain rfl := List.eq_nil_of_length_eq_zero h
  rfl
 | succ n ih =>
  obtain ⟨ys, y, rfl⟩ : ∃ ys y, xs = ys ++ [y] := ⟨xs.dropLast, xs.getLast (by intro e; subst e; simp at h), (List.dropLast_concat_getLast _).symm⟩
  have hn : ys.length = n := by simpa using h
  have h1 := ih ys hn
  have h2 : jn sep (fun i => ((ys ++ [y])[i]?).getD ⟨#[]⟩) n = jn sep (fun i => (ys[i]?).getD ⟨#[]⟩) n := aBi fun i hi => by rw [List.getElem?_append_left (by omega)]
  have h3 : ((ys ++ [y])[n]?).getD ⟨#[]⟩ = y := by rw [List.getElem?_append_right (by omega), hn]; simp
  rw [jn, h2, h3, ← h1]
  by_cases h0 : n = 0
  · subst h0
    obtain rfl := List.eq_nil_of_length_eq_zero hn
    rw [if_pos rfl]
    apply ByteArray.ext
    simp [List.intercalate]
  · rw [if_neg h0, List.map_append, List.map_cons, List.map_nil, inter_snoc (by intro e; rw [List.map_eq_nil_iff] at e; subst e; exact h0 hn.symm)]
    apply ByteArray.ext
    simp [ByteArray.data_append]
theorem aFL {S : Nat → Prop} {w : World} : ∀ {l : List ByteArray} {us : List Value}, RL S w (l.map yN) us → us = l.map Value.string
 | [], us, h => by unfold List.map RL at h; exact h
 | x :: l, us, h => by
  rw [List.map_cons] at h
  unfold RL at h
  obtain ⟨c1, c2, rfl, k1, k2⟩ := h
  unfold yN RA at k1
  rw [k1.1, aFL k2]; rfl
theorem aIR : ∀ vs w, (callFunc 122 vs).run Tryd.prog w = .ok (.enter 122 vs) w := uf Tryd.func122 (by kernel_rfl) (by kernel_rfl)
theorem aCJ {sep : ByteArray} {xs : List ByteArray} (hx : xs.length ≤ 100000) (hs : (jn sep (fun i => (xs[i]?).getD ⟨#[]⟩) xs.length).size ≤ 100000000000) : AC Tryd.prog 122 [.lst 1 (xs.map yN), .v (.string sep)] ⟨.v (.string (jn sep (fun i => (xs[i]?).getD ⟨#[]⟩) xs.length)), []⟩ := by
 refine aEo aIR rfl fun w S0 us hS hG hv => ?_
 unfold RVs at hv
 obtain ⟨u, us, rfl, h1, hv⟩ := hv
 obtain ⟨u2, rfl, h2⟩ := kZ hv
 unfold RV at h2
 obtain ⟨rfl, _⟩ := h2
 unfold RV RA at h1
 obtain ⟨A, c, e, hc, _, _, _, h4⟩ := h1
 simp only [List.cons.injEq, and_true] at e
 subst e
 rw [List.length_map] at hc ⊢
 rw [← aJX] at hs ⊢
 have hl : (Lib.join (xs.map (·.data.toList)) sep.data.toList).length ≤ 100000000000 := by
  have : (⟨(Lib.join (xs.map (·.data.toList)) sep.data.toList).toArray⟩ : ByteArray).size = (Lib.join (xs.map (·.data.toList)) sep.data.toList).length := by simp [ByteArray.size]
  omega
 by_cases hn : xs = []
 · subst hn
   refine (Tryd.strings_Join_none A c sep w).mono ?_
   rintro e w' ⟨rfl, rfl⟩
   exact ⟨rfl, Below.refl _ _⟩
 · rcases h4 with h4 | ⟨b, off, us, rfl, hb, hr, hcell⟩
   · exact absurd (List.map_eq_nil_iff.1 h4) hn
   · have hus := aFL hr
     subst hus
     refine (Tryd.strings_Join b off c xs sep w (fun j x hj => hcell j _ (by rw [List.getElem?_map, hj]; rfl)) (hS b hb) (by omega) hc (by omega)).mono ?_
     rintro e w' ⟨rfl, hbel⟩
     exact ⟨rfl, hbel⟩
theorem aGS : ∀ vs w, (callFunc 59 vs).run Tryd.prog w = .ok (.enter 59 vs) w := uf Tryd.func59 (by kernel_rfl) (by kernel_rfl)
theorem zA {es : List Edt} {b : Bool} (hb : yA es = b) (hm : es.length ≤ maxLen) (hk : ∀ e ∈ es, e.key.size ≤ maxLen) : AC Tryd.prog 59 [.lst 3 (es.map zJ)] ⟨.v (.bool b), []⟩ :=
 hb ▸ kM aGS rfl fun w S0 vs hS hv => by
  obtain ⟨u, rfl, h1⟩ := kZ hv
  obtain ⟨A, c, rfl, _, _, hr⟩ := jG hS h1
  exact aDq A es.length c es w hr hm hk
theorem aGT : ∀ vs w, (callFunc 62 vs).run Tryd.prog w = .ok (.enter 62 vs) w := uf Tryd.func62 (by kernel_rfl) (by kernel_rfl)
theorem qY {es : List Edt} {b : Bool} (hb : yA es = b) (hm : es.length ≤ maxLen) (hk : ∀ e ∈ es, e.key.size ≤ maxLen) : AC Tryd.prog 62 [.lst 3 (es.map zJ)] ⟨.v (.bool b), []⟩ :=
 hb ▸ kM aGT rfl fun w S0 vs hS hv => by
  obtain ⟨u, rfl, h1⟩ := kZ hv
  obtain ⟨A, c, rfl, _, _, hr⟩ := jG hS h1
  exact aBh A es.length c es w hr hm hk
theorem uM {P : Program} {t : TypeId} {x y : Operand} {k : IntKind} {a b : Int} : yo P .eql t x y (.int k a) (.int k b) (.bool (decide (a = b))) := by
 by_cases h : a = b
 · rw [decide_eq_true h]; exact aD5 h
 · rw [decide_eq_false h]; exact aD4 h
theorem zb {P : Program} {t : TypeId} {x y : Operand} {a b : ByteArray} : yo P .eql t x y (.string a) (.string b) (.bool (decide (a = b))) := by
 by_cases h : a = b
 · rw [decide_eq_true h]; exact yt h
 · rw [decide_eq_false h]; exact yR h
abbrev eB : ByteArray := ⟨#[]⟩
def szO (o : Opr) (l : Int) : Int := if l - o.name.size < 0 then -1 else if l - o.name.size - o.key.size < 0 then -1 else if szL xSz o.edits (l - o.name.size - o.key.size) < 0 then -1 else szL xSz o.edits (l - o.name.size - o.key.size)
def opB (o : Opr) : Bool :=
 okN o.name && (if o.kind = 1 ∨ o.kind = 4 then decide (1 ≤ o.frm ∧ o.frm ≤ 60) && (decide (o.key = eB) && decide (o.edits.length = 0))
  else if o.kind = 3 then decide (0 ≤ o.frm ∧ o.frm ≤ 60) && (decide (o.key = eB) && yA o.edits)
  else if o.kind = 5 then decide (o.frm = 0) && (okN o.key && decide (o.edits.length = 0))
  else if o.kind = 2 ∨ o.kind = 6 then decide (o.frm = 0) && (decide (o.key = eB) && decide (o.edits.length = 0))
  else false)
theorem aEc {es : List Edt} (h : es.length = 0) : yA es = true := by
 have := List.eq_nil_of_length_eq_zero h
 subst this; rfl
attribute [local irreducible] xJ xN xQ yQ yU Pre ACG
theorem aIJ {o : Opr} {l : Int} (ho : o.ok maxLen) (h0 : 0 ≤ l) (h1 : l ≤ 1048576) : AC Tryd.prog 88 [wK o, .v (.int .i64 l)] ⟨.v (.int .i64 (szO o l)), []⟩ := by
 obtain ⟨q1, q2, q3, q4⟩ := ho
 have q1' := q1
 have q2' := q2
 unfold maxLen at q1' q2'
 unfold szO
 by_cases ha : l - o.name.size < 0
 · rw [if_pos ha]
   refine qrf Tryd.func88 Tryd.ntmps88 Tryd.results88 ?_; conv => whnf
   repeat ((first | refine qz ?_ | refine qst ?_); conv => whnf)
   exact xB rfl trivial
 rw [if_neg ha]
 by_cases hb : l - o.name.size - o.key.size < 0
 · rw [if_pos hb]
   refine qrf Tryd.func88 Tryd.ntmps88 Tryd.results88 ?_; conv => whnf
   repeat ((first | refine qz ?_ | refine qst ?_); conv => whnf)
   exact xB rfl trivial
 rw [if_neg hb]
 have hac := aFX (l := l - o.name.size - o.key.size) q3 q4 (by omega) (by omega)
 by_cases hn : szL xSz o.edits (l - o.name.size - o.key.size) < 0
 · rw [if_pos hn]
   refine qrf Tryd.func88 Tryd.ntmps88 Tryd.results88 ?_; conv => whnf
   repeat ((first | refine qz ?_ | refine qc (hac) ?_ | refine qst ?_); conv => whnf)
   exact xB rfl trivial
 · rw [if_neg hn]
   refine qrf Tryd.func88 Tryd.ntmps88 Tryd.results88 ?_; conv => whnf
   repeat ((first | refine qz ?_ | refine qc (hac) ?_ | refine qst ?_); conv => whnf)
   exact xB rfl trivial
theorem aIK {o : Opr} (hm : o.edits.length ≤ 1048576) : AC Tryd.prog 92 [wK o] ⟨wK o, []⟩ := by
 refine qrf Tryd.func92 Tryd.ntmps92 Tryd.results92 ?_; conv => whnf
 repeat (first | (refine qz ?_; conv => whnf) | (refine qc (aFY hm) ?_; conv => whnf) | (refine qr (aAb rfl rfl rfl rfl rfl rfl rfl rfl) ?_; conv => whnf) | (refine qr (wh rfl rfl rfl rfl rfl (by conv => lhs; whnf) rfl) ?_; conv => whnf))
 exact aC2 (x := wK o) rfl rfl rfl rfl trivial
theorem aIB {o : Opr} (hm : o.edits.length ≤ maxLen) : AC Tryd.prog 97 [wK o, wK o] ⟨.v (.bool true), []⟩ := by
 refine qrf Tryd.func97 Tryd.ntmps97 Tryd.results97 ?_; conv => whnf
 repeat ((first | refine qp (xA (y9 rfl) rfl rfl rfl) ?_ | refine qp (xA (aAU rfl) rfl rfl rfl) ?_ | refine qz ?_ | refine qc (aFV hm) ?_); conv => whnf)
 exact xB rfl trivial
theorem aFU {e : Ent} (h : e.1.size ≤ 12) (h1 : -1000000 ≤ e.2) (h2 : e.2 ≤ 1000000) : AC Tryd.prog 103 [zY e] ⟨.v (.string (zQ e)), []⟩ := by
 have c1 := qA (n := e.2) (by omega) (by omega)
 have hs := yc (n := e.2) (by omega) (by omega)
 have e1 : (⟨#[61]⟩ : ByteArray).size = 1 := rfl
 unfold zQ
 refine qrf Tryd.func103 Tryd.ntmps103 Tryd.results103 ?_; conv => whnf
 repeat (first | (refine qz ?_; conv => whnf) | (refine qc (c1) ?_; conv => whnf) | (refine qp (xA (uL (by first | omega | (simp only [ByteArray.size_append]; omega))) rfl rfl rfl) ?_; conv => whnf) | (refine qdr ?_; conv => whnf))
 exact xB rfl trivial
theorem aGW {α : Type} {sep : ByteArray} {f : α → ByteArray} {z : α} (l : List α) : jn sep (fun i => ((l.map f)[i]?).getD ⟨#[]⟩) (l.map f).length = jn sep (fun i => f ((l[i]?).getD z)) l.length := by
 rw [List.length_map]
 exact aBi fun i hi => by rw [List.getElem?_map, List.getElem?_eq_getElem hi]; rfl
theorem aCK {es : List Ent} (hm : es.length ≤ 4096) (hk : aCO es) : AC Tryd.prog 123 [.lst 2 (es.map zY), .fn 103 [] []] ⟨.v (.string (jn ⟨#[44]⟩ (fun i => zQ ((es[i]?).getD zEn)) es.length)), []⟩ := by
 have hsz : (jn ⟨#[44]⟩ (fun i => zQ ((es[i]?).getD zEn)) es.length).size ≤ es.length * (1 + 27) := j5 (by rw [kT]; omega) fun i hi => by
  rw [List.getElem?_eq_getElem hi]
  obtain ⟨p1, p2, p3⟩ := hk _ (List.getElem_mem hi)
  exact aAn p1 p2 p3
 have hj := aCJ (sep := ⟨#[44]⟩) (xs := es.map zQ) (by rw [List.length_map]; omega) (by rw [aGW (z := zEn)]; omega)
 rw [aGW (z := zEn)] at hj
 obtain ⟨hsl⟩ : Nonempty ((es.map zQ).length = es.length) := ⟨by rw [List.length_map]⟩
 generalize jn ⟨#[44]⟩ (fun i => zQ ((es[i]?).getD zEn)) es.length = R at *
 have hgt : ∀ k (h : k < es.length), (es.map zQ)[k]? = some (zQ es[k]) := fun k h => by rw [List.getElem?_map, List.getElem?_eq_getElem h]; rfl
 generalize hE : es.map zQ = E at *
 refine qrf Tryd.func123 Tryd.ntmps123 Tryd.results123 ?_; conv => whnf
 repeat (first | (refine qz ?_; conv => whnf) | (refine qr (aGi (n := es.length) (by omega) (by omega) (by simp; rfl) (by simp; rfl) rfl rfl) ?_; conv => whnf))
 have hrow : List.replicate es.length (AV.v (.string ByteArray.empty)) = (E.take 0 ++ List.replicate (E.length - 0) ByteArray.empty).map yN := by simp [hsl, yN]
 refine vI (ι := { k : Nat // k ≤ es.length }) (fun k => ⟨[(0, .lst 2 (es.map zY)), (1, .fn 103 [] []), (5, .own 11), (11, .lst 2 (es.map zY)), (12, .v (.int .i64 (es.length : Int))), (13, .v (.int .i64 (k.1 : Int)))], [(11, ⟨9, 1, (E.take k.1 ++ List.replicate (E.length - k.1) ByteArray.empty).map yN⟩)]⟩) (fun k => es.length - k.1) ⟨0, Nat.zero_le _⟩ ⟨⟨congrArg (fun x => some (OB.mk _ _ x)) hrow, trivial⟩, .inl ⟨rfl, rfl⟩, .inl ⟨rfl, rfl⟩, .inl ⟨rfl, rfl⟩, .inl ⟨rfl, rfl⟩, .inl ⟨rfl, rfl⟩, .inl ⟨rfl, rfl⟩, trivial⟩ ?_
 rintro ⟨k, hk'⟩
 dsimp only
 conv => whnf
 by_cases hlt : k < es.length
 · have hlt' : k < E.length := by omega
   have hlt2 : k < (E.take k ++ List.replicate (E.length - k) ByteArray.empty).length := by simp; omega
   have hset := congrArg (List.map yN) (aDk E ByteArray.empty k hlt')
   have hgk : E[k] = zQ es[k] := by have := hgt k hlt; rw [List.getElem?_eq_getElem hlt'] at this; exact Option.some.inj this
   rw [List.map_set, hgk] at hset
   obtain ⟨p1, p2, p3⟩ := hk _ (List.getElem_mem hlt)
   have hac := aFU p1 p2 p3
   repeat ((first | refine qz ?_ | refine qp (aAa (by simpa using hlt2) rfl rfl rfl rfl rfl) ?_ | refine qr (wh (aHV _ hlt2) rfl rfl rfl rfl rfl rfl) ?_ | refine qst ?_ | refine qdr ?_ | refine qr (aC0 hac rfl rfl (.inl rfl) trivial rfl rfl) ?_); conv => whnf)
   exact ⟨⟨k + 1, hlt⟩, ⟨⟨congrArg (fun x => some (OB.mk _ _ x)) hset, trivial⟩, .inl ⟨rfl, rfl⟩, .inl ⟨rfl, rfl⟩, .inl ⟨rfl, rfl⟩, .inl ⟨rfl, rfl⟩, .inl ⟨rfl, rfl⟩, .inl ⟨rfl, rfl⟩, trivial⟩, by simp; omega⟩
 · have hkk : k = es.length := by omega
   subst hkk
   have hfin : (E.take es.length ++ List.replicate (E.length - es.length) ByteArray.empty).map yN = E.map yN := by rw [← hsl, List.take_length, Nat.sub_self, List.replicate_zero, List.append_nil]
   rw [hfin]
   repeat ((first | refine qz ?_ | refine qc (hj) ?_); conv => whnf)
   exact xB rfl trivial
end Go.Proofs.YtodckioppgjbdaaDoor.AM
namespace Go.Proofs.YtodckioppgjbdaaDoor.AM
open Go Go.RowKit
abbrev sSz (s : ByteArray) : Nat := s.size
def szR (r : Rst) (l : Int) : Int := if szL sSz r.keys l < 0 then -1 else if szL eSz r.map (szL sSz r.keys l) < 0 then -1 else szL eSz r.map (szL sSz r.keys l)
attribute [local irreducible] xJ xN xQ yQ yU Pre ACG
theorem aD0 {es : List ByteArray} {l : Int} (hm : es.length ≤ maxLen) (hk : ∀ e ∈ es, e.size ≤ maxLen) (h0 : 0 ≤ l) (h1 : l ≤ 1048576) : AC Tryd.prog 69 [.lst 1 (es.map yN), .v (.int .i64 l)] ⟨.v (.int .i64 (szL sSz es l)), []⟩ := by
 unfold maxLen at hm hk
 by_cases hn : l - es.length < 0
 · rw [szL, if_pos hn]
   refine qrf Tryd.func69 Tryd.ntmps69 Tryd.results69 ?_; conv => whnf
   repeat ((refine qz ?_; conv => whnf))
   exact xB rfl trivial
 · rw [szL, if_neg hn]
   refine qrf Tryd.func69 Tryd.ntmps69 Tryd.results69 ?_; conv => whnf
   repeat ((refine qz ?_; conv => whnf))
   refine vI (ι := { p : Nat × Int // p.1 ≤ es.length ∧ 0 ≤ p.2 ∧ p.2 ≤ l ∧ szF sSz (es.drop p.1) p.2 = szF sSz es (l - es.length) }) (fun p => ⟨[(0, .lst 1 (es.map yN)), (1, .v (.int .i64 p.1.2)), (5, .v (.int .i64 (p.1.1 : Int)))], []⟩) (fun p => es.length - p.1.1) ⟨(0, l - es.length), by simp, by omega, by omega, rfl⟩ (by exact qle) ?_
   rintro ⟨⟨k, cur⟩, hkl, hc0, hc1, hsz⟩
   simp only at hkl hc0 hc1 hsz ⊢
   conv => whnf
   by_cases hlt : k < es.length
   · have hd := aBZ (g := sSz) (l := cur) hlt
     rw [hsz] at hd
     have hkk := hk _ (List.getElem_mem hlt)
     by_cases hneg : cur - (es[k]).size < 0
     · rw [if_pos hneg] at hd
       rw [hd]
       repeat ((refine qz ?_; conv => whnf))
       exact xB rfl trivial
     · rw [if_neg hneg] at hd
       repeat ((refine qz ?_; conv => whnf))
       exact ⟨⟨(k + 1, cur - (es[k]).size), by simp; omega, by omega, by omega, hd.symm⟩, by exact qle, by simp; omega⟩
   · have hkk : k = es.length := by omega
     rw [hkk, List.drop_length] at hsz
     rw [← hsz]
     repeat ((refine qz ?_; conv => whnf))
     exact xB rfl trivial
theorem aD1 {l : List ByteArray} (hm : l.length ≤ 1048576) : AC Tryd.prog 72 [.lst 1 (l.map yN)] ⟨.own 0, [⟨9, 1, l.map yN⟩]⟩ := by
 refine qrf Tryd.func72 Tryd.ntmps72 Tryd.results72 ?_; conv => whnf
 repeat (first | (refine qz ?_; conv => whnf) | (refine qr (aGi (n := l.length) (by omega) (by omega) (by simp; rfl) (by simp; rfl) rfl rfl) ?_; conv => whnf))
 have hrow : List.replicate l.length zS = (l.take 0 ++ List.replicate (l.length - 0) ByteArray.empty).map yN := by simp [yN]
 refine vI (ι := { k : Nat // k ≤ l.length }) (fun k => ⟨[(0, .lst 1 (l.map yN)), (3, .own 8), (4, .v (.int .i64 (k.1 : Int)))], [(8, ⟨9, 1, (l.take k.1 ++ List.replicate (l.length - k.1) ByteArray.empty).map yN⟩)]⟩) (fun k => l.length - k.1) ⟨0, Nat.zero_le _⟩ ⟨⟨congrArg (fun x => some (OB.mk _ _ x)) hrow, trivial⟩, .inl ⟨rfl, rfl⟩, .inl ⟨rfl, rfl⟩, .inl ⟨rfl, rfl⟩, trivial⟩ ?_
 rintro ⟨k, hk⟩
 dsimp only
 conv => whnf
 by_cases hlt : k < l.length
 · have hlt2 : k < (l.take k ++ List.replicate (l.length - k) ByteArray.empty).length := by simp; omega
   have hset := congrArg (List.map yN) (aDk l ByteArray.empty k hlt)
   rw [List.map_set] at hset
   repeat ((first | refine qz ?_ | refine qp (aAa (by simpa using hlt2) rfl rfl rfl rfl rfl) ?_ | refine qr (wh (aHV _ hlt2) rfl rfl rfl rfl rfl rfl) ?_); conv => whnf)
   exact ⟨⟨k + 1, hlt⟩, ⟨⟨congrArg (fun x => some (OB.mk _ _ x)) hset, trivial⟩, .inl ⟨rfl, rfl⟩, .inl ⟨rfl, rfl⟩, .inl ⟨rfl, rfl⟩, trivial⟩, by simp; omega⟩
 · have hkk : k = l.length := by omega
   subst hkk
   repeat ((refine qz ?_; conv => whnf))
   exact aGr rfl (by show some (OB.mk _ _ _) = _; rw [List.take_length, Nat.sub_self, List.replicate_zero, List.append_nil])
theorem aE6 {r : Rst} {l : Int} (hr : r.ok maxLen) (h0 : 0 ≤ l) (h1 : l ≤ 1048576) : AC Tryd.prog 28 [vK r, .v (.int .i64 l)] ⟨.v (.int .i64 (szR r l)), []⟩ := by
 have z1 := aD0 hr.1 hr.2.1 h0 h1
 unfold szR
 by_cases ha : szL sSz r.keys l < 0
 · rw [if_pos ha]
   refine qrf Tryd.func28 Tryd.ntmps28 Tryd.results28 ?_; conv => whnf
   repeat ((first | refine qz ?_ | refine qc (z1) ?_ | refine qst ?_); conv => whnf)
   exact xB rfl trivial
 rw [if_neg ha]
 have hle := (aCC (by omega : 0 ≤ szL sSz r.keys l)).1
 have z2 := aE4 (l := szL sSz r.keys l) hr.2.2.1 hr.2.2.2 (by omega) (by omega)
 by_cases hn : szL eSz r.map (szL sSz r.keys l) < 0
 · rw [if_pos hn]
   refine qrf Tryd.func28 Tryd.ntmps28 Tryd.results28 ?_; conv => whnf
   repeat ((first | refine qz ?_ | refine qc (z1) ?_ | refine qc (z2) ?_ | refine qst ?_); conv => whnf)
   exact xB rfl trivial
 · rw [if_neg hn]
   refine qrf Tryd.func28 Tryd.ntmps28 Tryd.results28 ?_; conv => whnf
   repeat ((first | refine qz ?_ | refine qc (z1) ?_ | refine qc (z2) ?_ | refine qst ?_); conv => whnf)
   exact xB rfl trivial
theorem aJs {r : Rst} {l : Int} (h : 0 ≤ szR r l) (h1 : l ≤ 1048576) : szR r l ≤ 1048576 ∧ r.keys.length ≤ 1048576 ∧ r.map.length ≤ 1048576 := by
 unfold szR at h ⊢
 by_cases ha : szL sSz r.keys l < 0
 · rw [if_pos ha] at h; omega
 rw [if_neg ha] at h ⊢
 obtain ⟨k1, k2, _⟩ := aCC (by omega : 0 ≤ szL sSz r.keys l)
 by_cases hn : szL eSz r.map (szL sSz r.keys l) < 0
 · rw [if_pos hn] at h; omega
 rw [if_neg hn] at h ⊢
 obtain ⟨j1, j2, _⟩ := aCC h
 exact ⟨by omega, by omega, by omega⟩
theorem aE9 {r : Rst} (hm : r.keys.length ≤ 1048576) (hm2 : r.map.length ≤ 1048576) : AC Tryd.prog 30 [vK r] ⟨vK r, []⟩ := by
 have h1 := aD1 hm
 have h2 := aE7 hm2
 refine qrf Tryd.func30 Tryd.ntmps30 Tryd.results30 ?_; conv => whnf
 repeat (first | (refine qz ?_; conv => whnf) | (refine qc (h1) ?_; conv => whnf) | (refine qc (h2) ?_; conv => whnf) | (refine qr (aAb rfl rfl rfl rfl rfl rfl rfl rfl) ?_; conv => whnf) | (refine qr (wh rfl rfl rfl rfl rfl (by conv => lhs; whnf) rfl) ?_; conv => whnf))
 exact aC2 (x := vK r) rfl rfl rfl rfl trivial
theorem aE1 {r : Rst} (hm : r.keys.length ≤ maxLen) (hm2 : r.map.length ≤ maxLen) : AC Tryd.prog 32 [vK r, vK r] ⟨.v (.bool true), []⟩ := by
 have h1 := aDW hm
 have h2 := aEZ (es := r.map) (es' := r.map) hm2 hm2
 rw [decide_eq_true rfl] at h2
 refine qrf Tryd.func32 Tryd.ntmps32 Tryd.results32 ?_; conv => whnf
 repeat ((first | refine qp (xA (aAU rfl) rfl rfl rfl) ?_ | refine qz ?_ | refine qc (h1) ?_ | refine qc (h2) ?_); conv => whnf)
 exact xB rfl trivial
end Go.Proofs.YtodckioppgjbdaaDoor.AM
namespace Go.Proofs.YtodckioppgjbdaaDoor.AM
open Go Go.RowKit
section
variable {P : Program} {Θ : Tab} {s : St}
def mkC : Nat → List Value → List (Nat × Operand)
 | _, [] => []
 | i, c :: r => (i, .const c) :: mkC (i + 1) r
theorem aEy : ∀ (cs : List Value) (i : Nat), xq s ((mkC i cs).map (·.2)) = []
 | [], _ => by simp [mkC, xq, xW]
 | c :: cs, i => by
  have := aEy cs (i + 1)
  unfold xq at this ⊢
  simp only [mkC, List.map_cons, xW, St.ev, yH, List.nil_append]
  exact this
theorem aG4 : ∀ (cs : List Value) (i : Nat), (∀ c ∈ cs, c.oneCell' = true) → uV ((mkC i cs).map (·.2))
 | [], _, _ => by intro y hy; simp [mkC] at hy
 | c :: cs, i, h => by
  intro y hy v hv
  simp only [mkC, List.map_cons, List.mem_cons] at hy
  rcases hy with rfl | hy
  · cases hv; exact h _ (by simp)
  · exact aG4 cs (i + 1) (fun c hc => h c (by simp [hc])) y hy v hv
theorem aG5 : ∀ (cs : List Value) (i : Nat) (zs : List AV), (∀ c ∈ cs, c.oneCell' = true) → i + cs.length = zs.length → (∀ z ∈ zs, asz z = 1) → uO s zs (mkC i cs) ∧ yG s zs (mkC i cs) = zs.take i ++ cs.map .v
 | [], i, zs, _, h, _ => by
  refine ⟨trivial, ?_⟩
  simp only [mkC, yG, List.map_nil, List.append_nil]
  rw [List.take_of_length_le (by simp at h; omega)]
 | c :: cs, i, zs, hc, h, hz => by
  have hi : i < zs.length := by simp only [List.length_cons] at h; omega
  have h1 := aG5 cs (i + 1) (zs.set i (.v c)) (fun c hc' => hc c (by simp [hc'])) (by rw [List.length_set]; simp only [List.length_cons] at h; omega) (fun z hz' => by
   rcases List.mem_or_eq_of_mem_set hz' with q | q
   · exact hz z q
   · subst q; rfl)
  have hd : s.dat (s.ev (.const c)) = .v c := rfl
  refine ⟨⟨⟨zs[i], by simp [hi], by rw [hd, hz _ (List.getElem_mem hi)]; rfl⟩, hc c (by simp), by rw [hd]; exact h1.1⟩, ?_⟩
  simp only [mkC, yG, hd]
  rw [h1.2, List.take_succ_eq_append_getElem (by simpa using hi), List.getElem_set_self, List.take_set_of_le (Nat.le_refl _)]
  simp
theorem aJ6 {d : Nat} {ty : TypeId} {pos : String} {after : Array Edge} {g : Option (Nat × Bool)} {t el b m : Nat} {z : AV} {ps : Array (Nat × Operand)} (cs : List Value) (hf : s.hp (d + 1) = none) (ht : Θ.look t = .slice el 1 b z) (hps : ps = (mkC 0 cs).toArray) (hm : m = cs.length) (hz : Nat.beq (asz z) 1 = true) (hl : Nat.ble cs.length 65536 = true) (hc : ∀ c ∈ cs, c.oneCell' = true) (hok : okL (d + 1) = true := by rfl) :
 Pre P Θ ⟨some d, .buildSlice t m ps, ty, pos, after, g⟩ s ⟨.own (d + 1), some fun s' => s'.set (d + 1) (some ⟨.s el, 1, cs.map .v⟩)⟩ := by
 subst hps hm
 have h1 := aG5 (s := s) cs 0 (List.replicate cs.length z) hc (by simp) (fun y hy => by rw [List.eq_of_mem_replicate hy]; exact Nat.eq_of_beq_eq_true hz)
 have ho := aEy (s := s) cs 0
 refine ⟨d, el, 1, b, z, rfl, hf, hok, ht, by have := Nat.le_of_ble_eq_true hl; omega, .inl ⟨h1.1, aG4 cs 0 hc, ?_, ?_⟩⟩
 · show (xq s ((mkC 0 cs).map (·.2))).all okL = true
   rw [ho]; rfl
 · show _ = Eff.mk _ (ji (xq s ((mkC 0 cs).map (·.2))) fun s' => s'.set (d + 1) (some ⟨.s el, 1, yG s (List.replicate cs.length z) (mkC 0 cs)⟩))
   rw [ho, h1.2]; rfl
end
def uW : List ByteArray := [⟨#[111, 107]⟩, ⟨#[98, 97, 100]⟩, ⟨#[108, 111, 110, 103]⟩, ⟨#[102, 111, 114, 109]⟩, ⟨#[114, 97, 110, 103, 101]⟩, ⟨#[110, 111, 110, 101]⟩, ⟨#[109, 97, 110, 121]⟩, ⟨#[102, 117, 108, 108]⟩, ⟨#[115, 105, 122, 101]⟩, ⟨#[107, 105, 110, 100]⟩, ⟨#[110, 97, 109, 101]⟩, ⟨#[99, 111, 110, 102, 108, 105, 99, 116]⟩, ⟨#[114, 101, 116, 114, 105, 101, 115]⟩, ⟨#[115, 116, 97, 108, 101]⟩, ⟨#[101, 120, 105, 115, 116, 115]⟩, ⟨#[100, 111, 110, 101]⟩, ⟨#[111, 114, 100, 101, 114]⟩, ⟨#[108, 97, 103]⟩, ⟨#[115, 97, 109, 101]⟩]
def cwT (c : Int) : ByteArray := (uW[c.toNat]?).getD ⟨#[]⟩
theorem aJE {i : Nat} (h : i < uW.length) : (uW[i]).size ≤ 8 := by
 have : ∀ x ∈ uW, x.size ≤ 8 := by
  have : uW.all (fun x => decide (x.size ≤ 8)) = true := by decide +kernel
  intro x hx
  simpa using List.all_eq_true.1 this x hx
 exact this _ (List.getElem_mem h)
def uG (l : List ByteArray) : ByteArray := jn ⟨#[44]⟩ (fun i => (l[i]?).getD ⟨#[]⟩) l.length
def rT1 (r : Rst) : ByteArray := if 0 < r.com then cwT r.code ++ (⟨#[32, 99, 111, 109, 109, 105, 116, 32]⟩ ++ y5 r.com) else cwT r.code
def rT2 (r : Rst) : ByteArray := if r.val = 0 then rT1 r else rT1 r ++ (⟨#[32, 118, 97, 108, 117, 101, 32]⟩ ++ y5 r.val)
def rT3 (r : Rst) : ByteArray := if 0 < r.keys.length then rT2 r ++ (⟨#[32, 107, 101, 121, 115, 32]⟩ ++ uG r.keys) else rT2 r
def kY (r : Rst) : ByteArray := if 0 < r.map.length then rT3 r ++ (⟨#[32, 109, 97, 112, 32]⟩ ++ qo r.map) else rT3 r
def rsB (r : Rst) : Bool := decide (0 ≤ r.code ∧ r.code ≤ 18) && (decide (0 ≤ r.com ∧ r.com ≤ 60) && (decide (-1000000 ≤ r.val ∧ r.val ≤ 1000000) && (decide (r.keys.length ≤ 24) && (yS r.map && r.keys.all okN))))
theorem aBT {l : List ByteArray} (h : l.all okN = true) : (uG l).size ≤ l.length * 13 := by
 unfold uG
 have := j5 (sep := ⟨#[44]⟩) (g := fun i => (l[i]?).getD ⟨#[]⟩) (A := 1) (B := 12) (n := l.length) (Nat.le_of_eq (kT _)) (fun i hi => by
  have h1 := List.all_eq_true.1 h _ (List.getElem_mem hi)
  simp only [List.getElem?_eq_getElem hi, Option.getD_some]
  exact aA9 h1)
 omega
theorem aHK {l : List ByteArray} {i : Nat} (h : i < l.length) : (l.drop i).all okN = (okN l[i] && (l.drop (i + 1)).all okN) := by
 rw [List.drop_eq_getElem_cons h, List.all_cons]
attribute [local irreducible] xJ xN xQ yQ yU Pre ACG
set_option maxHeartbeats 4000000 in
theorem aDZ {c : Nat} (hc : c < 19) : AC Tryd.prog 113 [.v (.int .i64 (c : Int))] ⟨.v (.string (cwT (c : Int))), []⟩ := by
 have hl : c < uW.length := hc
 have hg : (uW.map yN)[c]? = some (yN uW[c]) := by simp [hl]
 have e : cwT (c : Int) = uW[c] := by unfold cwT; simp [hl]
 rw [e]
 have hall : ∀ v ∈ uW.map Value.string, v.oneCell' = true := fun v hv => by
  obtain ⟨x, _, rfl⟩ := List.mem_map.1 hv; rfl
 have hg' : ((uW.map Value.string).map AV.v)[c]? = some (.v (.string uW[c])) := by simp [hl]
 have hcl : c < ((uW.map Value.string).map AV.v).length := by rw [List.length_map, List.length_map]; exact hl
 have hlen : (uW.map Value.string).length = 19 := rfl
 refine qO Tryd.func113 Tryd.ntmps113 Tryd.results113 ?_
 repeat (first | refine qla ?_ | refine qlb ?_ | refine qx ?_)
 refine qK rfl rfl (aJ6 (uW.map Value.string) rfl rfl rfl rfl rfl rfl hall) (fun e => by cases e) ?_
 repeat (first | refine qla ?_ | (refine qP (aFH (xs := uW.map Value.string) (f := AV.v) rfl rfl ⟨_, _, _, _, rfl⟩) ?_) | (refine qP (xA (uz (by omega)) rfl rfl rfl) ?_) | (refine qP (xA (aGL (by omega)) rfl rfl rfl) ?_) | (refine qP (aAa hcl rfl rfl rfl rfl rfl) ?_; refine qP (kK rfl rfl hg' rfl rfl rfl rfl) ?_) | refine qlb ?_ | refine qx ?_)
 exact qe
theorem aFW {l : List ByteArray} (hm : l.length ≤ 24) (hk : l.all okN = true) : AC Tryd.prog 114 [.lst 1 (l.map yN), .v (.string ⟨#[44]⟩)] ⟨.v (.string (uG l)), []⟩ := by
 have c44 := kT 44
 unfold uG
 refine qrf Tryd.func114 Tryd.ntmps114 Tryd.results114 ?_; conv => whnf
 repeat ((refine qz ?_; conv => whnf))
 refine vI (ι := { i : Nat // i ≤ l.length }) (fun i => ⟨[(0, .lst 1 (l.map yN)), (1, .v (.string ⟨#[44]⟩)), (5, .v (.string (jn ⟨#[44]⟩ (fun i => (l[i]?).getD ⟨#[]⟩) i.1))), (6, .v (.int .i64 (i.1 : Int)))], []⟩) (fun i => l.length - i.1) ⟨0, Nat.zero_le _⟩ (by exact qle) ?_
 rintro ⟨i, hi⟩
 dsimp only
 conv => whnf
 by_cases hlt : i < l.length
 case neg =>
  have e : i = l.length := by omega
  subst e
  repeat ((refine qz ?_; conv => whnf))
  exact xB rfl trivial
 have hz := aA9 (List.all_eq_true.1 hk _ (List.getElem_mem hlt))
 have z2 := j5 (sep := ⟨#[44]⟩) (g := fun i => (l[i]?).getD ⟨#[]⟩) (A := 1) (B := 12) (n := i) (Nat.le_of_eq (kT _)) (fun j hj => by
  have h1 := List.all_eq_true.1 hk _ (List.getElem_mem (by omega : j < l.length))
  simp only [List.getElem?_eq_getElem (by omega : j < l.length), Option.getD_some]
  exact aA9 h1)
 have hT : (l[i]?).getD ⟨#[]⟩ = l[i] := by simp [hlt]
 by_cases h0 : i = 0
 · subst h0
   have hs : jn ⟨#[44]⟩ (fun i => (l[i]?).getD ⟨#[]⟩) (0 + 1) = jn ⟨#[44]⟩ (fun i => (l[i]?).getD ⟨#[]⟩) 0 ++ (l[0]?).getD ⟨#[]⟩ := aFa
   rw [hT] at hs
   generalize jn ⟨#[44]⟩ (fun i => (l[i]?).getD ⟨#[]⟩) 0 = A at hs z2 ⊢
   repeat (first | (refine qz ?_; conv => whnf) | (refine qp (xA (uL (by first | omega | (simp only [ByteArray.size_append]; omega))) rfl rfl rfl) ?_; conv => whnf))
   rw [← hs]
   exact ⟨⟨0 + 1, hlt⟩, by exact qle, by simp; omega⟩
 · have hs : jn ⟨#[44]⟩ (fun i => (l[i]?).getD ⟨#[]⟩) (i + 1) = (jn ⟨#[44]⟩ (fun i => (l[i]?).getD ⟨#[]⟩) i ++ ⟨#[44]⟩) ++ (l[i]?).getD ⟨#[]⟩ := aFc (by omega)
   rw [hT] at hs
   generalize jn ⟨#[44]⟩ (fun i => (l[i]?).getD ⟨#[]⟩) i = A at hs z2 ⊢
   repeat (first | (refine qz ?_; conv => whnf) | (refine qp (xA (uL (by first | omega | (simp only [ByteArray.size_append]; omega))) rfl rfl rfl) ?_; conv => whnf))
   rw [← hs]
   exact ⟨⟨i + 1, hlt⟩, by exact qle, by simp; omega⟩
set_option maxHeartbeats 4000000 in
theorem aHJ {r : Rst} (hr : r.ok maxLen) : AC Tryd.prog 70 [vK r] ⟨.v (.bool (rsB r)), []⟩ := by
 obtain ⟨q1, q2, q3, q4⟩ := hr
 have q1' := q1
 unfold maxLen at q1'
 unfold rsB
 by_cases a1 : 0 ≤ r.code ∧ r.code ≤ 18
 case neg =>
  rw [decide_eq_false a1, Bool.false_and]
  refine qO Tryd.func70 Tryd.ntmps70 Tryd.results70 ?_
  repeat (first | refine qla ?_ | refine qC (uh a1) ?_ | refine qlb ?_ | refine qx ?_)
  exact qe
 rw [decide_eq_true a1, Bool.true_and]
 by_cases a2 : 0 ≤ r.com ∧ r.com ≤ 60
 case neg =>
  rw [decide_eq_false a2, Bool.false_and]
  refine qO Tryd.func70 Tryd.ntmps70 Tryd.results70 ?_
  repeat (first | refine qla ?_ | refine qC (xL a1.1 a1.2) ?_ | refine qC (uh a2) ?_ | refine qlb ?_ | refine qx ?_)
  exact qe
 rw [decide_eq_true a2, Bool.true_and]
 by_cases a3 : -1000000 ≤ r.val ∧ r.val ≤ 1000000
 case neg =>
  rw [decide_eq_false a3, Bool.false_and]
  refine qO Tryd.func70 Tryd.ntmps70 Tryd.results70 ?_
  repeat (first | refine qla ?_ | refine qC (xL a1.1 a1.2) ?_ | refine qC (xL a2.1 a2.2) ?_ | refine qC (uh a3) ?_ | refine qlb ?_ | refine qx ?_)
  exact qe
 rw [decide_eq_true a3, Bool.true_and]
 by_cases a4 : r.keys.length ≤ 24
 case neg =>
  rw [decide_eq_false a4, Bool.false_and]
  refine qO Tryd.func70 Tryd.ntmps70 Tryd.results70 ?_
  repeat (first | refine qla ?_ | refine qC (xL a1.1 a1.2) ?_ | refine qC (xL a2.1 a2.2) ?_ | refine qC (xL a3.1 a3.2) ?_ | refine qlb ?_ | refine qx ?_)
  exact qe
 rw [decide_eq_true a4, Bool.true_and]
 have cm := aHH q3 q4
 cases a5 : yS r.map
 case false =>
  rw [a5] at cm
  rw [Bool.false_and]
  refine qO Tryd.func70 Tryd.ntmps70 Tryd.results70 ?_
  repeat (first | refine qla ?_ | refine qC (xL a1.1 a1.2) ?_ | refine qC (xL a2.1 a2.2) ?_ | refine qC (xL a3.1 a3.2) ?_ | refine qC (cm) ?_ | refine qlb ?_ | refine qx ?_)
  exact qe
 rw [a5] at cm
 rw [Bool.true_and]
 refine qO Tryd.func70 Tryd.ntmps70 Tryd.results70 ?_
 repeat (first | refine qla ?_ | refine qC (xL a1.1 a1.2) ?_ | refine qC (xL a2.1 a2.2) ?_ | refine qC (xL a3.1 a3.2) ?_ | refine qC (cm) ?_ | refine qlb ?_ | refine qx ?_)
 refine aAH _ _ _ ?_
 conv => whnf
 refine vI (ι := { i : Nat // i ≤ r.keys.length ∧ (r.keys.drop i).all okN = r.keys.all okN }) (fun i => ⟨[(1, .optr 2 0 [] 0), (3, .v (.int .i64 (i.1 : Int)))], [(2, ⟨50, 5, [vK r]⟩)]⟩) (fun i => r.keys.length - i.1) ⟨0, Nat.zero_le _, rfl⟩ (by exact qle) ?_
 rintro ⟨i, hi, hd⟩
 dsimp only at hi hd ⊢
 conv => whnf
 by_cases hlt : i < r.keys.length
 case neg =>
  rw [List.drop_eq_nil_of_le (by omega)] at hd
  rw [← hd]
  repeat ((refine qz ?_; conv => whnf))
  repeat (first | refine qla ?_ | refine qlb ?_ | refine qx ?_)
  exact qe
 rw [aHK hlt] at hd
 have hks := q2 _ (List.getElem_mem hlt)
 cases hw : okN (r.keys[i])
 · have cw := x9 hks hw
   rw [hw, Bool.false_and] at hd
   rw [← hd]
   repeat ((first | refine qz ?_ | refine qc (cw) ?_); conv => whnf)
   repeat (first | refine qla ?_ | refine qlb ?_ | refine qx ?_)
   exact qe
 · have cw := x9 hks hw
   rw [hw, Bool.true_and] at hd
   repeat ((first | refine qz ?_ | refine qc (cw) ?_); conv => whnf)
   exact ⟨⟨i + 1, hlt, hd⟩, by exact qle, by simp; omega⟩
end Go.Proofs.YtodckioppgjbdaaDoor.AM
namespace Go.Proofs.YtodckioppgjbdaaDoor.AM
open Go Go.RowKit
structure RsS (r : Rst) : Prop where
 c : ∃ n : Nat, n < 19 ∧ r.code = (n : Int)
 m0 : 0 ≤ r.com
 m1 : r.com ≤ 60
 v0 : -1000000 ≤ r.val
 v1 : r.val ≤ 1000000
 kl : r.keys.length ≤ 24
 kk : r.keys.all okN = true
 ml : r.map.length ≤ 12
 me : aCO r.map
theorem aDT {r : Rst} (h : rsB r = true) : RsS r := by
 unfold rsB at h
 simp only [Bool.and_eq_true, decide_eq_true_eq] at h
 obtain ⟨h1, h2, h3, h4, h5, h6⟩ := h
 exact ⟨⟨r.code.toNat, by omega, by omega⟩, h2.1, h2.2, h3.1, h3.2, h4, h6, aG3 h5, aFj h5⟩
theorem aD8 {n : Nat} (h : n < 19) : (cwT (n : Int)).size ≤ 8 := by
 have hl : n < uW.length := h
 have e : cwT (n : Int) = uW[n] := by unfold cwT; simp [hl]
 rw [e]; exact aJE hl
theorem aC7 {r : Rst} (h : RsS r) : (kY r).size ≤ 1000 := by
 obtain ⟨⟨n, hn, hc⟩, m0, m1, v0, v1, kl, kk, ml, mk⟩ := h
 have z0 := aD8 hn
 rw [← hc] at z0
 have z1 := yc (n := r.com) (by omega) (by omega)
 have z2 := yc (n := r.val) (by omega) (by omega)
 have z3 := aBT kk
 have z4 := aEx mk
 have w1 : (⟨#[32, 99, 111, 109, 109, 105, 116, 32]⟩ : ByteArray).size = 8 := rfl
 have w2 : (⟨#[32, 118, 97, 108, 117, 101, 32]⟩ : ByteArray).size = 7 := rfl
 have w3 : (⟨#[32, 107, 101, 121, 115, 32]⟩ : ByteArray).size = 6 := rfl
 have w4 : (⟨#[32, 109, 97, 112, 32]⟩ : ByteArray).size = 5 := rfl
 have a1 : (rT1 r).size ≤ 40 := by unfold rT1; split <;> first | omega | (simp only [ByteArray.size_append]; omega)
 have a2 : (rT2 r).size ≤ 80 := by unfold rT2; split <;> first | omega | (simp only [ByteArray.size_append]; omega)
 have a3 : (rT3 r).size ≤ 500 := by unfold rT3; split <;> first | omega | (simp only [ByteArray.size_append]; omega)
 unfold kY; split <;> first | omega | (simp only [ByteArray.size_append]; omega)
attribute [local irreducible] xJ xN xQ yQ yU Pre ACG
set_option maxHeartbeats 4000000 in
theorem aAR {r : Rst} (h : RsS r) : AC Tryd.prog 71 [vK r] ⟨.v (.string (kY r)), []⟩ := by
 obtain ⟨⟨n, hn, hc⟩, m0, m1, v0, v1, kl, kk, ml, mk⟩ := h
 have c0 := aDZ hn
 rw [← hc] at c0
 have z0 := aD8 hn
 rw [← hc] at z0
 have z1 := yc (n := r.com) (by omega) (by omega)
 have z2 := yc (n := r.val) (by omega) (by omega)
 have z3 := aBT kk
 have z4 := aEx mk
 have c1 := vU (n := r.com) (by omega) (by omega)
 have c2 := vU (n := r.val) (by omega) (by omega)
 have c3 := aFW kl kk
 have c4 := aGF ml mk
 have w1 : (⟨#[32, 99, 111, 109, 109, 105, 116, 32]⟩ : ByteArray).size = 8 := rfl
 have w2 : (⟨#[32, 118, 97, 108, 117, 101, 32]⟩ : ByteArray).size = 7 := rfl
 have w3 : (⟨#[32, 107, 101, 121, 115, 32]⟩ : ByteArray).size = 6 := rfl
 have w4 : (⟨#[32, 109, 97, 112, 32]⟩ : ByteArray).size = 5 := rfl
 clear hn hc n
 by_cases h1 : 0 < r.com <;> by_cases h2 : r.val = 0 <;> by_cases h3 : 0 < r.keys.length <;> by_cases h4 : 0 < r.map.length
 all_goals
  simp only [kY, rT3, rT2, rT1, h1, h2, h3, h4, if_true, if_false]
  try simp only [h2] at c2
  generalize cwT r.code = W at c0 z0 ⊢
  refine qrf Tryd.func71 Tryd.ntmps71 Tryd.results71 ?_; conv => whnf
  repeat (first | (refine qz ?_; conv => whnf) | (refine qc (c0) ?_; conv => whnf) | (refine qc (c1) ?_; conv => whnf) | (refine qc (c2) ?_; conv => whnf) | (refine qc (c3) ?_; conv => whnf) | (refine qc (c4) ?_; conv => whnf) | (refine qp (xA (uL (by first | omega | (simp only [ByteArray.size_append]; omega))) rfl rfl rfl) ?_; conv => whnf))
  exact xB rfl trivial
end Go.Proofs.YtodckioppgjbdaaDoor.AM
namespace Go.Proofs.YtodckioppgjbdaaDoor.AM
open Go Go.RowKit Go.ChangeShapes Go.WideShapes Go.Deep
structure Wsh where
 kind : Int
 name : ByteArray
 source : ByteArray
 key : ByteArray
 edits : List Edt
structure Mom where
 client : Int
 wish : Int
 step : Int
 op : Opr
 res : Rst
def vR (m : Mom) : AV := .agg [.v (.int .i64 m.client), .v (.int .i64 m.wish), .v (.int .i64 m.step), wK m.op, vK m.res]
def Wsh.ok (o : Wsh) (N : Nat) : Prop := o.name.size ≤ N ∧ o.source.size ≤ N ∧ o.key.size ≤ N ∧ o.edits.length ≤ N ∧ ∀ e ∈ o.edits, e.key.size ≤ N
section
variable {S : Nat → Prop} {w : World}
end
section
variable {H : Type} {enc : TypeId × Value → H} {P : Program} {w : World} {base : Nat} {held : Bool}
theorem aDB {xs : List AV} {cs : List Value} (h : ∀ hp B V, RV (InW w) w hp B V (.agg xs) (.agg cs.toArray)) : RA (InW w) w (.agg xs) cs := by
 have := h (fun _ => none) (fun _ => 0) (fun _ => undef)
 unfold RV at this
 obtain ⟨us, e, hr⟩ := this
 have : us = cs := by
  have := congrArg (fun v => match v with | Value.agg a => a.toList | _ => []) e
  simpa using this.symm
 subst this
 exact aEH hr
theorem aEU {t : TypeId} {cs : List Value} {k : Nat} {y : DataW H × List MemPlace} (h : DataW.trod enc P w base (fun _ => true) held k t cs = some y) : DataW.Trod enc P w base (fun _ => true) held t (.agg cs.toArray) y.1 y.2 := ⟨k, by simpa [Value.cells] using h⟩
theorem open_mom {t : TypeId} {f0 f1 f2 f3 f4 : Field} {cs : Array Value} {d : DataW H} {p : List MemPlace} (ht : P.underlying t = some (.struct #[f0, f1, f2, f3, f4])) (hC : P.cellsOf t = 13)
 (hof : f0.offset = 0 ∧ f1.offset = 1 ∧ f2.offset = 2 ∧ f3.offset = 3 ∧ f4.offset = 8) (hce : P.cellsOf f0.type = 1 ∧ P.cellsOf f1.type = 1 ∧ P.cellsOf f2.type = 1 ∧ P.cellsOf f3.type = 5 ∧ P.cellsOf f4.type = 5)
 (h0 : P.underlying f0.type = some (.int .i64)) (h1 : P.underlying f1.type = some (.int .i64)) (h2 : P.underlying f2.type = some (.int .i64))
 (h3 : ∀ (cs : Array Value) (d : DataW H) (p : List MemPlace), DataW.Trod enc P w base (fun _ => true) held f3.type (.agg cs) d p → ∃ o : Opr, (∀ hp B V, RV (InW w) w hp B V (wK o) (.agg cs)) ∧ o.ok maxLen)
 (h4 : ∀ (cs : Array Value) (d : DataW H) (p : List MemPlace), DataW.Trod enc P w base (fun _ => true) held f4.type (.agg cs) d p → ∃ o : Rst, (∀ hp B V, RV (InW w) w hp B V (vK o) (.agg cs)) ∧ o.ok maxLen)
 (h : DataW.Trod enc P w base (fun _ => true) held t (.agg cs) d p) : ∃ m : Mom, (∀ hp B V, RV (InW w) w hp B V (vR m) (.agg cs)) ∧ m.op.ok maxLen ∧ m.res.ok maxLen := by
 obtain ⟨fuel, hf⟩ := h
 obtain ⟨xs, n', hn', hy, hl, hlen, hg⟩ := DataW.trod_struct ht hf
 have hL : cs.toList.length = 13 := by rw [hC] at hl; simpa [Value.cells] using hl
 have e : (Value.cells (.agg cs)).toList = cs.toList := rfl
 rw [e] at hg
 obtain ⟨o0, o1, o2, o3, o4⟩ := hof
 obtain ⟨q0, q1, q2, q3, q4⟩ := hce
 have hx : ∀ j (hj : j < 5), xs[j]? = some (xs[j]'(by have : xs.length = 5 := hlen; omega)) := fun j hj => List.getElem?_eq_getElem _
 have t0 := (hg 0 f0 rfl).trans (hx 0 (by omega))
 have t1 := (hg 1 f1 rfl).trans (hx 1 (by omega))
 have t2 := (hg 2 f2 rfl).trans (hx 2 (by omega))
 have t3 := (hg 3 f3 rfl).trans (hx 3 (by omega))
 have t4 := (hg 4 f4 rfl).trans (hx 4 (by omega))
 rw [o0, q0] at t0
 rw [o1, q1] at t1
 rw [o2, q2] at t2
 rw [o3, q3] at t3
 rw [o4, q4] at t4
 obtain ⟨x0, hx0, _, _⟩ := DataW.trod_int h0 t0
 obtain ⟨x1, hx1, _, _⟩ := DataW.trod_int h1 t1
 obtain ⟨x2, hx2, _, _⟩ := DataW.trod_int h2 t2
 obtain ⟨o, ho, hok⟩ := h3 _ _ _ (aEU t3)
 obtain ⟨r, hr, hrk⟩ := h4 _ _ _ (aEU t4)
 refine ⟨⟨x0, x1, x2, o, r⟩, fun hp B V => ?_, hok, hrk⟩
 have hsplit : cs.toList = [.int .i64 x0] ++ ([.int .i64 x1] ++ ([.int .i64 x2] ++ ((cs.toList.drop 3).take 5 ++ ((cs.toList.drop 8).take 5 ++ [])))) := by
  rw [← hx0, ← hx1, ← hx2]
  generalize cs.toList = l at hL
  match l, hL with
  | [_, _, _, _, _, _, _, _, _, _, _, _, _], _ => rfl
 exact aEM hsplit (yY (vS rfl) (yY (vS rfl) (yY (vS rfl) (yY (aDB ho) (yY (aDB hr) qR)))))
end
end Go.Proofs.YtodckioppgjbdaaDoor.AM
namespace Go.Proofs.YtodckioppgjbdaaDoor.AM
open Go Go.RowKit
attribute [local irreducible] xJ xN xQ yQ yU Pre ACG
set_option maxHeartbeats 4000000 in
theorem aIC {frm : Int} {nm key : ByteArray} {es : List Edt} (q1 : nm.size ≤ maxLen) (q2 : key.size ≤ maxLen) (q3 : es.length ≤ maxLen) (q4 : ∀ e ∈ es, e.key.size ≤ maxLen) (hn : okN nm = true) : AC Tryd.prog 136 [.agg [.v (.int .i64 1), .v (.int .i64 frm), .v (.string nm), .v (.string key), .lst 3 (es.map zJ)]] ⟨.v (.bool (opB ⟨1, frm, nm, key, es⟩)), []⟩ := by
 have q3' := q3
 unfold maxLen at q3'
 refine qrf Tryd.func136 Tryd.ntmps136 Tryd.results136 ?_; conv => whnf
 repeat ((first | refine qc (xM q1 hn) ?_ | refine qz ?_); conv => whnf)
 (refine qdr ?_; conv => whnf)
 by_cases hf : 1 ≤ frm ∧ frm ≤ 60
 case neg =>
  rw [show opB _ = false from by simp [opB, hn, hf]]
  as_aux_lemma =>
   repeat ((first | refine qc (xM q1 hn) ?_ | refine qc (jf hf) ?_ | refine qp (xA (zC (by assumption)) rfl rfl rfl) ?_ | refine qp (xA (y9 (by assumption)) rfl rfl rfl) ?_ | refine qp (xA (yt (by assumption)) rfl rfl rfl) ?_ | refine qp (xA (yR (by assumption)) rfl rfl rfl) ?_ | refine qz ?_ | refine qp (xA uM rfl rfl rfl) ?_ | refine qp (xA zb rfl rfl rfl) ?_); conv => whnf)
   exact xB rfl trivial
 by_cases hk : key = eB
 case neg =>
  rw [show opB _ = false from by simp [opB, hn, hf, hk]]
  as_aux_lemma =>
   repeat ((first | refine qc (xM q1 hn) ?_ | refine qc (zP hf.1 hf.2) ?_ | refine qp (xA (zC (by assumption)) rfl rfl rfl) ?_ | refine qp (xA (y9 (by assumption)) rfl rfl rfl) ?_ | refine qp (xA (yt (by assumption)) rfl rfl rfl) ?_ | refine qp (xA (yR (by assumption)) rfl rfl rfl) ?_ | refine qz ?_ | refine qp (xA uM rfl rfl rfl) ?_ | refine qp (xA zb rfl rfl rfl) ?_); conv => whnf)
   exact xB rfl trivial
 by_cases he : es.length = 0
 case neg =>
  rw [show opB _ = false from by simp [opB, hn, hf, hk, he]]
  as_aux_lemma =>
   repeat ((first | refine qc (xM q1 hn) ?_ | refine qc (zP hf.1 hf.2) ?_ | refine qp (xA (zC (by assumption)) rfl rfl rfl) ?_ | refine qp (xA (y9 (by assumption)) rfl rfl rfl) ?_ | refine qp (xA (yt (by assumption)) rfl rfl rfl) ?_ | refine qp (xA (yR (by assumption)) rfl rfl rfl) ?_ | refine qz ?_ | refine qp (xA uM rfl rfl rfl) ?_ | refine qp (xA zb rfl rfl rfl) ?_); conv => whnf)
   exact xB rfl trivial
 rw [show opB _ = true from by simp [opB, hn, hf, hk, he]]
 as_aux_lemma =>
  repeat ((first | refine qc (xM q1 hn) ?_ | refine qc (zP hf.1 hf.2) ?_ | refine qp (xA (zC (by assumption)) rfl rfl rfl) ?_ | refine qp (xA (y9 (by assumption)) rfl rfl rfl) ?_ | refine qp (xA (yt (by assumption)) rfl rfl rfl) ?_ | refine qp (xA (yR (by assumption)) rfl rfl rfl) ?_ | refine qz ?_ | refine qp (xA uM rfl rfl rfl) ?_ | refine qp (xA zb rfl rfl rfl) ?_); conv => whnf)
  exact xB rfl trivial
set_option maxHeartbeats 4000000 in
theorem aIF {frm : Int} {nm key : ByteArray} {es : List Edt} (q1 : nm.size ≤ maxLen) (q2 : key.size ≤ maxLen) (q3 : es.length ≤ maxLen) (q4 : ∀ e ∈ es, e.key.size ≤ maxLen) (hn : okN nm = true) : AC Tryd.prog 136 [.agg [.v (.int .i64 4), .v (.int .i64 frm), .v (.string nm), .v (.string key), .lst 3 (es.map zJ)]] ⟨.v (.bool (opB ⟨4, frm, nm, key, es⟩)), []⟩ := by
 have q3' := q3
 unfold maxLen at q3'
 refine qrf Tryd.func136 Tryd.ntmps136 Tryd.results136 ?_; conv => whnf
 repeat ((first | refine qc (xM q1 hn) ?_ | refine qz ?_); conv => whnf)
 (refine qdr ?_; conv => whnf)
 by_cases hf : 1 ≤ frm ∧ frm ≤ 60
 case neg =>
  rw [show opB _ = false from by simp [opB, hn, hf]]
  as_aux_lemma =>
   repeat ((first | refine qc (xM q1 hn) ?_ | refine qc (jf hf) ?_ | refine qp (xA (zC (by assumption)) rfl rfl rfl) ?_ | refine qp (xA (y9 (by assumption)) rfl rfl rfl) ?_ | refine qp (xA (yt (by assumption)) rfl rfl rfl) ?_ | refine qp (xA (yR (by assumption)) rfl rfl rfl) ?_ | refine qz ?_ | refine qp (xA uM rfl rfl rfl) ?_ | refine qp (xA zb rfl rfl rfl) ?_); conv => whnf)
   exact xB rfl trivial
 by_cases hk : key = eB
 case neg =>
  rw [show opB _ = false from by simp [opB, hn, hf, hk]]
  as_aux_lemma =>
   repeat ((first | refine qc (xM q1 hn) ?_ | refine qc (zP hf.1 hf.2) ?_ | refine qp (xA (zC (by assumption)) rfl rfl rfl) ?_ | refine qp (xA (y9 (by assumption)) rfl rfl rfl) ?_ | refine qp (xA (yt (by assumption)) rfl rfl rfl) ?_ | refine qp (xA (yR (by assumption)) rfl rfl rfl) ?_ | refine qz ?_ | refine qp (xA uM rfl rfl rfl) ?_ | refine qp (xA zb rfl rfl rfl) ?_); conv => whnf)
   exact xB rfl trivial
 by_cases he : es.length = 0
 case neg =>
  rw [show opB _ = false from by simp [opB, hn, hf, hk, he]]
  as_aux_lemma =>
   repeat ((first | refine qc (xM q1 hn) ?_ | refine qc (zP hf.1 hf.2) ?_ | refine qp (xA (zC (by assumption)) rfl rfl rfl) ?_ | refine qp (xA (y9 (by assumption)) rfl rfl rfl) ?_ | refine qp (xA (yt (by assumption)) rfl rfl rfl) ?_ | refine qp (xA (yR (by assumption)) rfl rfl rfl) ?_ | refine qz ?_ | refine qp (xA uM rfl rfl rfl) ?_ | refine qp (xA zb rfl rfl rfl) ?_); conv => whnf)
   exact xB rfl trivial
 rw [show opB _ = true from by simp [opB, hn, hf, hk, he]]
 as_aux_lemma =>
  repeat ((first | refine qc (xM q1 hn) ?_ | refine qc (zP hf.1 hf.2) ?_ | refine qp (xA (zC (by assumption)) rfl rfl rfl) ?_ | refine qp (xA (y9 (by assumption)) rfl rfl rfl) ?_ | refine qp (xA (yt (by assumption)) rfl rfl rfl) ?_ | refine qp (xA (yR (by assumption)) rfl rfl rfl) ?_ | refine qz ?_ | refine qp (xA uM rfl rfl rfl) ?_ | refine qp (xA zb rfl rfl rfl) ?_); conv => whnf)
  exact xB rfl trivial
set_option maxHeartbeats 4000000 in
theorem aIE {frm : Int} {nm key : ByteArray} {es : List Edt} (q1 : nm.size ≤ maxLen) (q2 : key.size ≤ maxLen) (q3 : es.length ≤ maxLen) (q4 : ∀ e ∈ es, e.key.size ≤ maxLen) (hn : okN nm = true) : AC Tryd.prog 136 [.agg [.v (.int .i64 3), .v (.int .i64 frm), .v (.string nm), .v (.string key), .lst 3 (es.map zJ)]] ⟨.v (.bool (opB ⟨3, frm, nm, key, es⟩)), []⟩ := by
 have q3' := q3
 unfold maxLen at q3'
 refine qrf Tryd.func136 Tryd.ntmps136 Tryd.results136 ?_; conv => whnf
 repeat ((first | refine qc (xM q1 hn) ?_ | refine qz ?_); conv => whnf)
 (refine qdr ?_; conv => whnf)
 by_cases h0 : frm = 0
 case pos =>
  subst h0
  by_cases hk : key = eB
  case neg =>
   rw [show opB _ = false from by simp [opB, hn, hk]]
   as_aux_lemma =>
    repeat ((first | refine qc (xM q1 hn) ?_ | refine qp (xA (zC (by assumption)) rfl rfl rfl) ?_ | refine qp (xA (y9 (by assumption)) rfl rfl rfl) ?_ | refine qp (xA (yt (by assumption)) rfl rfl rfl) ?_ | refine qp (xA (yR (by assumption)) rfl rfl rfl) ?_ | refine qz ?_ | refine qp (xA uM rfl rfl rfl) ?_ | refine qp (xA zb rfl rfl rfl) ?_); conv => whnf)
    exact xB rfl trivial
  cases he : yA es with
  | false =>
   rw [show opB _ = false from by simp [opB, hn, hk, he]]
   as_aux_lemma =>
    repeat ((first | refine qc (xM q1 hn) ?_ | refine qc (qY he q3 q4) ?_ | refine qp (xA (zC (by assumption)) rfl rfl rfl) ?_ | refine qp (xA (y9 (by assumption)) rfl rfl rfl) ?_ | refine qp (xA (yt (by assumption)) rfl rfl rfl) ?_ | refine qp (xA (yR (by assumption)) rfl rfl rfl) ?_ | refine qz ?_ | refine qp (xA uM rfl rfl rfl) ?_ | refine qp (xA zb rfl rfl rfl) ?_); conv => whnf)
    exact xB rfl trivial
  | true =>
   rw [show opB _ = true from by simp [opB, hn, hk, he]]
   as_aux_lemma =>
    repeat ((first | refine qc (xM q1 hn) ?_ | refine qc (qY he q3 q4) ?_ | refine qp (xA (zC (by assumption)) rfl rfl rfl) ?_ | refine qp (xA (y9 (by assumption)) rfl rfl rfl) ?_ | refine qp (xA (yt (by assumption)) rfl rfl rfl) ?_ | refine qp (xA (yR (by assumption)) rfl rfl rfl) ?_ | refine qz ?_ | refine qp (xA uM rfl rfl rfl) ?_ | refine qp (xA zb rfl rfl rfl) ?_); conv => whnf)
    exact xB rfl trivial
 by_cases hf : 1 ≤ frm ∧ frm ≤ 60
 case neg =>
  have hf2 : ¬ (0 ≤ frm ∧ frm ≤ 60) := by omega
  rw [show opB _ = false from by simp [opB, hn, hf2]]
  as_aux_lemma =>
   repeat ((first | refine qc (xM q1 hn) ?_ | refine qc (jf hf) ?_ | refine qp (xA (zC (by assumption)) rfl rfl rfl) ?_ | refine qp (xA (y9 (by assumption)) rfl rfl rfl) ?_ | refine qp (xA (yt (by assumption)) rfl rfl rfl) ?_ | refine qp (xA (yR (by assumption)) rfl rfl rfl) ?_ | refine qz ?_ | refine qp (xA uM rfl rfl rfl) ?_ | refine qp (xA zb rfl rfl rfl) ?_); conv => whnf)
   exact xB rfl trivial
 have hf2 : 0 ≤ frm ∧ frm ≤ 60 := by omega
 by_cases hk : key = eB
 case neg =>
  rw [show opB _ = false from by simp [opB, hn, hf2, hk]]
  as_aux_lemma =>
   repeat ((first | refine qc (xM q1 hn) ?_ | refine qc (zP hf.1 hf.2) ?_ | refine qp (xA (zC (by assumption)) rfl rfl rfl) ?_ | refine qp (xA (y9 (by assumption)) rfl rfl rfl) ?_ | refine qp (xA (yt (by assumption)) rfl rfl rfl) ?_ | refine qp (xA (yR (by assumption)) rfl rfl rfl) ?_ | refine qz ?_ | refine qp (xA uM rfl rfl rfl) ?_ | refine qp (xA zb rfl rfl rfl) ?_); conv => whnf)
   exact xB rfl trivial
 cases he : yA es with
 | false =>
  rw [show opB _ = false from by simp [opB, hn, hf2, hk, he]]
  as_aux_lemma =>
   repeat ((first | refine qc (xM q1 hn) ?_ | refine qc (zP hf.1 hf.2) ?_ | refine qc (qY he q3 q4) ?_ | refine qp (xA (zC (by assumption)) rfl rfl rfl) ?_ | refine qp (xA (y9 (by assumption)) rfl rfl rfl) ?_ | refine qp (xA (yt (by assumption)) rfl rfl rfl) ?_ | refine qp (xA (yR (by assumption)) rfl rfl rfl) ?_ | refine qz ?_ | refine qp (xA uM rfl rfl rfl) ?_ | refine qp (xA zb rfl rfl rfl) ?_); conv => whnf)
   exact xB rfl trivial
 | true =>
  rw [show opB _ = true from by simp [opB, hn, hf2, hk, he]]
  as_aux_lemma =>
   repeat ((first | refine qc (xM q1 hn) ?_ | refine qc (zP hf.1 hf.2) ?_ | refine qc (qY he q3 q4) ?_ | refine qp (xA (zC (by assumption)) rfl rfl rfl) ?_ | refine qp (xA (y9 (by assumption)) rfl rfl rfl) ?_ | refine qp (xA (yt (by assumption)) rfl rfl rfl) ?_ | refine qp (xA (yR (by assumption)) rfl rfl rfl) ?_ | refine qz ?_ | refine qp (xA uM rfl rfl rfl) ?_ | refine qp (xA zb rfl rfl rfl) ?_); conv => whnf)
   exact xB rfl trivial
set_option maxHeartbeats 4000000 in
theorem aHI {o : Opr} (ho : o.ok maxLen) : AC Tryd.prog 90 [wK o] ⟨.v (.bool (opB o)), []⟩ := by
 obtain ⟨kind, frm, nm, key, es⟩ := o
 obtain ⟨q1, q2, q3, q4⟩ := ho
 simp only at q1 q2 q3 q4
 have q3' := q3
 unfold maxLen at q3'
 show AC Tryd.prog 90 [.agg [.v (.int .i64 kind), .v (.int .i64 frm), .v (.string nm), .v (.string key), .lst 3 (es.map zJ)]] _
 cases hn : okN nm with
 | false =>
  rw [show opB _ = false from by simp [opB, hn]]
  as_aux_lemma =>
   refine qO Tryd.func90 Tryd.ntmps90 Tryd.results90 ?_
   repeat (first | refine qla ?_ | refine qC (x9 q1 hn) ?_ | refine qlb ?_ | refine qx ?_)
   exact qe
 | true =>
 by_cases hr : 1 ≤ kind ∧ kind ≤ 6
 case neg =>
  have k1 : kind ≠ 1 := by omega
  have k2 : kind ≠ 2 := by omega
  have k3 : kind ≠ 3 := by omega
  have k4 : kind ≠ 4 := by omega
  have k5 : kind ≠ 5 := by omega
  have k6 : kind ≠ 6 := by omega
  rw [show opB _ = false from by simp [opB, hn, k1, k2, k3, k4, k5, k6]]
  as_aux_lemma =>
   refine qO Tryd.func90 Tryd.ntmps90 Tryd.results90 ?_
   repeat (first | refine qla ?_ | refine qC (x9 q1 hn) ?_ | refine qC (uh hr) ?_ | refine qlb ?_ | refine qx ?_)
   exact qe
 cases hes : yA es with
 | false =>
  have hne : es.length ≠ 0 := fun h => by rw [aEc h] at hes; cases hes
  rw [show opB _ = false from by simp [opB, hn, hes, hne]]
  as_aux_lemma =>
   refine qO Tryd.func90 Tryd.ntmps90 Tryd.results90 ?_
   repeat (first | refine qla ?_ | refine qC (x9 q1 hn) ?_ | refine qC (xL hr.1 hr.2) ?_ | refine qC (zA hes q3 q4) ?_ | refine qlb ?_ | refine qx ?_)
   exact qe
 | true =>
 by_cases k3 : kind = 3
 case pos =>
  subst k3
  by_cases hk : key = eB
  case neg =>
   rw [show opB _ = false from by simp [opB, hn, hk]]
   as_aux_lemma =>
    refine qO Tryd.func90 Tryd.ntmps90 Tryd.results90 ?_
    repeat (first | refine qla ?_ | refine qC (x9 q1 hn) ?_ | refine qC (xL hr.1 hr.2) ?_ | refine qC (zA hes q3 q4) ?_ | refine qlb ?_ | refine qx ?_)
    exact qe
  by_cases hf : 0 ≤ frm ∧ frm ≤ 60
  case neg =>
   rw [show opB _ = false from by simp [opB, hn, hk, hf]]
   as_aux_lemma =>
    refine qO Tryd.func90 Tryd.ntmps90 Tryd.results90 ?_
    repeat (first | refine qla ?_ | refine qC (x9 q1 hn) ?_ | refine qC (xL hr.1 hr.2) ?_ | refine qC (zA hes q3 q4) ?_ | refine qC (uh hf) ?_ | refine qlb ?_ | refine qx ?_)
    exact qe
  rw [show opB _ = true from by simp [opB, hn, hk, hf, hes]]
  as_aux_lemma =>
   refine qO Tryd.func90 Tryd.ntmps90 Tryd.results90 ?_
   repeat (first | refine qla ?_ | refine qC (x9 q1 hn) ?_ | refine qC (xL hr.1 hr.2) ?_ | refine qC (zA hes q3 q4) ?_ | refine qC (xL hf.1 hf.2) ?_ | refine qlb ?_ | refine qx ?_)
   exact qe
 by_cases he : es.length = 0
 case neg =>
  rw [show opB _ = false from by simp [opB, hn, he, k3]]
  as_aux_lemma =>
   refine qO Tryd.func90 Tryd.ntmps90 Tryd.results90 ?_
   repeat (first | refine qla ?_ | refine qC (x9 q1 hn) ?_ | refine qC (xL hr.1 hr.2) ?_ | refine qC (zA hes q3 q4) ?_ | refine qlb ?_ | refine qx ?_)
   exact qe
 by_cases k5 : kind = 5
 case pos =>
  subst k5
  cases hk : okN key with
  | false =>
   rw [show opB _ = false from by simp [opB, hn, hk]]
   as_aux_lemma =>
    refine qO Tryd.func90 Tryd.ntmps90 Tryd.results90 ?_
    repeat (first | refine qla ?_ | refine qC (x9 q1 hn) ?_ | refine qC (xL hr.1 hr.2) ?_ | refine qC (zA hes q3 q4) ?_ | refine qC (x9 q2 hk) ?_ | refine qlb ?_ | refine qx ?_)
    exact qe
  | true =>
   by_cases h0 : frm = 0
   case neg =>
    rw [show opB _ = false from by simp [opB, hn, hk, h0]]
    as_aux_lemma =>
     refine qO Tryd.func90 Tryd.ntmps90 Tryd.results90 ?_
     repeat (first | refine qla ?_ | refine qC (x9 q1 hn) ?_ | refine qC (xL hr.1 hr.2) ?_ | refine qC (zA hes q3 q4) ?_ | refine qC (x9 q2 hk) ?_ | refine qlb ?_ | refine qx ?_)
     exact qe
   rw [show opB _ = true from by simp [opB, hn, hk, h0, he]]
   as_aux_lemma =>
    refine qO Tryd.func90 Tryd.ntmps90 Tryd.results90 ?_
    repeat (first | refine qla ?_ | refine qC (x9 q1 hn) ?_ | refine qC (xL hr.1 hr.2) ?_ | refine qC (zA hes q3 q4) ?_ | refine qC (x9 q2 hk) ?_ | refine qlb ?_ | refine qx ?_)
    exact qe
 by_cases hk : key = eB
 case neg =>
  rw [show opB _ = false from by simp [opB, hn, hk, k3, k5]]
  as_aux_lemma =>
   refine qO Tryd.func90 Tryd.ntmps90 Tryd.results90 ?_
   repeat (first | refine qla ?_ | refine qC (x9 q1 hn) ?_ | refine qC (xL hr.1 hr.2) ?_ | refine qC (zA hes q3 q4) ?_ | refine qlb ?_ | refine qx ?_)
   exact qe
 by_cases k1 : kind = 1
 case pos =>
  subst k1
  by_cases hf : 1 ≤ frm ∧ frm ≤ 60
  case neg =>
   rw [show opB _ = false from by simp [opB, hn, hk, hf]]
   as_aux_lemma =>
    refine qO Tryd.func90 Tryd.ntmps90 Tryd.results90 ?_
    repeat (first | refine qla ?_ | refine qC (x9 q1 hn) ?_ | refine qC (xL hr.1 hr.2) ?_ | refine qC (zA hes q3 q4) ?_ | refine qC (uh hf) ?_ | refine qlb ?_ | refine qx ?_)
    exact qe
  rw [show opB _ = true from by simp [opB, hn, hk, hf, he]]
  as_aux_lemma =>
   refine qO Tryd.func90 Tryd.ntmps90 Tryd.results90 ?_
   repeat (first | refine qla ?_ | refine qC (x9 q1 hn) ?_ | refine qC (xL hr.1 hr.2) ?_ | refine qC (zA hes q3 q4) ?_ | refine qC (xL hf.1 hf.2) ?_ | refine qlb ?_ | refine qx ?_)
   exact qe
 by_cases k4 : kind = 4
 case pos =>
  subst k4
  by_cases hf : 1 ≤ frm ∧ frm ≤ 60
  case neg =>
   rw [show opB _ = false from by simp [opB, hn, hk, hf]]
   as_aux_lemma =>
    refine qO Tryd.func90 Tryd.ntmps90 Tryd.results90 ?_
    repeat (first | refine qla ?_ | refine qC (x9 q1 hn) ?_ | refine qC (xL hr.1 hr.2) ?_ | refine qC (zA hes q3 q4) ?_ | refine qC (uh hf) ?_ | refine qlb ?_ | refine qx ?_)
    exact qe
  rw [show opB _ = true from by simp [opB, hn, hk, hf, he]]
  as_aux_lemma =>
   refine qO Tryd.func90 Tryd.ntmps90 Tryd.results90 ?_
   repeat (first | refine qla ?_ | refine qC (x9 q1 hn) ?_ | refine qC (xL hr.1 hr.2) ?_ | refine qC (zA hes q3 q4) ?_ | refine qC (xL hf.1 hf.2) ?_ | refine qlb ?_ | refine qx ?_)
   exact qe
 have k26 : kind = 2 ∨ kind = 6 := by omega
 by_cases h0 : frm = 0
 case neg =>
  rw [show opB _ = false from by simp [opB, hn, hk, h0, k1, k3, k4, k5]]
  as_aux_lemma =>
   refine qO Tryd.func90 Tryd.ntmps90 Tryd.results90 ?_
   repeat (first | refine qla ?_ | refine qC (x9 q1 hn) ?_ | refine qC (xL hr.1 hr.2) ?_ | refine qC (zA hes q3 q4) ?_ | refine qlb ?_ | refine qx ?_)
   exact qe
 rw [show opB _ = true from by simp [opB, hn, hk, h0, he, k1, k3, k4, k5, k26]]
 as_aux_lemma =>
  refine qO Tryd.func90 Tryd.ntmps90 Tryd.results90 ?_
  repeat (first | refine qla ?_ | refine qC (x9 q1 hn) ?_ | refine qC (xL hr.1 hr.2) ?_ | refine qC (zA hes q3 q4) ?_ | refine qlb ?_ | refine qx ?_)
  exact qe
end Go.Proofs.YtodckioppgjbdaaDoor.AM
