/- Texts of the machine over data, folded. -/
import Derived.Shelf.Strings.OnBuilder
import Derived.Shelf.Small.Wraps
import Derived.Shelf.LaysM
import Derived.Shelf.Strconv.Itoa3
import Derived.Shelf.Strconv.Clone
import Derived.Shelf.LaysC
import Derived.Shelf.Strconv.AtoiAll
import Derived.Shelf.Strconv.ErrVarAll
import Derived.Shelf.Strings.Search2
import Derived.Shelf.Strings.Search3
import Derived.Shelf.Strings.Prefix
import Derived.Test.YtodckioppgjbdaaDoorProg
import Derived.Test.YtodckioppgjbdaaDoorKb8
import Derived.Lib.AppendIntMem
import Derived.Lib.AtoiTie
import Derived.Lib.AtoiBound
import Derived.Lib.AtoiAllCases
import Derived.Test.YtodckioppgjbdaaDoorKb7
import Derived.RangeFuncNested
import Derived.RangeFuncBound
import Derived.RangeFuncCalls
import Derived.RangeFuncLeaves
import Derived.Shelf.Abstract
import Derived.Shelf.RegionOpen
import Derived.WalkKit
import Derived.OwnWalkIn
import Derived.TacticsInMore
import Derived.LoopNIn
import Derived.LoopIn
import Derived.Lib.IndexLaws
import Derived.WalkSpells
import Derived.RegionTactic
import Derived.BigRegion
import Derived.Test.YtodckioppgjbdaaDoorKb5
set_option linter.unusedVariables false
set_option linter.unusedSimpArgs false
set_option maxRecDepth 100000
namespace Go.Proofs
open Go.Shelf
def Tryd.lays103_ren : Go.Shelf.Ren := ⟨fun | 103 => 112 | 210 => 146 | 206 => 170 | n => n, fun | 9 => 9 | 4 => 4 | 24 => 160 | 3 => 3 | n => n, fun | n => n⟩
theorem Tryd.lays103 : Go.Proofs.Lays.n103 Tryd.prog Tryd.lays103_ren := {
 mixed := by kernel_rfl
 f103 := Tryd.func112.trans (congrArg some (by kernel_rfl))
 f206 := Tryd.func170.trans (congrArg some (by kernel_rfl))
 f210 := Tryd.func146.trans (congrArg some (by kernel_rfl))
 t3 := Tryd.underlying3
 a3 := Tryd.isAgg3
 z3 := Tryd.sizeOf3
 v3 := Tryd.zeroValue3
 t4 := Tryd.underlying4
 a4 := Tryd.isAgg4
 z4 := Tryd.sizeOf4
 v4 := Tryd.zeroValue4
 t9 := Tryd.underlying9
 a9 := Tryd.isAgg9
 z9 := Tryd.sizeOf9
 v9 := Tryd.zeroValue9
 t24 := Tryd.underlying160
 a24 := Tryd.isAgg160
 z24 := Tryd.sizeOf160
 v24 := Tryd.zeroValue160 }
open Go.RowKit in
theorem Tryd.strings_CutPrefix (s p : ByteArray) (w : World) :
 Calls Tryd.prog 112 #[.string s, .string p] w fun e w' => e = .returned (.tuple #[.string ⟨(Lib.trimPrefix s.data.toList p.data.toList).toArray⟩, .bool (Lib.hasPrefix s.data.toList p.data.toList)]) ∧ w' = w := Any.strings_CutPrefix Tryd.lays103 s p w
def Tryd.laysM171_ren : Go.Shelf.Ren := ⟨fun | 171 => 95 | 243 => 137 | 246 => 162 | 283 => 176 | 284 => 177 | 285 => 178 | 286 => 179 | 129 => 194 | 317 => 193 | 318 => 195 | 319 => 196 | 320 => 197 | 337 => 203 | 338 => 204 | n => n, fun | 3 => 3 | 9 => 9 | 2 => 2 | 4 => 4 | 171 => 207 | 0 => 0 | 53 => 208 | 37 => 157 | 5 => 5 | 173 => 211 | 212 => 227 | 51 => 228 | 20 => 20 | 213 => 229 | 46 => 215 | 232 => 247 | 233 => 248 | n => n, fun | 17 => 3 | 18 => 8 | 19 => 9 | n => n⟩
theorem Tryd.laysM171 : Go.Proofs.LaysM.n171 Tryd.prog Tryd.laysM171_ren := {
 mixed := by kernel_rfl
 f129 := Tryd.func194.trans (congrArg some (by kernel_rfl))
 f171 := Tryd.func95.trans (congrArg some (by kernel_rfl))
 f243 := Tryd.func137.trans (congrArg some (by kernel_rfl))
 f246 := Tryd.func162.trans (congrArg some (by kernel_rfl))
 f283 := Tryd.func176.trans (congrArg some (by kernel_rfl))
 f284 := Tryd.func177.trans (congrArg some (by kernel_rfl))
 f285 := Tryd.func178.trans (congrArg some (by kernel_rfl))
 f286 := Tryd.func179.trans (congrArg some (by kernel_rfl))
 f317 := Tryd.func193.trans (congrArg some (by kernel_rfl))
 f318 := Tryd.func195.trans (congrArg some (by kernel_rfl))
 f319 := Tryd.func196.trans (congrArg some (by kernel_rfl))
 f320 := Tryd.func197.trans (congrArg some (by kernel_rfl))
 f337 := Tryd.func203.trans (congrArg some (by kernel_rfl))
 f338 := Tryd.func204.trans (congrArg some (by kernel_rfl))
 t0 := Tryd.underlying0
 a0 := Tryd.isAgg0
 z0 := Tryd.sizeOf0
 v0 := Tryd.zeroValue0
 t2 := Tryd.underlying2
 a2 := Tryd.isAgg2
 z2 := Tryd.sizeOf2
 v2 := Tryd.zeroValue2
 t3 := Tryd.underlying3
 a3 := Tryd.isAgg3
 z3 := Tryd.sizeOf3
 v3 := Tryd.zeroValue3
 t4 := Tryd.underlying4
 a4 := Tryd.isAgg4
 z4 := Tryd.sizeOf4
 v4 := Tryd.zeroValue4
 t5 := Tryd.underlying5
 a5 := Tryd.isAgg5
 z5 := Tryd.sizeOf5
 v5 := Tryd.zeroValue5
 t9 := Tryd.underlying9
 a9 := Tryd.isAgg9
 z9 := Tryd.sizeOf9
 v9 := Tryd.zeroValue9
 t20 := Tryd.underlying20
 a20 := Tryd.isAgg20
 z20 := Tryd.sizeOf20
 v20 := Tryd.zeroValue20
 t37 := Tryd.underlying157
 a37 := Tryd.isAgg157
 z37 := Tryd.sizeOf157
 v37 := Tryd.zeroValue157
 t46 := Tryd.underlying215
 a46 := Tryd.isAgg215
 z46 := Tryd.sizeOf215
 v46 := Tryd.zeroValue215
 t51 := Tryd.underlying228
 a51 := Tryd.isAgg228
 z51 := Tryd.sizeOf228
 v51 := Tryd.zeroValue228
 t53 := Tryd.underlying208
 a53 := Tryd.isAgg208
 z53 := Tryd.sizeOf208
 v53 := Tryd.zeroValue208
 t171 := Tryd.underlying207
 a171 := Tryd.isAgg207
 z171 := Tryd.sizeOf207
 v171 := Tryd.zeroValue207
 t173 := Tryd.underlying211
 a173 := Tryd.isAgg211
 z173 := Tryd.sizeOf211
 v173 := Tryd.zeroValue211
 t212 := Tryd.underlying227
 a212 := Tryd.isAgg227
 z212 := Tryd.sizeOf227
 v212 := Tryd.zeroValue227
 t213 := Tryd.underlying229
 a213 := Tryd.isAgg229
 z213 := Tryd.sizeOf229
 t232 := Tryd.underlying247
 a232 := Tryd.isAgg247
 z232 := Tryd.sizeOf247
 v232 := Tryd.zeroValue247
 t233 := Tryd.underlying248
 a233 := Tryd.isAgg248
 z233 := Tryd.sizeOf248
 v233 := Tryd.zeroValue248
 g17 := by kernel_rfl
 g18 := by kernel_rfl
 g19 := by kernel_rfl
 i0 := by kernel_rfl
 i2 := by kernel_rfl
 i3 := by kernel_rfl
 i4 := by kernel_rfl
 i5 := by kernel_rfl
 i9 := by kernel_rfl
 i20 := by kernel_rfl
 i37 := by kernel_rfl
 i46 := by kernel_rfl
 i51 := by kernel_rfl
 i53 := by kernel_rfl
 i171 := by kernel_rfl
 i173 := by kernel_rfl
 i212 := by kernel_rfl
 i232 := by kernel_rfl
 i233 := by kernel_rfl
 m17 := by kernel_rfl
 m18 := by kernel_rfl
 m19 := by kernel_rfl }
open Go.RowKit Go.Sort Go.Lib in
theorem Tryd.strconv_Itoa (n : Int) (h0 : -9223372036854775808 ≤ n) (h1 : n ≤ 9223372036854775807) (w : World) (htab : Lib.TabIs Tryd.prog w "internal/strconv.uint64pow10" .u64 Lib.pow10Tab) :
 Calls Tryd.prog 95 #[.int .i64 n] w fun e w' => e = .returned (.string ⟨(Lib.itoa n).toArray⟩) ∧ ∃ k os, w' = grow (w.drewN k) os := Any.strconv_Itoa Tryd.laysM171 n h0 h1 w htab
def Tryd.laysM316_ren : Go.Shelf.Ren := ⟨fun | 316 => 145 | n => n, fun | 9 => 9 | 3 => 3 | 4 => 4 | 37 => 157 | 0 => 0 | 127 => 203 | 5 => 5 | n => n, fun | n => n⟩
theorem Tryd.laysM316 : Go.Proofs.LaysM.n316 Tryd.prog Tryd.laysM316_ren := {
 mixed := by kernel_rfl
 f316 := Tryd.func145.trans (congrArg some (by kernel_rfl))
 t0 := Tryd.underlying0
 a0 := Tryd.isAgg0
 z0 := Tryd.sizeOf0
 v0 := Tryd.zeroValue0
 t3 := Tryd.underlying3
 a3 := Tryd.isAgg3
 z3 := Tryd.sizeOf3
 v3 := Tryd.zeroValue3
 t4 := Tryd.underlying4
 a4 := Tryd.isAgg4
 z4 := Tryd.sizeOf4
 v4 := Tryd.zeroValue4
 t9 := Tryd.underlying9
 a9 := Tryd.isAgg9
 z9 := Tryd.sizeOf9
 v9 := Tryd.zeroValue9
 t37 := Tryd.underlying157
 a37 := Tryd.isAgg157
 z37 := Tryd.sizeOf157
 v37 := Tryd.zeroValue157
 t127 := Tryd.underlying203
 a127 := Tryd.isAgg203
 z127 := Tryd.sizeOf203
 v127 := Tryd.zeroValue203
 t5 := Tryd.underlying5
 a5 := Tryd.isAgg5
 z5 := Tryd.sizeOf5
 v5 := Tryd.zeroValue5
 i0 := by kernel_rfl
 i3 := by kernel_rfl
 i4 := by kernel_rfl
 i5 := by kernel_rfl
 i9 := by kernel_rfl
 i37 := by kernel_rfl
 i127 := by kernel_rfl }
open Go.RowKit in
theorem Tryd.stringslite_Clone (s : ByteArray) (w : World) (hlim : s.size ≤ 281474976710656) :
 Calls Tryd.prog 145 #[.string s] w fun e w' => e = .returned (.string s) ∧ Below w.heap.size w w' := Any.stringslite_Clone Tryd.laysM316 s w hlim
def Tryd.laysC172_ren : Go.Shelf.Ren := ⟨fun | 172 => 144 | 244 => 168 | 245 => 169 | 247 => 185 | 279 => 186 | 280 => 187 | 281 => 188 | 282 => 189 | 287 => 200 | 316 => 145 | 171 => 95 | 205 => 201 | 321 => 205 | 322 => 206 | 243 => 137 | 246 => 162 | 283 => 176 | 284 => 177 | 285 => 178 | 286 => 179 | 129 => 194 | 317 => 193 | 318 => 195 | 319 => 196 | 320 => 197 | 337 => 203 | 338 => 204 | n => n, fun | 9 => 9 | 3 => 3 | 75 => 184 | 76 => 185 | 4 => 4 | 5 => 5 | 167 => 216 | 37 => 157 | 0 => 0 | 85 => 217 | 2 => 2 | 168 => 219 | 53 => 208 | 175 => 237 | 46 => 215 | 210 => 240 | 127 => 203 | 145 => 246 | 143 => 244 | 21 => 21 | 171 => 207 | 173 => 211 | 212 => 227 | 51 => 228 | 20 => 20 | 213 => 229 | 232 => 247 | 233 => 248 | 80 => 181 | n => n, fun | 15 => 6 | 16 => 7 | 17 => 3 | 18 => 8 | 19 => 9 | n => n⟩
theorem Tryd.laysC172 : Go.Proofs.LaysC.n172 Tryd.prog Tryd.laysC172_ren := {
 mixed := by kernel_rfl
 f129 := Tryd.func194.trans (congrArg some (by kernel_rfl))
 f171 := Tryd.func95.trans (congrArg some (by kernel_rfl))
 f172 := Tryd.func144.trans (congrArg some (by kernel_rfl))
 f205 := Tryd.func201.trans (congrArg some (by kernel_rfl))
 f243 := Tryd.func137.trans (congrArg some (by kernel_rfl))
 f244 := Tryd.func168.trans (congrArg some (by kernel_rfl))
 f245 := Tryd.func169.trans (congrArg some (by kernel_rfl))
 f246 := Tryd.func162.trans (congrArg some (by kernel_rfl))
 f247 := Tryd.func185.trans (congrArg some (by kernel_rfl))
 f279 := Tryd.func186.trans (congrArg some (by kernel_rfl))
 f280 := Tryd.func187.trans (congrArg some (by kernel_rfl))
 f281 := Tryd.func188.trans (congrArg some (by kernel_rfl))
 f282 := Tryd.func189.trans (congrArg some (by kernel_rfl))
 f283 := Tryd.func176.trans (congrArg some (by kernel_rfl))
 f284 := Tryd.func177.trans (congrArg some (by kernel_rfl))
 f285 := Tryd.func178.trans (congrArg some (by kernel_rfl))
 f286 := Tryd.func179.trans (congrArg some (by kernel_rfl))
 f287 := Tryd.func200.trans (congrArg some (by kernel_rfl))
 f316 := Tryd.func145.trans (congrArg some (by kernel_rfl))
 f317 := Tryd.func193.trans (congrArg some (by kernel_rfl))
 f318 := Tryd.func195.trans (congrArg some (by kernel_rfl))
 f319 := Tryd.func196.trans (congrArg some (by kernel_rfl))
 f320 := Tryd.func197.trans (congrArg some (by kernel_rfl))
 f321 := Tryd.func205.trans (congrArg some (by kernel_rfl))
 f322 := Tryd.func206.trans (congrArg some (by kernel_rfl))
 f337 := Tryd.func203.trans (congrArg some (by kernel_rfl))
 f338 := Tryd.func204.trans (congrArg some (by kernel_rfl))
 t0 := Tryd.underlying0
 a0 := Tryd.isAgg0
 z0 := Tryd.sizeOf0
 v0 := Tryd.zeroValue0
 t2 := Tryd.underlying2
 a2 := Tryd.isAgg2
 z2 := Tryd.sizeOf2
 v2 := Tryd.zeroValue2
 t3 := Tryd.underlying3
 a3 := Tryd.isAgg3
 z3 := Tryd.sizeOf3
 v3 := Tryd.zeroValue3
 t4 := Tryd.underlying4
 a4 := Tryd.isAgg4
 z4 := Tryd.sizeOf4
 v4 := Tryd.zeroValue4
 t5 := Tryd.underlying5
 a5 := Tryd.isAgg5
 z5 := Tryd.sizeOf5
 v5 := Tryd.zeroValue5
 t9 := Tryd.underlying9
 a9 := Tryd.isAgg9
 z9 := Tryd.sizeOf9
 v9 := Tryd.zeroValue9
 t20 := Tryd.underlying20
 a20 := Tryd.isAgg20
 z20 := Tryd.sizeOf20
 v20 := Tryd.zeroValue20
 t21 := Tryd.underlying21
 a21 := Tryd.isAgg21
 z21 := Tryd.sizeOf21
 v21 := Tryd.zeroValue21
 t37 := Tryd.underlying157
 a37 := Tryd.isAgg157
 z37 := Tryd.sizeOf157
 v37 := Tryd.zeroValue157
 t46 := Tryd.underlying215
 a46 := Tryd.isAgg215
 z46 := Tryd.sizeOf215
 v46 := Tryd.zeroValue215
 t51 := Tryd.underlying228
 a51 := Tryd.isAgg228
 z51 := Tryd.sizeOf228
 v51 := Tryd.zeroValue228
 t53 := Tryd.underlying208
 a53 := Tryd.isAgg208
 z53 := Tryd.sizeOf208
 v53 := Tryd.zeroValue208
 t75 := Tryd.underlying184
 a75 := Tryd.isAgg184
 z75 := Tryd.sizeOf184
 v75 := Tryd.zeroValue184
 t76 := Tryd.underlying185
 a76 := Tryd.isAgg185
 z76 := Tryd.sizeOf185
 v76 := Tryd.zeroValue185
 t85 := Tryd.underlying217
 a85 := Tryd.isAgg217
 z85 := Tryd.sizeOf217
 v85 := Tryd.zeroValue217
 t127 := Tryd.underlying203
 a127 := Tryd.isAgg203
 z127 := Tryd.sizeOf203
 v127 := Tryd.zeroValue203
 t143 := Tryd.underlying244
 a143 := Tryd.isAgg244
 z143 := Tryd.sizeOf244
 v143 := Tryd.zeroValue244
 t145 := Tryd.underlying246
 a145 := Tryd.isAgg246
 z145 := Tryd.sizeOf246
 v145 := Tryd.zeroValue246
 t167 := Tryd.underlying216
 a167 := Tryd.isAgg216
 z167 := Tryd.sizeOf216
 v167 := Tryd.zeroValue216
 t168 := Tryd.underlying219
 a168 := Tryd.isAgg219
 z168 := Tryd.sizeOf219
 v168 := Tryd.zeroValue219
 t171 := Tryd.underlying207
 a171 := Tryd.isAgg207
 z171 := Tryd.sizeOf207
 v171 := Tryd.zeroValue207
 t173 := Tryd.underlying211
 a173 := Tryd.isAgg211
 z173 := Tryd.sizeOf211
 v173 := Tryd.zeroValue211
 t175 := Tryd.underlying237
 a175 := Tryd.isAgg237
 z175 := Tryd.sizeOf237
 v175 := Tryd.zeroValue237
 t210 := Tryd.underlying240
 a210 := Tryd.isAgg240
 z210 := Tryd.sizeOf240
 v210 := Tryd.zeroValue240
 t212 := Tryd.underlying227
 a212 := Tryd.isAgg227
 z212 := Tryd.sizeOf227
 v212 := Tryd.zeroValue227
 t213 := Tryd.underlying229
 a213 := Tryd.isAgg229
 z213 := Tryd.sizeOf229
 t232 := Tryd.underlying247
 a232 := Tryd.isAgg247
 z232 := Tryd.sizeOf247
 v232 := Tryd.zeroValue247
 t233 := Tryd.underlying248
 a233 := Tryd.isAgg248
 z233 := Tryd.sizeOf248
 v233 := Tryd.zeroValue248
 g15 := by kernel_rfl
 g16 := by kernel_rfl
 g17 := by kernel_rfl
 g18 := by kernel_rfl
 g19 := by kernel_rfl
 t80 := Tryd.underlying181
 a80 := Tryd.isAgg181
 z80 := Tryd.sizeOf181
 v80 := Tryd.zeroValue181
 i0 := by kernel_rfl
 i2 := by kernel_rfl
 i3 := by kernel_rfl
 i4 := by kernel_rfl
 i5 := by kernel_rfl
 i9 := by kernel_rfl
 i20 := by kernel_rfl
 i21 := by kernel_rfl
 i37 := by kernel_rfl
 i46 := by kernel_rfl
 i51 := by kernel_rfl
 i53 := by kernel_rfl
 i75 := by kernel_rfl
 i76 := by kernel_rfl
 i80 := by kernel_rfl
 i85 := by kernel_rfl
 i127 := by kernel_rfl
 i143 := by kernel_rfl
 i145 := by kernel_rfl
 i167 := by kernel_rfl
 i168 := by kernel_rfl
 i171 := by kernel_rfl
 i173 := by kernel_rfl
 i175 := by kernel_rfl
 i210 := by kernel_rfl
 i212 := by kernel_rfl
 i232 := by kernel_rfl
 i233 := by kernel_rfl
 m15 := by kernel_rfl
 m16 := by kernel_rfl
 m17 := by kernel_rfl
 m18 := by kernel_rfl
 m19 := by kernel_rfl
 c0 := by kernel_rfl
 c2 := by kernel_rfl
 c3 := by kernel_rfl
 c4 := by kernel_rfl
 c5 := by kernel_rfl
 c9 := by kernel_rfl
 c20 := by kernel_rfl
 c21 := by kernel_rfl
 c37 := by kernel_rfl
 c46 := by kernel_rfl
 c51 := by kernel_rfl
 c53 := by kernel_rfl
 c75 := by kernel_rfl
 c76 := by kernel_rfl
 c80 := by kernel_rfl
 c85 := by kernel_rfl
 c127 := by kernel_rfl
 c143 := by kernel_rfl
 c145 := by kernel_rfl
 c167 := by kernel_rfl
 c168 := by kernel_rfl
 c171 := by kernel_rfl
 c173 := by kernel_rfl
 c175 := by kernel_rfl
 c210 := by kernel_rfl
 c212 := by kernel_rfl
 c213 := by kernel_rfl
 c232 := by kernel_rfl
 c233 := by kernel_rfl }
open Go.RowKit in
theorem Tryd.strconv_Atoi_ok (s : ByteArray) (hmax : s.size ≤ 9223372036854775806) (v : Int) (h : Lib.atoiAll s.data.toList = .ok v) (w : World) :
 Calls Tryd.prog 144 #[.string s] w fun e w' => e = .returned (.tuple #[.int .i64 v, .nilIface]) ∧ (w' = w ∨ ∃ t, w' = Lib.bytesWorld w 5 t) := Any.strconv_Atoi_ok Tryd.laysC172 s hmax v h w
open Go.RowKit in
theorem Tryd.strconv_Atoi_syntax_var (s : ByteArray) (hlim : s.size ≤ 281474976710656) (h : Lib.atoiAll s.data.toList = .«syntax») (tp : TypeId) (p : Value) (w : World) (hvar : w.var? Tryd.prog "strconv.ErrSyntax" = some #[.iface tp p]) :
 Calls Tryd.prog 144 #[.string s] w fun e w' => ∃ N, e = .returned (.tuple #[.int .i64 0, .iface 219 (.pointer (some ⟨N, 0, none⟩))]) ∧ w.heap.size ≤ N ∧ w'.heap[N]? = some (.cells #[.string ⟨#[65, 116, 111, 105]⟩, .string s, .iface tp p] 240 (0, 0)) ∧ Below w.heap.size w w' := Any.strconv_Atoi_syntax_var Tryd.laysC172 s hlim h tp p w hvar
def Tryd.lays219_ren : Go.Shelf.Ren := ⟨fun | 219 => 166 | 217 => 181 | 225 => 182 | 224 => 183 | 267 => 184 | 266 => 198 | 314 => 199 | n => n, fun | 9 => 9 | 3 => 3 | 4 => 4 | 5 => 5 | 46 => 215 | 146 => 235 | 51 => 228 | n => n, fun | 1 => 2 | n => n⟩
theorem Tryd.lays219 : Go.Proofs.Lays.n219 Tryd.prog Tryd.lays219_ren := {
 mixed := by kernel_rfl
 f217 := Tryd.func181.trans (congrArg some (by kernel_rfl))
 f219 := Tryd.func166.trans (congrArg some (by kernel_rfl))
 f224 := Tryd.func183.trans (congrArg some (by kernel_rfl))
 f225 := Tryd.func182.trans (congrArg some (by kernel_rfl))
 f266 := Tryd.func198.trans (congrArg some (by kernel_rfl))
 f267 := Tryd.func184.trans (congrArg some (by kernel_rfl))
 f314 := Tryd.func199.trans (congrArg some (by kernel_rfl))
 t3 := Tryd.underlying3
 a3 := Tryd.isAgg3
 z3 := Tryd.sizeOf3
 v3 := Tryd.zeroValue3
 t4 := Tryd.underlying4
 a4 := Tryd.isAgg4
 z4 := Tryd.sizeOf4
 v4 := Tryd.zeroValue4
 t5 := Tryd.underlying5
 a5 := Tryd.isAgg5
 z5 := Tryd.sizeOf5
 v5 := Tryd.zeroValue5
 t9 := Tryd.underlying9
 a9 := Tryd.isAgg9
 z9 := Tryd.sizeOf9
 v9 := Tryd.zeroValue9
 t46 := Tryd.underlying215
 a46 := Tryd.isAgg215
 z46 := Tryd.sizeOf215
 v46 := Tryd.zeroValue215
 t51 := Tryd.underlying228
 a51 := Tryd.isAgg228
 z51 := Tryd.sizeOf228
 v51 := Tryd.zeroValue228
 t146 := Tryd.underlying235
 a146 := Tryd.isAgg235
 z146 := Tryd.sizeOf235
 v146 := Tryd.zeroValue235
 g1 := by kernel_rfl }
open Go.RowKit Go.Lib in
theorem Tryd.stringslite_Index_one (s : ByteArray) (c : UInt8) (w : World) :
 Calls Tryd.prog 166 #[.string s, .string ⟨#[c]⟩] w fun e w' => e = .returned (.int .i64 (Lib.indexByte s.data.toList c)) ∧ w' = w := Any.stringslite_Index_one Tryd.lays219 s c w
def Tryd.lays143_ren : Go.Shelf.Ren := ⟨fun | 143 => 165 | 219 => 166 | 217 => 181 | 225 => 182 | 224 => 183 | 267 => 184 | 266 => 198 | 314 => 199 | n => n, fun | 9 => 9 | 3 => 3 | 4 => 4 | 5 => 5 | 46 => 215 | 146 => 235 | 51 => 228 | n => n, fun | 1 => 2 | n => n⟩
theorem Tryd.lays143 : Go.Proofs.Lays.n143 Tryd.prog Tryd.lays143_ren := {
 mixed := by kernel_rfl
 f143 := Tryd.func165.trans (congrArg some (by kernel_rfl))
 f217 := Tryd.func181.trans (congrArg some (by kernel_rfl))
 f219 := Tryd.func166.trans (congrArg some (by kernel_rfl))
 f224 := Tryd.func183.trans (congrArg some (by kernel_rfl))
 f225 := Tryd.func182.trans (congrArg some (by kernel_rfl))
 f266 := Tryd.func198.trans (congrArg some (by kernel_rfl))
 f267 := Tryd.func184.trans (congrArg some (by kernel_rfl))
 f314 := Tryd.func199.trans (congrArg some (by kernel_rfl))
 t3 := Tryd.underlying3
 a3 := Tryd.isAgg3
 z3 := Tryd.sizeOf3
 v3 := Tryd.zeroValue3
 t4 := Tryd.underlying4
 a4 := Tryd.isAgg4
 z4 := Tryd.sizeOf4
 v4 := Tryd.zeroValue4
 t5 := Tryd.underlying5
 a5 := Tryd.isAgg5
 z5 := Tryd.sizeOf5
 v5 := Tryd.zeroValue5
 t9 := Tryd.underlying9
 a9 := Tryd.isAgg9
 z9 := Tryd.sizeOf9
 v9 := Tryd.zeroValue9
 t46 := Tryd.underlying215
 a46 := Tryd.isAgg215
 z46 := Tryd.sizeOf215
 v46 := Tryd.zeroValue215
 t51 := Tryd.underlying228
 a51 := Tryd.isAgg228
 z51 := Tryd.sizeOf228
 v51 := Tryd.zeroValue228
 t146 := Tryd.underlying235
 a146 := Tryd.isAgg235
 z146 := Tryd.sizeOf235
 v146 := Tryd.zeroValue235
 g1 := by kernel_rfl }
open Go.RowKit Go.Lib in
theorem Tryd.strings_Index_one (s : ByteArray) (c : UInt8) (w : World) :
 Calls Tryd.prog 165 #[.string s, .string ⟨#[c]⟩] w fun e w' => e = .returned (.int .i64 (Lib.indexByte s.data.toList c)) ∧ w' = w := Any.strings_Index_one Tryd.lays143 s c w
def Tryd.lays101_ren : Go.Shelf.Ren := ⟨fun | 101 => 143 | 208 => 167 | 206 => 170 | n => n, fun | 9 => 9 | 4 => 4 | 3 => 3 | n => n, fun | n => n⟩
theorem Tryd.lays101 : Go.Proofs.Lays.n101 Tryd.prog Tryd.lays101_ren := {
 mixed := by kernel_rfl
 f101 := Tryd.func143.trans (congrArg some (by kernel_rfl))
 f206 := Tryd.func170.trans (congrArg some (by kernel_rfl))
 f208 := Tryd.func167.trans (congrArg some (by kernel_rfl))
 t3 := Tryd.underlying3
 a3 := Tryd.isAgg3
 z3 := Tryd.sizeOf3
 v3 := Tryd.zeroValue3
 t4 := Tryd.underlying4
 a4 := Tryd.isAgg4
 z4 := Tryd.sizeOf4
 v4 := Tryd.zeroValue4
 t9 := Tryd.underlying9
 a9 := Tryd.isAgg9
 z9 := Tryd.sizeOf9
 v9 := Tryd.zeroValue9 }
open Go.RowKit Go.Lib in
theorem Tryd.strings_TrimPrefix (s p : ByteArray) (w : World) :
 Calls Tryd.prog 143 #[.string s, .string p] w fun e w' => e = .returned (.string ⟨(Lib.trimPrefix s.data.toList p.data.toList).toArray⟩) ∧ w' = w := Any.strings_TrimPrefix Tryd.lays101 s p w
end Go.Proofs
namespace Go.Proofs.YtodckioppgjbdaaDoor.AM
open Go Go.RowKit
theorem aE2 {P : Program} {f : FuncId} {args : List AV} {v : Value} (hent : ∀ vs w, (callFunc f vs).run P w = .ok (.enter f vs) w) (hv : v.oneCell' = true)
 (h : ∀ (w : World) (S0 : Nat → Prop) (us : List Value), (∀ b, S0 b → b < w.heap.size) → (∀ g y, GT g = some y → RG S0 w g y) → RVs S0 w (fun _ => none) (fun _ => 0) (fun _ => undef) args us → Calls P f us.toArray w fun e w' => e = .returned v ∧ Below w.heap.size w w') : AC P f args ⟨.v v, []⟩ := by
 refine ⟨hent, fun w S0 B0 V0 T0 vs hS hG _ hv' => (h w S0 vs hS hG (jD (fun _ => rfl) hv')).mono fun e w' ⟨he, hb⟩ => ?_⟩
 exact ⟨v, S0, fun _ => 0, fun _ => undef, fun _ => Fa, fun _ => Fa, he, Grown.of hb _, fun _ h => h, fun b hb' => ⟨Nat.lt_of_lt_of_le (hS b hb') hb.size, .inl hb'⟩, (by unfold RV; exact ⟨rfl, hv⟩), zf vZ, zf (fun _ => rfl), fun l l' ob ob' g e => by rw [vZ] at e; cases e⟩
theorem aDI {α : Type} (f : α → Value) : ∀ (l : List α), asz (.agg (l.map fun x => .v (f x))) = l.length
 | [] => rfl
 | x :: l => by
  have h2 : xA (l.map fun x => .v (f x)) = l.length := aDI f l
  rw [List.map_cons]
  show 1 + xA _ = _
  rw [h2, List.length_cons]; omega
theorem aIk {P : Program} {S0 : Nat → Prop} {w : World} {g : Nat} {name : String} {k : IntKind} {zs : List Int} (hg : P.globalNamed name = some g) (h : RG S0 w g (.agg (zs.map fun x => .v (.int k x)))) : Lib.TabIs P w name k zs := by
 have h1 := h.ra rfl
 obtain ⟨cs, t, p, hb, hn⟩ := h.full
 unfold Lib.TabIs World.var?
 rw [hg]
 simp only [Option.bind_some, hb, Option.some.injEq]
 unfold RA at h1
 obtain ⟨b, off, us, e, _, h2, h3⟩ := h1
 simp only [List.cons.injEq, Value.pointer.injEq, Option.some.injEq, Addr.mk.injEq, and_true] at e
 obtain ⟨rfl, rfl⟩ := e
 unfold RA at h2
 have hus : us = zs.map fun z => Value.int k z := by
  clear h3 hn h
  induction zs generalizing us with
  | nil => unfold List.map RL at h2; exact h2
  | cons z zs ih =>
   rw [List.map_cons] at h2
   unfold RL at h2
   obtain ⟨c1, c2, rfl, k1, k2⟩ := h2
   unfold RA at k1
   rw [k1.1, ih _ k2]; rfl
 subst hus
 have hsz : cs.size = zs.length := by
  have hn' : cs.size = asz (.agg (zs.map fun x => .v (.int k x))) := hn
  rw [hn', aDI]
 apply Array.ext
 · simp [hsz]
 · intro i hi hi2
   have hi3 : i < zs.length := by omega
   have := h3 i (.int k zs[i]) (by rw [List.getElem?_map, List.getElem?_eq_getElem hi3]; rfl)
   rw [Nat.zero_add, Lib.cell_of_heap hb] at this
   rw [Array.getElem?_eq_getElem hi, Option.some.injEq] at this
   rw [this]; simp
theorem aDO : ∀ (n : Nat), Lib.decDigits n = uf n := fun n => by
 induction n using Nat.strongRecOn with
 | _ n ih =>
  rw [Lib.decDigits, uf]
  by_cases h : n < 10
  · rw [dif_pos h, dif_pos h]
  · rw [dif_neg h, dif_neg h, ih (n / 10) (by omega)]
theorem aIW {n : Int} : (⟨(Lib.itoa n).toArray⟩ : ByteArray) = zU n := by
 unfold Lib.itoa zU
 split
 · rw [aDO]
   apply ByteArray.ext
   rw [ByteArray.data_append]
   unfold zC
   have : n.natAbs = (-n).toNat := by omega
   rw [this]; simp
 · rw [aDO]; rfl
theorem kU : ∀ (l : List UInt8) (acc : Nat) (b : UInt8), Lib.decFrom acc (l ++ [b]) = (match Lib.decFrom acc l with | none => none | some n => match Lib.digitVal b with | none => none | some d => some (n * 10 + d))
 | [], acc, b => by
  simp only [List.nil_append, Lib.decFrom]
  cases Lib.digitVal b <;> rfl
 | a :: l, acc, b => by
  simp only [List.cons_append, Lib.decFrom]
  cases Lib.digitVal a with
  | none => rfl
  | some d => exact kU l _ b
theorem aDi {t : ByteArray} : ∀ (i : Nat), i ≤ t.size → zJ t i = Lib.decFrom 0 (t.data.toList.take i)
 | 0, _ => rfl
 | i + 1, h => by
  have hl : i < t.data.toList.length := by rw [Array.length_toList]; exact h
  have hb : t.data.toList[i] = t[i] := by rw [Array.getElem_toList]; rfl
  rw [wY (by omega), List.take_succ_eq_append_getElem hl, kU, ← aDi i (by omega), hb]
  cases zJ t i with
  | none => rfl
  | some n =>
   dsimp only
   unfold Lib.digitVal
   by_cases hd : 48 ≤ (t[i]).toNat ∧ (t[i]).toNat ≤ 57
   · rw [if_pos hd, if_pos hd]
     dsimp only
     congr 1; omega
   · rw [if_neg hd, if_neg hd]
theorem aGl {t : ByteArray} : zJ t t.size = Lib.decFrom 0 t.data.toList := by
 rw [aDi t.size (Nat.le_refl _), List.take_of_length_le (by rw [Array.length_toList]; exact Nat.le_refl _)]
theorem aEN {b : UInt8} {d : Nat} (h : Lib.digitVal b = some d) : d < 10 ∧ b = UInt8.ofNat (48 + d) := by
 unfold Lib.digitVal at h
 split at h
 · rename_i hb
   simp only [Option.some.injEq] at h
   refine ⟨by omega, ?_⟩
   apply UInt8.toNat_inj.1
   rw [aA9 (by omega)]; omega
 · cases h
theorem aFn : ∀ (k : Nat) (L : List UInt8) (m : Nat), L.length = k → Lib.decFrom 0 L = some m → L ≠ [] → (L.head? ≠ some 48 ∨ L.length = 1) → uf m = L := by
 intro k
 induction k with
 | zero => intro L m hk _ hne; exact absurd (List.eq_nil_of_length_eq_zero hk) hne
 | succ k ih =>
  intro L m hk hd hne hh
  obtain ⟨L', b, rfl⟩ : ∃ L' b, L = L' ++ [b] := ⟨L.dropLast, L.getLast hne, (List.dropLast_concat_getLast hne).symm⟩
  rw [kU] at hd
  have hk' : L'.length = k := by simpa using hk
  cases hm : Lib.decFrom 0 L' with
  | none => rw [hm] at hd; cases hd
  | some m' =>
   rw [hm] at hd
   dsimp only at hd
   cases hv : Lib.digitVal b with
   | none => rw [hv] at hd; cases hd
   | some d =>
    rw [hv] at hd
    simp only [Option.some.injEq] at hd
    obtain ⟨h1, h2⟩ := aEN hv
    by_cases h0 : L' = []
    · subst h0
      simp only [Lib.decFrom, Option.some.injEq] at hm
      subst hm
      rw [kV (by omega), List.nil_append, h2]
      congr 2; omega
    · have hh' : L'.head? ≠ some 48 := by
       rcases hh with hh | hh
       · intro e
         refine hh ?_
         cases L' with
         | nil => cases e
         | cons a r => exact e
       · have : 0 < L'.length := List.length_pos_iff.2 h0
         rw [List.length_append] at hh; simp only [List.length_cons, List.length_nil] at hh; omega
      have h3 := ih L' m' hk' hm h0 (.inl hh')
      have hpos : 1 ≤ m' := by
       rcases Nat.eq_zero_or_pos m' with e | e
       · subst e
         rw [kV (by omega)] at h3
         exact absurd (by rw [← h3]; rfl) hh'
       · exact e
      have hm10 : ¬ m < 10 := by omega
      rw [qj hm10, ← hd, show (m' * 10 + d) / 10 = m' by omega, show (m' * 10 + d) % 10 = d by omega, h3, h2]
theorem aDg {n : Nat} {sg : Bool} (hz : (zC n).size ≤ 18) (hs : sg = true → 0 < n) : nmR (zC n) sg = (if sg = true then -(n : Int) else n, true) := by
 have hp : 0 < (zC n).size := by rw [wV]; exact aDQ
 refine aCv (by omega) (by omega) ?_ aG8
 rintro ⟨⟨h, h48⟩, h2⟩
 by_cases h0 : 0 < n
 · obtain ⟨b, r, e, hb⟩ := aFm h0
   rw [aFk] at h48
   simp only [e, List.getElem_cons_zero] at h48
   exact hb h48
 · have e0 : n = 0 := by omega
   subst e0
   rcases h2 with h2 | h2
   · rw [wV, kV (by omega)] at h2; simp at h2
   · exact absurd (hs h2) (by omega)
theorem aCO {n : Int} : (n < 0 → zl (zU n) = true ∧ xh (zU n) = zC (-n).toNat) ∧ (¬ n < 0 → zl (zU n) = false ∧ xh (zU n) = zC n.toNat) := by
 constructor
 · intro h
   have e : zU n = ⟨#[45]⟩ ++ zC (-n).toNat := by unfold zU; rw [if_pos h]
   have es : (zU n).size = 1 + (zC (-n).toNat).size := by rw [e, ByteArray.size_append]; rfl
   have hs : zl (zU n) = true := by
    rw [jr (by omega), decide_eq_true_eq]
    simp only [e]
    rw [ByteArray.getElem_append_left (by show 0 < 1; omega)]
    rfl
   refine ⟨hs, ?_⟩
   unfold xh
   rw [hs, if_pos rfl, es, e]
   exact ByteArray.extract_append_eq_right (by rfl) (by rfl)
 · intro h
   have e : zU n = zC n.toNat := by unfold zU; rw [if_neg h]
   have hp : 0 < (zC n.toNat).size := by rw [wV]; exact aDQ
   have hs : zl (zU n) = false := by
    rw [e, jr hp, decide_eq_false_iff_not]
    have := aDP (n := n.toNat) ((uf n.toNat)[0]'(by rw [← wV]; exact hp)) (List.getElem_mem _)
    rw [aFk]; omega
   exact ⟨hs, by unfold xh; rw [hs, if_neg (by simp), e]⟩
theorem aGD {n : Int} (hz : (xh (zU n)).size ≤ 18) : yP (zU n) = (n, true) := by
 rw [aEg]
 by_cases h : n < 0
 · obtain ⟨hs, hb⟩ := aCO.1 h
   rw [hb] at hz
   rw [hs, hb, aDg hz (fun _ => by omega), if_pos rfl]
   congr 1; omega
 · obtain ⟨hs, hb⟩ := aCO.2 h
   rw [hb] at hz
   rw [hs, hb, aDg hz (fun h => by cases h), if_neg (by simp)]
   congr 1; omega
theorem aBa {t : ByteArray} (h : (yP t).2 = false) : yP t = (0, false) := by
 unfold yP at h ⊢
 split
 · rfl
 · rename_i h1
   rw [if_neg h1] at h
   split
   · rfl
   · rename_i h2
     rw [if_neg h2] at h
     cases hn : zJ (xh t) (xh t).size with
     | none => rfl
     | some n => rw [hn] at h; cases h
theorem qN {t : ByteArray} {n : Int} (h : yP t = (n, true)) : t = zU n ∧ (xh t).size ≤ 18 ∧ ∃ m : Nat, Lib.decFrom 0 (xh t).data.toList = some m ∧ (xh t).data.toList ≠ [] ∧ n = (if zl t = true then -(m : Int) else m) := by
 unfold yP at h
 split at h
 · cases h
 rename_i h1
 split at h
 · cases h
 rename_i h2
 cases hn : zJ (xh t) (xh t).size with
 | none => rw [hn] at h; cases h
 | some m =>
  rw [hn] at h
  simp only [Prod.mk.injEq, and_true] at h
  have hd := hn
  rw [aGl] at hd
  have hlen : (xh t).data.toList.length = (xh t).size := by rw [Array.length_toList]; rfl
  have hne : (xh t).data.toList ≠ [] := by intro e; rw [e] at hlen; simp at hlen; omega
  have hat : ∀ hp : 0 < (xh t).size, (xh t).data.toList.head? = some (xh t)[0] := fun hp => by
   rw [List.head?_eq_getElem?, List.getElem?_eq_getElem (by omega)]
   congr 1
  have hc := aFn _ _ m rfl hd hne (by
   by_cases h1' : (xh t).data.toList.length = 1
   · exact .inr h1'
   · left
     intro e
     have hp : 0 < (xh t).size := by omega
     rw [hat hp] at e
     exact h2 ⟨⟨hp, by rw [Option.some.inj e]; rfl⟩, .inl (by omega)⟩)
  have hB : zC m = xh t := by
   apply ByteArray.ext
   show (uf m).toArray = _
   rw [hc]
  refine ⟨?_, by omega, m, hd, hne, h.symm⟩
  cases hs : zl t with
  | true =>
   rw [hs, if_pos rfl] at h
   have hp0 : 0 < t.size := by
    unfold zl at hs
    split at hs
    · assumption
    · cases hs
   have hm0 : 0 < m := by
    rcases Nat.eq_zero_or_pos m with e | e
    · exfalso
      subst e
      have e0 : zC 0 = ⟨#[48]⟩ := by rw [aFl (by omega)]; rfl
      refine h2 ⟨⟨by omega, ?_⟩, .inr hs⟩
      simp only [← hB, e0]
      rfl
    · exact e
   have e1 : zU n = ⟨#[45]⟩ ++ zC m := by
    unfold zU
    rw [if_pos (by omega)]
    congr 2; omega
   rw [e1, hB]
   have hb : xh t = t.extract 1 t.size := by unfold xh; rw [hs, if_pos rfl]
   have h45 : t[0] = 45 := by
    rw [jr hp0, decide_eq_true_eq] at hs
    exact UInt8.toNat_inj.1 hs
   rw [hb]
   have : (⟨#[45]⟩ : ByteArray) = t.extract 0 1 := by
    apply ByteArray.ext
    rw [ByteArray.data_extract]
    apply Array.ext
    · simp; have : t.data.size = t.size := rfl; omega
    · intro i h1 h2
      simp at h1
      subst h1
      simp only [Array.getElem_extract]
      exact h45.symm
   rw [this, ByteArray.extract_append_extract, Nat.min_eq_left (by omega), Nat.max_eq_right (by omega)]
   simp
  | false =>
   rw [hs, if_neg (by simp)] at h
   have e1 : zU n = zC m := by
    unfold zU
    rw [if_neg (by omega)]
    congr 1; omega
   have hb : xh t = t := by unfold xh; rw [hs, if_neg (by simp)]
   rw [e1, hB, hb]
section
variable {F : Fence} {n : Nat} {P : Program}
structure Std (c d : Nat) (A B : World) : Prop where
 size : A.heap.size ≤ B.heap.size
 hc : B.heap[c]? = A.heap[c]?
 hd : B.heap[d]? = A.heap[d]?
 hl : B.heap[d + 1]? = A.heap[d + 1]?
def Odd (c d : Nat) (k : Nat) : Prop := k = c ∨ k = d ∨ k = d + 1
def aHa {α : Type} (c d : Nat) (I Ix : List α → World → Prop) (xs : List α) (W : World) : Exit → Act → World → Prop
 | .normal, _, W' => Std c d W W' ∧ I xs W'
 | .ret, _, W' => Std c d W W' ∧ Ix xs W'
 | _, _, _ => False
theorem yL {W : World} {l : Nat} (o : Obj) {M : Nat → Prop} (h : M l) : Grown W (W.putObj l o) M :=
 ⟨rfl, rfl, rfl, by simp, fun k _ hM => World.putObj_heap_other (fun e => hM (e ▸ h))⟩
theorem aAj {α : Type} {g : Operand} {ps : Array Tmp} {assign body : Code} {Q : Exit → Act → World → Prop} {a : Act} {w : World}
 (hro : F.round = none) (h1 : 1 ≤ n) {gf : Nat} {lb : Array Value} (hg : a.eval g = .func (.func gf) #[] lb) (hFg : F.fn gf) (eg : ∀ args w, (callFunc gf args).run P w = .ok (.enter gf args) w)
 {encs : α → Array Value} {S Sp : List α → Prop} {N : Nat} (Ok : α → Prop) (hps : ∀ x, (encs x).size = ps.size) (c : Nat) (hc : c < w.heap.size) (I Ix : List α → World → Prop)
 (hit : ∀ (l : Nat) (J Jx : List α → World → Prop) (W : World), Grown w W (fun _ => False) → (∀ xs A, J xs A → I xs A) → (∀ xs A B, J xs A → Grown A B (fun k => k = c) → J xs B) → (∀ xs A B, Jx xs A → Grown A B (fun k => k = c) → Jx xs B) →
  (∀ pre x W1, Ok x → J pre W1 → pre.length < N → YieldAt F (n - 1 - 1) P l (encs x) W1 fun e W' => (e = .returned (.bool true) ∧ J (pre ++ [x]) W' ∧ W'.heap[c]? = W1.heap[c]?) ∨ (e = .returned (.bool false) ∧ Jx (pre ++ [x]) W')) →
  J [] W → CallsIn F (n - 1) P gf (#[.func (.yield l) #[] #[]] ++ lb) W fun e W' => (∃ v, e = .returned v) ∧ ((∃ xs, S xs ∧ J xs W') ∨ (∃ pre, Sp pre ∧ Jx pre W')))
 (hI : ∀ xs A B, I xs A → Grown A B (Odd c w.heap.size) → I xs B) (hIx : ∀ xs A B, Ix xs A → Grown A B (Odd c w.heap.size) → Ix xs B) (h0 : I [] w) (a₁ : α → Act)
 (hassign : ∀ (l : Nat) (x : α) (W : World) (K : Act → World → Prop), K (a₁ x) W → assign.wpIn (F.inRound l) (n - 1 - 1) P (Exit.then K (fun _ _ _ => False)) { tmps := (ps.zip (encs x)).foldl (fun t (p, v) => t.setIfInBounds p v) a.tmps, defers := [] } W)
 (hbody : ∀ (l : Nat) (pre : List α) (x : α) (W : World), w.heap.size + 2 ≤ W.heap.size → Ok x → I pre W → pre.length < N → body.wpIn (F.inRound l) (n - 1 - 1) P (aHa c w.heap.size I Ix (pre ++ [x]) W) (a₁ x) W)
 (hdone : ∀ (D : Nat) (xs : List α) (W : World), w.heap.size ≤ D → D < W.heap.size → S xs → I xs W → W.heap[D]? = some (.deferred (some [])) → Q .normal { a with defers := { target := .collected D, args := #[] } :: a.defers } W)
 (hstop : ∀ (D : Nat) (pre : List α) (W : World), w.heap.size ≤ D → D < W.heap.size → Sp pre → Ix pre W → W.heap[D]? = some (.deferred (some [])) → Code.ret.wpIn F n P Q { a with defers := { target := .collected D, args := #[] } :: a.defers } W) :
 (Code.rangeFunc g ps assign body).wpIn F n P Q a w := by
 refine wpIn_rangeFunc fun fn hfn => ?_
 rw [hro]
 let d := w.heap.size
 let rec_ : LoopState → Option Code → Obj := fun st pe => .loop { state := st, pending := pe, fn, tmps := a.tmps, params := ps, assign, body, defers := w.heap.size }
 let W1 := (w.alloc (.deferred (some []))).alloc (rec_ .ready none)
 have s1 : W1.heap.size = d + 2 := by show ((w.heap.push _).push _).size = _; simp [d]
 have bD : W1.heap[d]? = some (.deferred (some [])) := (Below.heap_alloc _ _ _ (by simp [d])).trans (World.alloc_heap_new w _)
 have bL : W1.heap[d + 1]? = some (rec_ .ready none) := by
  have := World.alloc_heap_new (w.alloc (.deferred (some []))) (rec_ .ready none)
  rwa [World.size_alloc] at this
 have g1 : Grown w W1 (fun _ => False) := Grown.of (((Below.refl _ w).alloc (Nat.le_refl _) _).alloc (by simp) _) _
 refine ⟨d + 1, [{ target := .collected d, args := #[] }], W1, { target := .fn (.func gf) lb, args := #[.func (.yield (d + 1)) #[] #[]] }, W1, gf, #[.func (.yield (d + 1)) #[] #[]] ++ lb, W1, run_enterLoop_outer _ _ _ _ _, ?_, ?_, ?_, fun _ => h1, ?_⟩
 · simp only [resolve, hg]; simp [go_sem]
 · intro f' hf'; simp [Target.leads] at hf'; subst hf'; exact hFg
 · simp [invoke, go_sem, eg]
 let J : List α → World → Prop := fun xs W => I xs W ∧ W.heap[d + 1]? = some (rec_ .ready none) ∧ W.heap[d]? = some (.deferred (some []))
 let Jx : List α → World → Prop := fun xs W => Ix xs W ∧ W.heap[d + 1]? = some (rec_ .done (some .ret)) ∧ W.heap[d]? = some (.deferred (some []))
 have in_ : ∀ {W : World} {k : Nat} {o : Obj}, W.heap[k]? = some o → k < W.heap.size := fun h => (Array.getElem?_eq_some_iff.1 h).1
 have kp : ∀ {A B : World} {k : Nat} {o : Obj}, Grown A B (fun k => k = c) → k ≠ c → A.heap[k]? = some o → B.heap[k]? = some o := fun hg hk h => (hg.block _ (in_ h) hk).trans h
 have wk : ∀ {A B : World}, Grown A B (fun k => k = c) → Grown A B (Odd c d) := fun hg => ⟨hg.os, hg.tape, hg.output, hg.size, fun k hk hM => hg.block k hk (fun e => hM (.inl e))⟩
 have ndc : d ≠ c := by show w.heap.size ≠ c; omega
 have nlc : d + 1 ≠ c := by show w.heap.size + 1 ≠ c; omega
 have hrun := hit (d + 1) J Jx W1 g1 (fun xs A q => q.1) (fun xs A B ⟨q1, q2, q3⟩ hg => ⟨hI xs A B q1 (wk hg), kp hg nlc q2, kp hg ndc q3⟩) (fun xs A B ⟨q1, q2, q3⟩ hg => ⟨hIx xs A B q1 (wk hg), kp hg nlc q2, kp hg ndc q3⟩) ?_ ⟨hI [] w W1 h0 ⟨g1.os, g1.tape, g1.output, g1.size, fun k hk _ => g1.block k hk (fun h => h)⟩, bL, bD⟩
 · refine hrun.mono ?_
   rintro e W2 ⟨⟨v, rfl⟩, ⟨xs, hS, q1, q2, q3⟩ | ⟨pre, hSp, q1, q2, q3⟩⟩
   · refine ⟨none, _, run_endLoop (P := P) q2 (by simp), hdone d xs _ (Nat.le_refl _) (by simpa using in_ q3) hS (hI xs W2 _ q1 (yL _ (.inr (.inr rfl)))) ((World.putObj_heap_other (by omega)).trans q3)⟩
   · refine ⟨some .ret, _, run_endLoop (P := P) q2 (by simp), hstop d pre _ (Nat.le_refl _) (by simpa using in_ q3) hSp (hIx pre W2 _ q1 (yL _ (.inr (.inr rfl)))) ((World.putObj_heap_other (by omega)).trans q3)⟩
 rintro pre x W hok ⟨q1, q2, q3⟩ hlen
 refine ⟨fn, _, assign, body, run_yield (P := P) (args := encs x) q2 (hps x), roundIn_of_wpIn hfn (hassign _ x W _ ?_)⟩
 refine ⟨_, run_beginRound q2 rfl, ?_⟩
 let V := W.putObj (d + 1) (rec_ .busy none)
 have vL : V.heap[d + 1]? = some (rec_ .busy none) := World.putObj_heap_same (in_ q2)
 have vD : V.heap[d]? = some (.deferred (some [])) := (World.putObj_heap_other (by omega)).trans q3
 have vC : V.heap[c]? = W.heap[c]? := World.putObj_heap_other (fun e => nlc e.symm)
 have vs : d + 2 ≤ V.heap.size := by have := in_ vL; omega
 refine wpIn_mono (hbody _ pre x V vs hok (hI pre W V q1 (yL _ (.inr (.inr rfl)))) hlen) fun e a3 W3 hp => ?_
 have fin : ∀ (jump : Option Code), Std c d V W3 → (Instr.endRound (d + 1) jump).run P W3 = .ok (.bool jump.isNone) (W3.putObj (d + 1) (rec_ (if jump.isNone then .ready else .done) jump)) ∧ d + 1 < W3.heap.size ∧ (W3.putObj (d + 1) (rec_ (if jump.isNone then .ready else .done) jump)).heap[d]? = some (.deferred (some [])) ∧ (W3.putObj (d + 1) (rec_ (if jump.isNone then .ready else .done) jump)).heap[c]? = W.heap[c]? := fun jump st => by
  have wL : W3.heap[d + 1]? = some (rec_ .busy none) := st.hl.trans vL
  exact ⟨run_endRound (P := P) jump wL, in_ wL, (World.putObj_heap_other (by omega)).trans (st.hd.trans vD), (World.putObj_heap_other (fun e => nlc e.symm)).trans (st.hc.trans vC)⟩
 cases e with
 | normal =>
  obtain ⟨st, q⟩ := hp
  obtain ⟨r1, r2, r3, r4⟩ := fin none st
  exact ⟨_, _, r1, .inl ⟨rfl, ⟨hI _ _ _ q (yL _ (.inr (.inr rfl))), World.putObj_heap_same r2, r3⟩, r4⟩⟩
 | ret =>
  obtain ⟨st, q⟩ := hp
  obtain ⟨r1, r2, r3, r4⟩ := fin (some .ret) st
  exact ⟨_, _, r1, .inr ⟨rfl, hIx _ _ _ q (yL _ (.inr (.inr rfl))), World.putObj_heap_same r2, r3⟩⟩
 | exit id => exact hp.elim
 | goto t => exact hp.elim
 | panic ch => exact hp.elim
 | outgrown => exact hp.elim
end
end Go.Proofs.YtodckioppgjbdaaDoor.AM
namespace Go.Proofs.YtodckioppgjbdaaDoor.AM
open Go Go.RowKit Go.Shelf
attribute [local go_sem] Oper.semAt_some
theorem ext_list {t : ByteArray} {j : Nat} : (t.extract j t.size).data.toList = t.data.toList.drop j := by
 rw [ByteArray.data_extract, Array.toList_extract, List.extract_eq_take_drop]
 have : t.data.toList.length = t.size := by rw [Array.length_toList]; rfl
 rw [List.take_of_length_le (by rw [List.length_drop]; omega)]
theorem kK {t : ByteArray} {k : Nat} (h : k < t.size) : t.data.toList[k]? = some t[k] := by
 have h1 : k < t.data.size := h
 rw [Array.getElem?_toList, Array.getElem?_eq_getElem h1]; rfl
theorem aAp {t : ByteArray} {c j : Nat} : ∀ {m : Nat}, j + m ≤ t.size → (∀ k, ∀ h : k < t.size, j ≤ k → k < j + m → (t[k]).toNat ≠ c) → y8 t c (j + m) = y8 t c j
 | 0, _, _ => rfl
 | m + 1, h, hn => by
  rw [← Nat.add_assoc, jb (by omega), if_neg (hn (j + m) (by omega) (by omega) (by omega)), aAp (by omega) fun k h h1 h2 => hn k h h1 (by omega)]
theorem aDL {t : ByteArray} {c : Nat} : ∀ (m i : Nat), i + m ≤ t.size → (y8 t c i).1 <+: (y8 t c (i + m)).1
 | 0, i, _ => List.prefix_refl _
 | m + 1, i, h => by
  have h1 := aDL (t := t) (c := c) m i (by omega)
  rw [← Nat.add_assoc, jb (by omega)]
  split
  · exact h1.trans (List.prefix_append _ _)
  · exact h1
theorem aIA {t : ByteArray} {c i : Nat} (h : i ≤ t.size) : (y8 t c i).1 <+: xY t c := by
 have h1 := aDL (t := t) (c := c) (t.size - i) i (by omega)
 rw [show i + (t.size - i) = t.size by omega] at h1
 unfold xY
 exact h1.trans (List.prefix_append _ _)
theorem aBo {t : ByteArray} {c : UInt8} {j : Nat} {pre : List ByteArray} (hj : j ≤ t.size) (h : y8 t c.toNat j = (pre, j)) (hi : Lib.indexByte (t.extract j t.size).data.toList c = -1) : xY t c.toNat = pre ++ [t.extract j t.size] := by
 have hn := Lib.indexByte_none hi
 rw [ext_list] at hn
 have hg : y8 t c.toNat (j + (t.size - j)) = y8 t c.toNat j := aAp (by omega) fun k hk h1 h2 e => by
  refine hn (k - j) ?_
  rw [List.getElem?_drop, show j + (k - j) = k by omega, kK hk]
  exact congrArg some (UInt8.toNat_inj.1 e)
 rw [show j + (t.size - j) = t.size by omega] at hg
 unfold xY
 rw [hg, h]
theorem aAq {t : ByteArray} {c : UInt8} {j i : Nat} {pre : List ByteArray} (hj : j ≤ t.size) (h : y8 t c.toNat j = (pre, j)) (hi : Lib.indexByte (t.extract j t.size).data.toList c = (i : Int)) : j + i < t.size ∧ y8 t c.toNat (j + i + 1) = (pre ++ [t.extract j (j + i)], j + i + 1) := by
 obtain ⟨h1, h2⟩ := Lib.indexByte_some hi
 rw [ext_list] at h1 h2
 rw [List.getElem?_drop] at h1
 have hlt : j + i < t.size := by
  have := (List.getElem?_eq_some_iff.1 h1).1
  rw [Array.length_toList] at this; exact this
 refine ⟨hlt, ?_⟩
 have hg : y8 t c.toNat (j + i) = y8 t c.toNat j := aAp (by omega) fun k hk h3 h4 e => by
  refine h2 (k - j) (by omega) ?_
  rw [List.getElem?_drop, show j + (k - j) = k by omega, kK hk]
  exact congrArg some (UInt8.toNat_inj.1 e)
 rw [kK hlt] at h1
 rw [jb hlt, if_pos (by rw [Option.some.inj h1]), hg, h]
def aFN (b : Nat) (w : World) : Nat := match w.cell? ⟨b, 0, none⟩ with | some (.string r) => r.size | _ => 0
theorem aD5 {b : Nat} {w : World} {ty : TypeId} {r : ByteArray} (h : Boxed w b ty (.string r)) : aFN b w = r.size := by unfold aFN; rw [h.cell]
theorem aIU {W : World} {b : Nat} {v : Value} : Grown W (W.setCell ⟨b, 0, none⟩ v) (fun k => k = b) := by
 have h := grownBy_setCell' W b v
 exact ⟨h.os, h.tape, h.output, h.size, fun k hk hM => h.block k hk (fun e => hM (Option.some.inj e))⟩
set_option maxRecDepth 100000 in
set_option maxHeartbeats 4000000 in
theorem aBh {l Bp Bs Bv : Nat} {t : ByteArray} {c : UInt8} (J Jx : List ByteArray → World → Prop) (W : World) (hsz : t.size ≤ 1000000)
 (hI : ∀ xs A, J xs A → A.cell? ⟨Bp, 0, none⟩ = some (.string ⟨#[c]⟩) ∧ A.cell? ⟨Bv, 0, none⟩ = some (.int .i64 0))
 (hJ : ∀ xs A B, J xs A → Grown A B (fun k => k = Bs) → J xs B)
 (hs : Boxed W Bs 9 (.string t))
 (hY : ∀ pre x W1, x.size ≤ t.size → J pre W1 → pre.length < t.size + 2 → YieldAt Fence.wide 1 Tryd.prog l #[.string x] W1 fun e W' => (e = .returned (.bool true) ∧ J (pre ++ [x]) W' ∧ W'.heap[Bs]? = W1.heap[Bs]?) ∨ (e = .returned (.bool false) ∧ Jx (pre ++ [x]) W'))
 (h0 : J [] W) :
 CallsIn Fence.wide 2 Tryd.prog 163 #[.func (.yield l) #[] #[], .pointer (some ⟨Bp, 0, none⟩), .pointer (some ⟨Bs, 0, none⟩), .pointer (some ⟨Bv, 0, none⟩)] W fun e W' => (∃ v, e = .returned v) ∧ ((∃ xs, xs = xY t c.toNat ∧ J xs W') ∨ (∃ pre, pre <+: xY t c.toNat ∧ Jx pre W')) := by
 refine callsIn_of_wp Tryd.func163 rfl trivial ?_ rfl
 simp only [Tryd.ntmps163, List.size_toArray, List.length_cons, List.length_nil, Nat.reduceAdd, Nat.reduceSub, Array.replicate_succ, Array.replicate_zero, List.push_toArray, List.append_toArray, List.nil_append, List.cons_append]
 have hp := (hI _ _ h0).1
 gi_wp2
 gi_loopw [7] (fun p wr => ∃ (j : Nat) (pre : List ByteArray), j ≤ t.size ∧ y8 t c.toNat j = (pre, j) ∧ Boxed wr Bs 9 (.string (t.extract j t.size)) ∧ J pre wr)
  (fun p wr => aFN Bs wr)
 case atStart => exact ⟨0, [], Nat.zero_le _, rfl, by rw [show t.extract 0 t.size = t by simp]; exact hs, h0⟩
 case round =>
  obtain ⟨j, pre, hj, hc, hb, hJs⟩ := hrel
  obtain ⟨hp1, hv1⟩ := hI _ _ hJs
  have hpl := (aAS (t := t) (c := c.toNat) hj).2.1
  rw [hc] at hpl
  dsimp only at hpl
  by_cases hi : Lib.indexByte (t.extract j t.size).data.toList c = -1
  · have he := aBo hj hc hi
    have hcell := hb.cell
    obtain ⟨fn, tmps, assign, body, hy, hR⟩ := hY pre (t.extract j t.size) wr jd hJs (by omega)
    generalize t.extract j t.size = r at *
    have hcall := Tryd.strings_Index_one r c wr
    rw [hi] at hcall
    gi_wp2_with (refine ⟨trivial, ?_⟩; gi_at_call 165; refine (callsIn_wide.2 hcall).mono ?_; rintro e w' ⟨rfl, rfl⟩)
    refine hR.mono ?_
    rintro e W3 (⟨rfl, hJ3, hk3⟩ | ⟨rfl, hJx3⟩)
    · gi_wp2
      go_end0
      exact ⟨⟨_, rfl⟩, .inl ⟨_, he.symm, hJ3⟩⟩
    · gi_wp2
      go_end0
      exact ⟨⟨_, rfl⟩, .inr ⟨_, by rw [he]; exact List.prefix_refl _, hJx3⟩⟩
  · have hge := Lib.indexByte_ge (t.extract j t.size).data.toList c
    obtain ⟨i, hi'⟩ : ∃ i : Nat, Lib.indexByte (t.extract j t.size).data.toList c = (i : Int) := ⟨(Lib.indexByte (t.extract j t.size).data.toList c).toNat, by omega⟩
    obtain ⟨hlt, hst⟩ := aAq hj hc hi'
    have hcell := hb.cell
    have hfr := hb.frozen
    have hrs : (t.extract j t.size).size = t.size - j := by rw [ByteArray.size_extract]; omega
    have e1 : (t.extract j t.size).extract 0 i = t.extract j (j + i) := by rw [ByteArray.extract_extract, Nat.add_zero, Nat.min_eq_left (by omega)]
    have e2 : (t.extract j t.size).extract (i + 1) (t.size - j) = t.extract (j + i + 1) t.size := by rw [ByteArray.extract_extract, Nat.min_eq_right (by omega), Nat.add_assoc]
    obtain ⟨fn, tmps, assign, body, hy, hR⟩ := hY pre (t.extract j (j + i)) wr jd hJs (by omega)
    have hcall := Tryd.strings_Index_one (t.extract j t.size) c wr
    rw [hi'] at hcall
    clear hi' hi
    gi_wp2_with (refine ⟨trivial, ?_⟩; gi_at_call 165; refine (callsIn_wide.2 hcall).mono ?_; rintro e w' ⟨rfl, rfl⟩)
    refine hR.mono ?_
    rintro e W3 (⟨rfl, hJ3, hk3⟩ | ⟨rfl, hJx3⟩)
    · have hb3 : Boxed W3 Bs 9 (.string (t.extract j t.size)) := hk3.trans hb
      have hcell3 := hb3.cell
      have hfr3 := hb3.frozen
      obtain ⟨hp3, hv3⟩ := hI _ _ hJ3
      gi_wp2
      go_roundw
      case rel => exact ⟨j + i + 1, pre ++ [t.extract j (j + i)], by omega, hst, hb3.set _, hJ _ _ _ hJ3 aIU⟩
      case measure => rw [aD5 (hb3.set _), aD5 hb, ByteArray.size_extract, ByteArray.size_extract]; omega
    · gi_wp2
      refine bodyPost_ret (results_none rfl _ _ _) rfl ?_
      exact ⟨⟨_, rfl⟩, .inr ⟨_, by have := aIA (t := t) (c := c.toNat) (i := j + i + 1) (by omega); rw [hst] at this; exact this, hJx3⟩⟩
end Go.Proofs.YtodckioppgjbdaaDoor.AM
namespace Go.Proofs.YtodckioppgjbdaaDoor.AM
open Go Go.RowKit
theorem aGV {t : ByteArray} : zl t = true ↔ ∃ r, t.data.toList = 45 :: r := by
 constructor
 · intro hs
   have hp0 : 0 < t.size := by
    unfold zl at hs
    split at hs
    · assumption
    · cases hs
   rw [jr hp0, decide_eq_true_eq] at hs
   have h45 : t[0] = 45 := UInt8.toNat_inj.1 hs
   have h0 := kK hp0
   cases hL : t.data.toList with
   | nil => rw [hL] at h0; cases h0
   | cons a r =>
    rw [hL] at h0
    simp only [List.getElem?_cons_zero, Option.some.injEq] at h0
    exact ⟨r, by rw [h0, h45]⟩
 · rintro ⟨r, hr⟩
   have hp0 : 0 < t.size := by
    have : t.data.toList.length = t.size := by rw [Array.length_toList]; rfl
    rw [hr] at this; simp at this; omega
   have h0 := kK hp0
   rw [hr] at h0
   simp only [List.getElem?_cons_zero, Option.some.injEq] at h0
   rw [jr hp0, ← h0]; rfl
theorem aAz {t : ByteArray} (h : zl t = true) : t.data.toList = 45 :: (xh t).data.toList := by
 obtain ⟨r, hr⟩ := aGV.1 h
 have hb : xh t = t.extract 1 t.size := by unfold xh; rw [h, if_pos rfl]
 rw [hb, ext_list, hr]; rfl
theorem aFA {t : ByteArray} (h : zl t = false) : xh t = t := by unfold xh; rw [h, if_neg (by simp)]
theorem aHB {t : ByteArray} : (⟨(Lib.trimPrefix t.data.toList [45]).toArray⟩ : ByteArray) = xh t := by
 cases hs : zl t with
 | true =>
  have h := aAz hs
  unfold Lib.trimPrefix Lib.hasPrefix
  rw [h, if_pos (by simp [List.isPrefixOf])]
  rfl
 | false =>
  rw [aFA hs]
  unfold Lib.trimPrefix Lib.hasPrefix
  rw [if_neg]
  intro hp
  cases hL : t.data.toList with
  | nil => rw [hL] at hp; cases hp
  | cons a r =>
   rw [hL] at hp
   simp only [List.isPrefixOf, Bool.and_true, beq_iff_eq] at hp
   have := aGV.2 ⟨r, by rw [hL, ← hp]⟩
   rw [hs] at this; cases this
theorem aE6 {t : ByteArray} {n : Int} (h : yP t = (n, true)) : Lib.atoiAll t.data.toList = .ok n := by
 obtain ⟨_, h18, m, hd, hne, hn⟩ := qN h
 have hlen : (xh t).data.toList.length ≤ 18 := by rw [Array.length_toList]; exact h18
 have hdn : Lib.decNat (xh t).data.toList = some m := by unfold Lib.decNat; rw [if_neg (by simpa using hne)]; exact hd
 have hpm : Lib.parseMag (xh t).data.toList = .ok m := by rw [Lib.parseMag_short _ hlen, hdn]; rfl
 have hms := Lib.decNat_small hlen hdn
 cases hs : zl t with
 | true =>
  rw [hs, if_pos rfl] at hn
  rw [aAz hs]
  unfold Lib.atoiAll
  have e45 : (45 : UInt8).toNat = 45 := rfl
  dsimp only
  rw [if_pos (.inr e45), hpm]
  dsimp only
  rw [if_neg (fun h => h.1 e45), if_neg (by omega), if_pos e45, hn]
 | false =>
  rw [hs, if_neg (by simp)] at hn
  rw [aFA hs] at hpm hne hd
  cases hL : t.data.toList with
  | nil => exact absurd hL hne
  | cons a r =>
   rw [hL] at hpm hd
   have ha : 48 ≤ a.toNat ∧ a.toNat ≤ 57 := by
    simp only [Lib.decFrom] at hd
    cases hv : Lib.digitVal a with
    | none => rw [hv] at hd; cases hd
    | some d =>
     unfold Lib.digitVal at hv
     split at hv
     · assumption
     · cases hv
   unfold Lib.atoiAll
   dsimp only
   rw [if_neg (show ¬ (a.toNat = 43 ∨ a.toNat = 45) by omega), hpm]
   dsimp only
   rw [if_neg (by omega), if_neg (fun h => absurd h.1 (by omega)), if_neg (by omega), hn]
theorem aHJ {t : ByteArray} (h18 : (xh t).size ≤ 18) : Lib.atoiAll t.data.toList ≠ .range := by
 intro h
 have key : ∀ l : List UInt8, l.length ≤ 18 → Lib.parseMag l ≠ .range ∧ ∀ u, Lib.parseMag l = .ok u → u < 9223372036854775808 := fun l hl => by
  rw [Lib.parseMag_short l hl]
  cases hd : Lib.decNat l with
  | none => exact ⟨fun e => (by cases e), fun u e => (by cases e)⟩
  | some m => exact ⟨fun e => (by cases e), fun u e => (by cases e; exact Lib.decNat_small hl hd)⟩
 cases hL : t.data.toList with
 | nil => rw [hL] at h; cases h
 | cons a r =>
  have hl : (if a.toNat = 43 ∨ a.toNat = 45 then r else a :: r).length ≤ 18 := by
   cases hs : zl t with
   | true =>
    have hb := aAz hs
    rw [hL] at hb
    obtain ⟨e1, e2⟩ := List.cons.inj hb
    rw [if_pos (.inr (by rw [e1]; rfl)), e2, Array.length_toList]
    exact h18
   | false =>
    rw [aFA hs] at h18
    have : t.data.toList.length ≤ 18 := by rw [Array.length_toList]; exact h18
    rw [hL] at this
    simp only [List.length_cons] at this
    split
    · omega
    · simp only [List.length_cons]; omega
  obtain ⟨k1, k2⟩ := key _ hl
  rw [hL] at h
  unfold Lib.atoiAll at h
  dsimp only at h
  cases hp : Lib.parseMag (if a.toNat = 43 ∨ a.toNat = 45 then r else a :: r) with
  | «syntax» => rw [hp] at h; cases h
  | range => exact k1 hp
  | ok u =>
   have := k2 u hp
   rw [hp] at h
   dsimp only at h
   rw [if_neg (by omega), if_neg (by omega)] at h
   cases h
theorem aGZ {P : Program} {w w' : World} {n : String} {k : IntKind} {zs : List Int} {g : Nat} (hg : P.globalNamed n = some g) (hlt : g < w.heap.size) (hb : Below w.heap.size w w') (h : Lib.TabIs P w n k zs) : Lib.TabIs P w' n k zs := by
 unfold Lib.TabIs World.var? at h ⊢
 rw [hg] at h ⊢
 simp only [Option.bind_some] at h ⊢
 rw [hb.block g hlt]; exact h
set_option maxRecDepth 100000 in
set_option maxHeartbeats 2000000 in
theorem aCl {t : ByteArray} (ht : t.size ≤ 1000000) (w : World) (htab : Lib.TabIs Tryd.prog w "internal/strconv.uint64pow10" .u64 Lib.pow10Tab) (hlt : 3 < w.heap.size) (tp : TypeId) (p : Value) (hvar : w.var? Tryd.prog "strconv.ErrSyntax" = some #[.iface tp p]) :
 Calls Tryd.prog 108 #[.string t] w fun e w' => e = .returned (.tuple #[.int .i64 (yP t).1, .bool (yP t).2]) ∧ Below w.heap.size w w' := by
 have c1 := Tryd.strings_TrimPrefix t ⟨#[45]⟩ w
 rw [show (⟨#[45]⟩ : ByteArray).data.toList = [45] from rfl, aHB] at c1
 by_cases h18 : 18 < (xh t).size
 · have e : yP t = (0, false) := by unfold yP; rw [if_pos (.inr h18)]
   rw [e]
   go_enter Tryd.func108, Tryd.ntmps108
   go_wp2_with (go_at_call 143; refine c1.mono ?_; rintro e w' ⟨rfl, rfl⟩)
   go_ret2
   exact ⟨rfl, Below.refl _ _⟩
 cases ha : Lib.atoiAll t.data.toList with
 | range => exact absurd ha (aHJ (by omega))
 | «syntax» =>
  have hN : (yP t).2 = false := by
   cases hb : (yP t).2 with
   | false => rfl
   | true =>
    have := aE6 (t := t) (n := (yP t).1) (by rw [← hb])
    rw [ha] at this; cases this
  rw [aBa hN]
  have c2 := Tryd.strconv_Atoi_syntax_var t (by omega) ha tp p w hvar
  go_enter Tryd.func108, Tryd.ntmps108
  go_wp2_with (first | (go_at_call 143; refine c1.mono ?_; rintro e w' ⟨rfl, rfl⟩) | (go_at_call 144; refine c2.mono ?_; rintro e w1 ⟨N, rfl, hN1, hN2, hb1⟩))
  go_ret2
  exact ⟨rfl, hb1⟩
 | ok v =>
  have hv0 : -9223372036854775808 ≤ v ∧ v ≤ 9223372036854775807 := Lib.atoiAll_bounds ha
  have c2 := Tryd.strconv_Atoi_ok t (by omega) v ha w
  have c3 : ∀ w1, Below w.heap.size w w1 → Calls Tryd.prog 95 #[.int .i64 v] w1 fun e w' => e = .returned (.string (zU v)) ∧ Below w1.heap.size w1 w' := fun w1 hb => by
   refine (Tryd.strconv_Itoa v hv0.1 hv0.2 w1 (aGZ (by kernel_rfl) hlt hb htab)).mono ?_
   rintro e w' ⟨rfl, k, os, rfl⟩
   rw [aIW]
   exact ⟨rfl, Lib.below_grow _ w1 (Nat.le_refl _) k os⟩
  by_cases hi : zU v = t
  · have e : yP t = (v, true) := by rw [← hi]; exact aGD (by rw [hi]; omega)
    rw [e]
    go_enter Tryd.func108, Tryd.ntmps108
    go_wp2_with (first | (go_at_call 143; refine c1.mono ?_; rintro e w' ⟨rfl, rfl⟩) | (go_at_call 144; refine c2.mono ?_; rintro e w1 ⟨rfl, hw1⟩; have hb1 : Below w'.heap.size w' w1 := (by rcases hw1 with rfl | ⟨_, rfl⟩; exact Below.refl _ _; exact Lib.bytesWorld_below _ _ _)) | (go_at_call 95; refine (c3 _ hb1).mono ?_; rintro e w2 ⟨rfl, hb2⟩))
    go_ret2
    exact ⟨rfl, hb1.trans (hb2.mono hb1.size)⟩
  · have hN : (yP t).2 = false := by
     cases hb : (yP t).2 with
     | false => rfl
     | true =>
      have h1 := aE6 (t := t) (n := (yP t).1) (by rw [← hb])
      have h2 := (qN (t := t) (n := (yP t).1) (by rw [← hb])).1
      rw [ha] at h1
      have : v = (yP t).1 := by injection h1
      exact absurd (by rw [this]; exact h2.symm) hi
    rw [aBa hN]
    have hcmp : ((zU v).toList == t.toList) = false := by
     rw [beq_eq_false_iff_ne]
     exact fun e => hi (toList_inj e)
    go_enter Tryd.func108, Tryd.ntmps108
    go_wp2_with (first | (go_at_call 143; refine c1.mono ?_; rintro e w' ⟨rfl, rfl⟩) | (go_at_call 144; refine c2.mono ?_; rintro e w1 ⟨rfl, hw1⟩; have hb1 : Below w'.heap.size w' w1 := (by rcases hw1 with rfl | ⟨_, rfl⟩; exact Below.refl _ _; exact Lib.bytesWorld_below _ _ _)) | (go_at_call 95; refine (c3 _ hb1).mono ?_; rintro e w2 ⟨rfl, hb2⟩))
    go_ret2
    exact ⟨rfl, hb1.trans (hb2.mono hb1.size)⟩
attribute [local irreducible] xN xO xV yX yh Pre ACG
end Go.Proofs.YtodckioppgjbdaaDoor.AM
namespace Go.Proofs.YtodckioppgjbdaaDoor.AM
open Go Go.RowKit
def uL (t : ByteArray) : ByteArray × Int × Bool :=
 if Lib.indexByte t.data.toList 61 = -1 then (t, 0, false)
 else (t.extract 0 (Lib.indexByte t.data.toList 61).toNat, (yP (t.extract ((Lib.indexByte t.data.toList 61).toNat + 1) t.size)).1, (yP (t.extract ((Lib.indexByte t.data.toList 61).toNat + 1) t.size)).2)
theorem aCI {t : ByteArray} {c : Nat} : ∀ (m i : Nat), i + m ≤ t.size → (y8 t c i).1.length ≤ (y8 t c (i + m)).1.length
 | 0, i, _ => Nat.le_refl _
 | m + 1, i, h => by
  have h1 := aCI (t := t) (c := c) m i (by omega)
  rw [← Nat.add_assoc, jb (by omega)]
  split
  · simp only [List.length_append, List.length_cons, List.length_nil]; omega
  · exact h1
theorem aH3 {t : ByteArray} (h : 3 ≤ (xY t 61).length) : yB t = (⟨#[]⟩, 0, false) := by
 unfold yB
 split
 · rename_i a b e; rw [e] at h; simp at h
 · rfl
theorem aBr {t : ByteArray} : t.extract 0 t.size = t := by simp
theorem aGC {x : ByteArray} {c : UInt8} (h : noC x c.toNat) : Lib.indexByte x.data.toList c = -1 := by
 have hge := Lib.indexByte_ge x.data.toList c
 by_cases hi : Lib.indexByte x.data.toList c = -1
 · exact hi
 · obtain ⟨i, hi'⟩ : ∃ i : Nat, Lib.indexByte x.data.toList c = (i : Int) := ⟨(Lib.indexByte x.data.toList c).toNat, by omega⟩
   obtain ⟨h1, _⟩ := Lib.indexByte_some hi'
   have hlt : i < x.size := by
    have := (List.getElem?_eq_some_iff.1 h1).1
    rw [Array.length_toList] at this; exact this
   rw [kK hlt] at h1
   exact absurd (by rw [Option.some.inj h1]) (h i hlt)
theorem aCK {t : ByteArray} : (uL t).2.2 = (yB t).2.2 ∧ ((uL t).2.2 = true → uL t = yB t) := by
 unfold uL
 have hge := Lib.indexByte_ge t.data.toList 61
 by_cases hi : Lib.indexByte t.data.toList 61 = -1
 · rw [if_pos hi]
   have h1 : xY t 61 = [t] := by
    have := aBo (t := t) (c := 61) (j := 0) (pre := []) (Nat.zero_le _) rfl (by rw [aBr]; exact hi)
    rw [aBr] at this; exact this
   have h2 : yB t = (⟨#[]⟩, 0, false) := by unfold yB; rw [h1]
   rw [h2]
   exact ⟨rfl, fun h => by cases h⟩
 · rw [if_neg hi]
   obtain ⟨i, hi'⟩ : ∃ i : Nat, Lib.indexByte t.data.toList 61 = (i : Int) := ⟨(Lib.indexByte t.data.toList 61).toNat, by omega⟩
   rw [hi', Int.toNat_natCast]
   obtain ⟨hlt, hst⟩ := aAq (t := t) (c := 61) (j := 0) (i := i) (pre := []) (Nat.zero_le _) rfl (by rw [aBr]; exact hi')
   rw [Nat.zero_add, List.nil_append] at hst
   rw [Nat.zero_add] at hlt
   generalize hv : t.extract (i + 1) t.size = v
   by_cases hi2 : Lib.indexByte v.data.toList 61 = -1
   · have h1 := aBo (t := t) (c := 61) (by omega) hst (by rw [hv]; exact hi2)
     have h2 : yB t = (t.extract 0 i, (yP v).1, (yP v).2) := by
      have e61 : (61 : UInt8).toNat = 61 := rfl
      rw [e61, hv] at h1
      unfold yB; rw [h1]; rfl
     rw [h2]
     exact ⟨rfl, fun _ => rfl⟩
   · have hge2 := Lib.indexByte_ge v.data.toList 61
     obtain ⟨k, hk⟩ : ∃ k : Nat, Lib.indexByte v.data.toList 61 = (k : Int) := ⟨(Lib.indexByte v.data.toList 61).toNat, by omega⟩
     obtain ⟨hlt2, hst2⟩ := aAq (t := t) (c := 61) (by omega) hst (by rw [hv]; exact hk)
     have h3 : 3 ≤ (xY t 61).length := by
      unfold xY
      have hm := aCI (t := t) (c := 61) (t.size - (i + 1 + k + 1)) (i + 1 + k + 1) (by omega)
      rw [show i + 1 + k + 1 + (t.size - (i + 1 + k + 1)) = t.size by omega] at hm
      have e61 : (61 : UInt8).toNat = 61 := rfl
      rw [e61] at hst2
      rw [hst2] at hm
      simp only [List.length_append, List.length_cons, List.length_nil] at hm ⊢
      omega
     rw [aH3 h3]
     cases hN : (yP v).2 with
     | false => exact ⟨rfl, fun h => by cases h⟩
     | true =>
      exfalso
      have hs := (qN (t := v) (n := (yP v).1) (by rw [← hN])).1
      have hn : noC v 61 := by rw [hs]; exact aGf (by right; show 57 < 61; omega) (by show 61 ≠ 45; omega)
      exact hi2 (aGC (c := 61) hn)
section
variable {P : Program} {f : FuncId} {args : List AV}
theorem aDE {a b : Value} (hent : ∀ vs w, (callFunc f vs).run P w = .ok (.enter f vs) w) (ha : a.oneCell' = true) (hb1 : b.oneCell' = true)
 (h : ∀ (w : World) (S0 : Nat → Prop) (us : List Value), (∀ b, S0 b → b < w.heap.size) → (∀ g y, GT g = some y → RG S0 w g y) → RVs S0 w (fun _ => none) (fun _ => 0) (fun _ => undef) args us → Calls P f us.toArray w fun e w' => e = .returned (.tuple #[a, b]) ∧ Below w.heap.size w w') : AC P f args ⟨.tup [.v a, .v b], []⟩ := by
 refine ⟨hent, fun w S0 B0 V0 T0 vs hS hG _ hv' => (h w S0 vs hS hG (jD (fun _ => rfl) hv')).mono fun e w' ⟨he, hb⟩ => ?_⟩
 refine ⟨_, S0, fun _ => 0, fun _ => undef, fun _ => Fa, fun _ => Fa, he, Grown.of hb _, fun _ h => h, fun b hb' => ⟨Nat.lt_of_lt_of_le (hS b hb') hb.size, .inl hb'⟩, ?_, zf vZ, zf (fun _ => rfl), fun l l' ob ob' g e => by rw [vZ] at e; cases e⟩
 unfold RV
 refine ⟨[a, b], rfl, ?_⟩
 unfold RVs
 refine ⟨a, [b], rfl, by unfold RV; exact ⟨rfl, ha⟩, ?_⟩
 unfold RVs
 exact ⟨b, [], rfl, by unfold RV; exact ⟨rfl, hb1⟩, by unfold RVs; rfl⟩
end
theorem aGe {P : Program} {S0 : Nat → Prop} {w : World} {g : Nat} {name : String} {ys : List AV} (hg : P.globalNamed name = some g) (h : RG S0 w g (.tup ys)) : ∃ t q, w.var? P name = some #[.iface t q] := by
 obtain ⟨cs, t, p, hb, hn⟩ := h.full
 obtain ⟨a, q, e⟩ : ∃ a q, cs = #[.iface a q] := hn
 subst e
 exact ⟨a, q, by unfold World.var?; rw [hg]; simp only [Option.bind_some, hb]⟩
theorem aIa {Θ : Tab} {s : St} {d : Option Tmp} {ty : TypeId} {pos : String} {after : Array Edge} {g : Option (Nat × Bool)} {x hi : Operand} {a : ByteArray} {k' : IntKind} {j : Nat} (hj : j ≤ a.size) (hx : s.ev x = .v (.string a)) (hh : s.ev hi = .v (.int k' (j : Int))) : Pre Tryd.prog Θ ⟨d, .slice 9 x none (some hi) none, ty, pos, after, g⟩ s ⟨.v (.string (a.extract 0 j)), none⟩ := by
 refine .inl ⟨.string a, .string (a.extract 0 j), by rw [hx]; rfl, fun y hy => ?_, fun w => ?_, rfl, rfl⟩
 · simp only [Option.toList, List.append_nil, List.nil_append, List.mem_cons, List.not_mem_nil, or_false] at hy
   subst hy
   rw [hh]; rfl
 · simp only [Option.map_some, Option.map_none, hh, xq, Option.getD_some]
   rw [run_sliceAt_string w _ _ _ _ _ Tryd.underlying9]
   have hj2 : (0 : Int) ≤ (j : Int) ∧ (j : Int) ≤ (a.size : Int) := ⟨by omega, by omega⟩
   simp [Instr.slice, Instr.sliceBounds, Instr.sliceBound, asIntOf, run_underlying Tryd.underlying9, hj2]
   try omega
theorem aHM : ∀ vs w, (callFunc 108 vs).run Tryd.prog w = .ok (.enter 108 vs) w := zY Tryd.func108 (by kernel_rfl) (by kernel_rfl)
theorem qf {t : ByteArray} (ht : t.size ≤ 1000000) : AC Tryd.prog 108 [.v (.string t)] ⟨.tup [.v (.int .i64 (yP t).1), .v (.bool (yP t).2)], []⟩ := by
 refine aDE aHM rfl rfl fun w S0 us hS hG hv => ?_
 obtain ⟨u, rfl, h2⟩ := vI hv
 unfold RV at h2
 obtain ⟨rfl, _⟩ := h2
 have hp := hG 3 _ rfl
 have he := hG 6 _ rfl
 have htab : Lib.TabIs Tryd.prog w "internal/strconv.uint64pow10" .u64 Lib.pow10Tab := by
  rw [show Lib.pow10Tab = p10L from by decide]
  exact aIk (g := 3) (by kernel_rfl) hp
 obtain ⟨tp, p, hvar⟩ := aGe (P := Tryd.prog) (name := "strconv.ErrSyntax") (by kernel_rfl) he
 exact aCl ht w htab (hS _ hp.s0) tp p hvar
theorem aHP : ∀ vs w, (callFunc 166 vs).run Tryd.prog w = .ok (.enter 166 vs) w := zY Tryd.func166 (by kernel_rfl) (by kernel_rfl)
theorem aFe {t : ByteArray} {c : UInt8} : AC Tryd.prog 166 [.v (.string t), .v (.string ⟨#[c]⟩)] ⟨.v (.int .i64 (Lib.indexByte t.data.toList c)), []⟩ := by
 refine aE2 aHP rfl fun w S0 us hS hG hv => ?_
 unfold RVs at hv
 obtain ⟨u, us, rfl, h1, hv⟩ := hv
 obtain ⟨u2, rfl, h2⟩ := vI hv
 unfold RV at h1 h2
 obtain ⟨rfl, _⟩ := h1
 obtain ⟨rfl, _⟩ := h2
 refine (Tryd.stringslite_Index_one t c w).mono ?_
 rintro e w' ⟨rfl, rfl⟩
 exact ⟨rfl, Below.refl _ _⟩
theorem aHO : ∀ vs w, (callFunc 145 vs).run Tryd.prog w = .ok (.enter 145 vs) w := zY Tryd.func145 (by kernel_rfl) (by kernel_rfl)
theorem aFf {t : ByteArray} (ht : t.size ≤ 1000000) : AC Tryd.prog 145 [.v (.string t)] ⟨.v (.string t), []⟩ := by
 refine aE2 aHO rfl fun w S0 us hS hG hv => ?_
 obtain ⟨u, rfl, h2⟩ := vI hv
 unfold RV at h2
 obtain ⟨rfl, _⟩ := h2
 exact Tryd.stringslite_Clone t w (by omega)
theorem aHN : ∀ vs w, (callFunc 112 vs).run Tryd.prog w = .ok (.enter 112 vs) w := zY Tryd.func112 (by kernel_rfl) (by kernel_rfl)
theorem aCz {t p : ByteArray} : AC Tryd.prog 112 [.v (.string t), .v (.string p)] ⟨.tup [.v (.string ⟨(Lib.trimPrefix t.data.toList p.data.toList).toArray⟩), .v (.bool (Lib.hasPrefix t.data.toList p.data.toList))], []⟩ := by
 refine aDE aHN rfl rfl fun w S0 us hS hG hv => ?_
 unfold RVs at hv
 obtain ⟨u, us, rfl, h1, hv⟩ := hv
 obtain ⟨u2, rfl, h2⟩ := vI hv
 unfold RV at h1 h2
 obtain ⟨rfl, _⟩ := h1
 obtain ⟨rfl, _⟩ := h2
 refine (Tryd.strings_CutPrefix t p w).mono ?_
 rintro e w' ⟨rfl, rfl⟩
 exact ⟨rfl, Below.refl _ _⟩
attribute [local irreducible] xN xO xV yX yh Pre ACG
theorem aAo {t : ByteArray} (ht : t.size ≤ 1000000) : AC Tryd.prog 109 [.v (.string t)] ⟨.v (.string t), []⟩ := by
 have c1 := aFf ht
 refine qrf Tryd.func109 Tryd.ntmps109 Tryd.results109 ?_; conv => whnf
 repeat ((first | refine qz ?_ | refine qc (c1) ?_); conv => whnf)
 exact aAF rfl trivial
theorem aG4 {t : ByteArray} (ht : t.size ≤ 1000000) : AC Tryd.prog 107 [.v (.string t), .v (.string ⟨#[61]⟩)] ⟨.tup [.v (.string (if Lib.indexByte t.data.toList 61 = -1 then t else t.extract 0 (Lib.indexByte t.data.toList 61).toNat)), .v (.string (if Lib.indexByte t.data.toList 61 = -1 then ⟨#[]⟩ else t.extract ((Lib.indexByte t.data.toList 61).toNat + 1) t.size)), .v (.bool (!decide (Lib.indexByte t.data.toList 61 = -1)))], []⟩ := by
 have c1 := aFe (t := t) (c := 61)
 have hge := Lib.indexByte_ge t.data.toList 61
 by_cases hi : Lib.indexByte t.data.toList 61 = -1
 · rw [if_pos hi, if_pos hi, decide_eq_true hi]
   rw [hi] at c1
   have c2 : AC Tryd.prog 142 [.v (.string t), .v (.string ⟨#[61]⟩)] ⟨.tup [.v (.string t), .v (.string ⟨#[]⟩), .v (.bool false)], []⟩ := by
    refine qrf Tryd.func142 Tryd.ntmps142 Tryd.results142 ?_; conv => whnf
    repeat ((first | refine qz ?_ | refine qc (c1) ?_); conv => whnf)
    exact wI rfl rfl rfl
   refine qrf Tryd.func107 Tryd.ntmps107 Tryd.results107 ?_; conv => whnf
   repeat ((first | refine qz ?_ | refine qc (c2) ?_); conv => whnf)
   exact wI rfl rfl rfl
 · rw [if_neg hi, if_neg hi, decide_eq_false hi]
   obtain ⟨i, hi'⟩ : ∃ i : Nat, Lib.indexByte t.data.toList 61 = (i : Int) := ⟨(Lib.indexByte t.data.toList 61).toNat, by omega⟩
   have hlt : i < t.size := by
    have := (List.getElem?_eq_some_iff.1 (Lib.indexByte_some hi').1).1
    rw [Array.length_toList] at this; exact this
   rw [hi'] at c1
   rw [hi', Int.toNat_natCast]
   have e1 : (⟨#[61]⟩ : ByteArray).size = 1 := rfl
   have c2 : AC Tryd.prog 142 [.v (.string t), .v (.string ⟨#[61]⟩)] ⟨.tup [.v (.string (t.extract 0 i)), .v (.string (t.extract (i + 1) t.size)), .v (.bool true)], []⟩ := by
    refine qrf Tryd.func142 Tryd.ntmps142 Tryd.results142 ?_; conv => whnf
    repeat ((first | refine qz ?_ | refine qc (c1) ?_ | refine qdr ?_ | refine qp (zo (aBK (c := ((i + 1 : Nat) : Int)) (by omega) (by omega) (by omega)) rfl rfl rfl) ?_ | refine qp (aIa (by omega) rfl rfl) ?_ | refine qp (jM (by omega) rfl rfl) ?_); conv => whnf)
    exact wI rfl rfl rfl
   refine qrf Tryd.func107 Tryd.ntmps107 Tryd.results107 ?_; conv => whnf
   repeat ((first | refine qz ?_ | refine qc (c2) ?_); conv => whnf)
   exact wI rfl rfl rfl
end Go.Proofs.YtodckioppgjbdaaDoor.AM
