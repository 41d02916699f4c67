/- Texts of the proof, put together: ShelfP, LLib. -/
import Derived.Shelf.LaysM
import Derived.Shelf.LaysC
import Derived.Shelf.Strconv.ToError
import Derived.Shelf.Strconv.ToErrorRange
import Derived.Shelf.Strconv.AtoiAll
import Derived.Shelf.Strings.Cut
import Derived.Shelf.Unicode.DecodeAny
import Derived.Test.YtbjohedenfindaaGreatDoorProg
import Derived.Test.YtbjohedenfindaaGreatDoorPb37
import Derived.Test.YtbjohedenfindaaGreatDoorPb42
import Derived.Lib.IndexBytes
import Derived.Lib.IndexLaws
namespace Go.Proofs
open Go.Shelf
def Tryz.laysC245_ren : Go.Shelf.Ren := ⟨fun | 245 => 184 | 279 => 197 | 280 => 198 | 281 => 199 | 282 => 200 | 316 => 209 | 171 => 91 | 205 => 210 | 243 => 119 | 246 => 131 | 283 => 147 | 284 => 148 | 285 => 149 | 286 => 150 | 129 => 162 | 317 => 161 | 318 => 163 | 319 => 164 | 320 => 165 | 337 => 175 | 338 => 176 | n => n, fun | 9 => 9 | 3 => 3 | 75 => 24 | 167 => 240 | 4 => 4 | 168 => 243 | 210 => 255 | 37 => 68 | 0 => 0 | 127 => 113 | 145 => 261 | 143 => 259 | 2 => 2 | 171 => 199 | 53 => 119 | 5 => 5 | 173 => 202 | 212 => 215 | 51 => 216 | 20 => 20 | 213 => 217 | 46 => 197 | 232 => 231 | 233 => 232 | 80 => 74 | n => n, fun | 15 => 14 | 16 => 15 | 17 => 11 | 18 => 12 | 19 => 13 | n => n⟩
theorem Tryz.laysC245 : Go.Proofs.LaysC.n245 Tryz.prog Tryz.laysC245_ren := {
  mixed := by kernel_rfl
  f129 := Tryz.func162.trans (congrArg some (by kernel_rfl))
  f171 := Tryz.func91.trans (congrArg some (by kernel_rfl))
  f205 := Tryz.func210.trans (congrArg some (by kernel_rfl))
  f243 := Tryz.func119.trans (congrArg some (by kernel_rfl))
  f245 := Tryz.func184.trans (congrArg some (by kernel_rfl))
  f246 := Tryz.func131.trans (congrArg some (by kernel_rfl))
  f279 := Tryz.func197.trans (congrArg some (by kernel_rfl))
  f280 := Tryz.func198.trans (congrArg some (by kernel_rfl))
  f281 := Tryz.func199.trans (congrArg some (by kernel_rfl))
  f282 := Tryz.func200.trans (congrArg some (by kernel_rfl))
  f283 := Tryz.func147.trans (congrArg some (by kernel_rfl))
  f284 := Tryz.func148.trans (congrArg some (by kernel_rfl))
  f285 := Tryz.func149.trans (congrArg some (by kernel_rfl))
  f286 := Tryz.func150.trans (congrArg some (by kernel_rfl))
  f316 := Tryz.func209.trans (congrArg some (by kernel_rfl))
  f317 := Tryz.func161.trans (congrArg some (by kernel_rfl))
  f318 := Tryz.func163.trans (congrArg some (by kernel_rfl))
  f319 := Tryz.func164.trans (congrArg some (by kernel_rfl))
  f320 := Tryz.func165.trans (congrArg some (by kernel_rfl))
  f337 := Tryz.func175.trans (congrArg some (by kernel_rfl))
  f338 := Tryz.func176.trans (congrArg some (by kernel_rfl))
  t0 := Tryz.underlying0
  a0 := Tryz.isAgg0
  z0 := Tryz.sizeOf0
  v0 := Tryz.zeroValue0
  t2 := Tryz.underlying2
  a2 := Tryz.isAgg2
  z2 := Tryz.sizeOf2
  v2 := Tryz.zeroValue2
  t3 := Tryz.underlying3
  a3 := Tryz.isAgg3
  z3 := Tryz.sizeOf3
  v3 := Tryz.zeroValue3
  t4 := Tryz.underlying4
  a4 := Tryz.isAgg4
  z4 := Tryz.sizeOf4
  v4 := Tryz.zeroValue4
  t5 := Tryz.underlying5
  a5 := Tryz.isAgg5
  z5 := Tryz.sizeOf5
  v5 := Tryz.zeroValue5
  t9 := Tryz.underlying9
  a9 := Tryz.isAgg9
  z9 := Tryz.sizeOf9
  v9 := Tryz.zeroValue9
  t20 := Tryz.underlying20
  a20 := Tryz.isAgg20
  z20 := Tryz.sizeOf20
  v20 := Tryz.zeroValue20
  t37 := Tryz.underlying68
  a37 := Tryz.isAgg68
  z37 := Tryz.sizeOf68
  v37 := Tryz.zeroValue68
  t46 := Tryz.underlying197
  a46 := Tryz.isAgg197
  z46 := Tryz.sizeOf197
  v46 := Tryz.zeroValue197
  t51 := Tryz.underlying216
  a51 := Tryz.isAgg216
  z51 := Tryz.sizeOf216
  v51 := Tryz.zeroValue216
  t53 := Tryz.underlying119
  a53 := Tryz.isAgg119
  z53 := Tryz.sizeOf119
  v53 := Tryz.zeroValue119
  t75 := Tryz.underlying24
  a75 := Tryz.isAgg24
  z75 := Tryz.sizeOf24
  v75 := Tryz.zeroValue24
  t127 := Tryz.underlying113
  a127 := Tryz.isAgg113
  z127 := Tryz.sizeOf113
  v127 := Tryz.zeroValue113
  t143 := Tryz.underlying259
  a143 := Tryz.isAgg259
  z143 := Tryz.sizeOf259
  v143 := Tryz.zeroValue259
  t145 := Tryz.underlying261
  a145 := Tryz.isAgg261
  z145 := Tryz.sizeOf261
  v145 := Tryz.zeroValue261
  t167 := Tryz.underlying240
  a167 := Tryz.isAgg240
  z167 := Tryz.sizeOf240
  v167 := Tryz.zeroValue240
  t168 := Tryz.underlying243
  a168 := Tryz.isAgg243
  z168 := Tryz.sizeOf243
  v168 := Tryz.zeroValue243
  t171 := Tryz.underlying199
  a171 := Tryz.isAgg199
  z171 := Tryz.sizeOf199
  v171 := Tryz.zeroValue199
  t173 := Tryz.underlying202
  a173 := Tryz.isAgg202
  z173 := Tryz.sizeOf202
  v173 := Tryz.zeroValue202
  t210 := Tryz.underlying255
  a210 := Tryz.isAgg255
  z210 := Tryz.sizeOf255
  v210 := Tryz.zeroValue255
  t212 := Tryz.underlying215
  a212 := Tryz.isAgg215
  z212 := Tryz.sizeOf215
  v212 := Tryz.zeroValue215
  t213 := Tryz.underlying217
  a213 := Tryz.isAgg217
  z213 := Tryz.sizeOf217
  t232 := Tryz.underlying231
  a232 := Tryz.isAgg231
  z232 := Tryz.sizeOf231
  v232 := Tryz.zeroValue231
  t233 := Tryz.underlying232
  a233 := Tryz.isAgg232
  z233 := Tryz.sizeOf232
  v233 := Tryz.zeroValue232
  g15 := by kernel_rfl
  g16 := by kernel_rfl
  g17 := by kernel_rfl
  g18 := by kernel_rfl
  g19 := by kernel_rfl
  t80 := Tryz.underlying74
  a80 := Tryz.isAgg74
  z80 := Tryz.sizeOf74
  v80 := Tryz.zeroValue74
  i0 := by kernel_rfl
  i2 := by kernel_rfl
  i3 := by kernel_rfl
  i4 := by kernel_rfl
  i5 := by kernel_rfl
  i9 := by kernel_rfl
  i20 := by kernel_rfl
  i37 := by kernel_rfl
  i46 := by kernel_rfl
  i51 := by kernel_rfl
  i53 := by kernel_rfl
  i75 := by kernel_rfl
  i80 := by kernel_rfl
  i127 := by kernel_rfl
  i143 := by kernel_rfl
  i145 := by kernel_rfl
  i167 := by kernel_rfl
  i168 := by kernel_rfl
  i171 := by kernel_rfl
  i173 := by kernel_rfl
  i210 := by kernel_rfl
  i212 := by kernel_rfl
  i232 := by kernel_rfl
  i233 := by kernel_rfl
  m15 := by kernel_rfl
  m16 := by kernel_rfl
  m17 := by kernel_rfl
  m18 := by kernel_rfl
  m19 := by kernel_rfl
  c0 := by kernel_rfl
  c2 := by kernel_rfl
  c3 := by kernel_rfl
  c4 := by kernel_rfl
  c5 := by kernel_rfl
  c9 := by kernel_rfl
  c20 := by kernel_rfl
  c37 := by kernel_rfl
  c46 := by kernel_rfl
  c51 := by kernel_rfl
  c53 := by kernel_rfl
  c75 := by kernel_rfl
  c80 := by kernel_rfl
  c127 := by kernel_rfl
  c143 := by kernel_rfl
  c145 := by kernel_rfl
  c167 := by kernel_rfl
  c168 := by kernel_rfl
  c171 := by kernel_rfl
  c173 := by kernel_rfl
  c210 := by kernel_rfl
  c212 := by kernel_rfl
  c213 := by kernel_rfl
  c232 := by kernel_rfl
  c233 := by kernel_rfl }
open Go.RowKit in
theorem Tryz.strconv_toError_syntax (fn s : ByteArray) (base bits : Int) (ev : Value) (w : World) (hlim : s.size ≤ 281474976710656) (hv : w.cell? ⟨14, 0, none⟩ = some ev) (hev : ev = .nilIface ∨ ∃ te pe, ev = .iface te pe) :
    Calls Tryz.prog 184 #[.string fn, .string s, .int .i64 base, .int .i64 bits, .iface 240 (.int .i64 2)] w fun e w' => ∃ N, e = .returned (.iface 243 (.pointer (some ⟨N, 0, none⟩))) ∧ w.heap.size ≤ N ∧ w'.heap[N]? = some (.cells #[.string fn, .string s, ev] 255 (0, 0)) ∧ Below w.heap.size w w' := Any.strconv_toError_syntax Tryz.laysC245 fn s base bits ev w hlim hv hev
open Go.RowKit in
theorem Tryz.strconv_toError_range (fn s : ByteArray) (base bits : Int) (ev : Value) (w : World) (hlim : s.size ≤ 281474976710656) (hv : w.cell? ⟨15, 0, none⟩ = some ev) (hev : ev = .nilIface ∨ ∃ te pe, ev = .iface te pe) :
    Calls Tryz.prog 184 #[.string fn, .string s, .int .i64 base, .int .i64 bits, .iface 240 (.int .i64 1)] w fun e w' => ∃ N, e = .returned (.iface 243 (.pointer (some ⟨N, 0, none⟩))) ∧ w.heap.size ≤ N ∧ w'.heap[N]? = some (.cells #[.string fn, .string s, ev] 255 (0, 0)) ∧ Below w.heap.size w w' := Any.strconv_toError_range Tryz.laysC245 fn s base bits ev w hlim hv hev
def Tryz.laysC172_ren : Go.Shelf.Ren := ⟨fun | 172 => 172 | 244 => 183 | 245 => 184 | 247 => 196 | 279 => 197 | 280 => 198 | 281 => 199 | 282 => 200 | 287 => 195 | 316 => 209 | 171 => 91 | 205 => 210 | 321 => 207 | 322 => 208 | 243 => 119 | 246 => 131 | 283 => 147 | 284 => 148 | 285 => 149 | 286 => 150 | 129 => 162 | 317 => 161 | 318 => 163 | 319 => 164 | 320 => 165 | 337 => 175 | 338 => 176 | n => n, fun | 9 => 9 | 3 => 3 | 75 => 24 | 76 => 107 | 4 => 4 | 5 => 5 | 167 => 240 | 37 => 68 | 0 => 0 | 85 => 241 | 2 => 2 | 168 => 243 | 53 => 119 | 175 => 228 | 46 => 197 | 210 => 255 | 127 => 113 | 145 => 261 | 143 => 259 | 21 => 21 | 171 => 199 | 173 => 202 | 212 => 215 | 51 => 216 | 20 => 20 | 213 => 217 | 232 => 231 | 233 => 232 | 80 => 74 | n => n, fun | 15 => 14 | 16 => 15 | 17 => 11 | 18 => 12 | 19 => 13 | n => n⟩
theorem Tryz.laysC172 : Go.Proofs.LaysC.n172 Tryz.prog Tryz.laysC172_ren := {
  mixed := by kernel_rfl
  f129 := Tryz.func162.trans (congrArg some (by kernel_rfl))
  f171 := Tryz.func91.trans (congrArg some (by kernel_rfl))
  f172 := Tryz.func172.trans (congrArg some (by kernel_rfl))
  f205 := Tryz.func210.trans (congrArg some (by kernel_rfl))
  f243 := Tryz.func119.trans (congrArg some (by kernel_rfl))
  f244 := Tryz.func183.trans (congrArg some (by kernel_rfl))
  f245 := Tryz.func184.trans (congrArg some (by kernel_rfl))
  f246 := Tryz.func131.trans (congrArg some (by kernel_rfl))
  f247 := Tryz.func196.trans (congrArg some (by kernel_rfl))
  f279 := Tryz.func197.trans (congrArg some (by kernel_rfl))
  f280 := Tryz.func198.trans (congrArg some (by kernel_rfl))
  f281 := Tryz.func199.trans (congrArg some (by kernel_rfl))
  f282 := Tryz.func200.trans (congrArg some (by kernel_rfl))
  f283 := Tryz.func147.trans (congrArg some (by kernel_rfl))
  f284 := Tryz.func148.trans (congrArg some (by kernel_rfl))
  f285 := Tryz.func149.trans (congrArg some (by kernel_rfl))
  f286 := Tryz.func150.trans (congrArg some (by kernel_rfl))
  f287 := Tryz.func195.trans (congrArg some (by kernel_rfl))
  f316 := Tryz.func209.trans (congrArg some (by kernel_rfl))
  f317 := Tryz.func161.trans (congrArg some (by kernel_rfl))
  f318 := Tryz.func163.trans (congrArg some (by kernel_rfl))
  f319 := Tryz.func164.trans (congrArg some (by kernel_rfl))
  f320 := Tryz.func165.trans (congrArg some (by kernel_rfl))
  f321 := Tryz.func207.trans (congrArg some (by kernel_rfl))
  f322 := Tryz.func208.trans (congrArg some (by kernel_rfl))
  f337 := Tryz.func175.trans (congrArg some (by kernel_rfl))
  f338 := Tryz.func176.trans (congrArg some (by kernel_rfl))
  t0 := Tryz.underlying0
  a0 := Tryz.isAgg0
  z0 := Tryz.sizeOf0
  v0 := Tryz.zeroValue0
  t2 := Tryz.underlying2
  a2 := Tryz.isAgg2
  z2 := Tryz.sizeOf2
  v2 := Tryz.zeroValue2
  t3 := Tryz.underlying3
  a3 := Tryz.isAgg3
  z3 := Tryz.sizeOf3
  v3 := Tryz.zeroValue3
  t4 := Tryz.underlying4
  a4 := Tryz.isAgg4
  z4 := Tryz.sizeOf4
  v4 := Tryz.zeroValue4
  t5 := Tryz.underlying5
  a5 := Tryz.isAgg5
  z5 := Tryz.sizeOf5
  v5 := Tryz.zeroValue5
  t9 := Tryz.underlying9
  a9 := Tryz.isAgg9
  z9 := Tryz.sizeOf9
  v9 := Tryz.zeroValue9
  t20 := Tryz.underlying20
  a20 := Tryz.isAgg20
  z20 := Tryz.sizeOf20
  v20 := Tryz.zeroValue20
  t21 := Tryz.underlying21
  a21 := Tryz.isAgg21
  z21 := Tryz.sizeOf21
  v21 := Tryz.zeroValue21
  t37 := Tryz.underlying68
  a37 := Tryz.isAgg68
  z37 := Tryz.sizeOf68
  v37 := Tryz.zeroValue68
  t46 := Tryz.underlying197
  a46 := Tryz.isAgg197
  z46 := Tryz.sizeOf197
  v46 := Tryz.zeroValue197
  t51 := Tryz.underlying216
  a51 := Tryz.isAgg216
  z51 := Tryz.sizeOf216
  v51 := Tryz.zeroValue216
  t53 := Tryz.underlying119
  a53 := Tryz.isAgg119
  z53 := Tryz.sizeOf119
  v53 := Tryz.zeroValue119
  t75 := Tryz.underlying24
  a75 := Tryz.isAgg24
  z75 := Tryz.sizeOf24
  v75 := Tryz.zeroValue24
  t76 := Tryz.underlying107
  a76 := Tryz.isAgg107
  z76 := Tryz.sizeOf107
  v76 := Tryz.zeroValue107
  t85 := Tryz.underlying241
  a85 := Tryz.isAgg241
  z85 := Tryz.sizeOf241
  v85 := Tryz.zeroValue241
  t127 := Tryz.underlying113
  a127 := Tryz.isAgg113
  z127 := Tryz.sizeOf113
  v127 := Tryz.zeroValue113
  t143 := Tryz.underlying259
  a143 := Tryz.isAgg259
  z143 := Tryz.sizeOf259
  v143 := Tryz.zeroValue259
  t145 := Tryz.underlying261
  a145 := Tryz.isAgg261
  z145 := Tryz.sizeOf261
  v145 := Tryz.zeroValue261
  t167 := Tryz.underlying240
  a167 := Tryz.isAgg240
  z167 := Tryz.sizeOf240
  v167 := Tryz.zeroValue240
  t168 := Tryz.underlying243
  a168 := Tryz.isAgg243
  z168 := Tryz.sizeOf243
  v168 := Tryz.zeroValue243
  t171 := Tryz.underlying199
  a171 := Tryz.isAgg199
  z171 := Tryz.sizeOf199
  v171 := Tryz.zeroValue199
  t173 := Tryz.underlying202
  a173 := Tryz.isAgg202
  z173 := Tryz.sizeOf202
  v173 := Tryz.zeroValue202
  t175 := Tryz.underlying228
  a175 := Tryz.isAgg228
  z175 := Tryz.sizeOf228
  v175 := Tryz.zeroValue228
  t210 := Tryz.underlying255
  a210 := Tryz.isAgg255
  z210 := Tryz.sizeOf255
  v210 := Tryz.zeroValue255
  t212 := Tryz.underlying215
  a212 := Tryz.isAgg215
  z212 := Tryz.sizeOf215
  v212 := Tryz.zeroValue215
  t213 := Tryz.underlying217
  a213 := Tryz.isAgg217
  z213 := Tryz.sizeOf217
  t232 := Tryz.underlying231
  a232 := Tryz.isAgg231
  z232 := Tryz.sizeOf231
  v232 := Tryz.zeroValue231
  t233 := Tryz.underlying232
  a233 := Tryz.isAgg232
  z233 := Tryz.sizeOf232
  v233 := Tryz.zeroValue232
  g15 := by kernel_rfl
  g16 := by kernel_rfl
  g17 := by kernel_rfl
  g18 := by kernel_rfl
  g19 := by kernel_rfl
  t80 := Tryz.underlying74
  a80 := Tryz.isAgg74
  z80 := Tryz.sizeOf74
  v80 := Tryz.zeroValue74
  i0 := by kernel_rfl
  i2 := by kernel_rfl
  i3 := by kernel_rfl
  i4 := by kernel_rfl
  i5 := by kernel_rfl
  i9 := by kernel_rfl
  i20 := by kernel_rfl
  i21 := by kernel_rfl
  i37 := by kernel_rfl
  i46 := by kernel_rfl
  i51 := by kernel_rfl
  i53 := by kernel_rfl
  i75 := by kernel_rfl
  i76 := by kernel_rfl
  i80 := by kernel_rfl
  i85 := by kernel_rfl
  i127 := by kernel_rfl
  i143 := by kernel_rfl
  i145 := by kernel_rfl
  i167 := by kernel_rfl
  i168 := by kernel_rfl
  i171 := by kernel_rfl
  i173 := by kernel_rfl
  i175 := by kernel_rfl
  i210 := by kernel_rfl
  i212 := by kernel_rfl
  i232 := by kernel_rfl
  i233 := by kernel_rfl
  m15 := by kernel_rfl
  m16 := by kernel_rfl
  m17 := by kernel_rfl
  m18 := by kernel_rfl
  m19 := by kernel_rfl
  c0 := by kernel_rfl
  c2 := by kernel_rfl
  c3 := by kernel_rfl
  c4 := by kernel_rfl
  c5 := by kernel_rfl
  c9 := by kernel_rfl
  c20 := by kernel_rfl
  c21 := by kernel_rfl
  c37 := by kernel_rfl
  c46 := by kernel_rfl
  c51 := by kernel_rfl
  c53 := by kernel_rfl
  c75 := by kernel_rfl
  c76 := by kernel_rfl
  c80 := by kernel_rfl
  c85 := by kernel_rfl
  c127 := by kernel_rfl
  c143 := by kernel_rfl
  c145 := by kernel_rfl
  c167 := by kernel_rfl
  c168 := by kernel_rfl
  c171 := by kernel_rfl
  c173 := by kernel_rfl
  c175 := by kernel_rfl
  c210 := by kernel_rfl
  c212 := by kernel_rfl
  c213 := by kernel_rfl
  c232 := by kernel_rfl
  c233 := by kernel_rfl }
open Go.RowKit in
theorem Tryz.strconv_Atoi_ok (s : ByteArray) (hmax : s.size ≤ 9223372036854775806) (v : Int) (h : Lib.atoiAll s.data.toList = .ok v) (w : World) :
    Calls Tryz.prog 172 #[.string s] w fun e w' => e = .returned (.tuple #[.int .i64 v, .nilIface]) ∧ (w' = w ∨ ∃ t, w' = Lib.bytesWorld w 5 t) := Any.strconv_Atoi_ok Tryz.laysC172 s hmax v h w
open Go.RowKit in
theorem Tryz.strconv_Atoi_range (s : ByteArray) (hlim : s.size ≤ 281474976710656) (h : Lib.atoiAll s.data.toList = .range) (ev : Value) (w : World) (hv : w.cell? ⟨15, 0, none⟩ = some ev) (hev : ev = .nilIface ∨ ∃ te pe, ev = .iface te pe) :
    Calls Tryz.prog 172 #[.string s] w fun e w' => ∃ N, e = .returned (.tuple #[.int .i64 (Lib.atoiSat s.data.toList), .iface 243 (.pointer (some ⟨N, 0, none⟩))]) ∧ w.heap.size ≤ N ∧ w'.heap[N]? = some (.cells #[.string ⟨#[65, 116, 111, 105]⟩, .string s, ev] 255 (0, 0)) ∧ Below w.heap.size w w' := Any.strconv_Atoi_range Tryz.laysC172 s hlim h ev w hv hev
def Tryz.lays145_ren : Go.Shelf.Ren := ⟨fun | 145 => 181 | 220 => 194 | 219 => 206 | 217 => 160 | 225 => 146 | 224 => 145 | 267 => 212 | 266 => 174 | 314 => 213 | n => n, fun | 9 => 9 | 4 => 4 | 59 => 226 | 3 => 3 | 5 => 5 | 46 => 197 | 146 => 262 | 51 => 216 | n => n, fun | 1 => 10 | n => n⟩
theorem Tryz.lays145 : Go.Proofs.Lays.n145 Tryz.prog Tryz.lays145_ren := {
  mixed := by kernel_rfl
  f145 := Tryz.func181.trans (congrArg some (by kernel_rfl))
  f217 := Tryz.func160.trans (congrArg some (by kernel_rfl))
  f219 := Tryz.func206.trans (congrArg some (by kernel_rfl))
  f220 := Tryz.func194.trans (congrArg some (by kernel_rfl))
  f224 := Tryz.func145.trans (congrArg some (by kernel_rfl))
  f225 := Tryz.func146.trans (congrArg some (by kernel_rfl))
  f266 := Tryz.func174.trans (congrArg some (by kernel_rfl))
  f267 := Tryz.func212.trans (congrArg some (by kernel_rfl))
  f314 := Tryz.func213.trans (congrArg some (by kernel_rfl))
  t3 := Tryz.underlying3
  a3 := Tryz.isAgg3
  z3 := Tryz.sizeOf3
  v3 := Tryz.zeroValue3
  t4 := Tryz.underlying4
  a4 := Tryz.isAgg4
  z4 := Tryz.sizeOf4
  v4 := Tryz.zeroValue4
  t5 := Tryz.underlying5
  a5 := Tryz.isAgg5
  z5 := Tryz.sizeOf5
  v5 := Tryz.zeroValue5
  t9 := Tryz.underlying9
  a9 := Tryz.isAgg9
  z9 := Tryz.sizeOf9
  v9 := Tryz.zeroValue9
  t46 := Tryz.underlying197
  a46 := Tryz.isAgg197
  z46 := Tryz.sizeOf197
  v46 := Tryz.zeroValue197
  t51 := Tryz.underlying216
  a51 := Tryz.isAgg216
  z51 := Tryz.sizeOf216
  v51 := Tryz.zeroValue216
  t59 := Tryz.underlying226
  a59 := Tryz.isAgg226
  z59 := Tryz.sizeOf226
  v59 := Tryz.zeroValue226
  t146 := Tryz.underlying262
  a146 := Tryz.isAgg262
  z146 := Tryz.sizeOf262
  v146 := Tryz.zeroValue262
  g1 := by kernel_rfl }
open Go.RowKit Go.Lib in
theorem Tryz.strings_Cut (s sep : ByteArray) (m : Int) (w : World) (hs : s.size < 4294967281) (hm : w.cell? ⟨10, 0, none⟩ = some (.int .i64 m)) :
    Calls Tryz.prog 181 #[.string s, .string sep] w fun e w' => e = .returned (.tuple #[.string ⟨(Lib.cut s.data.toList sep.data.toList).1.toArray⟩, .string ⟨(Lib.cut s.data.toList sep.data.toList).2.1.toArray⟩, .bool (Lib.cut s.data.toList sep.data.toList).2.2]) ∧ ∃ n, w' = w.drewN n := Any.strings_Cut Tryz.lays145 s sep m w hs hm
def Tryz.lays197_ren : Go.Shelf.Ren := ⟨fun | 197 => 126 | 260 => 138 | n => n, fun | 9 => 9 | 21 => 21 | 3 => 3 | 4 => 4 | 5 => 5 | 105 => 153 | 119 => 209 | 0 => 0 | 46 => 197 | 139 => 212 | 138 => 211 | n => n, fun | 3 => 8 | 4 => 9 | n => n⟩
theorem Tryz.lays197 : Go.Proofs.Lays.n197 Tryz.prog Tryz.lays197_ren := {
  mixed := by kernel_rfl
  f197 := Tryz.func126.trans (congrArg some (by kernel_rfl))
  f260 := Tryz.func138.trans (congrArg some (by kernel_rfl))
  t0 := Tryz.underlying0
  a0 := Tryz.isAgg0
  z0 := Tryz.sizeOf0
  v0 := Tryz.zeroValue0
  t3 := Tryz.underlying3
  a3 := Tryz.isAgg3
  z3 := Tryz.sizeOf3
  v3 := Tryz.zeroValue3
  t4 := Tryz.underlying4
  a4 := Tryz.isAgg4
  z4 := Tryz.sizeOf4
  v4 := Tryz.zeroValue4
  t5 := Tryz.underlying5
  a5 := Tryz.isAgg5
  z5 := Tryz.sizeOf5
  v5 := Tryz.zeroValue5
  t9 := Tryz.underlying9
  a9 := Tryz.isAgg9
  z9 := Tryz.sizeOf9
  v9 := Tryz.zeroValue9
  t21 := Tryz.underlying21
  a21 := Tryz.isAgg21
  z21 := Tryz.sizeOf21
  v21 := Tryz.zeroValue21
  t46 := Tryz.underlying197
  a46 := Tryz.isAgg197
  z46 := Tryz.sizeOf197
  v46 := Tryz.zeroValue197
  t105 := Tryz.underlying153
  a105 := Tryz.isAgg153
  z105 := Tryz.sizeOf153
  v105 := Tryz.zeroValue153
  t119 := Tryz.underlying209
  a119 := Tryz.isAgg209
  z119 := Tryz.sizeOf209
  t138 := Tryz.underlying211
  a138 := Tryz.isAgg211
  z138 := Tryz.sizeOf211
  v138 := Tryz.zeroValue211
  t139 := Tryz.underlying212
  a139 := Tryz.isAgg212
  z139 := Tryz.sizeOf212
  v139 := Tryz.zeroValue212
  g3 := by kernel_rfl
  g4 := by kernel_rfl }
open Go.RowKit Go.Lib in
theorem Tryz.utf8_DecodeRuneInString (s : ByteArray) (w : World) (hT : Lib.Utf8Tabs 8 9 w) :
    Calls Tryz.prog 126 #[.string s] w fun e w' => e = .returned (.tuple #[.int .i32 (Lib.decodeGo s).1, .int .i64 (Lib.decodeGo s).2]) ∧ Below w.heap.size w w' := Any.utf8_DecodeRuneInString Tryz.lays197 s w hT
end Go.Proofs

namespace Go.Proofs.YtbjohedenfindaaGreatDoor
open Go.RowKit
set_option linter.unusedVariables false
set_option maxRecDepth 100000

/-- the variables that the library's functions read -/
structure LaidV (W0 : World) : Prop where
  syn : ∃ te pe, W0.cell? ⟨0, 0, none⟩ = some (.iface te pe)
  bnd : ∃ te pe, W0.cell? ⟨1, 0, none⟩ = some (.iface te pe)
  mlen : ∃ m, W0.cell? ⟨10, 0, none⟩ = some (.int .i64 m)
  tabs : Lib.Utf8Tabs 8 9 W0
  nsyn : ∃ te pe, W0.cell? ⟨14, 0, none⟩ = some (.iface te pe)
  nrng : ∃ te pe, W0.cell? ⟨15, 0, none⟩ = some (.iface te pe)

theorem env_cell {W0 w : World} (h : Env W0 w) {g o : Nat} (hg : g < 16) : w.cell? ⟨g, o, none⟩ = W0.cell? ⟨g, o, none⟩ := by
  have := h.2 g hg
  simp [World.cell?, this]
theorem Env.below {W0 w w' : World} (h : Env W0 w) (hb : Below w.heap.size w w') : Env W0 w' := ⟨Nat.le_trans h.1 hb.size, fun k hk => (hb.block k (by have := h.1; omega)).trans (h.2 k hk)⟩

theorem toList_at (T : ByteArray) (j : Nat) (hj : j < T.size) : T.data.toList[j]? = some (T.get! j) := by
  rw [get_bang, Array.getElem?_toList]
  have h : T.data[j]? = some (T.data[j]'hj) := Array.getElem?_eq_getElem hj
  rw [h]
  rfl
theorem toList_len (T : ByteArray) : T.data.toList.length = T.size := by rw [Array.length_toList]; rfl
theorem indexAt {T : ByteArray} {k : Nat} (h : firstAt T 125 k) : Lib.indexByte T.data.toList 125 = (k : Int) := by
  obtain ⟨h1, h2, h3⟩ := h
  have hg := toList_at T
  rcases Int.lt_or_le (Lib.indexByte T.data.toList 125) 0 with h | h
  · have h0 : Lib.indexByte T.data.toList 125 = -1 := by have := Lib.indexByte_ge T.data.toList 125; omega
    have := Lib.indexByte_none h0 k
    rw [hg k h1] at this
    exact absurd (congrArg some (UInt8.toNat_inj.1 h2)) this
  · obtain ⟨o, ho⟩ := Int.eq_ofNat_of_zero_le h
    obtain ⟨p1, p2⟩ := Lib.indexByte_some ho
    have hoT : o < T.size := by
      have := (List.getElem?_eq_some_iff.1 p1).1
      simpa using this
    rw [ho]
    rcases Nat.lt_trichotomy o k with hlt | rfl | hlt
    · rw [hg o hoT] at p1
      exact absurd (by rw [Option.some.inj p1]; rfl) (h3 o hlt)
    · rfl
    · have := p2 k hlt
      rw [hg k h1] at this
      exact absurd (congrArg some (UInt8.toNat_inj.1 h2)) this
theorem indexNo {T : ByteArray} (h : ∀ j, j < T.size → (T.get! j).toNat ≠ 125) : Lib.indexByte T.data.toList 125 = -1 := by
  rcases Int.lt_or_le (Lib.indexByte T.data.toList 125) 0 with h1 | h1
  · have := Lib.indexByte_ge T.data.toList 125; omega
  · obtain ⟨o, ho⟩ := Int.eq_ofNat_of_zero_le h1
    obtain ⟨p1, p2⟩ := Lib.indexByte_some ho
    have hoT : o < T.size := by
      have := (List.getElem?_eq_some_iff.1 p1).1
      simpa using this
    rw [toList_at T o hoT] at p1
    exact absurd (by rw [Option.some.inj p1]; rfl) (h o hoT)
theorem take_extract (T : ByteArray) (k : Nat) : (⟨(T.data.toList.take k).toArray⟩ : ByteArray) = T.extract 0 k := by
  apply ByteArray.ext
  rw [ByteArray.data_extract]
  apply Array.toList_inj.1
  simp

theorem cutT_any {W0 : World} (V : LaidV W0) (T : ByteArray) (w : World) (k : Nat) (hE : Env W0 w) (hT : T.size ≤ 1000000) (h : firstAt T 125 k) :
    Calls Tryz.prog 181 #[.string T, .string ⟨#[125]⟩] w fun e w' => (∃ b, e = .returned (.tuple #[.string (T.extract 0 k), .string b, .bool true])) ∧ Below w.heap.size w w' := by
  obtain ⟨m, hm⟩ := V.mlen
  refine (Tryz.strings_Cut T ⟨#[125]⟩ m w (by omega) ((env_cell hE (by omega)).trans hm)).mono ?_
  rintro e w' ⟨rfl, n, rfl⟩
  refine ⟨?_, ⟨rfl, rfl, rfl, Nat.le_refl _, fun _ _ => rfl⟩⟩
  have hi : Lib.index T.data.toList [125] = (k : Int) := by rw [Lib.index_one]; exact indexAt h
  have hc : Lib.cut T.data.toList (⟨#[125]⟩ : ByteArray).data.toList = (T.data.toList.take k, T.data.toList.drop (k + 1), true) := by
    unfold Lib.cut
    show (if 0 ≤ Lib.index T.data.toList [125] then _ else _) = _
    rw [hi, if_pos (by omega)]
    rfl
  rw [hc]
  exact ⟨⟨(T.data.toList.drop (k + 1)).toArray⟩, by rw [take_extract]⟩
theorem cutF_any {W0 : World} (V : LaidV W0) (T : ByteArray) (w : World) (hE : Env W0 w) (hT : T.size ≤ 1000000) (h : ∀ j, j < T.size → (T.get! j).toNat ≠ 125) :
    Calls Tryz.prog 181 #[.string T, .string ⟨#[125]⟩] w fun e w' => (∃ b, e = .returned (.tuple #[.string T, .string b, .bool false])) ∧ Below w.heap.size w w' := by
  obtain ⟨m, hm⟩ := V.mlen
  refine (Tryz.strings_Cut T ⟨#[125]⟩ m w (by omega) ((env_cell hE (by omega)).trans hm)).mono ?_
  rintro e w' ⟨rfl, n, rfl⟩
  refine ⟨?_, ⟨rfl, rfl, rfl, Nat.le_refl _, fun _ _ => rfl⟩⟩
  have hi : Lib.index T.data.toList [125] = -1 := by rw [Lib.index_one]; exact indexNo h
  have hc : Lib.cut T.data.toList (⟨#[125]⟩ : ByteArray).data.toList = (T.data.toList, [], false) := by
    unfold Lib.cut
    show (if 0 ≤ Lib.index T.data.toList [125] then _ else _) = _
    rw [hi, if_neg (by omega)]
  rw [hc]
  exact ⟨⟨#[]⟩, rfl⟩

theorem digVal_mono {T : ByteArray} (hd : allDig T) : ∀ m k, k ≤ m → m ≤ T.size → 0 ≤ digVal T 0 k ∧ digVal T 0 k ≤ digVal T 0 m := by
  have h0 : ∀ k, k ≤ T.size → 0 ≤ digVal T 0 k := by
    intro k
    induction k with
    | zero => intro _; simp [digVal]
    | succ k ih =>
      intro h
      have := ih (by omega)
      have := hd k (by omega)
      simp only [digVal, Nat.zero_add]
      omega
  intro m
  induction m with
  | zero => intro k hk _; obtain rfl : k = 0 := by omega
            simp [digVal]
  | succ m ih =>
    intro k hk hm
    rcases Nat.lt_or_ge k (m + 1) with h | h
    · have h1 := ih k (by omega) (by omega)
      have h2 := hd m (by omega)
      have h3 := h0 m (by omega)
      have e : digVal T 0 (m + 1) = digVal T 0 m * 10 + (((T.get! m).toNat : Int) - 48) := by simp [digVal]
      rw [e]; omega
    · obtain rfl : k = m + 1 := by omega
      exact ⟨h0 _ hm, Int.le_refl _⟩
theorem ato_run {T : ByteArray} (hd : allDig T) : ∀ n k acc : Nat, k + n = T.size → (acc : Int) = digVal T 0 k →
    (∃ u : Nat, Lib.parseUint10 acc (T.data.toList.drop k) = .ok u ∧ (u : Int) = digVal T 0 T.size) ∨ (Lib.parseUint10 acc (T.data.toList.drop k) = .range ∧ 50 < digVal T 0 T.size)
  | 0, k, acc, hk, ha => by
    left
    have hl : T.data.toList.drop k = [] := List.drop_eq_nil_of_le (by rw [toList_len]; omega)
    rw [hl]
    refine ⟨acc, rfl, ?_⟩
    rw [ha, ← hk, Nat.add_zero]
  | n + 1, k, acc, hk, ha => by
    have hlen := toList_len T
    have hdrop : T.data.toList.drop k = T.get! k :: T.data.toList.drop (k + 1) := by
      rw [List.drop_eq_getElem_cons (by omega)]
      congr 1
      rw [← getD_bang]
      simp [List.getD, List.getElem?_eq_getElem (show k < T.data.toList.length by omega)]
    have h1 := hd k (by omega)
    have h2 := digVal_mono hd T.size k (by omega) (by omega)
    have h3 := digVal_mono hd T.size (k + 1) (by omega) (by omega)
    have e : digVal T 0 (k + 1) = digVal T 0 k * 10 + (((T.get! k).toNat : Int) - 48) := by simp [digVal]
    rw [hdrop, Lib.parseUint10, if_pos h1]
    split
    · exact .inr ⟨rfl, by omega⟩
    · split
      · exact .inr ⟨rfl, by omega⟩
      · exact ato_run hd n (k + 1) _ (by omega) (by rw [e]; omega)
theorem ato_all {T : ByteArray} (hd : allDig T) (h1 : 1 ≤ T.size) : (Lib.atoiAll T.data.toList = .ok (digVal T 0 T.size)) ∨ (Lib.atoiAll T.data.toList = .range ∧ 50 < digVal T 0 T.size) := by
  have hlen := toList_len T
  have hR := ato_run hd T.size 0 0 (by omega) (by simp [digVal])
  have hd0 := hd 0 (by omega)
  have hfst : T.data.toList.getD 0 0 = T.get! 0 := getD_bang T 0
  rw [List.drop_zero] at hR
  cases hl : T.data.toList with
  | nil => rw [hl] at hlen; simp at hlen; omega
  | cons c r =>
    rw [hl] at hfst hR
    have hc : c = T.get! 0 := by simpa using hfst
    subst hc
    have hm : Lib.parseMag ((T.get! 0) :: r) = Lib.parseUint10 0 ((T.get! 0) :: r) := by unfold Lib.parseMag; rw [if_neg (by simp)]
    unfold Lib.atoiAll
    simp only
    rw [if_neg (show ¬ ((T.get! 0).toNat = 43 ∨ (T.get! 0).toNat = 45) by omega), hm]
    rcases hR with ⟨u, h2, h3⟩ | ⟨h2, h3⟩
    · rw [h2]
      simp only
      have hn : ¬ (T.get! 0).toNat = 45 := by omega
      by_cases hb : 9223372036854775808 ≤ u
      · rw [if_pos ⟨hn, hb⟩]
        exact .inr ⟨rfl, by omega⟩
      · rw [if_neg (by omega), if_neg (by omega), if_neg hn, h3]
        exact .inl rfl
    · rw [h2]
      exact .inr ⟨rfl, h3⟩
theorem ato_any {W0 : World} (V : LaidV W0) (T : ByteArray) (w : World) (hE : Env W0 w) (h1 : 1 ≤ T.size) (hT : T.size ≤ 1000000) (hd : allDig T) :
    Calls Tryz.prog 172 #[.string T] w fun e w' => (∃ n ev, e = .returned (.tuple #[.int .i64 n, ev]) ∧ ((ev = .nilIface ∧ n = digVal T 0 T.size) ∨ (∃ te pe, ev = .iface te pe ∧ 50 < digVal T 0 T.size))) ∧ Below w.heap.size w w' := by
  rcases ato_all hd h1 with h | ⟨h, hb⟩
  · refine (Tryz.strconv_Atoi_ok T (by omega) _ h w).mono ?_
    rintro e w' ⟨rfl, hw⟩
    refine ⟨⟨_, _, rfl, .inl ⟨rfl, rfl⟩⟩, ?_⟩
    rcases hw with rfl | ⟨t, rfl⟩
    · exact Below.refl _ _
    · exact Lib.bytesWorld_below _ _ _
  · obtain ⟨te, pe, hr⟩ := V.nrng
    refine (Tryz.strconv_Atoi_range T (by omega) h _ w ((env_cell hE (by omega)).trans hr) (.inr ⟨te, pe, rfl⟩)).mono ?_
    rintro e w' ⟨N, rfl, _, _, hw⟩
    exact ⟨⟨_, _, rfl, .inr ⟨_, _, rfl, hb⟩⟩, hw⟩

theorem dec_any {W0 : World} (V : LaidV W0) (s : ByteArray) (w : World) (hE : Env W0 w) :
    Calls Tryz.prog 126 #[.string s] w fun e w' => e = .returned (.tuple #[.int .i32 (decGo s).1, .int .i64 (decGo s).2]) ∧ Below w.heap.size w w' :=
  Tryz.utf8_DecodeRuneInString s w ⟨fun c hc => (env_cell hE (by omega)).trans (V.tabs.1 c hc), fun i hi => ⟨(env_cell hE (by omega)).trans (V.tabs.2 i hi).1, (env_cell hE (by omega)).trans (V.tabs.2 i hi).2⟩⟩

/-- how the library's own ParseUint ends at base 16 -/
def HexOut (T : ByteArray) (e : Ending) : Prop :=
  (1 ≤ T.size ∧ allHex T ∧ e = .returned (.tuple #[.int .u64 (hexVal T 0 T.size), .nilIface])) ∨
  ((T.size = 0 ∨ ¬ allHex T ∨ 6 < T.size) ∧ ∃ n te pe, e = .returned (.tuple #[.int .u64 n, .iface te pe]))

set_option maxHeartbeats 1000000 in
theorem iparse_none (w : World) : Calls Tryz.prog 195 #[.string ⟨#[]⟩, .int .i64 16, .int .i64 64] w fun e w' => e = .returned (.tuple #[.int .u64 0, .iface 240 (.int .i64 2)]) ∧ w' = w := by
  go_enter Tryz.func195, Tryz.ntmps195
  go_wp2
  go_ret2
  exact ⟨rfl, rfl⟩

set_option maxHeartbeats 2000000 in
theorem par_any {W0 : World} (V : LaidV W0) (T : ByteArray) (w : World) (hE : Env W0 w) (hT : T.size ≤ 1000000) :
    Calls Tryz.prog 182 #[.string T, .int .i64 16, .int .i64 64] w fun e w' => HexOut T e ∧ Below w.heap.size w w' := by
  have HI : Hid (Calls Tryz.prog 195 #[.string T, .int .i64 16, .int .i64 64] w fun e w' => (∃ v, (1 ≤ T.size ∧ allHex T ∧ v = hexVal T 0 T.size) ∧ e = .returned (.tuple #[.int .u64 v, .nilIface]) ∨ (T.size = 0 ∨ ¬ allHex T ∨ 6 < T.size) ∧ (e = .returned (.tuple #[.int .u64 v, .iface 240 (.int .i64 2)]) ∨ e = .returned (.tuple #[.int .u64 v, .iface 240 (.int .i64 1)]))) ∧ Below w.heap.size w w' ∧ Env W0 w') := by
    by_cases h0 : T.size = 0
    · have he : T = ⟨#[]⟩ := by
        apply ByteArray.ext
        exact Array.eq_empty_of_size_eq_zero h0
      rw [he]
      refine (iparse_none w).mono ?_
      rintro e w' ⟨rfl, rfl⟩
      exact ⟨⟨0, .inr ⟨.inl rfl, .inl rfl⟩⟩, Below.refl _ _, hE⟩
    · refine (iparse_any T h0 hT w).mono ?_
      rintro e w' ⟨hh, hb⟩
      refine ⟨?_, hb, hE.below hb⟩
      rcases hh with ⟨h1, rfl⟩ | ⟨h1, rfl⟩ | ⟨h1, rfl⟩
      · exact ⟨_, .inl ⟨⟨by omega, h1, rfl⟩, rfl⟩⟩
      · exact ⟨_, .inr ⟨.inr (.inl h1), .inl rfl⟩⟩
      · exact ⟨_, .inr ⟨.inr (.inr h1), .inr rfl⟩⟩
  have HS : Hid (∀ w', Env W0 w' → Calls Tryz.prog 184 #[.string ⟨#[80, 97, 114, 115, 101, 85, 105, 110, 116]⟩, .string T, .int .i64 16, .int .i64 64, .iface 240 (.int .i64 2)] w' fun e w'' => (∃ te pe, e = .returned (.iface te pe)) ∧ Below w'.heap.size w' w'') := by
    intro w' hE'
    obtain ⟨te, pe, hr⟩ := V.nsyn
    refine (Tryz.strconv_toError_syntax _ T 16 64 _ w' (by omega) ((env_cell hE' (by omega)).trans hr) (.inr ⟨te, pe, rfl⟩)).mono ?_
    rintro e w'' ⟨N, rfl, _, _, hb⟩
    exact ⟨⟨_, _, rfl⟩, hb⟩
  have HR : Hid (∀ w', Env W0 w' → Calls Tryz.prog 184 #[.string ⟨#[80, 97, 114, 115, 101, 85, 105, 110, 116]⟩, .string T, .int .i64 16, .int .i64 64, .iface 240 (.int .i64 1)] w' fun e w'' => (∃ te pe, e = .returned (.iface te pe)) ∧ Below w'.heap.size w' w'') := by
    intro w' hE'
    obtain ⟨te, pe, hr⟩ := V.nrng
    refine (Tryz.strconv_toError_range _ T 16 64 _ w' (by omega) ((env_cell hE' (by omega)).trans hr) (.inr ⟨te, pe, rfl⟩)).mono ?_
    rintro e w'' ⟨N, rfl, _, _, hb⟩
    exact ⟨⟨_, _, rfl⟩, hb⟩
  clear hE
  go_enter Tryz.func182, Tryz.ntmps182
  go_wp2_with fail
  go_at_call 195
  refine HI.out.mono ?_
  rintro e w1 ⟨⟨v, hh⟩, hb1, hE1⟩
  have HE1 : Hid (Env W0 w1) := hE1
  clear hE1 HI
  rcases hh with ⟨hv, rfl⟩ | ⟨hv, rfl | rfl⟩
  · have HV : Hid (1 ≤ T.size ∧ allHex T ∧ v = hexVal T 0 T.size) := hv
    clear hv
    go_wp2
    go_ret2
    obtain ⟨h1, h2, rfl⟩ := HV.out
    exact ⟨.inl ⟨h1, h2, rfl⟩, hb1⟩
  · have HV : Hid (T.size = 0 ∨ ¬ allHex T ∨ 6 < T.size) := hv
    clear hv
    go_wp2_with fail
    go_at_call 184
    refine (HS.out _ HE1.out).mono ?_
    rintro e w2 ⟨⟨te, pe, rfl⟩, hb2⟩
    go_wp2
    go_ret2
    exact ⟨.inr ⟨HV.out, _, _, _, rfl⟩, hb1.trans (hb2.mono hb1.size)⟩
  · have HV : Hid (T.size = 0 ∨ ¬ allHex T ∨ 6 < T.size) := hv
    clear hv
    go_wp2_with fail
    go_at_call 184
    refine (HR.out _ HE1.out).mono ?_
    rintro e w2 ⟨⟨te, pe, rfl⟩, hb2⟩
    go_wp2
    go_ret2
    exact ⟨.inr ⟨HV.out, _, _, _, rfl⟩, hb1.trans (hb2.mono hb1.size)⟩

theorem lib_of {W0 : World} (V : LaidV W0) : LibC W0 where
  syn := V.syn
  bnd := V.bnd
  con := fun S sg hs c w h0 h1 _ => con_any S sg hs c h0 h1 w
  cutT := fun T w k hE hT h => cutT_any V T w k hE hT h
  cutF := fun T w hE hT h => cutF_any V T w hE hT h
  parT := fun T w hE h1 h6 hx => (par_any V T w hE (by omega)).mono fun e w' ⟨hh, hb⟩ => by
    rcases hh with ⟨_, _, rfl⟩ | ⟨h, _⟩
    · exact ⟨rfl, hb⟩
    · rcases h with h | h | h
      · omega
      · exact absurd hx h
      · omega
  parF := fun T w hE hT hn => (par_any V T w hE hT).mono fun e w' ⟨hh, hb⟩ => by
    rcases hh with ⟨h1, h2, rfl⟩ | ⟨_, n, te, pe, rfl⟩
    · rcases hn with hn | hn
      · omega
      · exact absurd h2 hn
    · exact ⟨⟨n, te, pe, rfl⟩, hb⟩
  parL := fun T w hE hT => (par_any V T w hE hT).mono fun e w' ⟨hh, hb⟩ => by
    rcases hh with ⟨h1, h2, rfl⟩ | ⟨_, n, te, pe, rfl⟩
    · exact ⟨⟨_, _, rfl, .inl rfl⟩, hb⟩
    · exact ⟨⟨n, _, rfl, .inr ⟨te, pe, rfl⟩⟩, hb⟩
  ato := fun T w hE h1 hT hd => ato_any V T w hE h1 hT hd
  dec := fun s w hE => dec_any V s w hE

end Go.Proofs.YtbjohedenfindaaGreatDoor
