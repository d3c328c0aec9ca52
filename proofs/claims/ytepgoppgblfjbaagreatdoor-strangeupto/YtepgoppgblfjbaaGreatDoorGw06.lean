import Derived.Shelf.Small.Bits
import Derived.Shelf.Small.Strs
import Derived.Shelf.Small.Wraps
import Derived.Shelf.Strings.BuilderK
import Derived.Shelf.Utf8.RuneCount
import Derived.Shelf.Strconv.Itoa4
import Derived.Shelf.Strconv.Clone
import Derived.Shelf.Strings.Shaped
import Derived.Shelf.Strings.SplitShaped
import Derived.Shelf.Strings.Explode
import Derived.Shelf.Bits.Mul64
import Derived.Shelf.Unicode.DecodeAny
import Derived.Test.YtepgoppgblfjbaaGreatDoorGw05
import Derived.Lib.ItoaLen

/- The shelf's contracts that the walks take, at this dump: each one application. -/
namespace Go.Proofs
open Go.Shelf
def Tryz.lays137_ren : Go.Shelf.Ren := ⟨fun | 137 => 260 | 217 => 315 | 266 => 353 | n => n, fun | 9 => 9 | 5 => 5 | 3 => 3 | n => n, fun | n => n⟩
theorem Tryz.lays137 : Go.Proofs.Lays.n137 Tryz.prog Tryz.lays137_ren := {
  mixed := by kernel_rfl
  f137 := Tryz.func260.trans (congrArg some (by kernel_rfl))
  f217 := Tryz.func315.trans (congrArg some (by kernel_rfl))
  f266 := Tryz.func353.trans (congrArg some (by kernel_rfl))
  t3 := Tryz.underlying3
  a3 := Tryz.isAgg3
  z3 := Tryz.sizeOf3
  v3 := Tryz.zeroValue3
  t5 := Tryz.underlying5
  a5 := Tryz.isAgg5
  z5 := Tryz.sizeOf5
  v5 := Tryz.zeroValue5
  t9 := Tryz.underlying9
  a9 := Tryz.isAgg9
  z9 := Tryz.sizeOf9
  v9 := Tryz.zeroValue9 }
open Go.RowKit in
theorem Tryz.strings_IndexByte (s : ByteArray) (c : Int) (w : World) :
    Calls Tryz.prog 260 #[.string s, .int .u8 c] w fun e w' => e = .returned (.int .i64 (Lib.indexByte s.data.toList c.toNat.toUInt8)) ∧ w' = w := Any.strings_IndexByte Tryz.lays137 s c w
def Tryz.lays103_ren : Go.Shelf.Ren := ⟨fun | 103 => 336 | 210 => 372 | 206 => 338 | n => n, fun | 9 => 9 | 4 => 4 | 24 => 377 | 3 => 3 | n => n, fun | n => n⟩
theorem Tryz.lays103 : Go.Proofs.Lays.n103 Tryz.prog Tryz.lays103_ren := {
  mixed := by kernel_rfl
  f103 := Tryz.func336.trans (congrArg some (by kernel_rfl))
  f206 := Tryz.func338.trans (congrArg some (by kernel_rfl))
  f210 := Tryz.func372.trans (congrArg some (by kernel_rfl))
  t3 := Tryz.underlying3
  a3 := Tryz.isAgg3
  z3 := Tryz.sizeOf3
  v3 := Tryz.zeroValue3
  t4 := Tryz.underlying4
  a4 := Tryz.isAgg4
  z4 := Tryz.sizeOf4
  v4 := Tryz.zeroValue4
  t9 := Tryz.underlying9
  a9 := Tryz.isAgg9
  z9 := Tryz.sizeOf9
  v9 := Tryz.zeroValue9
  t24 := Tryz.underlying377
  a24 := Tryz.isAgg377
  z24 := Tryz.sizeOf377
  v24 := Tryz.zeroValue377 }
open Go.RowKit in
theorem Tryz.strings_CutPrefix (s p : ByteArray) (w : World) :
    Calls Tryz.prog 336 #[.string s, .string p] w fun e w' => e = .returned (.tuple #[.string ⟨(Lib.trimPrefix s.data.toList p.data.toList).toArray⟩, .bool (Lib.hasPrefix s.data.toList p.data.toList)]) ∧ w' = w := Any.strings_CutPrefix Tryz.lays103 s p w
def Tryz.laysM171_ren : Go.Shelf.Ren := ⟨fun | 171 => 86 | 243 => 130 | 246 => 181 | 283 => 244 | 284 => 245 | 285 => 246 | 286 => 247 | 129 => 258 | 317 => 305 | 318 => 306 | 319 => 307 | 320 => 308 | 337 => 350 | 338 => 351 | n => n, fun | 3 => 3 | 9 => 9 | 2 => 2 | 4 => 4 | 171 => 340 | 0 => 0 | 53 => 229 | 37 => 58 | 5 => 5 | 173 => 343 | 212 => 397 | 51 => 172 | 20 => 20 | 213 => 398 | 46 => 283 | 232 => 231 | 233 => 440 | n => n, fun | 17 => 0 | 18 => 3 | 19 => 4 | n => n⟩
theorem Tryz.laysM171 : Go.Proofs.LaysM.n171 Tryz.prog Tryz.laysM171_ren := {
  mixed := by kernel_rfl
  f129 := Tryz.func258.trans (congrArg some (by kernel_rfl))
  f171 := Tryz.func86.trans (congrArg some (by kernel_rfl))
  f243 := Tryz.func130.trans (congrArg some (by kernel_rfl))
  f246 := Tryz.func181.trans (congrArg some (by kernel_rfl))
  f283 := Tryz.func244.trans (congrArg some (by kernel_rfl))
  f284 := Tryz.func245.trans (congrArg some (by kernel_rfl))
  f285 := Tryz.func246.trans (congrArg some (by kernel_rfl))
  f286 := Tryz.func247.trans (congrArg some (by kernel_rfl))
  f317 := Tryz.func305.trans (congrArg some (by kernel_rfl))
  f318 := Tryz.func306.trans (congrArg some (by kernel_rfl))
  f319 := Tryz.func307.trans (congrArg some (by kernel_rfl))
  f320 := Tryz.func308.trans (congrArg some (by kernel_rfl))
  f337 := Tryz.func350.trans (congrArg some (by kernel_rfl))
  f338 := Tryz.func351.trans (congrArg some (by kernel_rfl))
  t0 := Tryz.underlying0
  a0 := Tryz.isAgg0
  z0 := Tryz.sizeOf0
  v0 := Tryz.zeroValue0
  t2 := Tryz.underlying2
  a2 := Tryz.isAgg2
  z2 := Tryz.sizeOf2
  v2 := Tryz.zeroValue2
  t3 := Tryz.underlying3
  a3 := Tryz.isAgg3
  z3 := Tryz.sizeOf3
  v3 := Tryz.zeroValue3
  t4 := Tryz.underlying4
  a4 := Tryz.isAgg4
  z4 := Tryz.sizeOf4
  v4 := Tryz.zeroValue4
  t5 := Tryz.underlying5
  a5 := Tryz.isAgg5
  z5 := Tryz.sizeOf5
  v5 := Tryz.zeroValue5
  t9 := Tryz.underlying9
  a9 := Tryz.isAgg9
  z9 := Tryz.sizeOf9
  v9 := Tryz.zeroValue9
  t20 := Tryz.underlying20
  a20 := Tryz.isAgg20
  z20 := Tryz.sizeOf20
  v20 := Tryz.zeroValue20
  t37 := Tryz.underlying58
  a37 := Tryz.isAgg58
  z37 := Tryz.sizeOf58
  v37 := Tryz.zeroValue58
  t46 := Tryz.underlying283
  a46 := Tryz.isAgg283
  z46 := Tryz.sizeOf283
  v46 := Tryz.zeroValue283
  t51 := Tryz.underlying172
  a51 := Tryz.isAgg172
  z51 := Tryz.sizeOf172
  v51 := Tryz.zeroValue172
  t53 := Tryz.underlying229
  a53 := Tryz.isAgg229
  z53 := Tryz.sizeOf229
  v53 := Tryz.zeroValue229
  t171 := Tryz.underlying340
  a171 := Tryz.isAgg340
  z171 := Tryz.sizeOf340
  v171 := Tryz.zeroValue340
  t173 := Tryz.underlying343
  a173 := Tryz.isAgg343
  z173 := Tryz.sizeOf343
  v173 := Tryz.zeroValue343
  t212 := Tryz.underlying397
  a212 := Tryz.isAgg397
  z212 := Tryz.sizeOf397
  v212 := Tryz.zeroValue397
  t213 := Tryz.underlying398
  a213 := Tryz.isAgg398
  z213 := Tryz.sizeOf398
  t232 := Tryz.underlying231
  a232 := Tryz.isAgg231
  z232 := Tryz.sizeOf231
  v232 := Tryz.zeroValue231
  t233 := Tryz.underlying440
  a233 := Tryz.isAgg440
  z233 := Tryz.sizeOf440
  v233 := Tryz.zeroValue440
  g17 := by kernel_rfl
  g18 := by kernel_rfl
  g19 := by kernel_rfl
  i0 := by kernel_rfl
  i2 := by kernel_rfl
  i3 := by kernel_rfl
  i4 := by kernel_rfl
  i5 := by kernel_rfl
  i9 := by kernel_rfl
  i20 := by kernel_rfl
  i37 := by kernel_rfl
  i46 := by kernel_rfl
  i51 := by kernel_rfl
  i53 := by kernel_rfl
  i171 := by kernel_rfl
  i173 := by kernel_rfl
  i212 := by kernel_rfl
  i232 := by kernel_rfl
  i233 := by kernel_rfl
  m17 := by kernel_rfl
  m18 := by kernel_rfl
  m19 := by kernel_rfl }
open Go.RowKit Go.Sort Go.Lib in
theorem Tryz.strconv_Itoa (n : Int) (h0 : -9223372036854775808 ≤ n) (h1 : n ≤ 9223372036854775807) (w : World) (htab : Lib.TabIs Tryz.prog w "internal/strconv.uint64pow10" .u64 Lib.pow10Tab) :
    Calls Tryz.prog 86 #[.int .i64 n] w fun e w' => e = .returned (.string ⟨(Lib.itoa n).toArray⟩) ∧ ∃ k os, w' = grow (w.drewN k) os := Any.strconv_Itoa Tryz.laysM171 n h0 h1 w htab
def Tryz.laysM173_ren : Go.Shelf.Ren := ⟨fun | 173 => 301 | 246 => 181 | 283 => 244 | 284 => 245 | 285 => 246 | 286 => 247 | 129 => 258 | 317 => 305 | 318 => 306 | 319 => 307 | 320 => 308 | 337 => 350 | 338 => 351 | n => n, fun | 2 => 2 | 3 => 3 | 9 => 9 | 4 => 4 | 171 => 340 | 0 => 0 | 53 => 229 | 37 => 58 | 5 => 5 | 173 => 343 | 212 => 397 | 51 => 172 | 20 => 20 | 213 => 398 | 46 => 283 | 232 => 231 | 233 => 440 | n => n, fun | 17 => 0 | 18 => 3 | 19 => 4 | n => n⟩
theorem Tryz.laysM173 : Go.Proofs.LaysM.n173 Tryz.prog Tryz.laysM173_ren := {
  mixed := by kernel_rfl
  f129 := Tryz.func258.trans (congrArg some (by kernel_rfl))
  f173 := Tryz.func301.trans (congrArg some (by kernel_rfl))
  f246 := Tryz.func181.trans (congrArg some (by kernel_rfl))
  f283 := Tryz.func244.trans (congrArg some (by kernel_rfl))
  f284 := Tryz.func245.trans (congrArg some (by kernel_rfl))
  f285 := Tryz.func246.trans (congrArg some (by kernel_rfl))
  f286 := Tryz.func247.trans (congrArg some (by kernel_rfl))
  f317 := Tryz.func305.trans (congrArg some (by kernel_rfl))
  f318 := Tryz.func306.trans (congrArg some (by kernel_rfl))
  f319 := Tryz.func307.trans (congrArg some (by kernel_rfl))
  f320 := Tryz.func308.trans (congrArg some (by kernel_rfl))
  f337 := Tryz.func350.trans (congrArg some (by kernel_rfl))
  f338 := Tryz.func351.trans (congrArg some (by kernel_rfl))
  t0 := Tryz.underlying0
  a0 := Tryz.isAgg0
  z0 := Tryz.sizeOf0
  v0 := Tryz.zeroValue0
  t2 := Tryz.underlying2
  a2 := Tryz.isAgg2
  z2 := Tryz.sizeOf2
  v2 := Tryz.zeroValue2
  t3 := Tryz.underlying3
  a3 := Tryz.isAgg3
  z3 := Tryz.sizeOf3
  v3 := Tryz.zeroValue3
  t4 := Tryz.underlying4
  a4 := Tryz.isAgg4
  z4 := Tryz.sizeOf4
  v4 := Tryz.zeroValue4
  t5 := Tryz.underlying5
  a5 := Tryz.isAgg5
  z5 := Tryz.sizeOf5
  v5 := Tryz.zeroValue5
  t9 := Tryz.underlying9
  a9 := Tryz.isAgg9
  z9 := Tryz.sizeOf9
  v9 := Tryz.zeroValue9
  t20 := Tryz.underlying20
  a20 := Tryz.isAgg20
  z20 := Tryz.sizeOf20
  v20 := Tryz.zeroValue20
  t37 := Tryz.underlying58
  a37 := Tryz.isAgg58
  z37 := Tryz.sizeOf58
  v37 := Tryz.zeroValue58
  t46 := Tryz.underlying283
  a46 := Tryz.isAgg283
  z46 := Tryz.sizeOf283
  v46 := Tryz.zeroValue283
  t51 := Tryz.underlying172
  a51 := Tryz.isAgg172
  z51 := Tryz.sizeOf172
  v51 := Tryz.zeroValue172
  t53 := Tryz.underlying229
  a53 := Tryz.isAgg229
  z53 := Tryz.sizeOf229
  v53 := Tryz.zeroValue229
  t171 := Tryz.underlying340
  a171 := Tryz.isAgg340
  z171 := Tryz.sizeOf340
  v171 := Tryz.zeroValue340
  t173 := Tryz.underlying343
  a173 := Tryz.isAgg343
  z173 := Tryz.sizeOf343
  v173 := Tryz.zeroValue343
  t212 := Tryz.underlying397
  a212 := Tryz.isAgg397
  z212 := Tryz.sizeOf397
  v212 := Tryz.zeroValue397
  t213 := Tryz.underlying398
  a213 := Tryz.isAgg398
  z213 := Tryz.sizeOf398
  t232 := Tryz.underlying231
  a232 := Tryz.isAgg231
  z232 := Tryz.sizeOf231
  v232 := Tryz.zeroValue231
  t233 := Tryz.underlying440
  a233 := Tryz.isAgg440
  z233 := Tryz.sizeOf440
  v233 := Tryz.zeroValue440
  g17 := by kernel_rfl
  g18 := by kernel_rfl
  g19 := by kernel_rfl
  i0 := by kernel_rfl
  i2 := by kernel_rfl
  i3 := by kernel_rfl
  i4 := by kernel_rfl
  i5 := by kernel_rfl
  i9 := by kernel_rfl
  i20 := by kernel_rfl
  i37 := by kernel_rfl
  i46 := by kernel_rfl
  i51 := by kernel_rfl
  i53 := by kernel_rfl
  i171 := by kernel_rfl
  i173 := by kernel_rfl
  i212 := by kernel_rfl
  i232 := by kernel_rfl
  i233 := by kernel_rfl
  m17 := by kernel_rfl
  m18 := by kernel_rfl
  m19 := by kernel_rfl }
open Go.RowKit Go.Sort Go.Lib in
theorem Tryz.strconv_FormatInt_10 (n : Int) (h0 : -9223372036854775808 ≤ n) (h1 : n ≤ 9223372036854775807) (w : World) (htab : Lib.TabIs Tryz.prog w "internal/strconv.uint64pow10" .u64 Lib.pow10Tab) :
    Calls Tryz.prog 301 #[.int .i64 n, .int .i64 10] w fun e w' => e = .returned (.string ⟨(Lib.itoa n).toArray⟩) ∧ ∃ k os, w' = grow (w.drewN k) os := Any.strconv_FormatInt_10 Tryz.laysM173 n h0 h1 w htab
def Tryz.laysM316_ren : Go.Shelf.Ren := ⟨fun | 316 => 117 | n => n, fun | 9 => 9 | 3 => 3 | 4 => 4 | 37 => 58 | 0 => 0 | 127 => 277 | 5 => 5 | n => n, fun | n => n⟩
theorem Tryz.laysM316 : Go.Proofs.LaysM.n316 Tryz.prog Tryz.laysM316_ren := {
  mixed := by kernel_rfl
  f316 := Tryz.func117.trans (congrArg some (by kernel_rfl))
  t0 := Tryz.underlying0
  a0 := Tryz.isAgg0
  z0 := Tryz.sizeOf0
  v0 := Tryz.zeroValue0
  t3 := Tryz.underlying3
  a3 := Tryz.isAgg3
  z3 := Tryz.sizeOf3
  v3 := Tryz.zeroValue3
  t4 := Tryz.underlying4
  a4 := Tryz.isAgg4
  z4 := Tryz.sizeOf4
  v4 := Tryz.zeroValue4
  t9 := Tryz.underlying9
  a9 := Tryz.isAgg9
  z9 := Tryz.sizeOf9
  v9 := Tryz.zeroValue9
  t37 := Tryz.underlying58
  a37 := Tryz.isAgg58
  z37 := Tryz.sizeOf58
  v37 := Tryz.zeroValue58
  t127 := Tryz.underlying277
  a127 := Tryz.isAgg277
  z127 := Tryz.sizeOf277
  v127 := Tryz.zeroValue277
  t5 := Tryz.underlying5
  a5 := Tryz.isAgg5
  z5 := Tryz.sizeOf5
  v5 := Tryz.zeroValue5
  i0 := by kernel_rfl
  i3 := by kernel_rfl
  i4 := by kernel_rfl
  i5 := by kernel_rfl
  i9 := by kernel_rfl
  i37 := by kernel_rfl
  i127 := by kernel_rfl }
open Go.RowKit in
theorem Tryz.stringslite_Clone (s : ByteArray) (w : World) (hlim : s.size ≤ 281474976710656) :
    Calls Tryz.prog 117 #[.string s] w fun e w' => e = .returned (.string s) ∧ Below w.heap.size w w' := Any.stringslite_Clone Tryz.laysM316 s w hlim
def Tryz.lays144_ren : Go.Shelf.Ren := ⟨fun | 144 => 337 | 143 => 357 | 219 => 259 | 217 => 315 | 225 => 316 | 224 => 317 | 267 => 318 | 266 => 353 | 314 => 354 | n => n, fun | 9 => 9 | 4 => 4 | 3 => 3 | 5 => 5 | 46 => 283 | 146 => 426 | 51 => 172 | n => n, fun | 1 => 1 | n => n⟩
theorem Tryz.lays144 : Go.Proofs.Lays.n144 Tryz.prog Tryz.lays144_ren := {
  mixed := by kernel_rfl
  f143 := Tryz.func357.trans (congrArg some (by kernel_rfl))
  f144 := Tryz.func337.trans (congrArg some (by kernel_rfl))
  f217 := Tryz.func315.trans (congrArg some (by kernel_rfl))
  f219 := Tryz.func259.trans (congrArg some (by kernel_rfl))
  f224 := Tryz.func317.trans (congrArg some (by kernel_rfl))
  f225 := Tryz.func316.trans (congrArg some (by kernel_rfl))
  f266 := Tryz.func353.trans (congrArg some (by kernel_rfl))
  f267 := Tryz.func318.trans (congrArg some (by kernel_rfl))
  f314 := Tryz.func354.trans (congrArg some (by kernel_rfl))
  t3 := Tryz.underlying3
  a3 := Tryz.isAgg3
  z3 := Tryz.sizeOf3
  v3 := Tryz.zeroValue3
  t4 := Tryz.underlying4
  a4 := Tryz.isAgg4
  z4 := Tryz.sizeOf4
  v4 := Tryz.zeroValue4
  t5 := Tryz.underlying5
  a5 := Tryz.isAgg5
  z5 := Tryz.sizeOf5
  v5 := Tryz.zeroValue5
  t9 := Tryz.underlying9
  a9 := Tryz.isAgg9
  z9 := Tryz.sizeOf9
  v9 := Tryz.zeroValue9
  t46 := Tryz.underlying283
  a46 := Tryz.isAgg283
  z46 := Tryz.sizeOf283
  v46 := Tryz.zeroValue283
  t51 := Tryz.underlying172
  a51 := Tryz.isAgg172
  z51 := Tryz.sizeOf172
  v51 := Tryz.zeroValue172
  t146 := Tryz.underlying426
  a146 := Tryz.isAgg426
  z146 := Tryz.sizeOf426
  v146 := Tryz.zeroValue426
  g1 := by kernel_rfl }
open Go.RowKit Go.Lib in
theorem Tryz.strings_Contains (s sub : ByteArray) (m : Int) (w : World) (hs : s.size < 4294967281) (hm : w.cell? ⟨1, 0, none⟩ = some (.int .i64 m)) :
    Calls Tryz.prog 337 #[.string s, .string sub] w fun e w' => e = .returned (.bool (Lib.contains s.data.toList sub.data.toList)) ∧ w' = w := Any.strings_Contains Tryz.lays144 s sub m w hs hm
def Tryz.lays145_ren : Go.Shelf.Ren := ⟨fun | 145 => 136 | 220 => 185 | 219 => 259 | 217 => 315 | 225 => 316 | 224 => 317 | 267 => 318 | 266 => 353 | 314 => 354 | n => n, fun | 9 => 9 | 4 => 4 | 59 => 233 | 3 => 3 | 5 => 5 | 46 => 283 | 146 => 426 | 51 => 172 | n => n, fun | 1 => 1 | n => n⟩
theorem Tryz.lays145 : Go.Proofs.Lays.n145 Tryz.prog Tryz.lays145_ren := {
  mixed := by kernel_rfl
  f145 := Tryz.func136.trans (congrArg some (by kernel_rfl))
  f217 := Tryz.func315.trans (congrArg some (by kernel_rfl))
  f219 := Tryz.func259.trans (congrArg some (by kernel_rfl))
  f220 := Tryz.func185.trans (congrArg some (by kernel_rfl))
  f224 := Tryz.func317.trans (congrArg some (by kernel_rfl))
  f225 := Tryz.func316.trans (congrArg some (by kernel_rfl))
  f266 := Tryz.func353.trans (congrArg some (by kernel_rfl))
  f267 := Tryz.func318.trans (congrArg some (by kernel_rfl))
  f314 := Tryz.func354.trans (congrArg some (by kernel_rfl))
  t3 := Tryz.underlying3
  a3 := Tryz.isAgg3
  z3 := Tryz.sizeOf3
  v3 := Tryz.zeroValue3
  t4 := Tryz.underlying4
  a4 := Tryz.isAgg4
  z4 := Tryz.sizeOf4
  v4 := Tryz.zeroValue4
  t5 := Tryz.underlying5
  a5 := Tryz.isAgg5
  z5 := Tryz.sizeOf5
  v5 := Tryz.zeroValue5
  t9 := Tryz.underlying9
  a9 := Tryz.isAgg9
  z9 := Tryz.sizeOf9
  v9 := Tryz.zeroValue9
  t46 := Tryz.underlying283
  a46 := Tryz.isAgg283
  z46 := Tryz.sizeOf283
  v46 := Tryz.zeroValue283
  t51 := Tryz.underlying172
  a51 := Tryz.isAgg172
  z51 := Tryz.sizeOf172
  v51 := Tryz.zeroValue172
  t59 := Tryz.underlying233
  a59 := Tryz.isAgg233
  z59 := Tryz.sizeOf233
  v59 := Tryz.zeroValue233
  t146 := Tryz.underlying426
  a146 := Tryz.isAgg426
  z146 := Tryz.sizeOf426
  v146 := Tryz.zeroValue426
  g1 := by kernel_rfl }
open Go.RowKit Go.Lib in
theorem Tryz.strings_Cut (s sep : ByteArray) (m : Int) (w : World) (hs : s.size < 4294967281) (hm : w.cell? ⟨1, 0, none⟩ = some (.int .i64 m)) :
    Calls Tryz.prog 136 #[.string s, .string sep] w fun e w' => e = .returned (.tuple #[.string ⟨(Lib.cut s.data.toList sep.data.toList).1.toArray⟩, .string ⟨(Lib.cut s.data.toList sep.data.toList).2.1.toArray⟩, .bool (Lib.cut s.data.toList sep.data.toList).2.2]) ∧ ∃ n, w' = w.drewN n := Any.strings_Cut Tryz.lays145 s sep m w hs hm
def Tryz.lays138_ren : Go.Shelf.Ren := ⟨fun | 138 => 356 | 195 => 378 | 218 => 380 | 143 => 357 | 219 => 259 | 217 => 315 | 225 => 316 | 224 => 317 | 267 => 318 | 266 => 353 | 314 => 354 | n => n, fun | 9 => 9 | 3 => 3 | 4 => 4 | 5 => 5 | 0 => 0 | 46 => 283 | 146 => 426 | 51 => 172 | n => n, fun | 1 => 1 | n => n⟩
theorem Tryz.lays138 : Go.Proofs.Lays.n138 Tryz.prog Tryz.lays138_ren := {
  mixed := by kernel_rfl
  f138 := Tryz.func356.trans (congrArg some (by kernel_rfl))
  f143 := Tryz.func357.trans (congrArg some (by kernel_rfl))
  f195 := Tryz.func378.trans (congrArg some (by kernel_rfl))
  f217 := Tryz.func315.trans (congrArg some (by kernel_rfl))
  f218 := Tryz.func380.trans (congrArg some (by kernel_rfl))
  f219 := Tryz.func259.trans (congrArg some (by kernel_rfl))
  f224 := Tryz.func317.trans (congrArg some (by kernel_rfl))
  f225 := Tryz.func316.trans (congrArg some (by kernel_rfl))
  f266 := Tryz.func353.trans (congrArg some (by kernel_rfl))
  f267 := Tryz.func318.trans (congrArg some (by kernel_rfl))
  f314 := Tryz.func354.trans (congrArg some (by kernel_rfl))
  t0 := Tryz.underlying0
  a0 := Tryz.isAgg0
  z0 := Tryz.sizeOf0
  v0 := Tryz.zeroValue0
  t3 := Tryz.underlying3
  a3 := Tryz.isAgg3
  z3 := Tryz.sizeOf3
  v3 := Tryz.zeroValue3
  t4 := Tryz.underlying4
  a4 := Tryz.isAgg4
  z4 := Tryz.sizeOf4
  v4 := Tryz.zeroValue4
  t5 := Tryz.underlying5
  a5 := Tryz.isAgg5
  z5 := Tryz.sizeOf5
  v5 := Tryz.zeroValue5
  t9 := Tryz.underlying9
  a9 := Tryz.isAgg9
  z9 := Tryz.sizeOf9
  v9 := Tryz.zeroValue9
  t46 := Tryz.underlying283
  a46 := Tryz.isAgg283
  z46 := Tryz.sizeOf283
  v46 := Tryz.zeroValue283
  t51 := Tryz.underlying172
  a51 := Tryz.isAgg172
  z51 := Tryz.sizeOf172
  v51 := Tryz.zeroValue172
  t146 := Tryz.underlying426
  a146 := Tryz.isAgg426
  z146 := Tryz.sizeOf426
  v146 := Tryz.zeroValue426
  g1 := by kernel_rfl }
open Go.RowKit Go.Lib in
theorem Tryz.strings_Count_one (s : ByteArray) (c : UInt8) (w : World) :
    Calls Tryz.prog 356 #[.string s, .string ⟨#[c]⟩] w fun e w' => e = .returned (.int .i64 (Lib.countByte s.data.toList c)) ∧ w' = w := Any.strings_Count_one Tryz.lays138 s c w
def Tryz.lays99_ren : Go.Shelf.Ren := ⟨fun | 99 => 293 | 206 => 338 | n => n, fun | 9 => 9 | 4 => 4 | 3 => 3 | n => n, fun | n => n⟩
theorem Tryz.lays99 : Go.Proofs.Lays.n99 Tryz.prog Tryz.lays99_ren := {
  mixed := by kernel_rfl
  f99 := Tryz.func293.trans (congrArg some (by kernel_rfl))
  f206 := Tryz.func338.trans (congrArg some (by kernel_rfl))
  t3 := Tryz.underlying3
  a3 := Tryz.isAgg3
  z3 := Tryz.sizeOf3
  v3 := Tryz.zeroValue3
  t4 := Tryz.underlying4
  a4 := Tryz.isAgg4
  z4 := Tryz.sizeOf4
  v4 := Tryz.zeroValue4
  t9 := Tryz.underlying9
  a9 := Tryz.isAgg9
  z9 := Tryz.sizeOf9
  v9 := Tryz.zeroValue9 }
open Go.RowKit Go.Lib in
theorem Tryz.strings_HasPrefix (s p : ByteArray) (w : World) :
    Calls Tryz.prog 293 #[.string s, .string p] w fun e w' => e = .returned (.bool (Lib.hasPrefix s.data.toList p.data.toList)) ∧ w' = w := Any.strings_HasPrefix Tryz.lays99 s p w
def Tryz.lays101_ren : Go.Shelf.Ren := ⟨fun | 101 => 362 | 208 => 386 | 206 => 338 | n => n, fun | 9 => 9 | 4 => 4 | 3 => 3 | n => n, fun | n => n⟩
theorem Tryz.lays101 : Go.Proofs.Lays.n101 Tryz.prog Tryz.lays101_ren := {
  mixed := by kernel_rfl
  f101 := Tryz.func362.trans (congrArg some (by kernel_rfl))
  f206 := Tryz.func338.trans (congrArg some (by kernel_rfl))
  f208 := Tryz.func386.trans (congrArg some (by kernel_rfl))
  t3 := Tryz.underlying3
  a3 := Tryz.isAgg3
  z3 := Tryz.sizeOf3
  v3 := Tryz.zeroValue3
  t4 := Tryz.underlying4
  a4 := Tryz.isAgg4
  z4 := Tryz.sizeOf4
  v4 := Tryz.zeroValue4
  t9 := Tryz.underlying9
  a9 := Tryz.isAgg9
  z9 := Tryz.sizeOf9
  v9 := Tryz.zeroValue9 }
open Go.RowKit Go.Lib in
theorem Tryz.strings_TrimPrefix (s p : ByteArray) (w : World) :
    Calls Tryz.prog 362 #[.string s, .string p] w fun e w' => e = .returned (.string ⟨(Lib.trimPrefix s.data.toList p.data.toList).toArray⟩) ∧ w' = w := Any.strings_TrimPrefix Tryz.lays101 s p w
def Tryz.lays146_ren : Go.Shelf.Ren := ⟨fun | 146 => 261 | 221 => 319 | 268 => 355 | 138 => 356 | 143 => 357 | 195 => 378 | 197 => 379 | 218 => 380 | 219 => 259 | 260 => 392 | 217 => 315 | 225 => 316 | 224 => 317 | 267 => 318 | 266 => 353 | 314 => 354 | n => n, fun | 9 => 9 | 31 => 35 | 3 => 3 | 4 => 4 | 0 => 0 | 105 => 441 | 21 => 21 | 5 => 5 | 46 => 283 | 119 => 450 | 139 => 453 | 138 => 452 | 146 => 426 | 51 => 172 | n => n, fun | 1 => 1 | 3 => 5 | 4 => 6 | n => n⟩
theorem Tryz.lays146 : Go.Proofs.Lays.n146 Tryz.prog Tryz.lays146_ren := {
  mixed := by kernel_rfl
  f138 := Tryz.func356.trans (congrArg some (by kernel_rfl))
  f143 := Tryz.func357.trans (congrArg some (by kernel_rfl))
  f146 := Tryz.func261.trans (congrArg some (by kernel_rfl))
  f195 := Tryz.func378.trans (congrArg some (by kernel_rfl))
  f197 := Tryz.func379.trans (congrArg some (by kernel_rfl))
  f217 := Tryz.func315.trans (congrArg some (by kernel_rfl))
  f218 := Tryz.func380.trans (congrArg some (by kernel_rfl))
  f219 := Tryz.func259.trans (congrArg some (by kernel_rfl))
  f221 := Tryz.func319.trans (congrArg some (by kernel_rfl))
  f224 := Tryz.func317.trans (congrArg some (by kernel_rfl))
  f225 := Tryz.func316.trans (congrArg some (by kernel_rfl))
  f260 := Tryz.func392.trans (congrArg some (by kernel_rfl))
  f266 := Tryz.func353.trans (congrArg some (by kernel_rfl))
  f267 := Tryz.func318.trans (congrArg some (by kernel_rfl))
  f268 := Tryz.func355.trans (congrArg some (by kernel_rfl))
  f314 := Tryz.func354.trans (congrArg some (by kernel_rfl))
  t0 := Tryz.underlying0
  a0 := Tryz.isAgg0
  z0 := Tryz.sizeOf0
  v0 := Tryz.zeroValue0
  t3 := Tryz.underlying3
  a3 := Tryz.isAgg3
  z3 := Tryz.sizeOf3
  v3 := Tryz.zeroValue3
  t4 := Tryz.underlying4
  a4 := Tryz.isAgg4
  z4 := Tryz.sizeOf4
  v4 := Tryz.zeroValue4
  t5 := Tryz.underlying5
  a5 := Tryz.isAgg5
  z5 := Tryz.sizeOf5
  v5 := Tryz.zeroValue5
  t9 := Tryz.underlying9
  a9 := Tryz.isAgg9
  z9 := Tryz.sizeOf9
  v9 := Tryz.zeroValue9
  t21 := Tryz.underlying21
  a21 := Tryz.isAgg21
  z21 := Tryz.sizeOf21
  v21 := Tryz.zeroValue21
  t31 := Tryz.underlying35
  a31 := Tryz.isAgg35
  z31 := Tryz.sizeOf35
  v31 := Tryz.zeroValue35
  t46 := Tryz.underlying283
  a46 := Tryz.isAgg283
  z46 := Tryz.sizeOf283
  v46 := Tryz.zeroValue283
  t51 := Tryz.underlying172
  a51 := Tryz.isAgg172
  z51 := Tryz.sizeOf172
  v51 := Tryz.zeroValue172
  t105 := Tryz.underlying441
  a105 := Tryz.isAgg441
  z105 := Tryz.sizeOf441
  v105 := Tryz.zeroValue441
  t119 := Tryz.underlying450
  a119 := Tryz.isAgg450
  z119 := Tryz.sizeOf450
  t138 := Tryz.underlying452
  a138 := Tryz.isAgg452
  z138 := Tryz.sizeOf452
  v138 := Tryz.zeroValue452
  t139 := Tryz.underlying453
  a139 := Tryz.isAgg453
  z139 := Tryz.sizeOf453
  v139 := Tryz.zeroValue453
  t146 := Tryz.underlying426
  a146 := Tryz.isAgg426
  z146 := Tryz.sizeOf426
  v146 := Tryz.zeroValue426
  g1 := by kernel_rfl
  g3 := by kernel_rfl
  g4 := by kernel_rfl }
open Go.RowKit Go.Lib in
theorem Tryz.strings_Split (s sep : ByteArray) (m : Int) (w : World) (hs : s.size < 4294967281) (hm : w.cell? ⟨1, 0, none⟩ = some (.int .i64 m)) (h1 : 1 ≤ sep.size) :
    Calls Tryz.prog 261 #[.string s, .string sep] w fun e w' =>
      e = .returned (.slice (some ⟨w.heap.size, 0, none⟩) (Lib.countB s sep + 1) (Lib.countB s sep + 1)) ∧ w' = w.alloc (.cells ((Lib.splitB sep 0 (Lib.countB s sep) s).map Value.string).toArray 9) := Any.strings_Split Tryz.lays146 (by kernel_rfl) s sep m w hs hm h1
end Go.Proofs
namespace Go.Proofs.YtepgoppgblfjbaaGreatDoor
open Go.RowKit

namespace Sh
def kindW : List (List UInt8) := [[], [98, 108, 111, 98], [116, 114, 101, 101], [99, 111, 109, 109, 105, 116], [116, 97, 103]]

def text (kind : Nat) (c : List UInt8) : List UInt8 := kindW.getD kind [] ++ [32] ++ Lib.itoa (c.length : Int) ++ [0] ++ c

def idK (K : List Int) (kind : Nat) (c : List UInt8) : List UInt8 := hex (ofK K (text kind c))
end Sh

structure Gl (w : World) : Prop where
  max : ∃ m, w.cell? ⟨1, 0, none⟩ = some (.int .i64 m)
  pow : Lib.TabIs Tryz.prog w "internal/strconv.uint64pow10" .u64 Lib.pow10Tab
  words : ∀ j s, Sh.kindW[j]? = some s → w.cell? ⟨2, j, none⟩ = some (.string ⟨s.toArray⟩)

theorem glob0 : Tryz.prog.globalNamed "internal/strconv.uint64pow10" = some 0 := by kernel_rfl

theorem Gl.kept {X : Nat → Prop} {w w' : World} (h : Gl w) (hk : Kx X w w') (hX : ∀ j, j < 3 → ¬ X j) : Gl w' := by
  have h2 : 2 < w.heap.size := lt_of_cell (h.words 0 [] rfl)
  obtain ⟨m, hm⟩ := h.max
  refine ⟨⟨m, ?_⟩, ?_, fun j s hs => ?_⟩
  · rw [hk.cell (p := ⟨1, 0, none⟩) (show 1 < w.heap.size by omega) (hX 1 (by omega))]; exact hm
  · have := h.pow
    unfold Lib.TabIs World.var? at this ⊢
    rw [glob0] at this ⊢
    simp only [Option.bind_some] at this ⊢
    rw [hk.block 0 (by omega) (hX 0 (by omega))]
    exact this
  · rw [hk.cell (p := ⟨2, j, none⟩) h2 (hX 2 (by omega))]; exact h.words j s hs

theorem Gl.size {w : World} (h : Gl w) : 2 < w.heap.size := lt_of_cell (h.words 0 [] rfl)

theorem Kx.grown' {X : Nat → Prop} (w : World) (k : Nat) (os : Array Obj) : Kx X w (Go.Sort.grow (w.drewN k) os) :=
  ⟨rfl, rfl, rfl, by simp [Go.Sort.grow, World.drewN], fun j hj _ => by
    show (w.heap ++ os)[j]? = _
    rw [Array.getElem?_append_left hj]⟩

theorem itoa_any (n : Nat) (hn : n ≤ 1000000) (w : World) (h : Gl w) :
    Calls Tryz.prog 86 #[.int .i64 (n : Int)] w fun e w' => e = .returned (.string ⟨(Lib.itoa (n : Int)).toArray⟩) ∧ Kx (fun _ => False) w w' := by
  refine (Tryz.strconv_Itoa (n : Int) (by omega) (by omega) w h.pow).mono ?_
  rintro e w' ⟨rfl, k, os, rfl⟩
  exact ⟨rfl, Kx.grown' _ _ _⟩

set_option maxHeartbeats 800000 in
set_option maxRecDepth 100000 in
theorem object_any (KK : List Int) (hKK : KK.length = 72) (mb : Nat) (mt : TypeId) (kind : Nat) (c : List UInt8) (w : World) (hgl : Gl w) (hK : Cb mb (A32 KK) mt w) (hk : 0 < kind ∧ kind < 5) (hc : c.length ≤ 45000) :
    Calls Tryz.prog 299 #[.pointer (some ⟨mb, 0, none⟩), .int .i64 (kind : Int), .string ⟨c.toArray⟩] w fun e w' => e = .returned (.agg #[.int .i64 (kind : Int), .string ⟨c.toArray⟩, .string ⟨(Sh.idK KK kind c).toArray⟩]) ∧ Kx (fun _ => False) w w' := by
  have hw2 := hgl.size
  have hkb : (kind : Int) < 5 := by omega
  go_enter Tryz.func299, Tryz.ntmps299
  go_wp2_with fail
  obtain ⟨kw, hkw⟩ : ∃ kw, Sh.kindW[kind]? = some kw := ⟨_, List.getElem?_eq_getElem (show kind < Sh.kindW.length from hk.2)⟩
  have hT : Sh.text kind c = kw ++ [32] ++ Lib.itoa (c.length : Int) ++ [0] ++ c := by unfold Sh.text; rw [List.getD_eq_getElem?_getD, hkw]; rfl
  have hil := Lib.itoa_length_le (c.length : Int) (by omega) (by omega)
  have hkl : kw.length ≤ 6 := by
    have h : ∀ x ∈ Sh.kindW, x.length ≤ 6 := by decide
    exact h kw (List.mem_of_getElem? hkw)
  have HT : Hid (Sh.text kind c = kw ++ [32] ++ Lib.itoa (c.length : Int) ++ [0] ++ c) := hT
  have htl : (kw ++ [32] ++ Lib.itoa (c.length : Int) ++ [0] ++ c).length ≤ 100000 := by simp; omega
  clear hT
  have hgW := hgl.kept ((Kx.refl (fun _ => False) w).alloc (.cells #[.int .i64 0, .string ⟨#[]⟩, .string ⟨#[]⟩] 105)) (fun _ _ => id)
  have hKW := hK.alloc (.cells #[.int .i64 0, .string ⟨#[]⟩, .string ⟨#[]⟩] 105)
  have hD := Cb.new #[.int .i64 0, .string ⟨#[]⟩, .string ⟨#[]⟩] 105 w
  have hkxW := (Kx.refl (fun _ => False) w).alloc (.cells #[.int .i64 0, .string ⟨#[]⟩, .string ⟨#[]⟩] 105)
  revert hgW hKW hD hkxW
  generalize w.alloc (.cells #[.int .i64 0, .string ⟨#[]⟩, .string ⟨#[]⟩] 105) = W
  intro hgW hKW hD hkxW
  have hcat : ∀ a b : List UInt8, (⟨a.toArray⟩ : ByteArray) ++ ⟨b.toArray⟩ = ⟨(a ++ b).toArray⟩ := fun a b => by
    apply ByteArray.ext; simp
  refine wp_region_quiet_tail (C := fun w' => Kx (fun _ => False) W w') 11 (by kernel_rfl) (by kernel_rfl) (Kx.refl _ _).drew ?_
  refine quiet_val rfl (.int .i64 (kind : Int)) (fun w' hC => rfl) ?_
  refine quiet_val rfl (.pointer (some ⟨2, kind, none⟩)) (fun w' hC => by go_simp) ?_
  refine quiet_val rfl (.string ⟨kw.toArray⟩) (fun w' hC => by
    have hcw : w'.cell? ⟨2, kind, none⟩ = some (.string ⟨kw.toArray⟩) := (hgW.kept hC (fun _ _ => id)).words kind kw hkw
    go_simp) ?_
  refine quiet_val rfl (.string ⟨(kw ++ [32]).toArray⟩) (fun w' hC => by go_simp; omega) ?_
  refine quiet_val rfl (.string ⟨c.toArray⟩) (fun w' hC => rfl) ?_
  refine quiet_val rfl (.int .i64 (c.length : Int)) (fun w' hC => by go_simp) ?_
  refine quiet_enter rfl 86 #[.int .i64 (c.length : Int)] (.string ⟨(Lib.itoa (c.length : Int)).toArray⟩) (fun w' => by go_simp) (fun w' hC => (itoa_any c.length (by omega) w' (hgW.kept hC (fun _ _ => id))).mono (fun e w'' h => ⟨h.1, hC.trans h.2⟩)) ?_
  simp only [Act.put, sI, sS, sZ]
  have hitl := hil
  generalize Lib.itoa (c.length : Int) = it at *
  refine quiet_val rfl (.string ⟨(kw ++ [32] ++ it).toArray⟩) (fun w' hC => by go_simp; omega) ?_
  refine quiet_val rfl (.string ⟨(kw ++ [32] ++ it ++ [0]).toArray⟩) (fun w' hC => by go_simp; omega) ?_
  simp only [Act.put, sI, sS, sZ]
  refine quiet_val rfl (.string ⟨c.toArray⟩) (fun w' hC => rfl) ?_
  refine quiet_val rfl (.string ⟨(kw ++ [32] ++ it ++ [0] ++ c).toArray⟩) (fun w' hC => by go_simp; omega) ?_
  refine wpQuiet_nil (fun w' hC => ?_)
  simp only [Act.put, sI, sS, sZ, List.drop_succ_cons, List.drop_zero]
  obtain ⟨T, hTT⟩ : ∃ T, kw ++ [32] ++ it ++ [0] ++ c = T := ⟨_, rfl⟩
  rw [hTT] at htl HT ⊢
  clear hTT
  have hKw := hKW.kept hC id
  have hDw := hD.kept hC id
  have hkw' := hkxW.trans hC
  clear hgW hcat hKW hD
  have HID : Hid (Sh.idK KK kind c = Sh.hex (Sh.ofK KK T)) := by show _ = _; unfold Sh.idK; rw [HT.out]
  obtain ⟨D, hDD⟩ : ∃ D, w.heap.size = D := ⟨_, rfl⟩
  have HD : Hid (w.heap.size = D) := hDD
  rw [hDD] at hDw ⊢
  clear hDD hkw hkl
  go_wp2_with fail
  refine (of_any KK hKK T htl mb mt _ hKw).mono ?_
  rintro _ w2 ⟨rfl, hk2⟩
  have hofl : (Sh.ofK KK T).length = 32 := by unfold Sh.ofK; exact digest_len _ _
  have hDw2 := hDw.kept hk2 id
  have hkw2 := hkw'.trans hk2
  generalize Sh.ofK KK T = d at *
  go_wp2_with fail
  refine (idOf_any d hofl _).mono ?_
  rintro _ w3 ⟨rfl, hk3⟩
  have hDw3 := hDw2.kept hk3 id
  have hkw3 := hkw2.trans hk3
  have c0 : w3.cell? ⟨D, 0, none⟩ = some (.int .i64 0) := hDw3.cell 0
  have c1 : w3.cell? ⟨D, 1, none⟩ = some (.string ⟨#[]⟩) := hDw3.cell 1
  have c2 : w3.cell? ⟨D, 2, none⟩ = some (.string ⟨#[]⟩) := hDw3.cell 2
  have f0 : w3.frozen? ⟨D, 0, none⟩ = false := hDw3.frozen 0
  have f1 : w3.frozen? ⟨D, 1, none⟩ = false := hDw3.frozen 1
  have f2 : w3.frozen? ⟨D, 2, none⟩ = false := hDw3.frozen 2
  generalize Sh.hex d = h at *
  go_wp2
  have h4 := ((hDw3.set 0 (.int .i64 (kind : Int))).set 1 (.string ⟨c.toArray⟩)).set 2 (.string ⟨h.toArray⟩)
  refine bodyPost_ret (v := .agg #[.int .i64 (kind : Int), .string ⟨c.toArray⟩, .string ⟨h.toArray⟩]) (results_arr (k := D) rfl rfl h4 Tryz.underlying105 rfl (by kernel_rfl)) rfl ⟨?_, ?_⟩
  · rw [HID.out]
  · have hle : w.heap.size ≤ D := Nat.le_of_eq HD.out
    exact ((hkw3.setNew (p := ⟨D, 0, none⟩) hle _).setNew (p := ⟨D, 1, none⟩) hle _).setNew (p := ⟨D, 2, none⟩) hle _

theorem indexByte_any (set : List UInt8) (c : UInt8) (w : World) :
    Calls Tryz.prog 260 #[.string ⟨set.toArray⟩, .int .u8 (c.toNat : Int)] w fun e w' => e = .returned (.int .i64 (Lib.indexByte set c)) ∧ w' = w := by
  have h := Tryz.strings_IndexByte ⟨set.toArray⟩ (c.toNat : Int) w
  simpa using h

theorem cutPrefix_any (s p : List UInt8) (w : World) :
    Calls Tryz.prog 336 #[.string ⟨s.toArray⟩, .string ⟨p.toArray⟩] w fun e w' => e = .returned (.tuple #[.string ⟨(Lib.trimPrefix s p).toArray⟩, .bool (Lib.hasPrefix s p)]) ∧ w' = w :=
  Tryz.strings_CutPrefix ⟨s.toArray⟩ ⟨p.toArray⟩ w

theorem hexBack (n : Nat) (hn : n < 16) : Lib.indexByte Sh.hexL (Sh.hexL.getD n 0) = (n : Int) := by
  have h : ∀ n : Fin 16, Lib.indexByte Sh.hexL (Sh.hexL.getD n.val 0) = (n.val : Int) := by decide +kernel
  exact h ⟨n, hn⟩

theorem byteBack (b : UInt8) : bits .or .i64 (((b.toNat / 16 : Nat) : Int) * 16) ((b.toNat % 16 : Nat) : Int) % 256 = (b.toNat : Int) := by
  have h : ∀ n : Fin 256, bits .or .i64 (((n.val / 16 : Nat) : Int) * 16) ((n.val % 16 : Nat) : Int) % 256 = (n.val : Int) := by decide +kernel
  exact h ⟨b.toNat, b.toNat_lt⟩

theorem hex_at (d : List UInt8) (k : Nat) (hk : k < d.length) : (Sh.hex d)[2 * k]? = some (Sh.hexL.getD ((d.getD k 0).toNat / 16) 0) ∧ (Sh.hex d)[2 * k + 1]? = some (Sh.hexL.getD ((d.getD k 0).toNat % 16) 0) := by
  induction d generalizing k with
  | nil => simp at hk
  | cons a r ih =>
    cases k with
    | zero => simp [Sh.hex, Sh.hex1]
    | succ k =>
      have := ih k (by simpa using hk)
      have e1 : 2 * (k + 1) = 2 * k + 2 := by omega
      have e2 : 2 * (k + 1) + 1 = 2 * k + 1 + 2 := by omega
      rw [e2, e1]
      simpa [Sh.hex, Sh.hex1] using this

set_option maxHeartbeats 800000 in
set_option maxRecDepth 100000 in
theorem sumOf_any (d : List UInt8) (hd : d.length ≤ 32) (w : World) :
    Calls Tryz.prog 348 #[.string ⟨(Sh.hex d).toArray⟩] w fun e w' => (∃ v, e = .returned v ∧ OwnB w' w.heap.size 5 v (A8 d)) ∧ Kx (fun _ => False) w w' := by
  obtain ⟨i0, hi, hz0, hz1, hz2⟩ := info_parts info5
  have hlen := hex_len d
  obtain ⟨h, hh⟩ : ∃ h, Sh.hex d = h := ⟨_, rfl⟩
  have HH : Hid (Sh.hex d = h) := hh
  rw [hh] at hlen ⊢
  clear hh
  go_enter Tryz.func348, Tryz.ntmps348
  go_wp2
  go_loopw [3, 4] (fun v iv w' => ∃ (k : Nat), iv = .int .i64 ((2 * k : Nat) : Int) ∧ k ≤ d.length ∧ Kx (fun _ => False) w w' ∧ OwnB w' w.heap.size 5 v (A8 (d.take k))) (fun _ iv _ => 64 - (intOf iv).toNat)
  case atStart => exact ⟨0, rfl, by omega, Kx.refl _ _, .inl ⟨rfl, by simp [A8]⟩⟩
  case round =>
    obtain ⟨k, rfl, hk, hkx, hown⟩ := hrel
    by_cases hlt : k < d.length
    · obtain ⟨h1, h2⟩ := hex_at d k hlt
      rw [HH.out] at h1 h2
      have hl1 : 2 * k < h.length := by omega
      have hl2 : 2 * k + 1 < h.length := by omega
      have e1 : h[2 * k] = Sh.hexL.getD ((d.getD k 0).toNat / 16) 0 := by rw [List.getElem?_eq_getElem hl1] at h1; exact Option.some.inj h1
      have e2 : h[2 * k + 1] = Sh.hexL.getD ((d.getD k 0).toNat % 16) 0 := by rw [List.getElem?_eq_getElem hl2] at h2; exact Option.some.inj h2
      have hbk := byteBack (d.getD k 0)
      have hb1 := hexBack ((d.getD k 0).toNat / 16) (by have := (d.getD k 0).toNat_lt; omega)
      have hb2 := hexBack ((d.getD k 0).toNat % 16) (by omega)
      have HT : Hid (d.take (k + 1) = d.take k ++ [d.getD k 0]) := by
        show _ = _
        rw [List.take_succ_eq_append_getElem hlt]; simp [List.getD, hlt]
      have hlen3 : (A8 (d.take k)).length = k := by rw [A8_len, List.length_take]; omega
      have E1 : Hid (Lib.indexByte Sh.hexL h[2 * k] = (((d.getD k 0).toNat / 16 : Nat) : Int)) := by show _ = _; rw [e1]; exact hb1
      have E2 : Hid (Lib.indexByte Sh.hexL h[2 * k + 1] = (((d.getD k 0).toNat % 16 : Nat) : Int)) := by show _ = _; rw [e2]; exact hb2
      clear e1 e2 h1 h2 hb1 hb2
      have hn1 : (d.getD k 0).toNat / 16 < 16 := by have := (d.getD k 0).toNat_lt; omega
      have hn2 : (d.getD k 0).toNat % 16 < 16 := by omega
      generalize (d.getD k 0).toNat / 16 = n1 at *
      generalize (d.getD k 0).toNat % 16 = n2 at *
      generalize d.getD k 0 = c at *
      go_wp2_with fail
      refine (indexByte_any Sh.hexL h[2 * k] _).mono ?_
      rintro _ w2 ⟨rfl, hw2⟩
      rw [hw2, E1.out]
      clear hw2 w2
      go_wp2_with fail
      refine (indexByte_any Sh.hexL h[2 * k + 1] _).mono ?_
      rintro _ w2 ⟨rfl, hw2⟩
      rw [hw2, E2.out]
      clear hw2 w2
      go_wp2_with (at_builtin; refine wpList_append_B _ rfl (.tmp 23) (.tmp 29) 58 rfl w.heap.size 5 i0 _ 1 Tryz.underlying58 hi hz0 hz1 hz2 rfl _ _ rfl (hown.alloc _) ⟨wr.heap.size, 0, none⟩ 1 1 [.int .u8 (c.toNat : Int)] rfl rfl (by omega) ?c1 ?c2 ?c3 ?c4 ?c5 ?_)
      case c1 => exact cells_new _ [_] _
      case c2 => simp [Value.oneCell']
      case c3 => rw [hlen3]; unfold maxLen; omega
      case c4 => rw [hlen3]; omega
      case c5 => have := hkx.size; simp; omega
      intro v2 w3 hown3 hg3 _
      have hk3 : Kx (fun _ => False) w w3 := (hkx.alloc _).grownB (hown.alloc _) hg3 (Nat.le_refl _)
      have hown3' : OwnB w3 w.heap.size 5 v2 (A8 (d.take (k + 1))) := by rw [HT.out, A8_app]; exact hown3
      clear hg3 hown3
      go_wp2
      go_roundw
      case rel => exact ⟨k + 1, by go_num, hlt, hk3, hown3'⟩
      case measure => simp [intOf]; omega
    · obtain rfl : k = d.length := by omega
      have hlt2 : ¬ (((2 * d.length : Nat) : Int) + 1 < (h.length : Int)) := by omega
      rw [List.take_of_length_le (Nat.le_refl _)] at hown
      go_wp2
      go_ret
      exact ⟨⟨_, rfl, hown⟩, hkx⟩

theorem BdX.later {b : Nat} {g g' : Option Nat} {n : Nat} (h : g' = g ∨ ∃ k, g' = some k ∧ n ≤ k) : ∀ j, j < n → BdX b g' j → BdX b g j := by
  intro j hj e
  rcases e with e | e
  · exact .inl e
  · rcases h with h | ⟨k, h, hk⟩
    · exact .inr (by rw [e, h])
    · rw [h] at e; have := Option.some.inj e; omega

theorem bd_or {g g' g2 : Option Nat} {n m : Nat} (h : g' = g ∨ ∃ k, g' = some k ∧ n ≤ k) (h2 : g2 = g' ∨ ∃ k, g2 = some k ∧ m ≤ k) (hnm : n ≤ m) : g2 = g ∨ ∃ k, g2 = some k ∧ n ≤ k := by
  rcases h2 with rfl | ⟨k, rfl, hk⟩
  · exact h
  · exact .inr ⟨k, rfl, Nat.le_trans hnm hk⟩

theorem Bd.rowLt {b : Nat} {l : List UInt8} {g : Option Nat} {w : World} (h : Bd b l g w) : ∀ k, g = some k → k < w.heap.size := by
  obtain ⟨⟨p, v, h1, h2, h3, h4, h5⟩, h6⟩ := h
  intro k hk
  exact (h3.lt k (h4.trans hk)).2

set_option maxHeartbeats 800000 in
set_option maxRecDepth 100000 in
theorem writeEntry_any (b : Nat) (l mode name d : List UInt8) (g : Option Nat) (w : World) (h : Bd b l g w) (hd : d.length = 32) (hm : mode.length ≤ 100) (hn : name.length ≤ 10000) (hl : l.length ≤ 900000) :
    Calls Tryz.prog 297 #[.pointer (some ⟨b, 0, none⟩), .string ⟨mode.toArray⟩, .string ⟨name.toArray⟩, .string ⟨(Sh.hex d).toArray⟩] w fun e w' => e = .returned (.tuple #[]) ∧
      ∃ g', Bd b (l ++ (mode ++ 32 :: (name ++ [0])) ++ d) g' w' ∧ (g' = g ∨ ∃ k, g' = some k ∧ w.heap.size ≤ k) ∧ Kx (BdX b g) w w' := by
  have hcat : ∀ a b : List UInt8, (⟨a.toArray⟩ : ByteArray) ++ ⟨b.toArray⟩ = ⟨(a ++ b).toArray⟩ := fun a b => by
    apply ByteArray.ext; simp
  have hlen : (mode ++ 32 :: (name ++ [0])).length = mode.length + name.length + 2 := by simp; omega
  obtain ⟨hx, hh⟩ : ∃ hx, Sh.hex d = hx := ⟨_, rfl⟩
  have HH : Hid (Sh.hex d = hx) := hh
  rw [hh]
  clear hh
  go_enter Tryz.func297, Tryz.ntmps297
  go_wp2_with fail
  refine (writeString_any b l (mode ++ 32 :: (name ++ [0])) g _ h (by omega) (by omega)).mono ?_
  rintro _ w1 ⟨rfl, g1, hb1, hg1, hk1⟩
  obtain ⟨hd', he⟩ : ∃ x, mode ++ 32 :: (name ++ [0]) = x := ⟨_, rfl⟩
  have HE : Hid (mode ++ 32 :: (name ++ [0]) = hd') := he
  rw [he] at hb1 hlen ⊢
  clear he
  have hsum := sumOf_any d (by omega) w1
  rw [HH.out] at hsum
  go_wp2_with fail
  refine hsum.mono ?_
  rintro _ w2 ⟨⟨v, rfl, hown⟩, hk2⟩
  have hdl : (A8 d).length = 32 := by rw [A8_len, hd]
  obtain ⟨r, cap, rfl, hr1, hr2, _, hrc⟩ := hown.cell (fun e => by rw [e] at hdl; cases hdl)
  have hbl := hb1.lt
  have hb2 : Bd b (l ++ hd') g1 w2 := hb1.kept hk2 id (fun _ _ => id)
  have hg1l : ∀ k, g1 = some k → k < w1.heap.size := hb1.rowLt
  rw [hdl]
  go_wp2_with fail
  rw [show (32 : Nat) = d.length from hd.symm]
  refine (write_any b (l ++ hd') d g1 _ hb2 (by omega) (by simp; omega) r cap (by omega) hrc).mono ?_
  rintro _ w3 ⟨rfl, g3, hb3, hg3, hk3⟩
  go_wp2
  go_end0
  refine ⟨rfl, g3, by rw [HE.out]; exact hb3, bd_or hg1 hg3 (Nat.le_trans hk1.size hk2.size), ?_⟩
  exact (hk1.join hk2 (fun _ _ e => e.elim)).join hk3 (BdX.later hg1)

end Go.Proofs.YtepgoppgblfjbaaGreatDoor
