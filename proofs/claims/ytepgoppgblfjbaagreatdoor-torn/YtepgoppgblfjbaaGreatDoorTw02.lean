import Derived.Shelf.Strings.Builder1
import Derived.Shelf.Small.Bits
import Derived.Shelf.Small.Strs
import Derived.Shelf.Small.Wraps
import Derived.Shelf.Strings.BuilderF
import Derived.Shelf.Strings.BuilderK
import Derived.Shelf.Utf8.RuneCount
import Derived.Shelf.Strconv.Itoa0
import Derived.Shelf.Strconv.Itoa1
import Derived.Shelf.LaysM
import Derived.Shelf.Strconv.Itoa2
import Derived.Shelf.Strconv.Itoa3
import Derived.Shelf.Strconv.Itoa4
import Derived.Shelf.Strconv.Clone
import Derived.Shelf.Strings.Search1
import Derived.Shelf.Strings.Search2
import Derived.Shelf.Strings.Search3
import Derived.Shelf.Strings.Cut
import Derived.Shelf.Strings.Count
import Derived.Shelf.Strings.Shaped
import Derived.Shelf.Strings.Prefix
import Derived.Shelf.Strings.Split
import Derived.Shelf.Strings.SplitShaped
import Derived.Shelf.Unicode.Decode
import Derived.Shelf.Strings.RuneCount
import Derived.Shelf.Strings.Explode
import Derived.Shelf.Bits.Mul64
import Derived.Shelf.Unicode.DecodeSlow
import Derived.Shelf.Unicode.DecodeAny
import Derived.Test.YtepgoppgblfjbaaGreatDoorProg
import Derived.Test.YtepgoppgblfjbaaGreatDoorTw01
import Derived.Lib.IndexLaws
/- The shelf's contracts that the walks take, at this dump: each one application. -/
namespace Go.Proofs
open Go.Shelf
def Tryz.lays137_ren : Go.Shelf.Ren := ⟨fun | 137 => 260 | 217 => 315 | 266 => 353 | n => n, fun | 9 => 9 | 5 => 5 | 3 => 3 | n => n, fun | n => n⟩
theorem Tryz.lays137 : Go.Proofs.Lays.n137 Tryz.prog Tryz.lays137_ren := {
  mixed := by kernel_rfl
  f137 := Tryz.func260.trans (congrArg some (by kernel_rfl))
  f217 := Tryz.func315.trans (congrArg some (by kernel_rfl))
  f266 := Tryz.func353.trans (congrArg some (by kernel_rfl))
  t3 := Tryz.underlying3
  a3 := Tryz.isAgg3
  z3 := Tryz.sizeOf3
  v3 := Tryz.zeroValue3
  t5 := Tryz.underlying5
  a5 := Tryz.isAgg5
  z5 := Tryz.sizeOf5
  v5 := Tryz.zeroValue5
  t9 := Tryz.underlying9
  a9 := Tryz.isAgg9
  z9 := Tryz.sizeOf9
  v9 := Tryz.zeroValue9 }
open Go.RowKit in
theorem Tryz.strings_IndexByte (s : ByteArray) (c : Int) (w : World) :
    Calls Tryz.prog 260 #[.string s, .int .u8 c] w fun e w' => e = .returned (.int .i64 (Lib.indexByte s.data.toList c.toNat.toUInt8)) ∧ w' = w := Any.strings_IndexByte Tryz.lays137 s c w
def Tryz.lays103_ren : Go.Shelf.Ren := ⟨fun | 103 => 336 | 210 => 372 | 206 => 338 | n => n, fun | 9 => 9 | 4 => 4 | 24 => 377 | 3 => 3 | n => n, fun | n => n⟩
theorem Tryz.lays103 : Go.Proofs.Lays.n103 Tryz.prog Tryz.lays103_ren := {
  mixed := by kernel_rfl
  f103 := Tryz.func336.trans (congrArg some (by kernel_rfl))
  f206 := Tryz.func338.trans (congrArg some (by kernel_rfl))
  f210 := Tryz.func372.trans (congrArg some (by kernel_rfl))
  t3 := Tryz.underlying3
  a3 := Tryz.isAgg3
  z3 := Tryz.sizeOf3
  v3 := Tryz.zeroValue3
  t4 := Tryz.underlying4
  a4 := Tryz.isAgg4
  z4 := Tryz.sizeOf4
  v4 := Tryz.zeroValue4
  t9 := Tryz.underlying9
  a9 := Tryz.isAgg9
  z9 := Tryz.sizeOf9
  v9 := Tryz.zeroValue9
  t24 := Tryz.underlying377
  a24 := Tryz.isAgg377
  z24 := Tryz.sizeOf377
  v24 := Tryz.zeroValue377 }
open Go.RowKit in
theorem Tryz.strings_CutPrefix (s p : ByteArray) (w : World) :
    Calls Tryz.prog 336 #[.string s, .string p] w fun e w' => e = .returned (.tuple #[.string ⟨(Lib.trimPrefix s.data.toList p.data.toList).toArray⟩, .bool (Lib.hasPrefix s.data.toList p.data.toList)]) ∧ w' = w := Any.strings_CutPrefix Tryz.lays103 s p w
def Tryz.laysM171_ren : Go.Shelf.Ren := ⟨fun | 171 => 86 | 243 => 130 | 246 => 181 | 283 => 244 | 284 => 245 | 285 => 246 | 286 => 247 | 129 => 258 | 317 => 305 | 318 => 306 | 319 => 307 | 320 => 308 | 337 => 350 | 338 => 351 | n => n, fun | 3 => 3 | 9 => 9 | 2 => 2 | 4 => 4 | 171 => 340 | 0 => 0 | 53 => 229 | 37 => 58 | 5 => 5 | 173 => 343 | 212 => 397 | 51 => 172 | 20 => 20 | 213 => 398 | 46 => 283 | 232 => 231 | 233 => 440 | n => n, fun | 17 => 0 | 18 => 3 | 19 => 4 | n => n⟩
theorem Tryz.laysM171 : Go.Proofs.LaysM.n171 Tryz.prog Tryz.laysM171_ren := {
  mixed := by kernel_rfl
  f129 := Tryz.func258.trans (congrArg some (by kernel_rfl))
  f171 := Tryz.func86.trans (congrArg some (by kernel_rfl))
  f243 := Tryz.func130.trans (congrArg some (by kernel_rfl))
  f246 := Tryz.func181.trans (congrArg some (by kernel_rfl))
  f283 := Tryz.func244.trans (congrArg some (by kernel_rfl))
  f284 := Tryz.func245.trans (congrArg some (by kernel_rfl))
  f285 := Tryz.func246.trans (congrArg some (by kernel_rfl))
  f286 := Tryz.func247.trans (congrArg some (by kernel_rfl))
  f317 := Tryz.func305.trans (congrArg some (by kernel_rfl))
  f318 := Tryz.func306.trans (congrArg some (by kernel_rfl))
  f319 := Tryz.func307.trans (congrArg some (by kernel_rfl))
  f320 := Tryz.func308.trans (congrArg some (by kernel_rfl))
  f337 := Tryz.func350.trans (congrArg some (by kernel_rfl))
  f338 := Tryz.func351.trans (congrArg some (by kernel_rfl))
  t0 := Tryz.underlying0
  a0 := Tryz.isAgg0
  z0 := Tryz.sizeOf0
  v0 := Tryz.zeroValue0
  t2 := Tryz.underlying2
  a2 := Tryz.isAgg2
  z2 := Tryz.sizeOf2
  v2 := Tryz.zeroValue2
  t3 := Tryz.underlying3
  a3 := Tryz.isAgg3
  z3 := Tryz.sizeOf3
  v3 := Tryz.zeroValue3
  t4 := Tryz.underlying4
  a4 := Tryz.isAgg4
  z4 := Tryz.sizeOf4
  v4 := Tryz.zeroValue4
  t5 := Tryz.underlying5
  a5 := Tryz.isAgg5
  z5 := Tryz.sizeOf5
  v5 := Tryz.zeroValue5
  t9 := Tryz.underlying9
  a9 := Tryz.isAgg9
  z9 := Tryz.sizeOf9
  v9 := Tryz.zeroValue9
  t20 := Tryz.underlying20
  a20 := Tryz.isAgg20
  z20 := Tryz.sizeOf20
  v20 := Tryz.zeroValue20
  t37 := Tryz.underlying58
  a37 := Tryz.isAgg58
  z37 := Tryz.sizeOf58
  v37 := Tryz.zeroValue58
  t46 := Tryz.underlying283
  a46 := Tryz.isAgg283
  z46 := Tryz.sizeOf283
  v46 := Tryz.zeroValue283
  t51 := Tryz.underlying172
  a51 := Tryz.isAgg172
  z51 := Tryz.sizeOf172
  v51 := Tryz.zeroValue172
  t53 := Tryz.underlying229
  a53 := Tryz.isAgg229
  z53 := Tryz.sizeOf229
  v53 := Tryz.zeroValue229
  t171 := Tryz.underlying340
  a171 := Tryz.isAgg340
  z171 := Tryz.sizeOf340
  v171 := Tryz.zeroValue340
  t173 := Tryz.underlying343
  a173 := Tryz.isAgg343
  z173 := Tryz.sizeOf343
  v173 := Tryz.zeroValue343
  t212 := Tryz.underlying397
  a212 := Tryz.isAgg397
  z212 := Tryz.sizeOf397
  v212 := Tryz.zeroValue397
  t213 := Tryz.underlying398
  a213 := Tryz.isAgg398
  z213 := Tryz.sizeOf398
  t232 := Tryz.underlying231
  a232 := Tryz.isAgg231
  z232 := Tryz.sizeOf231
  v232 := Tryz.zeroValue231
  t233 := Tryz.underlying440
  a233 := Tryz.isAgg440
  z233 := Tryz.sizeOf440
  v233 := Tryz.zeroValue440
  g17 := by kernel_rfl
  g18 := by kernel_rfl
  g19 := by kernel_rfl
  i0 := by kernel_rfl
  i2 := by kernel_rfl
  i3 := by kernel_rfl
  i4 := by kernel_rfl
  i5 := by kernel_rfl
  i9 := by kernel_rfl
  i20 := by kernel_rfl
  i37 := by kernel_rfl
  i46 := by kernel_rfl
  i51 := by kernel_rfl
  i53 := by kernel_rfl
  i171 := by kernel_rfl
  i173 := by kernel_rfl
  i212 := by kernel_rfl
  i232 := by kernel_rfl
  i233 := by kernel_rfl
  m17 := by kernel_rfl
  m18 := by kernel_rfl
  m19 := by kernel_rfl }
open Go.RowKit Go.Sort Go.Lib in
theorem Tryz.strconv_Itoa (n : Int) (h0 : -9223372036854775808 ≤ n) (h1 : n ≤ 9223372036854775807) (w : World) (htab : Lib.TabIs Tryz.prog w "internal/strconv.uint64pow10" .u64 Lib.pow10Tab) :
    Calls Tryz.prog 86 #[.int .i64 n] w fun e w' => e = .returned (.string ⟨(Lib.itoa n).toArray⟩) ∧ ∃ k os, w' = grow (w.drewN k) os := Any.strconv_Itoa Tryz.laysM171 n h0 h1 w htab
def Tryz.laysM173_ren : Go.Shelf.Ren := ⟨fun | 173 => 301 | 246 => 181 | 283 => 244 | 284 => 245 | 285 => 246 | 286 => 247 | 129 => 258 | 317 => 305 | 318 => 306 | 319 => 307 | 320 => 308 | 337 => 350 | 338 => 351 | n => n, fun | 2 => 2 | 3 => 3 | 9 => 9 | 4 => 4 | 171 => 340 | 0 => 0 | 53 => 229 | 37 => 58 | 5 => 5 | 173 => 343 | 212 => 397 | 51 => 172 | 20 => 20 | 213 => 398 | 46 => 283 | 232 => 231 | 233 => 440 | n => n, fun | 17 => 0 | 18 => 3 | 19 => 4 | n => n⟩
theorem Tryz.laysM173 : Go.Proofs.LaysM.n173 Tryz.prog Tryz.laysM173_ren := {
  mixed := by kernel_rfl
  f129 := Tryz.func258.trans (congrArg some (by kernel_rfl))
  f173 := Tryz.func301.trans (congrArg some (by kernel_rfl))
  f246 := Tryz.func181.trans (congrArg some (by kernel_rfl))
  f283 := Tryz.func244.trans (congrArg some (by kernel_rfl))
  f284 := Tryz.func245.trans (congrArg some (by kernel_rfl))
  f285 := Tryz.func246.trans (congrArg some (by kernel_rfl))
  f286 := Tryz.func247.trans (congrArg some (by kernel_rfl))
  f317 := Tryz.func305.trans (congrArg some (by kernel_rfl))
  f318 := Tryz.func306.trans (congrArg some (by kernel_rfl))
  f319 := Tryz.func307.trans (congrArg some (by kernel_rfl))
  f320 := Tryz.func308.trans (congrArg some (by kernel_rfl))
  f337 := Tryz.func350.trans (congrArg some (by kernel_rfl))
  f338 := Tryz.func351.trans (congrArg some (by kernel_rfl))
  t0 := Tryz.underlying0
  a0 := Tryz.isAgg0
  z0 := Tryz.sizeOf0
  v0 := Tryz.zeroValue0
  t2 := Tryz.underlying2
  a2 := Tryz.isAgg2
  z2 := Tryz.sizeOf2
  v2 := Tryz.zeroValue2
  t3 := Tryz.underlying3
  a3 := Tryz.isAgg3
  z3 := Tryz.sizeOf3
  v3 := Tryz.zeroValue3
  t4 := Tryz.underlying4
  a4 := Tryz.isAgg4
  z4 := Tryz.sizeOf4
  v4 := Tryz.zeroValue4
  t5 := Tryz.underlying5
  a5 := Tryz.isAgg5
  z5 := Tryz.sizeOf5
  v5 := Tryz.zeroValue5
  t9 := Tryz.underlying9
  a9 := Tryz.isAgg9
  z9 := Tryz.sizeOf9
  v9 := Tryz.zeroValue9
  t20 := Tryz.underlying20
  a20 := Tryz.isAgg20
  z20 := Tryz.sizeOf20
  v20 := Tryz.zeroValue20
  t37 := Tryz.underlying58
  a37 := Tryz.isAgg58
  z37 := Tryz.sizeOf58
  v37 := Tryz.zeroValue58
  t46 := Tryz.underlying283
  a46 := Tryz.isAgg283
  z46 := Tryz.sizeOf283
  v46 := Tryz.zeroValue283
  t51 := Tryz.underlying172
  a51 := Tryz.isAgg172
  z51 := Tryz.sizeOf172
  v51 := Tryz.zeroValue172
  t53 := Tryz.underlying229
  a53 := Tryz.isAgg229
  z53 := Tryz.sizeOf229
  v53 := Tryz.zeroValue229
  t171 := Tryz.underlying340
  a171 := Tryz.isAgg340
  z171 := Tryz.sizeOf340
  v171 := Tryz.zeroValue340
  t173 := Tryz.underlying343
  a173 := Tryz.isAgg343
  z173 := Tryz.sizeOf343
  v173 := Tryz.zeroValue343
  t212 := Tryz.underlying397
  a212 := Tryz.isAgg397
  z212 := Tryz.sizeOf397
  v212 := Tryz.zeroValue397
  t213 := Tryz.underlying398
  a213 := Tryz.isAgg398
  z213 := Tryz.sizeOf398
  t232 := Tryz.underlying231
  a232 := Tryz.isAgg231
  z232 := Tryz.sizeOf231
  v232 := Tryz.zeroValue231
  t233 := Tryz.underlying440
  a233 := Tryz.isAgg440
  z233 := Tryz.sizeOf440
  v233 := Tryz.zeroValue440
  g17 := by kernel_rfl
  g18 := by kernel_rfl
  g19 := by kernel_rfl
  i0 := by kernel_rfl
  i2 := by kernel_rfl
  i3 := by kernel_rfl
  i4 := by kernel_rfl
  i5 := by kernel_rfl
  i9 := by kernel_rfl
  i20 := by kernel_rfl
  i37 := by kernel_rfl
  i46 := by kernel_rfl
  i51 := by kernel_rfl
  i53 := by kernel_rfl
  i171 := by kernel_rfl
  i173 := by kernel_rfl
  i212 := by kernel_rfl
  i232 := by kernel_rfl
  i233 := by kernel_rfl
  m17 := by kernel_rfl
  m18 := by kernel_rfl
  m19 := by kernel_rfl }
open Go.RowKit Go.Sort Go.Lib in
theorem Tryz.strconv_FormatInt_10 (n : Int) (h0 : -9223372036854775808 ≤ n) (h1 : n ≤ 9223372036854775807) (w : World) (htab : Lib.TabIs Tryz.prog w "internal/strconv.uint64pow10" .u64 Lib.pow10Tab) :
    Calls Tryz.prog 301 #[.int .i64 n, .int .i64 10] w fun e w' => e = .returned (.string ⟨(Lib.itoa n).toArray⟩) ∧ ∃ k os, w' = grow (w.drewN k) os := Any.strconv_FormatInt_10 Tryz.laysM173 n h0 h1 w htab
def Tryz.laysM316_ren : Go.Shelf.Ren := ⟨fun | 316 => 117 | n => n, fun | 9 => 9 | 3 => 3 | 4 => 4 | 37 => 58 | 0 => 0 | 127 => 277 | 5 => 5 | n => n, fun | n => n⟩
theorem Tryz.laysM316 : Go.Proofs.LaysM.n316 Tryz.prog Tryz.laysM316_ren := {
  mixed := by kernel_rfl
  f316 := Tryz.func117.trans (congrArg some (by kernel_rfl))
  t0 := Tryz.underlying0
  a0 := Tryz.isAgg0
  z0 := Tryz.sizeOf0
  v0 := Tryz.zeroValue0
  t3 := Tryz.underlying3
  a3 := Tryz.isAgg3
  z3 := Tryz.sizeOf3
  v3 := Tryz.zeroValue3
  t4 := Tryz.underlying4
  a4 := Tryz.isAgg4
  z4 := Tryz.sizeOf4
  v4 := Tryz.zeroValue4
  t9 := Tryz.underlying9
  a9 := Tryz.isAgg9
  z9 := Tryz.sizeOf9
  v9 := Tryz.zeroValue9
  t37 := Tryz.underlying58
  a37 := Tryz.isAgg58
  z37 := Tryz.sizeOf58
  v37 := Tryz.zeroValue58
  t127 := Tryz.underlying277
  a127 := Tryz.isAgg277
  z127 := Tryz.sizeOf277
  v127 := Tryz.zeroValue277
  t5 := Tryz.underlying5
  a5 := Tryz.isAgg5
  z5 := Tryz.sizeOf5
  v5 := Tryz.zeroValue5
  i0 := by kernel_rfl
  i3 := by kernel_rfl
  i4 := by kernel_rfl
  i5 := by kernel_rfl
  i9 := by kernel_rfl
  i37 := by kernel_rfl
  i127 := by kernel_rfl }
open Go.RowKit in
theorem Tryz.stringslite_Clone (s : ByteArray) (w : World) (hlim : s.size ≤ 281474976710656) :
    Calls Tryz.prog 117 #[.string s] w fun e w' => e = .returned (.string s) ∧ Below w.heap.size w w' := Any.stringslite_Clone Tryz.laysM316 s w hlim
def Tryz.lays144_ren : Go.Shelf.Ren := ⟨fun | 144 => 337 | 143 => 357 | 219 => 259 | 217 => 315 | 225 => 316 | 224 => 317 | 267 => 318 | 266 => 353 | 314 => 354 | n => n, fun | 9 => 9 | 4 => 4 | 3 => 3 | 5 => 5 | 46 => 283 | 146 => 426 | 51 => 172 | n => n, fun | 1 => 1 | n => n⟩
theorem Tryz.lays144 : Go.Proofs.Lays.n144 Tryz.prog Tryz.lays144_ren := {
  mixed := by kernel_rfl
  f143 := Tryz.func357.trans (congrArg some (by kernel_rfl))
  f144 := Tryz.func337.trans (congrArg some (by kernel_rfl))
  f217 := Tryz.func315.trans (congrArg some (by kernel_rfl))
  f219 := Tryz.func259.trans (congrArg some (by kernel_rfl))
  f224 := Tryz.func317.trans (congrArg some (by kernel_rfl))
  f225 := Tryz.func316.trans (congrArg some (by kernel_rfl))
  f266 := Tryz.func353.trans (congrArg some (by kernel_rfl))
  f267 := Tryz.func318.trans (congrArg some (by kernel_rfl))
  f314 := Tryz.func354.trans (congrArg some (by kernel_rfl))
  t3 := Tryz.underlying3
  a3 := Tryz.isAgg3
  z3 := Tryz.sizeOf3
  v3 := Tryz.zeroValue3
  t4 := Tryz.underlying4
  a4 := Tryz.isAgg4
  z4 := Tryz.sizeOf4
  v4 := Tryz.zeroValue4
  t5 := Tryz.underlying5
  a5 := Tryz.isAgg5
  z5 := Tryz.sizeOf5
  v5 := Tryz.zeroValue5
  t9 := Tryz.underlying9
  a9 := Tryz.isAgg9
  z9 := Tryz.sizeOf9
  v9 := Tryz.zeroValue9
  t46 := Tryz.underlying283
  a46 := Tryz.isAgg283
  z46 := Tryz.sizeOf283
  v46 := Tryz.zeroValue283
  t51 := Tryz.underlying172
  a51 := Tryz.isAgg172
  z51 := Tryz.sizeOf172
  v51 := Tryz.zeroValue172
  t146 := Tryz.underlying426
  a146 := Tryz.isAgg426
  z146 := Tryz.sizeOf426
  v146 := Tryz.zeroValue426
  g1 := by kernel_rfl }
open Go.RowKit Go.Lib in
theorem Tryz.strings_Contains (s sub : ByteArray) (m : Int) (w : World) (hs : s.size < 4294967281) (hm : w.cell? ⟨1, 0, none⟩ = some (.int .i64 m)) :
    Calls Tryz.prog 337 #[.string s, .string sub] w fun e w' => e = .returned (.bool (Lib.contains s.data.toList sub.data.toList)) ∧ w' = w := Any.strings_Contains Tryz.lays144 s sub m w hs hm
def Tryz.lays145_ren : Go.Shelf.Ren := ⟨fun | 145 => 136 | 220 => 185 | 219 => 259 | 217 => 315 | 225 => 316 | 224 => 317 | 267 => 318 | 266 => 353 | 314 => 354 | n => n, fun | 9 => 9 | 4 => 4 | 59 => 233 | 3 => 3 | 5 => 5 | 46 => 283 | 146 => 426 | 51 => 172 | n => n, fun | 1 => 1 | n => n⟩
theorem Tryz.lays145 : Go.Proofs.Lays.n145 Tryz.prog Tryz.lays145_ren := {
  mixed := by kernel_rfl
  f145 := Tryz.func136.trans (congrArg some (by kernel_rfl))
  f217 := Tryz.func315.trans (congrArg some (by kernel_rfl))
  f219 := Tryz.func259.trans (congrArg some (by kernel_rfl))
  f220 := Tryz.func185.trans (congrArg some (by kernel_rfl))
  f224 := Tryz.func317.trans (congrArg some (by kernel_rfl))
  f225 := Tryz.func316.trans (congrArg some (by kernel_rfl))
  f266 := Tryz.func353.trans (congrArg some (by kernel_rfl))
  f267 := Tryz.func318.trans (congrArg some (by kernel_rfl))
  f314 := Tryz.func354.trans (congrArg some (by kernel_rfl))
  t3 := Tryz.underlying3
  a3 := Tryz.isAgg3
  z3 := Tryz.sizeOf3
  v3 := Tryz.zeroValue3
  t4 := Tryz.underlying4
  a4 := Tryz.isAgg4
  z4 := Tryz.sizeOf4
  v4 := Tryz.zeroValue4
  t5 := Tryz.underlying5
  a5 := Tryz.isAgg5
  z5 := Tryz.sizeOf5
  v5 := Tryz.zeroValue5
  t9 := Tryz.underlying9
  a9 := Tryz.isAgg9
  z9 := Tryz.sizeOf9
  v9 := Tryz.zeroValue9
  t46 := Tryz.underlying283
  a46 := Tryz.isAgg283
  z46 := Tryz.sizeOf283
  v46 := Tryz.zeroValue283
  t51 := Tryz.underlying172
  a51 := Tryz.isAgg172
  z51 := Tryz.sizeOf172
  v51 := Tryz.zeroValue172
  t59 := Tryz.underlying233
  a59 := Tryz.isAgg233
  z59 := Tryz.sizeOf233
  v59 := Tryz.zeroValue233
  t146 := Tryz.underlying426
  a146 := Tryz.isAgg426
  z146 := Tryz.sizeOf426
  v146 := Tryz.zeroValue426
  g1 := by kernel_rfl }
open Go.RowKit Go.Lib in
theorem Tryz.strings_Cut (s sep : ByteArray) (m : Int) (w : World) (hs : s.size < 4294967281) (hm : w.cell? ⟨1, 0, none⟩ = some (.int .i64 m)) :
    Calls Tryz.prog 136 #[.string s, .string sep] w fun e w' => e = .returned (.tuple #[.string ⟨(Lib.cut s.data.toList sep.data.toList).1.toArray⟩, .string ⟨(Lib.cut s.data.toList sep.data.toList).2.1.toArray⟩, .bool (Lib.cut s.data.toList sep.data.toList).2.2]) ∧ ∃ n, w' = w.drewN n := Any.strings_Cut Tryz.lays145 s sep m w hs hm
def Tryz.lays138_ren : Go.Shelf.Ren := ⟨fun | 138 => 356 | 195 => 378 | 218 => 380 | 143 => 357 | 219 => 259 | 217 => 315 | 225 => 316 | 224 => 317 | 267 => 318 | 266 => 353 | 314 => 354 | n => n, fun | 9 => 9 | 3 => 3 | 4 => 4 | 5 => 5 | 0 => 0 | 46 => 283 | 146 => 426 | 51 => 172 | n => n, fun | 1 => 1 | n => n⟩
theorem Tryz.lays138 : Go.Proofs.Lays.n138 Tryz.prog Tryz.lays138_ren := {
  mixed := by kernel_rfl
  f138 := Tryz.func356.trans (congrArg some (by kernel_rfl))
  f143 := Tryz.func357.trans (congrArg some (by kernel_rfl))
  f195 := Tryz.func378.trans (congrArg some (by kernel_rfl))
  f217 := Tryz.func315.trans (congrArg some (by kernel_rfl))
  f218 := Tryz.func380.trans (congrArg some (by kernel_rfl))
  f219 := Tryz.func259.trans (congrArg some (by kernel_rfl))
  f224 := Tryz.func317.trans (congrArg some (by kernel_rfl))
  f225 := Tryz.func316.trans (congrArg some (by kernel_rfl))
  f266 := Tryz.func353.trans (congrArg some (by kernel_rfl))
  f267 := Tryz.func318.trans (congrArg some (by kernel_rfl))
  f314 := Tryz.func354.trans (congrArg some (by kernel_rfl))
  t0 := Tryz.underlying0
  a0 := Tryz.isAgg0
  z0 := Tryz.sizeOf0
  v0 := Tryz.zeroValue0
  t3 := Tryz.underlying3
  a3 := Tryz.isAgg3
  z3 := Tryz.sizeOf3
  v3 := Tryz.zeroValue3
  t4 := Tryz.underlying4
  a4 := Tryz.isAgg4
  z4 := Tryz.sizeOf4
  v4 := Tryz.zeroValue4
  t5 := Tryz.underlying5
  a5 := Tryz.isAgg5
  z5 := Tryz.sizeOf5
  v5 := Tryz.zeroValue5
  t9 := Tryz.underlying9
  a9 := Tryz.isAgg9
  z9 := Tryz.sizeOf9
  v9 := Tryz.zeroValue9
  t46 := Tryz.underlying283
  a46 := Tryz.isAgg283
  z46 := Tryz.sizeOf283
  v46 := Tryz.zeroValue283
  t51 := Tryz.underlying172
  a51 := Tryz.isAgg172
  z51 := Tryz.sizeOf172
  v51 := Tryz.zeroValue172
  t146 := Tryz.underlying426
  a146 := Tryz.isAgg426
  z146 := Tryz.sizeOf426
  v146 := Tryz.zeroValue426
  g1 := by kernel_rfl }
open Go.RowKit Go.Lib in
theorem Tryz.strings_Count_one (s : ByteArray) (c : UInt8) (w : World) :
    Calls Tryz.prog 356 #[.string s, .string ⟨#[c]⟩] w fun e w' => e = .returned (.int .i64 (Lib.countByte s.data.toList c)) ∧ w' = w := Any.strings_Count_one Tryz.lays138 s c w
def Tryz.lays99_ren : Go.Shelf.Ren := ⟨fun | 99 => 293 | 206 => 338 | n => n, fun | 9 => 9 | 4 => 4 | 3 => 3 | n => n, fun | n => n⟩
theorem Tryz.lays99 : Go.Proofs.Lays.n99 Tryz.prog Tryz.lays99_ren := {
  mixed := by kernel_rfl
  f99 := Tryz.func293.trans (congrArg some (by kernel_rfl))
  f206 := Tryz.func338.trans (congrArg some (by kernel_rfl))
  t3 := Tryz.underlying3
  a3 := Tryz.isAgg3
  z3 := Tryz.sizeOf3
  v3 := Tryz.zeroValue3
  t4 := Tryz.underlying4
  a4 := Tryz.isAgg4
  z4 := Tryz.sizeOf4
  v4 := Tryz.zeroValue4
  t9 := Tryz.underlying9
  a9 := Tryz.isAgg9
  z9 := Tryz.sizeOf9
  v9 := Tryz.zeroValue9 }
open Go.RowKit Go.Lib in
theorem Tryz.strings_HasPrefix (s p : ByteArray) (w : World) :
    Calls Tryz.prog 293 #[.string s, .string p] w fun e w' => e = .returned (.bool (Lib.hasPrefix s.data.toList p.data.toList)) ∧ w' = w := Any.strings_HasPrefix Tryz.lays99 s p w
def Tryz.lays101_ren : Go.Shelf.Ren := ⟨fun | 101 => 362 | 208 => 386 | 206 => 338 | n => n, fun | 9 => 9 | 4 => 4 | 3 => 3 | n => n, fun | n => n⟩
theorem Tryz.lays101 : Go.Proofs.Lays.n101 Tryz.prog Tryz.lays101_ren := {
  mixed := by kernel_rfl
  f101 := Tryz.func362.trans (congrArg some (by kernel_rfl))
  f206 := Tryz.func338.trans (congrArg some (by kernel_rfl))
  f208 := Tryz.func386.trans (congrArg some (by kernel_rfl))
  t3 := Tryz.underlying3
  a3 := Tryz.isAgg3
  z3 := Tryz.sizeOf3
  v3 := Tryz.zeroValue3
  t4 := Tryz.underlying4
  a4 := Tryz.isAgg4
  z4 := Tryz.sizeOf4
  v4 := Tryz.zeroValue4
  t9 := Tryz.underlying9
  a9 := Tryz.isAgg9
  z9 := Tryz.sizeOf9
  v9 := Tryz.zeroValue9 }
open Go.RowKit Go.Lib in
theorem Tryz.strings_TrimPrefix (s p : ByteArray) (w : World) :
    Calls Tryz.prog 362 #[.string s, .string p] w fun e w' => e = .returned (.string ⟨(Lib.trimPrefix s.data.toList p.data.toList).toArray⟩) ∧ w' = w := Any.strings_TrimPrefix Tryz.lays101 s p w
def Tryz.lays146_ren : Go.Shelf.Ren := ⟨fun | 146 => 261 | 221 => 319 | 268 => 355 | 138 => 356 | 143 => 357 | 195 => 378 | 197 => 379 | 218 => 380 | 219 => 259 | 260 => 392 | 217 => 315 | 225 => 316 | 224 => 317 | 267 => 318 | 266 => 353 | 314 => 354 | n => n, fun | 9 => 9 | 31 => 35 | 3 => 3 | 4 => 4 | 0 => 0 | 105 => 441 | 21 => 21 | 5 => 5 | 46 => 283 | 119 => 450 | 139 => 453 | 138 => 452 | 146 => 426 | 51 => 172 | n => n, fun | 1 => 1 | 3 => 5 | 4 => 6 | n => n⟩
theorem Tryz.lays146 : Go.Proofs.Lays.n146 Tryz.prog Tryz.lays146_ren := {
  mixed := by kernel_rfl
  f138 := Tryz.func356.trans (congrArg some (by kernel_rfl))
  f143 := Tryz.func357.trans (congrArg some (by kernel_rfl))
  f146 := Tryz.func261.trans (congrArg some (by kernel_rfl))
  f195 := Tryz.func378.trans (congrArg some (by kernel_rfl))
  f197 := Tryz.func379.trans (congrArg some (by kernel_rfl))
  f217 := Tryz.func315.trans (congrArg some (by kernel_rfl))
  f218 := Tryz.func380.trans (congrArg some (by kernel_rfl))
  f219 := Tryz.func259.trans (congrArg some (by kernel_rfl))
  f221 := Tryz.func319.trans (congrArg some (by kernel_rfl))
  f224 := Tryz.func317.trans (congrArg some (by kernel_rfl))
  f225 := Tryz.func316.trans (congrArg some (by kernel_rfl))
  f260 := Tryz.func392.trans (congrArg some (by kernel_rfl))
  f266 := Tryz.func353.trans (congrArg some (by kernel_rfl))
  f267 := Tryz.func318.trans (congrArg some (by kernel_rfl))
  f268 := Tryz.func355.trans (congrArg some (by kernel_rfl))
  f314 := Tryz.func354.trans (congrArg some (by kernel_rfl))
  t0 := Tryz.underlying0
  a0 := Tryz.isAgg0
  z0 := Tryz.sizeOf0
  v0 := Tryz.zeroValue0
  t3 := Tryz.underlying3
  a3 := Tryz.isAgg3
  z3 := Tryz.sizeOf3
  v3 := Tryz.zeroValue3
  t4 := Tryz.underlying4
  a4 := Tryz.isAgg4
  z4 := Tryz.sizeOf4
  v4 := Tryz.zeroValue4
  t5 := Tryz.underlying5
  a5 := Tryz.isAgg5
  z5 := Tryz.sizeOf5
  v5 := Tryz.zeroValue5
  t9 := Tryz.underlying9
  a9 := Tryz.isAgg9
  z9 := Tryz.sizeOf9
  v9 := Tryz.zeroValue9
  t21 := Tryz.underlying21
  a21 := Tryz.isAgg21
  z21 := Tryz.sizeOf21
  v21 := Tryz.zeroValue21
  t31 := Tryz.underlying35
  a31 := Tryz.isAgg35
  z31 := Tryz.sizeOf35
  v31 := Tryz.zeroValue35
  t46 := Tryz.underlying283
  a46 := Tryz.isAgg283
  z46 := Tryz.sizeOf283
  v46 := Tryz.zeroValue283
  t51 := Tryz.underlying172
  a51 := Tryz.isAgg172
  z51 := Tryz.sizeOf172
  v51 := Tryz.zeroValue172
  t105 := Tryz.underlying441
  a105 := Tryz.isAgg441
  z105 := Tryz.sizeOf441
  v105 := Tryz.zeroValue441
  t119 := Tryz.underlying450
  a119 := Tryz.isAgg450
  z119 := Tryz.sizeOf450
  t138 := Tryz.underlying452
  a138 := Tryz.isAgg452
  z138 := Tryz.sizeOf452
  v138 := Tryz.zeroValue452
  t139 := Tryz.underlying453
  a139 := Tryz.isAgg453
  z139 := Tryz.sizeOf453
  v139 := Tryz.zeroValue453
  t146 := Tryz.underlying426
  a146 := Tryz.isAgg426
  z146 := Tryz.sizeOf426
  v146 := Tryz.zeroValue426
  g1 := by kernel_rfl
  g3 := by kernel_rfl
  g4 := by kernel_rfl }
open Go.RowKit Go.Lib in
theorem Tryz.strings_Split (s sep : ByteArray) (m : Int) (w : World) (hs : s.size < 4294967281) (hm : w.cell? ⟨1, 0, none⟩ = some (.int .i64 m)) (h1 : 1 ≤ sep.size) :
    Calls Tryz.prog 261 #[.string s, .string sep] w fun e w' =>
      e = .returned (.slice (some ⟨w.heap.size, 0, none⟩) (Lib.countB s sep + 1) (Lib.countB s sep + 1)) ∧ w' = w.alloc (.cells ((Lib.splitB sep 0 (Lib.countB s sep) s).map Value.string).toArray 9) := Any.strings_Split Tryz.lays146 (by kernel_rfl) s sep m w hs hm h1
def Tryz.lays264_ren : Go.Shelf.Ren := ⟨fun | 264 => 242 | n => n, fun | 53 => 229 | 46 => 283 | n => n, fun | n => n⟩
theorem Tryz.lays264 : Go.Proofs.Lays.n264 Tryz.prog Tryz.lays264_ren := {
  mixed := by kernel_rfl
  f264 := Tryz.func242.trans (congrArg some (by kernel_rfl))
  t46 := Tryz.underlying283
  a46 := Tryz.isAgg283
  z46 := Tryz.sizeOf283
  v46 := Tryz.zeroValue283
  t53 := Tryz.underlying229
  a53 := Tryz.isAgg229
  z53 := Tryz.sizeOf229
  v53 := Tryz.zeroValue229 }
open Go.RowKit Go.Lib in
theorem Tryz.bits_Mul64 (x y : Nat) (hx : x < 18446744073709551616) (hy : y < 18446744073709551616) (w : World) :
    Calls Tryz.prog 242 #[.int .u64 x, .int .u64 y] w fun e w' => e = .returned (.tuple #[.int .u64 ((x * y / 18446744073709551616 : Nat) : Int), .int .u64 ((x * y % 18446744073709551616 : Nat) : Int)]) ∧ w' = w := Any.bits_Mul64 Tryz.lays264 x y hx hy w
end Go.Proofs

/- The reader's small methods: fail, need, line, exactly, after. -/
namespace Go.Proofs.YtepgoppgblfjbaaGreatDoor
open Go.RowKit

theorem Rd.set {b : Nat} {s : List UInt8} {bad : Bool} {w : World} (h : Rd b s bad w) (s' : List UInt8) (hs : s'.length ≤ 8000) : Rd b s' bad (w.setCell ⟨b, 0, none⟩ (.string ⟨s'.toArray⟩)) := by
  obtain ⟨c0, c1, f0, f1, pos, ⟨m, hm⟩, short⟩ := h
  refine ⟨World.cell?_setCell_same _ _ _ c0, ?_, by simpa using f0, by simpa using f1, pos, ⟨m, ?_⟩, hs⟩
  · rw [World.cell?_setCell_other _ _ _ _ (by simp)]; exact c1
  · rw [World.cell?_setCell_other _ _ _ _ (by simp only [ne_eq, Addr.mk.injEq, not_and]; omega)]; exact hm

theorem Rd.setBad {b : Nat} {s : List UInt8} {bad : Bool} {w : World} (h : Rd b s bad w) (bad' : Bool) : Rd b s bad' (w.setCell ⟨b, 1, none⟩ (.bool bad')) := by
  obtain ⟨c0, c1, f0, f1, pos, ⟨m, hm⟩, short⟩ := h
  refine ⟨?_, World.cell?_setCell_same _ _ _ c1, by simpa using f0, by simpa using f1, pos, ⟨m, ?_⟩, short⟩
  · rw [World.cell?_setCell_other _ _ _ _ (by simp)]; exact c0
  · rw [World.cell?_setCell_other _ _ _ _ (by simp only [ne_eq, Addr.mk.injEq, not_and]; omega)]; exact hm

set_option maxHeartbeats 400000 in
theorem fail_any (b : Nat) (s : List UInt8) (bad : Bool) (w : World) (h : Rd b s bad w) :
    Calls Tryz.prog 163 #[.pointer (some ⟨b, 0, none⟩)] w fun e w' => e = .returned (.tuple #[]) ∧ Rd b [] true w' ∧ Kx (Only b) w w' := by
  have h' := h
  obtain ⟨c0, c1, f0, f1, pos, ⟨m, hm⟩, short⟩ := h
  go_enter Tryz.func163, Tryz.ntmps163
  go_wp2
  go_end0
  exact ⟨rfl, (h'.setBad true).set [] (by simp), ((Kx.refl _ _).only_set _).only_set _⟩

set_option maxHeartbeats 400000 in
theorem need_any (b : Nat) (s : List UInt8) (bad : Bool) (ok : Bool) (w : World) (h : Rd b s bad w) :
    Calls Tryz.prog 161 #[.pointer (some ⟨b, 0, none⟩), .bool ok] w fun e w' => e = .returned (.tuple #[]) ∧ Rd b (Pu.need ok s bad).1 (Pu.need ok s bad).2 w' ∧ Kx (Only b) w w' := by
  cases ok
  · go_enter Tryz.func161, Tryz.ntmps161
    go_wp2_with (go_at_call 163; refine (fail_any b s bad _ h).mono ?_; rintro e w' ⟨rfl, hr, hk⟩)
    go_end0
    exact ⟨rfl, hr, hk⟩
  · go_enter Tryz.func161, Tryz.ntmps161
    go_wp2
    go_end0
    exact ⟨rfl, h, Kx.refl _ _⟩

theorem cut_any (s sep : List UInt8) (m : Int) (w : World) (hs : s.length ≤ 8000) (hm : w.cell? ⟨1, 0, none⟩ = some (.int .i64 m)) :
    Calls Tryz.prog 136 #[.string ⟨s.toArray⟩, .string ⟨sep.toArray⟩] w fun e w' => e = .returned (.tuple #[.string ⟨(Lib.cut s sep).1.toArray⟩, .string ⟨(Lib.cut s sep).2.1.toArray⟩, .bool (Lib.cut s sep).2.2]) ∧ ∃ n, w' = w.drewN n :=
  Tryz.strings_Cut _ _ m w (by simp [ByteArray.size]; omega) hm

set_option maxHeartbeats 400000 in
theorem line_any (b : Nat) (s : List UInt8) (bad : Bool) (w : World) (h : Rd b s bad w) :
    Calls Tryz.prog 162 #[.pointer (some ⟨b, 0, none⟩)] w fun e w' => e = .returned (.string ⟨(Pu.line s bad).1.toArray⟩) ∧ Rd b (Pu.line s bad).2.1 (Pu.line s bad).2.2 w' ∧ Kx (Only b) w w' := by
  have h' := h
  obtain ⟨c0, c1, f0, f1, pos, ⟨m, hm⟩, short⟩ := h
  have hl := (Pu.cut_lens s [10]).2
  go_enter Tryz.func162, Tryz.ntmps162
  go_wp2_with fail
  refine (cut_any s [10] m _ short hm).mono ?_
  rintro e w1 ⟨rfl, n, rfl⟩
  cases hc : (Lib.cut s [10]).2.2
  · have HL : Hid (Pu.line s bad = ([], [], true)) := by show _ = _; simp [Pu.line, hc]
    clear hc
    go_wp2_with (go_at_call 163; refine (fail_any b s bad _ (h'.drewN n)).mono ?_; rintro e w' ⟨rfl, hr, hk⟩)
    go_ret
    exact ⟨by rw [HL.out]; rfl, by rw [HL.out]; exact hr, ((Kx.refl _ _).drewN n).trans hk⟩
  · have HL : Hid (Pu.line s bad = ((Lib.cut s [10]).1, (Lib.cut s [10]).2.1, bad)) := by show _ = _; simp [Pu.line, hc]
    clear hc
    go_wp2
    go_ret
    exact ⟨by rw [HL.out]; rfl, by rw [HL.out]; exact (h'.drewN n).set _ (by show (Lib.cut s [10]).2.1.length ≤ 8000; omega), ((Kx.refl _ _).drewN n).only_set _⟩

set_option maxHeartbeats 400000 in
theorem exactly_any (b : Nat) (s : List UInt8) (bad : Bool) (l : List UInt8) (w : World) (h : Rd b s bad w) :
    Calls Tryz.prog 119 #[.pointer (some ⟨b, 0, none⟩), .string ⟨l.toArray⟩] w fun e w' => e = .returned (.tuple #[]) ∧ Rd b (Pu.exactly l s bad).1 (Pu.exactly l s bad).2 w' ∧ Kx (Only b) w w' := by
  go_enter Tryz.func119, Tryz.ntmps119
  go_wp2_with fail
  refine (line_any b s bad _ h).mono ?_
  rintro e w1 ⟨rfl, hr, hk⟩
  have HE : Hid (Pu.exactly l s bad = Pu.need ((Pu.line s bad).1 == l) (Pu.line s bad).2.1 (Pu.line s bad).2.2) := rfl
  generalize Pu.line s bad = x at *
  obtain ⟨x0, x1, x2⟩ := x
  go_wp2_with fail
  refine (need_any b _ _ _ _ hr).mono ?_
  rintro e w2 ⟨rfl, hr2, hk2⟩
  go_wp2
  go_end0
  exact ⟨rfl, by rw [HE.out]; exact hr2, hk.trans hk2⟩

set_option maxHeartbeats 400000 in
theorem after_any (b : Nat) (s : List UInt8) (bad : Bool) (l : List UInt8) (w : World) (h : Rd b s bad w) :
    Calls Tryz.prog 288 #[.pointer (some ⟨b, 0, none⟩), .string ⟨l.toArray⟩] w fun e w' => e = .returned (.string ⟨(Pu.after l s bad).1.toArray⟩) ∧ Rd b (Pu.after l s bad).2.1 (Pu.after l s bad).2.2 w' ∧ Kx (Only b) w w' := by
  go_enter Tryz.func288, Tryz.ntmps288
  go_wp2_with fail
  refine (line_any b s bad _ h).mono ?_
  rintro e w1 ⟨rfl, hr, hk⟩
  have HE : Hid (Pu.after l s bad = (Lib.trimPrefix (Pu.line s bad).1 l, Pu.need (Lib.hasPrefix (Pu.line s bad).1 l) (Pu.line s bad).2.1 (Pu.line s bad).2.2)) := rfl
  generalize Pu.line s bad = x at *
  obtain ⟨x0, x1, x2⟩ := x
  go_wp2_with fail
  refine (Tryz.strings_CutPrefix ⟨x0.toArray⟩ ⟨l.toArray⟩ _).mono ?_
  rintro e w2 ⟨rfl, rfl⟩
  go_wp2_with fail
  refine (need_any b _ _ _ _ hr).mono ?_
  rintro e w2 ⟨rfl, hr2, hk2⟩
  go_wp2
  go_ret
  exact ⟨by rw [HE.out]; rfl, by rw [HE.out]; exact hr2, hk.trans hk2⟩

end Go.Proofs.YtepgoppgblfjbaaGreatDoor

/- How much is left: each method leaves less, and enough rounds are enough. -/
namespace Go.Proofs.YtepgoppgblfjbaaGreatDoor
namespace Pu

theorem line_lt (s : List UInt8) (bad : Bool) (h : s ≠ []) : (line s bad).2.1.length < s.length := by
  have h0 : 0 < s.length := List.length_pos_iff.2 h
  unfold line
  split
  · rename_i hc
    unfold Lib.cut at hc ⊢
    split at hc
    · rename_i hi
      rw [if_pos hi]
      simp; omega
    · simp at hc
  · simpa using h0

theorem line_le (s : List UInt8) (bad : Bool) : (line s bad).2.1.length ≤ s.length := (line_lens s bad).2

theorem need_le (ok : Bool) (x : List UInt8 × Bool) : (need ok x.1 x.2).1.length ≤ x.1.length := need_len ok x.1 x.2

theorem after_lt (head s : List UInt8) (bad : Bool) (h : s ≠ []) : (after head s bad).2.1.length < s.length := by
  have h1 := line_lt s bad h
  have h2 := need_len (Lib.hasPrefix (line s bad).1 head) (line s bad).2.1 (line s bad).2.2
  unfold after; exact Nat.lt_of_le_of_lt h2 h1

theorem which_le (head s : List UInt8) (bad : Bool) : (which head s bad).1.length ≤ (after head s bad).2.1.length := by
  unfold which; split
  · exact Nat.le_refl _
  · exact need_len _ _ _

theorem which_lt (head s : List UInt8) (bad : Bool) (h : s ≠ []) : (which head s bad).1.length < s.length :=
  Nat.lt_of_le_of_lt (which_le head s bad) (after_lt head s bad h)

theorem hasPrefix_ne {s p : List UInt8} (h : Lib.hasPrefix s p = true) (hp : p ≠ []) : s ≠ [] := by
  intro e; subst e
  unfold Lib.hasPrefix at h
  cases p with
  | nil => exact hp rfl
  | cons a r => simp [List.isPrefixOf] at h

theorem mergesF_nil (f : Nat) (bad : Bool) (n : Nat) : mergesF f [] bad n = (n, [], bad) := by
  cases f with
  | zero => rfl
  | succ f => rfl

theorem mergesF_fuel : ∀ (f g : Nat) (s : List UInt8) (bad : Bool) (n : Nat), s.length ≤ f → s.length ≤ g → mergesF f s bad n = mergesF g s bad n := by
  intro f
  induction f with
  | zero =>
    intro g s bad n h _
    have : s = [] := List.length_eq_zero_iff.1 (by omega)
    subst this
    rw [mergesF_nil, mergesF_nil]
  | succ f ih =>
    intro g s bad n h hg
    cases g with
    | zero =>
      have : s = [] := List.length_eq_zero_iff.1 (by omega)
      subst this
      rw [mergesF_nil, mergesF_nil]
    | succ g =>
      unfold mergesF
      split
      · rename_i hp
        have hlt := which_lt sMerge s bad (hasPrefix_ne hp (by decide))
        exact ih g _ _ _ (by omega) (by omega)
      · rfl

theorem mergesF_step (s : List UInt8) (bad : Bool) (n : Nat) (hp : Lib.hasPrefix s sMerge = true) :
    mergesF s.length s bad n = mergesF (which sMerge s bad).1.length (which sMerge s bad).1 (which sMerge s bad).2 (n + 1) := by
  have hne := hasPrefix_ne hp (by decide)
  have hlt := which_lt sMerge s bad hne
  obtain ⟨k, hk⟩ : ∃ k, s.length = k + 1 := ⟨s.length - 1, by have := List.length_pos_iff.2 hne; omega⟩
  rw [hk]
  conv => lhs; unfold mergesF
  rw [if_pos hp]
  exact mergesF_fuel _ _ _ _ _ (by omega) (Nat.le_refl _)

theorem mergesF_stop (f : Nat) (s : List UInt8) (bad : Bool) (n : Nat) (hp : Lib.hasPrefix s sMerge = false) : mergesF f s bad n = (n, s, bad) := by
  cases f with
  | zero => rfl
  | succ f => unfold mergesF; rw [hp]; rfl

theorem data_le (s : List UInt8) (bad : Bool) : (data s bad).2.1.length ≤ (after sData s bad).2.1.length := by
  unfold data bytes
  split
  · have := need_len (number (after sData s bad).1 0 200).2 (after sData s bad).2.1 (after sData s bad).2.2
    simp; omega
  · simp

theorem after_le (head s : List UInt8) (bad : Bool) : (after head s bad).2.1.length ≤ s.length := (after_len head s bad).2

theorem content_le (f s : List UInt8) (bad : Bool) : (content f s bad).1.length ≤ s.length := by
  unfold content
  split
  · exact Nat.le_trans (data_le s bad) (after_le _ _ _)
  · exact need_len _ _ _

theorem change_le (l s : List UInt8) (bad : Bool) : (change l s bad).1.length ≤ s.length := by
  unfold change
  split
  · split
    · unfold changeM
      exact Nat.le_trans (content_le _ _ _) (Nat.le_trans (need_len _ _ _) (need_len _ _ _))
    · exact need_len _ _ _
  · split <;> exact need_len _ _ _
  · split
    · exact Nat.le_trans (need_len _ _ _) (need_len _ _ _)
    · exact need_len _ _ _
  · exact need_len _ _ _

theorem line_nil (bad : Bool) : line [] bad = ([], [], true) := rfl

/-- What a round of the changes leaves: less, or an empty line. -/
theorem round_lt (l s : List UInt8) (bad : Bool) :
    (line (change l s bad).1 (change l s bad).2).1 = [] ∨ (line (change l s bad).1 (change l s bad).2).2.1.length < s.length := by
  have h := change_le l s bad
  generalize change l s bad = x at *
  obtain ⟨x0, x1⟩ := x
  by_cases e : x0 = []
  · left; subst e; rfl
  · right
    exact Nat.lt_of_lt_of_le (line_lt x0 x1 e) h

theorem changesF_nil (f : Nat) (s : List UInt8) (bad : Bool) (n : Nat) : changesF f [] s bad n = (n, s, bad) := by
  cases f with
  | zero => rfl
  | succ f => rfl

theorem changesF_fuel : ∀ (f g : Nat) (l s : List UInt8) (bad : Bool) (n : Nat), s.length < f → s.length < g → changesF f l s bad n = changesF g l s bad n := by
  intro f
  induction f with
  | zero => intro g l s bad n h; omega
  | succ f ih =>
    intro g l s bad n h hg
    cases g with
    | zero => omega
    | succ g =>
      unfold changesF
      split
      · rfl
      · rcases round_lt l s bad with e | e
        · rw [e, changesF_nil, changesF_nil]
        · exact ih g _ _ _ _ (by omega) (by omega)

theorem changesF_step (l s : List UInt8) (bad : Bool) (n : Nat) (hp : (l == []) = false) :
    changesF (s.length + 1) l s bad n = changesF ((line (change l s bad).1 (change l s bad).2).2.1.length + 1) (line (change l s bad).1 (change l s bad).2).1 (line (change l s bad).1 (change l s bad).2).2.1 (line (change l s bad).1 (change l s bad).2).2.2 (n + 1) := by
  conv => lhs; unfold changesF
  rw [hp]
  simp only [Bool.false_eq_true, if_false]
  rcases round_lt l s bad with e | e
  · rw [e, changesF_nil, changesF_nil]
  · exact changesF_fuel _ _ _ _ _ _ (by omega) (by omega)

end Pu
end Go.Proofs.YtepgoppgblfjbaaGreatDoor
