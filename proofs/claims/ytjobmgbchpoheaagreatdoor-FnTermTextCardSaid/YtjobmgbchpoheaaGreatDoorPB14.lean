/-
  Several texts of the proof in one (each says below what it holds): Shelf Put Fmt ImplFmt Scan.
-/
import Derived.Test.YtjobmgbchpoheaaGreatDoorPB11
import Derived.Test.YtjobmgbchpoheaaGreatDoorPB1
import Derived.Test.YtjobmgbchpoheaaGreatDoorPB12
import Derived.Shelf.Strings.Builder1
import Derived.Shelf.Strings.Trim
import Derived.Shelf.Strconv.Atoi
import Derived.Shelf.Strconv.Itoa0
import Derived.Shelf.Strconv.Itoa1
import Derived.Shelf.LaysM
import Derived.Shelf.Strconv.Itoa2
import Derived.Shelf.Strconv.Itoa3
import Derived.Shelf.Strconv.AtoiErrFast
import Derived.Shelf.Strconv.ParseIntEmpty
import Derived.Shelf.Strconv.AtoiFail
import Derived.Shelf.Strconv.Clone
import Derived.Shelf.Strconv.SyntaxError
import Derived.Shelf.LaysC
import Derived.Shelf.Strconv.ToError
import Derived.Shelf.Strconv.Lower
import Derived.Shelf.Strconv.ParseUint10
import Derived.Shelf.Strconv.ParseUint10Empty
import Derived.Shelf.Strconv.ParseUint10Any
import Derived.Shelf.Strconv.ParseInt10
import Derived.Shelf.Strconv.AtoiLong
import Derived.Shelf.Strconv.AtoiInnerAll
import Derived.Shelf.Strconv.RangeError
import Derived.Shelf.Strconv.ToErrorRange
import Derived.Shelf.Strconv.AtoiAll
import Derived.Shelf.Strconv.ErrVarAll
import Derived.Shelf.Strings.AsciiSet
import Derived.Test.YtjobmgbchpoheaaGreatDoorProg
import Derived.WalkSmall
import Derived.Lib.Strings
namespace Go.Proofs
open Go.Shelf
def Tryz.lays169_ren : Go.Shelf.Ren := ⟨fun | 169 => 35 | n => n, fun | 70 => 50 | 9 => 9 | 0 => 0 | 72 => 52 | 37 => 22 | 127 => 100 | 3 => 3 | 5 => 5 | n => n, fun | n => n⟩
theorem Tryz.lays169 : Go.Proofs.Lays.n169 Tryz.prog Tryz.lays169_ren := {
  mixed := by kernel_rfl
  f169 := Tryz.func35.trans (congrArg some (by kernel_rfl))
  t0 := Tryz.underlying0
  a0 := Tryz.isAgg0
  z0 := Tryz.sizeOf0
  v0 := Tryz.zeroValue0
  t3 := Tryz.underlying3
  a3 := Tryz.isAgg3
  z3 := Tryz.sizeOf3
  v3 := Tryz.zeroValue3
  t9 := Tryz.underlying9
  a9 := Tryz.isAgg9
  z9 := Tryz.sizeOf9
  v9 := Tryz.zeroValue9
  t37 := Tryz.underlying22
  a37 := Tryz.isAgg22
  z37 := Tryz.sizeOf22
  v37 := Tryz.zeroValue22
  t70 := Tryz.underlying50
  a70 := Tryz.isAgg50
  z70 := Tryz.sizeOf50
  v70 := Tryz.zeroValue50
  t72 := Tryz.underlying52
  a72 := Tryz.isAgg52
  z72 := Tryz.sizeOf52
  v72 := Tryz.zeroValue52
  t127 := Tryz.underlying100
  a127 := Tryz.isAgg100
  z127 := Tryz.sizeOf100
  v127 := Tryz.zeroValue100 }
theorem Tryz.Builder_Extra_169 : Builder.Extra Tryz.prog Tryz.lays169_ren := {
  sizeBuilder := by kernel_rfl
  liesBuilder := by kernel_rfl
  t5 := Tryz.underlying5
  a5 := Tryz.isAgg5
  z5 := Tryz.sizeOf5
  v5 := Tryz.zeroValue5
  infoByte := by kernel_rfl
  cellsByte := by kernel_rfl
  sizeByte := by kernel_rfl
  neB5 := by decide }
open Go.RowKit in
theorem Tryz.Builder_String_any (B b : Nat) (l : List UInt8) (w : World) (h : Lib.IsBuilder 52 5 B b (Lib.byteCells l) w) (hBw : B ≤ w.heap.size) :
    Calls Tryz.prog 35 #[.pointer (some ⟨b, 0, none⟩)] w fun e w' => e = .returned (.string ⟨l.toArray⟩) ∧ Below B w w' := Any.Builder_String_any Tryz.lays169 Tryz.Builder_Extra_169 B b l w h hBw
def Tryz.lays161_ren : Go.Shelf.Ren := ⟨fun | 161 => 99 | 231 => 130 | 227 => 131 | 233 => 132 | 235 => 133 | 228 => 147 | 197 => 148 | 151 => 149 | 260 => 154 | 152 => 155 | 137 => 165 | 119 => 166 | 224 => 167 | 225 => 168 | 217 => 177 | 266 => 182 | n => n, fun | 9 => 9 | 4 => 4 | 3 => 3 | 5 => 5 | 117 => 149 | 116 => 148 | 0 => 0 | 124 => 152 | 105 => 170 | 21 => 21 | 119 => 190 | 46 => 133 | 139 => 193 | 138 => 192 | n => n, fun | 3 => 1 | 4 => 2 | n => n⟩
theorem Tryz.lays161 : Go.Proofs.Lays.n161 Tryz.prog Tryz.lays161_ren := {
  mixed := by kernel_rfl
  f119 := Tryz.func166.trans (congrArg some (by kernel_rfl))
  f137 := Tryz.func165.trans (congrArg some (by kernel_rfl))
  f151 := Tryz.func149.trans (congrArg some (by kernel_rfl))
  f152 := Tryz.func155.trans (congrArg some (by kernel_rfl))
  f161 := Tryz.func99.trans (congrArg some (by kernel_rfl))
  f197 := Tryz.func148.trans (congrArg some (by kernel_rfl))
  f217 := Tryz.func177.trans (congrArg some (by kernel_rfl))
  f224 := Tryz.func167.trans (congrArg some (by kernel_rfl))
  f225 := Tryz.func168.trans (congrArg some (by kernel_rfl))
  f227 := Tryz.func131.trans (congrArg some (by kernel_rfl))
  f228 := Tryz.func147.trans (congrArg some (by kernel_rfl))
  f231 := Tryz.func130.trans (congrArg some (by kernel_rfl))
  f233 := Tryz.func132.trans (congrArg some (by kernel_rfl))
  f235 := Tryz.func133.trans (congrArg some (by kernel_rfl))
  f260 := Tryz.func154.trans (congrArg some (by kernel_rfl))
  f266 := Tryz.func182.trans (congrArg some (by kernel_rfl))
  t0 := Tryz.underlying0
  a0 := Tryz.isAgg0
  z0 := Tryz.sizeOf0
  v0 := Tryz.zeroValue0
  t3 := Tryz.underlying3
  a3 := Tryz.isAgg3
  z3 := Tryz.sizeOf3
  v3 := Tryz.zeroValue3
  t4 := Tryz.underlying4
  a4 := Tryz.isAgg4
  z4 := Tryz.sizeOf4
  v4 := Tryz.zeroValue4
  t5 := Tryz.underlying5
  a5 := Tryz.isAgg5
  z5 := Tryz.sizeOf5
  v5 := Tryz.zeroValue5
  t9 := Tryz.underlying9
  a9 := Tryz.isAgg9
  z9 := Tryz.sizeOf9
  v9 := Tryz.zeroValue9
  t21 := Tryz.underlying21
  a21 := Tryz.isAgg21
  z21 := Tryz.sizeOf21
  v21 := Tryz.zeroValue21
  t46 := Tryz.underlying133
  a46 := Tryz.isAgg133
  z46 := Tryz.sizeOf133
  v46 := Tryz.zeroValue133
  t105 := Tryz.underlying170
  a105 := Tryz.isAgg170
  z105 := Tryz.sizeOf170
  v105 := Tryz.zeroValue170
  t116 := Tryz.underlying148
  a116 := Tryz.isAgg148
  z116 := Tryz.sizeOf148
  t117 := Tryz.underlying149
  a117 := Tryz.isAgg149
  z117 := Tryz.sizeOf149
  v117 := Tryz.zeroValue149
  t119 := Tryz.underlying190
  a119 := Tryz.isAgg190
  z119 := Tryz.sizeOf190
  t124 := Tryz.underlying152
  a124 := Tryz.isAgg152
  z124 := Tryz.sizeOf152
  v124 := Tryz.zeroValue152
  t138 := Tryz.underlying192
  a138 := Tryz.isAgg192
  z138 := Tryz.sizeOf192
  v138 := Tryz.zeroValue192
  t139 := Tryz.underlying193
  a139 := Tryz.isAgg193
  z139 := Tryz.sizeOf193
  v139 := Tryz.zeroValue193
  g3 := by kernel_rfl
  g4 := by kernel_rfl }
def Tryz.laysM171_ren : Go.Shelf.Ren := ⟨fun | 171 => 112 | 243 => 139 | 246 => 152 | 283 => 161 | 284 => 162 | 285 => 163 | 286 => 164 | 129 => 173 | 317 => 172 | 318 => 174 | 319 => 175 | 320 => 176 | 337 => 180 | 338 => 181 | n => n, fun | 3 => 3 | 9 => 9 | 2 => 2 | 4 => 4 | 171 => 184 | 0 => 0 | 53 => 185 | 37 => 22 | 5 => 5 | 173 => 188 | 212 => 203 | 51 => 204 | 20 => 20 | 213 => 205 | 46 => 133 | 232 => 213 | 233 => 214 | n => n, fun | 17 => 5 | 18 => 7 | 19 => 8 | n => n⟩
theorem Tryz.laysM171 : Go.Proofs.LaysM.n171 Tryz.prog Tryz.laysM171_ren := {
  mixed := by kernel_rfl
  f129 := Tryz.func173.trans (congrArg some (by kernel_rfl))
  f171 := Tryz.func112.trans (congrArg some (by kernel_rfl))
  f243 := Tryz.func139.trans (congrArg some (by kernel_rfl))
  f246 := Tryz.func152.trans (congrArg some (by kernel_rfl))
  f283 := Tryz.func161.trans (congrArg some (by kernel_rfl))
  f284 := Tryz.func162.trans (congrArg some (by kernel_rfl))
  f285 := Tryz.func163.trans (congrArg some (by kernel_rfl))
  f286 := Tryz.func164.trans (congrArg some (by kernel_rfl))
  f317 := Tryz.func172.trans (congrArg some (by kernel_rfl))
  f318 := Tryz.func174.trans (congrArg some (by kernel_rfl))
  f319 := Tryz.func175.trans (congrArg some (by kernel_rfl))
  f320 := Tryz.func176.trans (congrArg some (by kernel_rfl))
  f337 := Tryz.func180.trans (congrArg some (by kernel_rfl))
  f338 := Tryz.func181.trans (congrArg some (by kernel_rfl))
  t0 := Tryz.underlying0
  a0 := Tryz.isAgg0
  z0 := Tryz.sizeOf0
  v0 := Tryz.zeroValue0
  t2 := Tryz.underlying2
  a2 := Tryz.isAgg2
  z2 := Tryz.sizeOf2
  v2 := Tryz.zeroValue2
  t3 := Tryz.underlying3
  a3 := Tryz.isAgg3
  z3 := Tryz.sizeOf3
  v3 := Tryz.zeroValue3
  t4 := Tryz.underlying4
  a4 := Tryz.isAgg4
  z4 := Tryz.sizeOf4
  v4 := Tryz.zeroValue4
  t5 := Tryz.underlying5
  a5 := Tryz.isAgg5
  z5 := Tryz.sizeOf5
  v5 := Tryz.zeroValue5
  t9 := Tryz.underlying9
  a9 := Tryz.isAgg9
  z9 := Tryz.sizeOf9
  v9 := Tryz.zeroValue9
  t20 := Tryz.underlying20
  a20 := Tryz.isAgg20
  z20 := Tryz.sizeOf20
  v20 := Tryz.zeroValue20
  t37 := Tryz.underlying22
  a37 := Tryz.isAgg22
  z37 := Tryz.sizeOf22
  v37 := Tryz.zeroValue22
  t46 := Tryz.underlying133
  a46 := Tryz.isAgg133
  z46 := Tryz.sizeOf133
  v46 := Tryz.zeroValue133
  t51 := Tryz.underlying204
  a51 := Tryz.isAgg204
  z51 := Tryz.sizeOf204
  v51 := Tryz.zeroValue204
  t53 := Tryz.underlying185
  a53 := Tryz.isAgg185
  z53 := Tryz.sizeOf185
  v53 := Tryz.zeroValue185
  t171 := Tryz.underlying184
  a171 := Tryz.isAgg184
  z171 := Tryz.sizeOf184
  v171 := Tryz.zeroValue184
  t173 := Tryz.underlying188
  a173 := Tryz.isAgg188
  z173 := Tryz.sizeOf188
  v173 := Tryz.zeroValue188
  t212 := Tryz.underlying203
  a212 := Tryz.isAgg203
  z212 := Tryz.sizeOf203
  v212 := Tryz.zeroValue203
  t213 := Tryz.underlying205
  a213 := Tryz.isAgg205
  z213 := Tryz.sizeOf205
  t232 := Tryz.underlying213
  a232 := Tryz.isAgg213
  z232 := Tryz.sizeOf213
  v232 := Tryz.zeroValue213
  t233 := Tryz.underlying214
  a233 := Tryz.isAgg214
  z233 := Tryz.sizeOf214
  v233 := Tryz.zeroValue214
  g17 := by kernel_rfl
  g18 := by kernel_rfl
  g19 := by kernel_rfl
  i0 := by kernel_rfl
  i2 := by kernel_rfl
  i3 := by kernel_rfl
  i4 := by kernel_rfl
  i5 := by kernel_rfl
  i9 := by kernel_rfl
  i20 := by kernel_rfl
  i37 := by kernel_rfl
  i46 := by kernel_rfl
  i51 := by kernel_rfl
  i53 := by kernel_rfl
  i171 := by kernel_rfl
  i173 := by kernel_rfl
  i212 := by kernel_rfl
  i232 := by kernel_rfl
  i233 := by kernel_rfl
  m17 := by kernel_rfl
  m18 := by kernel_rfl
  m19 := by kernel_rfl }
open Go.RowKit Go.Sort Go.Lib in
theorem Tryz.strconv_Itoa (n : Int) (h0 : -9223372036854775808 ≤ n) (h1 : n ≤ 9223372036854775807) (w : World) (htab : Lib.TabIs Tryz.prog w "internal/strconv.uint64pow10" .u64 Lib.pow10Tab) :
    Calls Tryz.prog 112 #[.int .i64 n] w fun e w' => e = .returned (.string ⟨(Lib.itoa n).toArray⟩) ∧ ∃ k os, w' = grow (w.drewN k) os := Any.strconv_Itoa Tryz.laysM171 n h0 h1 w htab
def Tryz.laysC172_ren : Go.Shelf.Ren := ⟨fun | 172 => 134 | 244 => 150 | 245 => 151 | 247 => 156 | 279 => 157 | 280 => 158 | 281 => 159 | 282 => 160 | 287 => 169 | 316 => 170 | 171 => 112 | 205 => 171 | 321 => 178 | 322 => 179 | 243 => 139 | 246 => 152 | 283 => 161 | 284 => 162 | 285 => 163 | 286 => 164 | 129 => 173 | 317 => 172 | 318 => 174 | 319 => 175 | 320 => 176 | 337 => 180 | 338 => 181 | n => n, fun | 9 => 9 | 3 => 3 | 75 => 60 | 76 => 61 | 4 => 4 | 5 => 5 | 167 => 178 | 37 => 22 | 0 => 0 | 85 => 179 | 2 => 2 | 168 => 181 | 53 => 185 | 175 => 197 | 46 => 133 | 210 => 200 | 127 => 100 | 145 => 211 | 143 => 209 | 21 => 21 | 171 => 184 | 173 => 188 | 212 => 203 | 51 => 204 | 20 => 20 | 213 => 205 | 232 => 213 | 233 => 214 | 80 => 63 | n => n, fun | 15 => 3 | 16 => 4 | 17 => 5 | 18 => 7 | 19 => 8 | n => n⟩
theorem Tryz.laysC172 : Go.Proofs.LaysC.n172 Tryz.prog Tryz.laysC172_ren := {
  mixed := by kernel_rfl
  f129 := Tryz.func173.trans (congrArg some (by kernel_rfl))
  f171 := Tryz.func112.trans (congrArg some (by kernel_rfl))
  f172 := Tryz.func134.trans (congrArg some (by kernel_rfl))
  f205 := Tryz.func171.trans (congrArg some (by kernel_rfl))
  f243 := Tryz.func139.trans (congrArg some (by kernel_rfl))
  f244 := Tryz.func150.trans (congrArg some (by kernel_rfl))
  f245 := Tryz.func151.trans (congrArg some (by kernel_rfl))
  f246 := Tryz.func152.trans (congrArg some (by kernel_rfl))
  f247 := Tryz.func156.trans (congrArg some (by kernel_rfl))
  f279 := Tryz.func157.trans (congrArg some (by kernel_rfl))
  f280 := Tryz.func158.trans (congrArg some (by kernel_rfl))
  f281 := Tryz.func159.trans (congrArg some (by kernel_rfl))
  f282 := Tryz.func160.trans (congrArg some (by kernel_rfl))
  f283 := Tryz.func161.trans (congrArg some (by kernel_rfl))
  f284 := Tryz.func162.trans (congrArg some (by kernel_rfl))
  f285 := Tryz.func163.trans (congrArg some (by kernel_rfl))
  f286 := Tryz.func164.trans (congrArg some (by kernel_rfl))
  f287 := Tryz.func169.trans (congrArg some (by kernel_rfl))
  f316 := Tryz.func170.trans (congrArg some (by kernel_rfl))
  f317 := Tryz.func172.trans (congrArg some (by kernel_rfl))
  f318 := Tryz.func174.trans (congrArg some (by kernel_rfl))
  f319 := Tryz.func175.trans (congrArg some (by kernel_rfl))
  f320 := Tryz.func176.trans (congrArg some (by kernel_rfl))
  f321 := Tryz.func178.trans (congrArg some (by kernel_rfl))
  f322 := Tryz.func179.trans (congrArg some (by kernel_rfl))
  f337 := Tryz.func180.trans (congrArg some (by kernel_rfl))
  f338 := Tryz.func181.trans (congrArg some (by kernel_rfl))
  t0 := Tryz.underlying0
  a0 := Tryz.isAgg0
  z0 := Tryz.sizeOf0
  v0 := Tryz.zeroValue0
  t2 := Tryz.underlying2
  a2 := Tryz.isAgg2
  z2 := Tryz.sizeOf2
  v2 := Tryz.zeroValue2
  t3 := Tryz.underlying3
  a3 := Tryz.isAgg3
  z3 := Tryz.sizeOf3
  v3 := Tryz.zeroValue3
  t4 := Tryz.underlying4
  a4 := Tryz.isAgg4
  z4 := Tryz.sizeOf4
  v4 := Tryz.zeroValue4
  t5 := Tryz.underlying5
  a5 := Tryz.isAgg5
  z5 := Tryz.sizeOf5
  v5 := Tryz.zeroValue5
  t9 := Tryz.underlying9
  a9 := Tryz.isAgg9
  z9 := Tryz.sizeOf9
  v9 := Tryz.zeroValue9
  t20 := Tryz.underlying20
  a20 := Tryz.isAgg20
  z20 := Tryz.sizeOf20
  v20 := Tryz.zeroValue20
  t21 := Tryz.underlying21
  a21 := Tryz.isAgg21
  z21 := Tryz.sizeOf21
  v21 := Tryz.zeroValue21
  t37 := Tryz.underlying22
  a37 := Tryz.isAgg22
  z37 := Tryz.sizeOf22
  v37 := Tryz.zeroValue22
  t46 := Tryz.underlying133
  a46 := Tryz.isAgg133
  z46 := Tryz.sizeOf133
  v46 := Tryz.zeroValue133
  t51 := Tryz.underlying204
  a51 := Tryz.isAgg204
  z51 := Tryz.sizeOf204
  v51 := Tryz.zeroValue204
  t53 := Tryz.underlying185
  a53 := Tryz.isAgg185
  z53 := Tryz.sizeOf185
  v53 := Tryz.zeroValue185
  t75 := Tryz.underlying60
  a75 := Tryz.isAgg60
  z75 := Tryz.sizeOf60
  v75 := Tryz.zeroValue60
  t76 := Tryz.underlying61
  a76 := Tryz.isAgg61
  z76 := Tryz.sizeOf61
  v76 := Tryz.zeroValue61
  t85 := Tryz.underlying179
  a85 := Tryz.isAgg179
  z85 := Tryz.sizeOf179
  v85 := Tryz.zeroValue179
  t127 := Tryz.underlying100
  a127 := Tryz.isAgg100
  z127 := Tryz.sizeOf100
  v127 := Tryz.zeroValue100
  t143 := Tryz.underlying209
  a143 := Tryz.isAgg209
  z143 := Tryz.sizeOf209
  v143 := Tryz.zeroValue209
  t145 := Tryz.underlying211
  a145 := Tryz.isAgg211
  z145 := Tryz.sizeOf211
  v145 := Tryz.zeroValue211
  t167 := Tryz.underlying178
  a167 := Tryz.isAgg178
  z167 := Tryz.sizeOf178
  v167 := Tryz.zeroValue178
  t168 := Tryz.underlying181
  a168 := Tryz.isAgg181
  z168 := Tryz.sizeOf181
  v168 := Tryz.zeroValue181
  t171 := Tryz.underlying184
  a171 := Tryz.isAgg184
  z171 := Tryz.sizeOf184
  v171 := Tryz.zeroValue184
  t173 := Tryz.underlying188
  a173 := Tryz.isAgg188
  z173 := Tryz.sizeOf188
  v173 := Tryz.zeroValue188
  t175 := Tryz.underlying197
  a175 := Tryz.isAgg197
  z175 := Tryz.sizeOf197
  v175 := Tryz.zeroValue197
  t210 := Tryz.underlying200
  a210 := Tryz.isAgg200
  z210 := Tryz.sizeOf200
  v210 := Tryz.zeroValue200
  t212 := Tryz.underlying203
  a212 := Tryz.isAgg203
  z212 := Tryz.sizeOf203
  v212 := Tryz.zeroValue203
  t213 := Tryz.underlying205
  a213 := Tryz.isAgg205
  z213 := Tryz.sizeOf205
  t232 := Tryz.underlying213
  a232 := Tryz.isAgg213
  z232 := Tryz.sizeOf213
  v232 := Tryz.zeroValue213
  t233 := Tryz.underlying214
  a233 := Tryz.isAgg214
  z233 := Tryz.sizeOf214
  v233 := Tryz.zeroValue214
  g15 := by kernel_rfl
  g16 := by kernel_rfl
  g17 := by kernel_rfl
  g18 := by kernel_rfl
  g19 := by kernel_rfl
  t80 := Tryz.underlying63
  a80 := Tryz.isAgg63
  z80 := Tryz.sizeOf63
  v80 := Tryz.zeroValue63
  i0 := by kernel_rfl
  i2 := by kernel_rfl
  i3 := by kernel_rfl
  i4 := by kernel_rfl
  i5 := by kernel_rfl
  i9 := by kernel_rfl
  i20 := by kernel_rfl
  i21 := by kernel_rfl
  i37 := by kernel_rfl
  i46 := by kernel_rfl
  i51 := by kernel_rfl
  i53 := by kernel_rfl
  i75 := by kernel_rfl
  i76 := by kernel_rfl
  i80 := by kernel_rfl
  i85 := by kernel_rfl
  i127 := by kernel_rfl
  i143 := by kernel_rfl
  i145 := by kernel_rfl
  i167 := by kernel_rfl
  i168 := by kernel_rfl
  i171 := by kernel_rfl
  i173 := by kernel_rfl
  i175 := by kernel_rfl
  i210 := by kernel_rfl
  i212 := by kernel_rfl
  i232 := by kernel_rfl
  i233 := by kernel_rfl
  m15 := by kernel_rfl
  m16 := by kernel_rfl
  m17 := by kernel_rfl
  m18 := by kernel_rfl
  m19 := by kernel_rfl
  c0 := by kernel_rfl
  c2 := by kernel_rfl
  c3 := by kernel_rfl
  c4 := by kernel_rfl
  c5 := by kernel_rfl
  c9 := by kernel_rfl
  c20 := by kernel_rfl
  c21 := by kernel_rfl
  c37 := by kernel_rfl
  c46 := by kernel_rfl
  c51 := by kernel_rfl
  c53 := by kernel_rfl
  c75 := by kernel_rfl
  c76 := by kernel_rfl
  c80 := by kernel_rfl
  c85 := by kernel_rfl
  c127 := by kernel_rfl
  c143 := by kernel_rfl
  c145 := by kernel_rfl
  c167 := by kernel_rfl
  c168 := by kernel_rfl
  c171 := by kernel_rfl
  c173 := by kernel_rfl
  c175 := by kernel_rfl
  c210 := by kernel_rfl
  c212 := by kernel_rfl
  c213 := by kernel_rfl
  c232 := by kernel_rfl
  c233 := by kernel_rfl }
open Go.RowKit in
theorem Tryz.strconv_Atoi_ok (s : ByteArray) (hmax : s.size ≤ 9223372036854775806) (v : Int) (h : Lib.atoiAll s.data.toList = .ok v) (w : World) :
    Calls Tryz.prog 134 #[.string s] w fun e w' => e = .returned (.tuple #[.int .i64 v, .nilIface]) ∧ (w' = w ∨ ∃ t, w' = Lib.bytesWorld w 5 t) := Any.strconv_Atoi_ok Tryz.laysC172 s hmax v h w
end Go.Proofs
namespace Go.Proofs.YtjobmgbchpoheaaGreatDoor
open Go Go.RowKit

theorem ret_str {a b : List UInt8} (h : a = b) : Ending.returned (.string ⟨a.toArray⟩) = Ending.returned (.string ⟨b.toArray⟩) := by rw [h]
theorem rel_put (m : Nat) (h : ¬ m = 0) {l r : List UInt8} (hl : dec m ++ l = r) :
    Value.string ((⟨#[48 + UInt8.ofNat (m % 10)]⟩ : ByteArray) ++ ⟨l.toArray⟩) = Value.string ⟨(UInt8.ofNat (48 + m % 10) :: l).toArray⟩ ∧ dec (m / 10) ++ (UInt8.ofNat (48 + m % 10) :: l) = r := by
  refine ⟨?_, dec_put (by omega) hl⟩
  rw [str_cons, UInt8.ofNat_add]; rfl

end Go.Proofs.YtjobmgbchpoheaaGreatDoor
namespace Go.Proofs.YtjobmgbchpoheaaGreatDoor
open Go Go.RowKit

set_option maxRecDepth 100000 in
set_option maxHeartbeats 400000 in
theorem fmt_pos (N : Nat) (h1 : 1 ≤ N) (h2 : N ≤ 9223372036854775807) (w : World) :
    Calls Tryz.prog 61 #[.int .i64 N] w fun e w' => e = .returned (.string ⟨(Lib.decDigits N).toArray⟩) ∧ Below w.heap.size w w' := by
  have t1 : ((N : Int) == 0) = false := by rw [beq_eq_false_iff_ne]; omega
  have t2 : decide ((N : Int) < 0) = false := by simp
  go_enter Tryz.func61, Tryz.ntmps61
  go_wp2
  go_loopw [0, 4] (fun n out wr => ∃ (m : Nat) (l : List UInt8), m ≤ N ∧ n = .int .i64 m ∧ out = .string ⟨l.toArray⟩ ∧ dec m ++ l = Lib.decDigits N ∧ Below w.heap.size w wr) (fun n _ _ => (intOf n).toNat)
  case atStart => exact ⟨N, [], Nat.le_refl _, rfl, rfl, by rw [dec_pos h1, List.append_nil], Below.refl _ _⟩
  case round =>
    obtain ⟨m, l, hm, rfl, rfl, hl, hb⟩ := hrel
    have hll : l.length ≤ 19 := by
      have e := congrArg List.length hl
      rw [List.length_append] at e
      have := dec_length_le (u := N) (by omega)
      omega
    have HL := Lib.hid hl
    clear hl
    by_cases hz : m = 0
    · subst hz
      go_wp2
      go_ret
      have e := HL.out
      rw [dec_zero, List.nil_append] at e
      exact ⟨ret_str e, hb⟩
    · have t3 : ((m : Int) != 0) = true := by rw [bne_iff_ne]; omega
      have kc := run_string_byte (P := Tryz.prog) wr 22 9 5 (48 + (m : Int) % 10) (by omega) (by omega) Tryz.underlying22 Tryz.underlying5 Tryz.underlying9
      go_wp2
      go_roundw
      case rel => exact ⟨m / 10, _, by omega, by go_num, (rel_put m hz HL.out).1, (rel_put m hz HL.out).2, hb.alloc hb.size _⟩
      case measure => simp [intOf]; omega

theorem rel_put0 (m : Nat) (h : ¬ m = 0) (hd : m % 10 = 0) {l r : List UInt8} (hl : dec m ++ l = r) :
    Value.string ((⟨#[UInt8.ofNat (48 + -((m : Int) % 10)).toNat]⟩ : ByteArray) ++ ⟨l.toArray⟩) = Value.string ⟨(UInt8.ofNat (48 + m % 10) :: l).toArray⟩ ∧ dec (m / 10) ++ (UInt8.ofNat (48 + m % 10) :: l) = r := by
  refine ⟨?_, dec_put (by omega) hl⟩
  rw [str_cons, show (48 + -((m : Int) % 10)).toNat = 48 + m % 10 by omega]
theorem ret_minus {a b : List UInt8} (h : a = b) : Ending.returned (.string ((⟨#[45]⟩ : ByteArray) ++ ⟨a.toArray⟩)) = Ending.returned (.string ⟨(45 :: b).toArray⟩) := by rw [h, str_cons]

set_option maxRecDepth 100000 in
set_option maxHeartbeats 400000 in
theorem fmt_neg (N : Nat) (h1 : 1 ≤ N) (h2 : N ≤ 9223372036854775808) (w : World) :
    Calls Tryz.prog 61 #[.int .i64 (-(N : Int))] w fun e w' => e = .returned (.string ⟨(45 :: Lib.decDigits N).toArray⟩) ∧ Below w.heap.size w w' := by
  have t1 : ((-(N : Int)) == 0) = false := by rw [beq_eq_false_iff_ne]; omega
  have t2 : decide (0 < N) = true := by simp; omega
  go_enter Tryz.func61, Tryz.ntmps61
  go_wp2
  go_loopw [0, 4] (fun n out wr => ∃ (m : Nat) (l : List UInt8), m ≤ N ∧ n = .int .i64 (-(m : Int)) ∧ out = .string ⟨l.toArray⟩ ∧ dec m ++ l = Lib.decDigits N ∧ Below w.heap.size w wr) (fun n _ _ => (-(intOf n)).toNat)
  case atStart => exact ⟨N, [], Nat.le_refl _, rfl, rfl, by rw [dec_pos h1, List.append_nil], Below.refl _ _⟩
  case round =>
    obtain ⟨m, l, hm, rfl, rfl, hl, hb⟩ := hrel
    have hll : l.length ≤ 19 := by
      have e := congrArg List.length hl
      rw [List.length_append] at e
      have := dec_length_le (u := N) (by omega)
      omega
    have HL := Lib.hid hl
    clear hl
    by_cases hz : m = 0
    · subst hz
      go_wp2
      go_ret
      have e := HL.out
      rw [dec_zero, List.nil_append] at e
      exact ⟨ret_minus e, hb⟩
    · have t3 : ((-(m : Int)) != 0) = true := by rw [bne_iff_ne]; omega
      by_cases hd : m % 10 = 0
      · have kc := run_string_byte (P := Tryz.prog) wr 22 9 5 (48 + -((m : Int) % 10)) (by omega) (by omega) Tryz.underlying22 Tryz.underlying5 Tryz.underlying9
        go_wp2
        go_roundw
        case rel => exact ⟨m / 10, _, by omega, by go_num, (rel_put0 m hz hd HL.out).1, (rel_put0 m hz hd HL.out).2, hb.alloc hb.size _⟩
        case measure => simp [intOf]; omega
      · have kc := run_string_byte (P := Tryz.prog) wr 22 9 5 (48 + (m : Int) % 10) (by omega) (by omega) Tryz.underlying22 Tryz.underlying5 Tryz.underlying9
        go_wp2
        go_roundw
        case rel => exact ⟨m / 10, _, by omega, by go_num, (rel_put m hz HL.out).1, (rel_put m hz HL.out).2, hb.alloc hb.size _⟩
        case measure => simp [intOf]; omega

set_option maxHeartbeats 400000 in
theorem fmt_zero (w : World) :
    Calls Tryz.prog 61 #[.int .i64 0] w fun e w' => e = .returned (.string ⟨(Lib.decDigits 0).toArray⟩) ∧ Below w.heap.size w w' := by
  have e : Lib.decDigits 0 = [48] := by rw [Lib.decDigits]; rfl
  have E := Lib.hid e
  clear e
  go_enter Tryz.func61, Tryz.ntmps61
  go_wp2
  go_ret
  exact ⟨by rw [E.out]; rfl, Below.refl _ _⟩
theorem fmt_any (n : Int) (h0 : -9223372036854775808 ≤ n) (h1 : n ≤ 9223372036854775807) (w : World) :
    Calls Tryz.prog 61 #[.int .i64 n] w fun e w' => e = .returned (.string ⟨(Lib.itoa n).toArray⟩) ∧ Below w.heap.size w w' := by
  unfold Lib.itoa
  by_cases hn : n < 0
  · rw [if_pos hn]
    have h := fmt_neg n.natAbs (by omega) (by omega) w
    rw [show (-(n.natAbs : Int)) = n by omega] at h
    exact h
  · rw [if_neg hn]
    by_cases hz : n = 0
    · subst hz; exact fmt_zero w
    · have h := fmt_pos n.toNat (by omega) (by omega) w
      rw [show ((n.toNat : Nat) : Int) = n by omega] at h
      exact h
end Go.Proofs.YtjobmgbchpoheaaGreatDoor
namespace Go.Proofs.YtjobmgbchpoheaaGreatDoor
open Go Go.RowKit

theorem gPow : Tryz.prog.globalNamed "internal/strconv.uint64pow10" = some 5 := by kernel_rfl
def Pow (w : World) : Prop := Lib.TabIs Tryz.prog w "internal/strconv.uint64pow10" .u64 Lib.pow10Tab ∧ 5 < w.heap.size
theorem Pow.below {w w' : World} (h : Pow w) (hb : Below w.heap.size w w') : Pow w' := ⟨var?_below hb gPow h.2 h.1, Nat.lt_of_lt_of_le h.2 hb.size⟩

theorem growB (w : World) (os : Array Obj) : Below w.heap.size w (Go.Sort.grow w os) := ⟨rfl, rfl, rfl, by simp [Go.Sort.grow], fun k hk => by
  show (w.heap ++ os)[k]? = w.heap[k]?
  rw [Array.getElem?_append, if_pos hk]⟩

set_option maxHeartbeats 400000 in
theorem implFmt_any (n : Int) (h0 : -9223372036854775808 ≤ n) (h1 : n ≤ 9223372036854775807) (w : World) (hp : Pow w) :
    Calls Tryz.prog 67 #[.int .i64 n] w fun e w' => e = .returned (.string ⟨(Lib.itoa n).toArray⟩) ∧ Below w.heap.size w w' := by
  have HC : Hid (Calls Tryz.prog 112 #[.int .i64 n] w fun e w' => e = .returned (.string ⟨(Lib.itoa n).toArray⟩) ∧ Below w.heap.size w w') := Lib.hid ((Tryz.strconv_Itoa n h0 h1 w hp.1).mono fun e w' ⟨he, k, os, hw⟩ => ⟨he, by
    rw [hw]
    exact (below_drewN (Below.refl _ w) k).trans (growB (w.drewN k) os)⟩)
  clear hp h0 h1
  go_enter Tryz.func67, Tryz.ntmps67
  go_wp2_with (go_at_call 112; refine HC.out.mono ?_; rintro e w1 ⟨rfl, hb1⟩)
  go_ret
  exact ⟨rfl, hb1⟩
end Go.Proofs.YtjobmgbchpoheaaGreatDoor
namespace Go.Proofs.YtjobmgbchpoheaaGreatDoor
open Go
def Tl (neg : Bool) (l t : List UInt8) : Prop := if neg then l = 45 :: t else l = t ∧ l.head? ≠ some 45
def sgnd (neg : Bool) (N : Nat) : Int := if neg then -(N : Int) else N

theorem tl_itoa {neg : Bool} {l t : List UInt8} (h : Tl neg l t) {n : Int} (e : Lib.itoa n = l) : Lib.decDigits n.natAbs = t ∧ n = sgnd neg n.natAbs := by
  unfold Lib.itoa at e
  cases neg with
  | true =>
    simp only [Tl, if_true] at h
    subst h
    by_cases hn : n < 0
    · rw [if_pos hn] at e
      injection e with _ e
      refine ⟨e, ?_⟩
      simp only [sgnd, if_true]; omega
    · rw [if_neg hn] at e
      have := dec_head n.toNat
      rw [e] at this
      exact absurd (List.head?_cons ..) this
  | false =>
    simp only [Tl, Bool.false_eq_true, if_false] at h
    obtain ⟨rfl, h⟩ := h
    by_cases hn : n < 0
    · rw [if_pos hn] at e
      rw [← e] at h
      exact absurd (List.head?_cons ..) h
    · rw [if_neg hn] at e
      have hz : n.natAbs = n.toNat := by omega
      rw [hz]
      refine ⟨e, ?_⟩
      simp only [sgnd, Bool.false_eq_true, if_false]; omega
def ReadOut (l : List UInt8) (m : Nat) (e : Ending) : Prop :=
  (∃ n : Int, e = .returned (.tuple #[.int .i64 n, .bool true]) ∧ Lib.itoa n = l ∧ n.natAbs < 10 ^ m) ∨
  (e = .returned (.tuple #[.int .i64 0, .bool false]) ∧ ∀ n : Int, n.natAbs < 10 ^ m → Lib.itoa n ≠ l)

theorem out_nil {m : Nat} {l : List UInt8} (hl : l = []) : ReadOut l m (.returned (.tuple #[.int .i64 0, .bool false])) := by
  refine Or.inr ⟨rfl, fun n _ e => ?_⟩
  rw [hl] at e
  unfold Lib.itoa at e
  split at e
  · cases e
  · exact dec_ne_nil _ e
theorem out_size {neg : Bool} {m : Nat} {l t : List UInt8} (h : Tl neg l t) (hm : 1 ≤ m) (hl : t.length < 1 ∨ m < t.length) : ReadOut l m (.returned (.tuple #[.int .i64 0, .bool false])) := by
  refine Or.inr ⟨rfl, fun n hn e => ?_⟩
  have h1 := (tl_itoa h e).1
  have h2 := Lib.decDigits_length n.natAbs
  have h3 := Lib.nDigits_pos n.natAbs
  have h4 := nDigits_le m n.natAbs hm hn
  rw [h1] at h2
  omega
theorem out_char {neg : Bool} {m : Nat} {l t : List UInt8} (h : Tl neg l t) {c : UInt8} (hc : c ∈ t) (hd : ¬ isDig c) : ReadOut l m (.returned (.tuple #[.int .i64 0, .bool false])) := by
  refine Or.inr ⟨rfl, fun n _ e => ?_⟩
  have h1 := (tl_itoa h e).1
  rw [← h1] at hc
  exact hd (dec_digs _ c hc)
theorem out_ne {neg : Bool} {m : Nat} {l t : List UInt8} (h : Tl neg l t) (hne : ¬ Lib.itoa (sgnd neg (rdA 0 t)) = l) : ReadOut l m (.returned (.tuple #[.int .i64 0, .bool false])) := by
  refine Or.inr ⟨rfl, fun n _ e => hne ?_⟩
  have h1 := tl_itoa h e
  have h2 : rdA 0 t = n.natAbs := by rw [← h1.1, rdA_dec]
  rw [h2, ← h1.2]; exact e
theorem out_eq {neg : Bool} {m : Nat} {l t : List UInt8} (hd : ∀ c ∈ t, isDig c) (hm : t.length ≤ m) (he : Lib.itoa (sgnd neg (rdA 0 t)) = l) : ReadOut l m (.returned (.tuple #[.int .i64 (sgnd neg (rdA 0 t)), .bool true])) := by
  refine Or.inl ⟨_, rfl, he, ?_⟩
  have h1 := rdA_lt t hd
  have h2 : 10 ^ t.length ≤ 10 ^ m := Nat.pow_le_pow_right (by decide) hm
  have h3 : (sgnd neg (rdA 0 t)).natAbs = rdA 0 t := by unfold sgnd; split <;> omega
  omega

theorem take_snoc (s : ByteArray) (k : Nat) (h : k < s.size) : s.data.toList.take (k + 1) = s.data.toList.take k ++ [s[k]] := by
  rw [List.take_succ_eq_append_getElem (by simpa using h)]; rfl
theorem mem_bytes (s : ByteArray) (k : Nat) (h : k < s.size) : s[k] ∈ s.data.toList := by
  have : s[k] = s.data.toList[k]'(by simpa using h) := rfl
  rw [this]; exact List.getElem_mem _
def Spelt (l : List UInt8) (k N : Nat) : Prop := N = rdA 0 (l.take k) ∧ ∀ c ∈ l.take k, isDig c
theorem spelt_zero (l : List UInt8) : Spelt l 0 0 := ⟨by rw [List.take_zero, rdA_nil], fun c hc => by simp at hc⟩
theorem spelt_bd {l : List UInt8} {k N : Nat} (h : Spelt l k N) (hk : k ≤ 17) : (N : Int) ≤ 100000000000000000 := by
  have h1 := rdA_lt (l.take k) h.2
  rw [← h.1] at h1
  have h2 : 10 ^ (l.take k).length ≤ 10 ^ 17 := Nat.pow_le_pow_right (by decide) (by have := List.length_take_le k l; omega)
  simp only [Nat.reducePow] at h2
  omega
theorem spelt_step {s : ByteArray} {k N : Nat} (h : Spelt s.data.toList k N) (hk : k < s.size) (hd : isDig s[k]) : Spelt s.data.toList (k + 1) (10 * N + (s[k].toNat - 48)) := by
  refine ⟨?_, ?_⟩
  · rw [take_snoc s k hk, rdA_snoc, ← h.1]
  · rw [take_snoc s k hk]
    intro c hc
    rcases List.mem_append.1 hc with hc | hc
    · exact h.2 c hc
    · rw [List.mem_singleton.1 hc]; exact hd
theorem spelt_all {l : List UInt8} {k N : Nat} (h : Spelt l k N) (hk : l.length ≤ k) : rdA 0 l = N ∧ ∀ c ∈ l, isDig c := by
  unfold Spelt at h
  rw [List.take_of_length_le hk] at h
  exact ⟨h.1.symm, h.2⟩
theorem size_len (s : ByteArray) : s.data.toList.length = s.size := by simp
theorem tl_neg {s : ByteArray} (hlt : 0 < s.size) (h : ((s[0].toNat : Int) == 45) = true) : Tl true s.data.toList (s.extract 1 s.size).data.toList := by
  have h0 : s[0] = 45 := by
    have : s[0].toNat = 45 := by have := beq_iff_eq.1 h; omega
    exact UInt8.toNat_inj.1 this
  clear h
  simp only [Tl, if_true]
  rw [Lib.extract_data, Lib.size_eq]
  obtain ⟨⟨l⟩⟩ := s
  cases l with
  | nil => exact absurd hlt (by decide)
  | cons c r =>
    have e : c = 45 := h0
    rw [e]
    simp
theorem tl_pos {s : ByteArray} (hlt : 0 < s.size) (h : ((s[0].toNat : Int) == 45) = false) : Tl false s.data.toList s.data.toList := by
  have h0 : s[0].toNat ≠ 45 := by have := beq_eq_false_iff_ne.1 h; omega
  clear h
  simp only [Tl, Bool.false_eq_true, if_false, true_and]
  obtain ⟨⟨l⟩⟩ := s
  cases l with
  | nil => exact absurd hlt (by decide)
  | cons c r =>
    have e : c.toNat ≠ 45 := h0
    intro hh
    have e2 : c = 45 := by simpa using hh
    rw [e2] at e
    exact e rfl
end Go.Proofs.YtjobmgbchpoheaaGreatDoor
