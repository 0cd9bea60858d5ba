/-
  Five contracts of the library's at this program, laid by program: strings.TrimLeft, CutPrefix, HasPrefix, Cut, strconv.ParseInt.
-/
import Derived.Shelf.Strings.Trim
import Derived.Shelf.Small.Wraps
import Derived.Shelf.Strconv.ParseIntPublic10
import Derived.Shelf.Strings.Cut
import Derived.Shelf.Strings.Prefix
import Derived.Test.YtiamkmkbkehldaaGreatDoorProg
import Derived.Test.YtiamkmkbkehldaaGreatDoorYrP
import Derived.Test.YtiamkmkbkehldaaGreatDoorRdM
import Derived.Test.YtiamkmkbkehldaaGreatDoorJgW
import Derived.Test.YtiamkmkbkehldaaGreatDoorIJs
namespace Go.Proofs
open Go.Shelf
def Tryz.lays161_ren : Go.Shelf.Ren := ⟨fun | 161 => 91 | 231 => 152 | 227 => 153 | 233 => 154 | 235 => 155 | 228 => 189 | 197 => 190 | 151 => 191 | 260 => 214 | 152 => 215 | 137 => 168 | 119 => 236 | 224 => 212 | 225 => 211 | 217 => 200 | 266 => 221 | n => n, fun | 9 => 9 | 4 => 4 | 3 => 3 | 5 => 5 | 117 => 204 | 116 => 203 | 0 => 0 | 124 => 207 | 105 => 231 | 21 => 21 | 119 => 267 | 46 => 112 | 139 => 270 | 138 => 269 | n => n, fun | 3 => 2 | 4 => 3 | n => n⟩
theorem Tryz.lays161 : Go.Proofs.Lays.n161 Tryz.prog Tryz.lays161_ren := {
  mixed := by kernel_rfl
  f119 := Tryz.func236.trans (congrArg some (by kernel_rfl))
  f137 := Tryz.func168.trans (congrArg some (by kernel_rfl))
  f151 := Tryz.func191.trans (congrArg some (by kernel_rfl))
  f152 := Tryz.func215.trans (congrArg some (by kernel_rfl))
  f161 := Tryz.func91.trans (congrArg some (by kernel_rfl))
  f197 := Tryz.func190.trans (congrArg some (by kernel_rfl))
  f217 := Tryz.func200.trans (congrArg some (by kernel_rfl))
  f224 := Tryz.func212.trans (congrArg some (by kernel_rfl))
  f225 := Tryz.func211.trans (congrArg some (by kernel_rfl))
  f227 := Tryz.func153.trans (congrArg some (by kernel_rfl))
  f228 := Tryz.func189.trans (congrArg some (by kernel_rfl))
  f231 := Tryz.func152.trans (congrArg some (by kernel_rfl))
  f233 := Tryz.func154.trans (congrArg some (by kernel_rfl))
  f235 := Tryz.func155.trans (congrArg some (by kernel_rfl))
  f260 := Tryz.func214.trans (congrArg some (by kernel_rfl))
  f266 := Tryz.func221.trans (congrArg some (by kernel_rfl))
  t0 := Tryz.underlying0
  a0 := Tryz.isAgg0
  z0 := Tryz.sizeOf0
  v0 := Tryz.zeroValue0
  t3 := Tryz.underlying3
  a3 := Tryz.isAgg3
  z3 := Tryz.sizeOf3
  v3 := Tryz.zeroValue3
  t4 := Tryz.underlying4
  a4 := Tryz.isAgg4
  z4 := Tryz.sizeOf4
  v4 := Tryz.zeroValue4
  t5 := Tryz.underlying5
  a5 := Tryz.isAgg5
  z5 := Tryz.sizeOf5
  v5 := Tryz.zeroValue5
  t9 := Tryz.underlying9
  a9 := Tryz.isAgg9
  z9 := Tryz.sizeOf9
  v9 := Tryz.zeroValue9
  t21 := Tryz.underlying21
  a21 := Tryz.isAgg21
  z21 := Tryz.sizeOf21
  v21 := Tryz.zeroValue21
  t46 := Tryz.underlying112
  a46 := Tryz.isAgg112
  z46 := Tryz.sizeOf112
  v46 := Tryz.zeroValue112
  t105 := Tryz.underlying231
  a105 := Tryz.isAgg231
  z105 := Tryz.sizeOf231
  v105 := Tryz.zeroValue231
  t116 := Tryz.underlying203
  a116 := Tryz.isAgg203
  z116 := Tryz.sizeOf203
  t117 := Tryz.underlying204
  a117 := Tryz.isAgg204
  z117 := Tryz.sizeOf204
  v117 := Tryz.zeroValue204
  t119 := Tryz.underlying267
  a119 := Tryz.isAgg267
  z119 := Tryz.sizeOf267
  t124 := Tryz.underlying207
  a124 := Tryz.isAgg207
  z124 := Tryz.sizeOf207
  v124 := Tryz.zeroValue207
  t138 := Tryz.underlying269
  a138 := Tryz.isAgg269
  z138 := Tryz.sizeOf269
  v138 := Tryz.zeroValue269
  t139 := Tryz.underlying270
  a139 := Tryz.isAgg270
  z139 := Tryz.sizeOf270
  v139 := Tryz.zeroValue270
  g3 := by kernel_rfl
  g4 := by kernel_rfl }
open Go.RowKit in
/-- strings.TrimLeft: "TrimLeft returns a slice of the string s with all leading Unicode code points contained in cutset removed.": AT A cutset OF ONE ASCII BYTE. The world is as it was. (LAID: no walk: one application.) -/
theorem Tryz.strings_TrimLeft_one (s : ByteArray) (c : UInt8) (hc : c.toNat < 128) (w : World) :
    Calls Tryz.prog 91 #[.string s, .string ⟨#[c]⟩] w fun e w' => e = .returned (.string ⟨(Lib.trimLeftB s.data.toList c).toArray⟩) ∧ w' = w := Any.strings_TrimLeft_one Tryz.lays161 s c hc w
def Tryz.lays103_ren : Go.Shelf.Ren := ⟨fun | 103 => 149 | 210 => 187 | 206 => 142 | n => n, fun | 9 => 9 | 4 => 4 | 24 => 198 | 3 => 3 | n => n, fun | n => n⟩
theorem Tryz.lays103 : Go.Proofs.Lays.n103 Tryz.prog Tryz.lays103_ren := {
  mixed := by kernel_rfl
  f103 := Tryz.func149.trans (congrArg some (by kernel_rfl))
  f206 := Tryz.func142.trans (congrArg some (by kernel_rfl))
  f210 := Tryz.func187.trans (congrArg some (by kernel_rfl))
  t3 := Tryz.underlying3
  a3 := Tryz.isAgg3
  z3 := Tryz.sizeOf3
  v3 := Tryz.zeroValue3
  t4 := Tryz.underlying4
  a4 := Tryz.isAgg4
  z4 := Tryz.sizeOf4
  v4 := Tryz.zeroValue4
  t9 := Tryz.underlying9
  a9 := Tryz.isAgg9
  z9 := Tryz.sizeOf9
  v9 := Tryz.zeroValue9
  t24 := Tryz.underlying198
  a24 := Tryz.isAgg198
  z24 := Tryz.sizeOf198
  v24 := Tryz.zeroValue198 }
open Go.RowKit in
/-- strings.CutPrefix: "CutPrefix returns s without the provided leading prefix string and reports whether it found the prefix. If s doesn't start with prefix, CutPrefix returns s, false. If prefix is the empty string, CutPrefix returns s, true.": IT RETURNS '(Lib.trimPrefix s p, Lib.hasPrefix s p)'; the world is as it was. (LAID: no walk: one application.) -/
theorem Tryz.strings_CutPrefix (s p : ByteArray) (w : World) :
    Calls Tryz.prog 149 #[.string s, .string p] w fun e w' => e = .returned (.tuple #[.string ⟨(Lib.trimPrefix s.data.toList p.data.toList).toArray⟩, .bool (Lib.hasPrefix s.data.toList p.data.toList)]) ∧ w' = w := Any.strings_CutPrefix Tryz.lays103 s p w
def Tryz.laysC174_ren : Go.Shelf.Ren := ⟨fun | 174 => 186 | 247 => 209 | 245 => 210 | 287 => 230 | 279 => 231 | 280 => 232 | 281 => 233 | 282 => 234 | 321 => 243 | 322 => 244 | 316 => 245 | 171 => 247 | 205 => 246 | 243 => 252 | 246 => 167 | 283 => 196 | 284 => 197 | 285 => 198 | 286 => 199 | 129 => 217 | 317 => 216 | 318 => 218 | 319 => 219 | 320 => 220 | 337 => 237 | 338 => 238 | n => n, fun | 9 => 9 | 3 => 3 | 2 => 2 | 75 => 57 | 85 => 229 | 4 => 4 | 167 => 260 | 5 => 5 | 53 => 193 | 175 => 261 | 46 => 112 | 168 => 263 | 37 => 22 | 0 => 0 | 210 => 279 | 21 => 21 | 127 => 121 | 145 => 288 | 143 => 286 | 171 => 236 | 173 => 238 | 212 => 252 | 51 => 190 | 20 => 20 | 213 => 253 | 232 => 281 | 233 => 282 | 80 => 63 | n => n, fun | 15 => 5 | 16 => 6 | 17 => 1 | 18 => 7 | 19 => 8 | n => n⟩
theorem Tryz.laysC174 : Go.Proofs.LaysC.n174 Tryz.prog Tryz.laysC174_ren := {
  mixed := by kernel_rfl
  f129 := Tryz.func217.trans (congrArg some (by kernel_rfl))
  f171 := Tryz.func247.trans (congrArg some (by kernel_rfl))
  f174 := Tryz.func186.trans (congrArg some (by kernel_rfl))
  f205 := Tryz.func246.trans (congrArg some (by kernel_rfl))
  f243 := Tryz.func252.trans (congrArg some (by kernel_rfl))
  f245 := Tryz.func210.trans (congrArg some (by kernel_rfl))
  f246 := Tryz.func167.trans (congrArg some (by kernel_rfl))
  f247 := Tryz.func209.trans (congrArg some (by kernel_rfl))
  f279 := Tryz.func231.trans (congrArg some (by kernel_rfl))
  f280 := Tryz.func232.trans (congrArg some (by kernel_rfl))
  f281 := Tryz.func233.trans (congrArg some (by kernel_rfl))
  f282 := Tryz.func234.trans (congrArg some (by kernel_rfl))
  f283 := Tryz.func196.trans (congrArg some (by kernel_rfl))
  f284 := Tryz.func197.trans (congrArg some (by kernel_rfl))
  f285 := Tryz.func198.trans (congrArg some (by kernel_rfl))
  f286 := Tryz.func199.trans (congrArg some (by kernel_rfl))
  f287 := Tryz.func230.trans (congrArg some (by kernel_rfl))
  f316 := Tryz.func245.trans (congrArg some (by kernel_rfl))
  f317 := Tryz.func216.trans (congrArg some (by kernel_rfl))
  f318 := Tryz.func218.trans (congrArg some (by kernel_rfl))
  f319 := Tryz.func219.trans (congrArg some (by kernel_rfl))
  f320 := Tryz.func220.trans (congrArg some (by kernel_rfl))
  f321 := Tryz.func243.trans (congrArg some (by kernel_rfl))
  f322 := Tryz.func244.trans (congrArg some (by kernel_rfl))
  f337 := Tryz.func237.trans (congrArg some (by kernel_rfl))
  f338 := Tryz.func238.trans (congrArg some (by kernel_rfl))
  t0 := Tryz.underlying0
  a0 := Tryz.isAgg0
  z0 := Tryz.sizeOf0
  v0 := Tryz.zeroValue0
  t2 := Tryz.underlying2
  a2 := Tryz.isAgg2
  z2 := Tryz.sizeOf2
  v2 := Tryz.zeroValue2
  t3 := Tryz.underlying3
  a3 := Tryz.isAgg3
  z3 := Tryz.sizeOf3
  v3 := Tryz.zeroValue3
  t4 := Tryz.underlying4
  a4 := Tryz.isAgg4
  z4 := Tryz.sizeOf4
  v4 := Tryz.zeroValue4
  t5 := Tryz.underlying5
  a5 := Tryz.isAgg5
  z5 := Tryz.sizeOf5
  v5 := Tryz.zeroValue5
  t9 := Tryz.underlying9
  a9 := Tryz.isAgg9
  z9 := Tryz.sizeOf9
  v9 := Tryz.zeroValue9
  t20 := Tryz.underlying20
  a20 := Tryz.isAgg20
  z20 := Tryz.sizeOf20
  v20 := Tryz.zeroValue20
  t21 := Tryz.underlying21
  a21 := Tryz.isAgg21
  z21 := Tryz.sizeOf21
  v21 := Tryz.zeroValue21
  t37 := Tryz.underlying22
  a37 := Tryz.isAgg22
  z37 := Tryz.sizeOf22
  v37 := Tryz.zeroValue22
  t46 := Tryz.underlying112
  a46 := Tryz.isAgg112
  z46 := Tryz.sizeOf112
  v46 := Tryz.zeroValue112
  t51 := Tryz.underlying190
  a51 := Tryz.isAgg190
  z51 := Tryz.sizeOf190
  v51 := Tryz.zeroValue190
  t53 := Tryz.underlying193
  a53 := Tryz.isAgg193
  z53 := Tryz.sizeOf193
  v53 := Tryz.zeroValue193
  t75 := Tryz.underlying57
  a75 := Tryz.isAgg57
  z75 := Tryz.sizeOf57
  v75 := Tryz.zeroValue57
  t85 := Tryz.underlying229
  a85 := Tryz.isAgg229
  z85 := Tryz.sizeOf229
  v85 := Tryz.zeroValue229
  t127 := Tryz.underlying121
  a127 := Tryz.isAgg121
  z127 := Tryz.sizeOf121
  v127 := Tryz.zeroValue121
  t143 := Tryz.underlying286
  a143 := Tryz.isAgg286
  z143 := Tryz.sizeOf286
  v143 := Tryz.zeroValue286
  t145 := Tryz.underlying288
  a145 := Tryz.isAgg288
  z145 := Tryz.sizeOf288
  v145 := Tryz.zeroValue288
  t167 := Tryz.underlying260
  a167 := Tryz.isAgg260
  z167 := Tryz.sizeOf260
  v167 := Tryz.zeroValue260
  t168 := Tryz.underlying263
  a168 := Tryz.isAgg263
  z168 := Tryz.sizeOf263
  v168 := Tryz.zeroValue263
  t171 := Tryz.underlying236
  a171 := Tryz.isAgg236
  z171 := Tryz.sizeOf236
  v171 := Tryz.zeroValue236
  t173 := Tryz.underlying238
  a173 := Tryz.isAgg238
  z173 := Tryz.sizeOf238
  v173 := Tryz.zeroValue238
  t175 := Tryz.underlying261
  a175 := Tryz.isAgg261
  z175 := Tryz.sizeOf261
  v175 := Tryz.zeroValue261
  t210 := Tryz.underlying279
  a210 := Tryz.isAgg279
  z210 := Tryz.sizeOf279
  v210 := Tryz.zeroValue279
  t212 := Tryz.underlying252
  a212 := Tryz.isAgg252
  z212 := Tryz.sizeOf252
  v212 := Tryz.zeroValue252
  t213 := Tryz.underlying253
  a213 := Tryz.isAgg253
  z213 := Tryz.sizeOf253
  t232 := Tryz.underlying281
  a232 := Tryz.isAgg281
  z232 := Tryz.sizeOf281
  v232 := Tryz.zeroValue281
  t233 := Tryz.underlying282
  a233 := Tryz.isAgg282
  z233 := Tryz.sizeOf282
  v233 := Tryz.zeroValue282
  g15 := by kernel_rfl
  g16 := by kernel_rfl
  g17 := by kernel_rfl
  g18 := by kernel_rfl
  g19 := by kernel_rfl
  t80 := Tryz.underlying63
  a80 := Tryz.isAgg63
  z80 := Tryz.sizeOf63
  v80 := Tryz.zeroValue63
  i0 := by kernel_rfl
  i2 := by kernel_rfl
  i3 := by kernel_rfl
  i4 := by kernel_rfl
  i5 := by kernel_rfl
  i9 := by kernel_rfl
  i20 := by kernel_rfl
  i21 := by kernel_rfl
  i37 := by kernel_rfl
  i46 := by kernel_rfl
  i51 := by kernel_rfl
  i53 := by kernel_rfl
  i75 := by kernel_rfl
  i80 := by kernel_rfl
  i85 := by kernel_rfl
  i127 := by kernel_rfl
  i143 := by kernel_rfl
  i145 := by kernel_rfl
  i167 := by kernel_rfl
  i168 := by kernel_rfl
  i171 := by kernel_rfl
  i173 := by kernel_rfl
  i175 := by kernel_rfl
  i210 := by kernel_rfl
  i212 := by kernel_rfl
  i232 := by kernel_rfl
  i233 := by kernel_rfl
  m15 := by kernel_rfl
  m16 := by kernel_rfl
  m17 := by kernel_rfl
  m18 := by kernel_rfl
  m19 := by kernel_rfl
  c0 := by kernel_rfl
  c2 := by kernel_rfl
  c3 := by kernel_rfl
  c4 := by kernel_rfl
  c5 := by kernel_rfl
  c9 := by kernel_rfl
  c20 := by kernel_rfl
  c21 := by kernel_rfl
  c37 := by kernel_rfl
  c46 := by kernel_rfl
  c51 := by kernel_rfl
  c53 := by kernel_rfl
  c75 := by kernel_rfl
  c80 := by kernel_rfl
  c85 := by kernel_rfl
  c127 := by kernel_rfl
  c143 := by kernel_rfl
  c145 := by kernel_rfl
  c167 := by kernel_rfl
  c168 := by kernel_rfl
  c171 := by kernel_rfl
  c173 := by kernel_rfl
  c175 := by kernel_rfl
  c210 := by kernel_rfl
  c212 := by kernel_rfl
  c213 := by kernel_rfl
  c232 := by kernel_rfl
  c233 := by kernel_rfl }
open Go.RowKit in
/-- strconv.ParseInt(s, 10, 64), AT EVERY STRING THAT SPELLS AN int64 ('Lib.parseIntB 64 s.data.toList = .ok v'): v, AND NO ERROR. (LAID: no walk: one application.) -/
theorem Tryz.strconv_ParseInt_10_at64_ok (s : ByteArray) (hmax : s.size ≤ 9223372036854775806) (v : Int) (h : Lib.parseIntB 64 s.data.toList = .ok v) (w : World) :
    Calls Tryz.prog 186 #[.string s, .int .i64 10, .int .i64 64] w fun e w' => e = .returned (.tuple #[.int .i64 v, .nilIface]) ∧ (w' = w ∨ ∃ t, w' = Lib.bytesWorld w 5 t) := Any.strconv_ParseInt_10_at64_ok Tryz.laysC174 s hmax v h w
open Go.RowKit Go.Lib in
def Tryz.lays99_ren : Go.Shelf.Ren := ⟨fun | 99 => 76 | 206 => 142 | n => n, fun | 9 => 9 | 4 => 4 | 3 => 3 | n => n, fun | n => n⟩
theorem Tryz.lays99 : Go.Proofs.Lays.n99 Tryz.prog Tryz.lays99_ren := {
  mixed := by kernel_rfl
  f99 := Tryz.func76.trans (congrArg some (by kernel_rfl))
  f206 := Tryz.func142.trans (congrArg some (by kernel_rfl))
  t3 := Tryz.underlying3
  a3 := Tryz.isAgg3
  z3 := Tryz.sizeOf3
  v3 := Tryz.zeroValue3
  t4 := Tryz.underlying4
  a4 := Tryz.isAgg4
  z4 := Tryz.sizeOf4
  v4 := Tryz.zeroValue4
  t9 := Tryz.underlying9
  a9 := Tryz.isAgg9
  z9 := Tryz.sizeOf9
  v9 := Tryz.zeroValue9 }
open Go.RowKit Go.Lib in
/-- strings.HasPrefix: "HasPrefix reports whether the string s begins with prefix.": IT RETURNS 'Lib.hasPrefix s prefix'; the world is as it was. (LAID: no walk: one application.) -/
theorem Tryz.strings_HasPrefix (s p : ByteArray) (w : World) :
    Calls Tryz.prog 76 #[.string s, .string p] w fun e w' => e = .returned (.bool (Lib.hasPrefix s.data.toList p.data.toList)) ∧ w' = w := Any.strings_HasPrefix Tryz.lays99 s p w
end Go.Proofs

/-
  The program's YAML: what stands in one line, read.
-/
namespace Go.Proofs.YtiamkmkbkehldaaGreatDoor
open Go.RowKit
set_option linter.unusedSimpArgs false
set_option linter.unusedVariables false

set_option maxRecDepth 100000 in
set_option maxHeartbeats 1600000 in
theorem gSign_any (s b : ByteArray) (w : World) : Calls Tryz.prog 184 #[.string s, .string b] w fun e w' => e = .returned (.agg #[.string s, .int .i64 0, .string b]) ∧ Below w.heap.size w w' := by
  go_enter Tryz.func184, Tryz.ntmps184
  go_wp2_with fail
  refine bodyPost_ret (v := .agg #[.string s, .int .i64 0, .string b]) (by simp [results, Tryz.results184, go_sem]) rfl ?_
  exact ⟨rfl, (Below.refl _ _).alloc (Nat.le_refl _) _⟩
theorem sg_new (w : World) (s b : ByteArray) (T : TypeId) : SgAt (fun j => (w.alloc (.cells #[.string s, .int .i64 0, .string b] T)).cell? ⟨w.heap.size, j, none⟩) (w.alloc (.cells #[.string s, .int .i64 0, .string b] T)) w.heap.size s 0 :=
  ⟨⟨by simp, by simp, by simp, by simp, Nat.zero_le _⟩, fun j _ => rfl⟩

set_option maxRecDepth 100000 in
set_option maxHeartbeats 1600000 in
theorem readDecimal_yes {s : ByteArray} {v : Int} (hs : s.size ≤ 4000) (h : Lib.parseIntB 64 s.data.toList = .ok v) (hi : Lib.itoa v = s.data.toList) (w : World) (htab : TabB w.heap.size w) :
    Calls Tryz.prog 148 #[.string s] w fun e w' => e = .returned (.int .i64 v) ∧ Below w.heap.size w w' := by
  have HTAB := hideIt htab
  have hb := Lib.parseIntB_bounds h
  have HC := hideIt (Tryz.strconv_ParseInt_10_at64_ok s (by omega) v h w)
  have h1 : -9223372036854775808 ≤ v := by have := hb.1; omega
  have h2 : v ≤ 9223372036854775807 := by have := hb.2; omega
  have e1 : (⟨(Lib.itoa v).toArray⟩ : ByteArray) = s := by rw [hi]
  have hss : (s.toList == s.toList) = true := by simp
  have hsn : (s.toList != s.toList) = false := by simp
  clear hb htab hi h
  go_enter Tryz.func148, Tryz.ntmps148
  go_wp2_with fail
  refine HC.out.mono ?_
  rintro e w1 ⟨rfl, hw1⟩
  have HB1 : Hid (Below w.heap.size w w1) := by
    rcases hw1 with rfl | ⟨t, rfl⟩
    · exact Below.refl _ _
    · exact Lib.bytesWorld_below _ _ _
  clear hw1
  have HF := hideIt (formatInt_any v h1 h2 w1 (HTAB.out w1 HB1.out))
  rw [e1] at HF
  go_wp2_with fail
  refine HF.out.mono ?_
  rintro e w2 ⟨rfl, hb2⟩
  have HB2 := hideIt (HB1.out.trans (hb2.mono HB1.out.size))
  clear hb2
  go_wp2_with fail
  go_ret
  exact ⟨rfl, HB2.out⟩

set_option maxRecDepth 100000 in
set_option maxHeartbeats 1600000 in
theorem readQuoted_yes {s : ByteArray} {l : List UInt8} {q : Nat} (hs : s.size ≤ 4000) (h0 : isAt s.data.toList 0 34 = true) (ht : txJ s.data.toList 1 = some (l, q)) (hq : ¬ q < s.size) (w : World) :
    Calls Tryz.prog 147 #[.string s] w fun e w' => e = .returned (.string (txt l)) ∧ Below w.heap.size w w' := by
  have HNS := hideB (gSign_any s ⟨#[]⟩ w)
  have H0 := hideB h0
  have HT := hideB ht
  have hq' : ¬ (q : Int) < (s.size : Int) := by omega
  clear h0 ht
  go_enter Tryz.func147, Tryz.ntmps147
  go_wp2_with fail
  refine HNS.out.mono ?_
  rintro e w1 ⟨rfl, hb1⟩
  have HB1 := hideB hb1
  clear hb1
  have HC := hideIt (gText_any (sg_new w1 s ⟨#[]⟩ 227) hs)
  have HBA : Hid (Below w1.heap.size w1 (w1.alloc (.cells #[.string s, .int .i64 0, .string ⟨#[]⟩] 227))) := (Below.refl _ _).alloc (Nat.le_refl _) _
  go_wp2_with fail
  refine HC.out.mono ?_
  rintro e w3 ⟨⟨l', q', a1, a2, rfl, hs3⟩ | ⟨hno, rfl⟩, hb3⟩
  rotate_left
  · exfalso
    rcases hno with hno | hno
    · rw [H0.out] at hno; cases hno
    · rw [HT.out] at hno; cases hno
  rw [HT.out] at a2
  simp only [Option.some.injEq, Prod.mk.injEq] at a2
  obtain ⟨rfl, rfl⟩ := a2
  have k1 := hs3.br.place
  have HB3 : Hid (Below w.heap.size w w3) := (HB1.out.trans (HBA.out.mono HB1.out.size)).trans ((hb3.below (by simp)).mono HB1.out.size)
  clear a1 hs3 hb3
  go_wp2_with fail
  go_ret
  exact ⟨rfl, HB3.out⟩

theorem list_none (P : Nat → Prop) (w : World) (f : Nat) : TreeP P w (f + 1) (listT []) (.iface 174 (.agg #[.slice none 0 0])) :=
  .inr (.inr (.inr (.inr (.inl ⟨rfl, rfl, rfl, rfl, _, rfl, ⟨by simp, none, 0, rfl, fun hp => absurd hp (by simp)⟩⟩))))
theorem map_noneY (P : Nat → Prop) (w : World) (f : Nat) : TreeP P w (f + 1) (mapT [] []) (.iface 119 (.agg #[.slice none 0 0, .slice none 0 0])) := by
  have e : mapT [] [] = .mk 6 0 ByteArray.empty [] [] := by
    have h0 : srt [] = [] := List.eq_nil_of_length_eq_zero (srt_len [])
    unfold mapT; rw [h0]; rfl
  rw [e]
  exact .inr (.inr (.inr (.inr (.inr ⟨rfl, rfl, rfl, _, _, rfl, ⟨by simp, fun i hi => absurd hi (by simp), none, 0, rfl, fun hp => absurd hp (by simp)⟩, ⟨by simp, none, 0, rfl, fun hp => absurd hp (by simp)⟩⟩))))
/-- What a short value is, in whatever memory. -/
def ShortV (t : VT) (x : Value) : Prop := ∀ (P : Nat → Prop) (w : World) (f : Nat), TreeP P w (f + 1) t x

set_option maxRecDepth 100000 in
set_option maxHeartbeats 3200000 in
theorem readShort_yes {s : ByteArray} {t : VT} (hs : s.size ≤ 4000) (h : shortY s.data.toList = some t) (w : World) (htab : TabB w.heap.size w) :
    Calls Tryz.prog 85 #[.string s] w fun e w' => ∃ ty x, e = .returned (.iface ty x) ∧ ShortV t (.iface ty x) ∧ Below w.heap.size w w' := by
  have HTAB := hideIt htab
  have hdl : s.data.toList = s.toList := (ByteArray.toList_eq s).symm
  have hb : ∀ l : List UInt8, (s.toList == l) = decide (s.data.toList = l) := fun l => by rw [hdl, Bool.eq_iff_iff, beq_iff_eq, decide_eq_true_iff]
  unfold shortY at h
  by_cases c1 : s.data.toList = nullW
  · rw [if_pos (.inl c1)] at h
    obtain rfl := (Option.some.inj h).symm
    have q1 : (s.toList == [110, 117, 108, 108]) = true := by rw [hb]; exact decide_eq_true c1
    clear hb h c1 hdl htab
    go_enter Tryz.func85, Tryz.ntmps85
    go_wp2_with fail
    go_ret
    exact ⟨_, _, rfl, fun P w f => (leafP f).1, Below.refl _ _⟩
  have q1 : (s.toList == [110, 117, 108, 108]) = false := by rw [hb]; exact decide_eq_false c1
  by_cases c2 : s.data.toList = [126]
  · rw [if_pos (.inr c2)] at h
    obtain rfl := (Option.some.inj h).symm
    have q2 : (s.toList == [126]) = true := by rw [hb]; exact decide_eq_true c2
    clear hb h c1 c2 hdl htab
    go_enter Tryz.func85, Tryz.ntmps85
    go_wp2_with fail
    go_ret
    exact ⟨_, _, rfl, fun P w f => (leafP f).1, Below.refl _ _⟩
  have q2 : (s.toList == [126]) = false := by rw [hb]; exact decide_eq_false c2
  rw [if_neg (by rintro (e | e); exact c1 e; exact c2 e)] at h
  by_cases c3 : s.data.toList = falseW
  · rw [if_pos c3] at h
    obtain rfl := (Option.some.inj h).symm
    have q3 : (s.toList == [102, 97, 108, 115, 101]) = true := by rw [hb]; exact decide_eq_true c3
    clear hb h c1 c2 c3 hdl htab
    go_enter Tryz.func85, Tryz.ntmps85
    go_wp2_with fail
    go_ret
    exact ⟨_, _, rfl, fun P w f => (leafP f).2.1 0, Below.refl _ _⟩
  have q3 : (s.toList == [102, 97, 108, 115, 101]) = false := by rw [hb]; exact decide_eq_false c3
  rw [if_neg c3] at h
  by_cases c4 : s.data.toList = trueW
  · rw [if_pos c4] at h
    obtain rfl := (Option.some.inj h).symm
    have q4 : (s.toList == [116, 114, 117, 101]) = true := by rw [hb]; exact decide_eq_true c4
    clear hb h c1 c2 c3 c4 hdl htab
    go_enter Tryz.func85, Tryz.ntmps85
    go_wp2_with fail
    go_ret
    exact ⟨_, _, rfl, fun P w f => (leafP f).2.1 1, Below.refl _ _⟩
  have q4 : (s.toList == [116, 114, 117, 101]) = false := by rw [hb]; exact decide_eq_false c4
  rw [if_neg c4] at h
  by_cases c5 : s.data.toList = [91, 93]
  · rw [if_pos c5] at h
    obtain rfl := (Option.some.inj h).symm
    have q5 : (s.toList == [91, 93]) = true := by rw [hb]; exact decide_eq_true c5
    clear hb h c1 c2 c3 c4 c5 hdl htab
    go_enter Tryz.func85, Tryz.ntmps85
    go_wp2_with fail
    go_ret
    exact ⟨_, _, rfl, fun P w f => list_none P w f, Below.refl _ _⟩
  have q5 : (s.toList == [91, 93]) = false := by rw [hb]; exact decide_eq_false c5
  rw [if_neg c5] at h
  by_cases c6 : s.data.toList = [123, 125]
  · rw [if_pos c6] at h
    obtain rfl := (Option.some.inj h).symm
    have q6 : (s.toList == [123, 125]) = true := by rw [hb]; exact decide_eq_true c6
    clear hb h c1 c2 c3 c4 c5 c6 hdl htab
    go_enter Tryz.func85, Tryz.ntmps85
    go_wp2_with fail
    go_ret
    exact ⟨_, _, rfl, fun P w f => map_noneY P w f, Below.refl _ _⟩
  have q6 : (s.toList == [123, 125]) = false := by rw [hb]; exact decide_eq_false c6
  rw [if_neg c6] at h
  have HPL := hideIt (iPlain_walk s w)
  cases c7 : plainL s.data.toList
  rotate_left
  · rw [if_pos c7] at h
    rw [txt_bytes] at h
    obtain rfl := (Option.some.inj h).symm
    rw [c7] at HPL
    clear hb h c1 c2 c3 c4 c5 c6 c7 hdl htab
    go_enter Tryz.func85, Tryz.ntmps85
    go_wp2_with fail
    refine HPL.out.mono ?_
    rintro e w1 ⟨rfl, hb1⟩
    have HB1 := hideIt hb1
    clear hb1
    go_wp2_with fail
    go_ret
    exact ⟨_, _, rfl, fun P w f => (leafP f).2.2.2 s, HB1.out⟩
  rw [if_neg (by rw [c7]; decide)] at h
  rw [c7] at HPL
  have HHP := hideIt (fun w => Tryz.strings_HasPrefix s ⟨#[34]⟩ w)
  have e34 : (ByteArray.mk #[34]).data.toList = [34] := rfl
  simp only [e34] at HHP
  cases c8 : Lib.hasPrefix s.data.toList [34]
  rotate_left
  · rw [if_pos c8] at h
    rw [c8] at HHP
    have hat : isAt s.data.toList 0 34 = true := by
      cases e : s.data.toList with
      | nil => rw [e] at c8; simp [Lib.hasPrefix, List.isPrefixOf] at c8
      | cons c r =>
        rw [e] at c8
        simp [Lib.hasPrefix, List.isPrefixOf] at c8
        subst c8
        rfl
    cases et : txJ s.data.toList 1 with
    | none => simp only [et] at h; cases h
    | some y =>
      obtain ⟨l, q⟩ := y
      simp only [et] at h
      have hln := len_is s
      by_cases hq : q < s.data.toList.length
      · rw [if_pos hq] at h; cases h
      · rw [if_neg hq] at h
        obtain rfl := (Option.some.inj h).symm
        have HRQ := hideIt (fun w => readQuoted_yes hs hat et (by omega) w)
        clear hb h c1 c2 c3 c4 c5 c6 c7 c8 hdl htab hat et hq hln
        go_enter Tryz.func85, Tryz.ntmps85
        go_wp2_with fail
        refine HPL.out.mono ?_
        rintro e w1 ⟨rfl, hb1⟩
        have HB1 := hideIt hb1
        clear hb1
        go_wp2_with fail
        refine (HHP.out w1).mono ?_
        rintro e w2 ⟨rfl, rfl⟩
        go_wp2_with fail
        refine (HRQ.out w2).mono ?_
        rintro e w3 ⟨rfl, hb3⟩
        have HB3 := hideIt (HB1.out.trans (hb3.mono HB1.out.size))
        clear hb3
        go_wp2_with fail
        go_ret
        exact ⟨_, _, rfl, fun P w f => (leafP f).2.2.2 (txt l), HB3.out⟩
  rw [if_neg (by rw [c8]; decide)] at h
  rw [c8] at HHP
  cases ep : Lib.parseIntB 64 s.data.toList with
  | «syntax» => simp only [ep] at h; cases h
  | range => simp only [ep] at h; cases h
  | ok v =>
    simp only [ep] at h
    by_cases hi : Lib.itoa v = s.data.toList
    · rw [if_pos hi] at h
      obtain rfl := (Option.some.inj h).symm
      have HRD := hideIt (fun w htab => readDecimal_yes hs ep hi w htab)
      clear hb h c1 c2 c3 c4 c5 c6 c7 c8 hdl htab ep hi
      go_enter Tryz.func85, Tryz.ntmps85
      go_wp2_with fail
      refine HPL.out.mono ?_
      rintro e w1 ⟨rfl, hb1⟩
      have HB1 := hideIt hb1
      have z1 := hb1.size
      clear hb1
      go_wp2_with fail
      refine (HHP.out w1).mono ?_
      rintro e w2 ⟨rfl, rfl⟩
      go_wp2_with fail
      refine (HRD.out w2 ((HTAB.out.next HB1.out).wide z1)).mono ?_
      rintro e w3 ⟨rfl, hb3⟩
      have HB3 := hideIt (HB1.out.trans (hb3.mono HB1.out.size))
      clear hb3
      go_wp2_with fail
      go_ret
      exact ⟨_, _, rfl, fun P w f => (leafP f).2.2.1 v, HB3.out⟩
    · rw [if_neg hi] at h; cases h

set_option maxRecDepth 100000 in
theorem behindBlank_yes {s : ByteArray} (h : Lib.hasPrefix s.data.toList [32] = true) (w : World) :
    Calls Tryz.prog 88 #[.string s] w fun e w' => e = .returned (.string (txt (s.data.toList.drop 1))) ∧ w' = w := by
  have HC := hideIt (Tryz.strings_CutPrefix s ⟨#[32]⟩ w)
  have e32 : (ByteArray.mk #[32]).data.toList = [32] := rfl
  have et : Lib.trimPrefix s.data.toList [32] = s.data.toList.drop 1 := by unfold Lib.trimPrefix; rw [if_pos h]; rfl
  rw [e32, et, h] at HC
  have HC2 : Hid (Calls Tryz.prog 149 #[.string s, .string ⟨#[32]⟩] w fun e w' => e = .returned (.tuple #[.string (txt (s.data.toList.drop 1)), .bool true]) ∧ w' = w) := HC.out
  clear HC et e32 h
  obtain ⟨D, hD⟩ : ∃ D, txt (s.data.toList.drop 1) = D := ⟨_, rfl⟩
  rw [hD] at HC2 ⊢
  clear hD
  go_enter Tryz.func88, Tryz.ntmps88
  go_wp2_with fail
  refine HC2.out.mono ?_
  rintro e w1 ⟨rfl, rfl⟩
  go_wp2_with fail
  go_ret
  exact ⟨rfl, rfl⟩
end Go.Proofs.YtiamkmkbkehldaaGreatDoor
