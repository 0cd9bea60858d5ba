/-
  Two contracts of the library's at this program (YAML's dump), laid by program: strings.ToLower on a text of small bytes; strings.IndexByte.
-/
import Derived.Shelf.Strings.OnBuilder
import Derived.Shelf.Small.Strs
import Derived.Test.YtiamkmkbkehldaaGreatDoorProg
import Derived.Test.YtiamkmkbkehldaaGreatDoorFmQ
import Derived.Below
import Derived.Test.YtiamkmkbkehldaaGreatDoorJbP
import Derived.Test.YtiamkmkbkehldaaGreatDoorLowN
namespace Go.Proofs
open Go.Shelf
def Tryz.lays159_ren : Go.Shelf.Ren := ⟨fun | 159 => 180 | 165 => 77 | 166 => 35 | 167 => 38 | 169 => 39 | 230 => 204 | 204 => 205 | 240 => 74 | 241 => 143 | 197 => 190 | 118 => 225 | 168 => 226 | 270 => 227 | 262 => 228 | 276 => 139 | 277 => 181 | 260 => 214 | 242 => 240 | 313 => 241 | 278 => 249 | 274 => 250 | 275 => 251 | n => n, fun | 9 => 9 | 4 => 4 | 3 => 3 | 5 => 5 | 72 => 52 | 0 => 0 | 76 => 58 | 75 => 57 | 107 => 245 | 70 => 50 | 20 => 20 | 37 => 22 | 127 => 121 | 21 => 21 | 105 => 231 | 164 => 188 | 162 => 276 | 203 => 274 | 119 => 267 | 46 => 112 | 139 => 270 | 138 => 269 | 51 => 190 | 160 => 283 | 208 => 292 | 206 => 290 | 80 => 63 | n => n, fun | 13 => 4 | 3 => 2 | 4 => 3 | n => n⟩
theorem Tryz.lays159 : Go.Proofs.Lays.n159 Tryz.prog Tryz.lays159_ren := {
  mixed := by kernel_rfl
  f118 := Tryz.func225.trans (congrArg some (by kernel_rfl))
  f159 := Tryz.func180.trans (congrArg some (by kernel_rfl))
  f165 := Tryz.func77.trans (congrArg some (by kernel_rfl))
  f166 := Tryz.func35.trans (congrArg some (by kernel_rfl))
  f167 := Tryz.func38.trans (congrArg some (by kernel_rfl))
  f168 := Tryz.func226.trans (congrArg some (by kernel_rfl))
  f169 := Tryz.func39.trans (congrArg some (by kernel_rfl))
  f197 := Tryz.func190.trans (congrArg some (by kernel_rfl))
  f204 := Tryz.func205.trans (congrArg some (by kernel_rfl))
  f230 := Tryz.func204.trans (congrArg some (by kernel_rfl))
  f240 := Tryz.func74.trans (congrArg some (by kernel_rfl))
  f241 := Tryz.func143.trans (congrArg some (by kernel_rfl))
  f242 := Tryz.func240.trans (congrArg some (by kernel_rfl))
  f260 := Tryz.func214.trans (congrArg some (by kernel_rfl))
  f262 := Tryz.func228.trans (congrArg some (by kernel_rfl))
  f270 := Tryz.func227.trans (congrArg some (by kernel_rfl))
  f274 := Tryz.func250.trans (congrArg some (by kernel_rfl))
  f275 := Tryz.func251.trans (congrArg some (by kernel_rfl))
  f276 := Tryz.func139.trans (congrArg some (by kernel_rfl))
  f277 := Tryz.func181.trans (congrArg some (by kernel_rfl))
  f278 := Tryz.func249.trans (congrArg some (by kernel_rfl))
  f313 := Tryz.func241.trans (congrArg some (by kernel_rfl))
  t0 := Tryz.underlying0
  a0 := Tryz.isAgg0
  z0 := Tryz.sizeOf0
  v0 := Tryz.zeroValue0
  t3 := Tryz.underlying3
  a3 := Tryz.isAgg3
  z3 := Tryz.sizeOf3
  v3 := Tryz.zeroValue3
  t4 := Tryz.underlying4
  a4 := Tryz.isAgg4
  z4 := Tryz.sizeOf4
  v4 := Tryz.zeroValue4
  t5 := Tryz.underlying5
  a5 := Tryz.isAgg5
  z5 := Tryz.sizeOf5
  v5 := Tryz.zeroValue5
  t9 := Tryz.underlying9
  a9 := Tryz.isAgg9
  z9 := Tryz.sizeOf9
  v9 := Tryz.zeroValue9
  t20 := Tryz.underlying20
  a20 := Tryz.isAgg20
  z20 := Tryz.sizeOf20
  v20 := Tryz.zeroValue20
  t21 := Tryz.underlying21
  a21 := Tryz.isAgg21
  z21 := Tryz.sizeOf21
  v21 := Tryz.zeroValue21
  t37 := Tryz.underlying22
  a37 := Tryz.isAgg22
  z37 := Tryz.sizeOf22
  v37 := Tryz.zeroValue22
  t46 := Tryz.underlying112
  a46 := Tryz.isAgg112
  z46 := Tryz.sizeOf112
  v46 := Tryz.zeroValue112
  t51 := Tryz.underlying190
  a51 := Tryz.isAgg190
  z51 := Tryz.sizeOf190
  v51 := Tryz.zeroValue190
  t70 := Tryz.underlying50
  a70 := Tryz.isAgg50
  z70 := Tryz.sizeOf50
  v70 := Tryz.zeroValue50
  t72 := Tryz.underlying52
  a72 := Tryz.isAgg52
  z72 := Tryz.sizeOf52
  v72 := Tryz.zeroValue52
  t75 := Tryz.underlying57
  a75 := Tryz.isAgg57
  z75 := Tryz.sizeOf57
  v75 := Tryz.zeroValue57
  t76 := Tryz.underlying58
  a76 := Tryz.isAgg58
  z76 := Tryz.sizeOf58
  v76 := Tryz.zeroValue58
  t105 := Tryz.underlying231
  a105 := Tryz.isAgg231
  z105 := Tryz.sizeOf231
  v105 := Tryz.zeroValue231
  t107 := Tryz.underlying245
  a107 := Tryz.isAgg245
  z107 := Tryz.sizeOf245
  v107 := Tryz.zeroValue245
  t119 := Tryz.underlying267
  a119 := Tryz.isAgg267
  z119 := Tryz.sizeOf267
  t127 := Tryz.underlying121
  a127 := Tryz.isAgg121
  z127 := Tryz.sizeOf121
  v127 := Tryz.zeroValue121
  t138 := Tryz.underlying269
  a138 := Tryz.isAgg269
  z138 := Tryz.sizeOf269
  v138 := Tryz.zeroValue269
  t139 := Tryz.underlying270
  a139 := Tryz.isAgg270
  z139 := Tryz.sizeOf270
  v139 := Tryz.zeroValue270
  t160 := Tryz.underlying283
  a160 := Tryz.isAgg283
  z160 := Tryz.sizeOf283
  v160 := Tryz.zeroValue283
  t162 := Tryz.underlying276
  a162 := Tryz.isAgg276
  z162 := Tryz.sizeOf276
  v162 := Tryz.zeroValue276
  t164 := Tryz.underlying188
  a164 := Tryz.isAgg188
  z164 := Tryz.sizeOf188
  v164 := Tryz.zeroValue188
  t203 := Tryz.underlying274
  a203 := Tryz.isAgg274
  z203 := Tryz.sizeOf274
  v203 := Tryz.zeroValue274
  t206 := Tryz.underlying290
  a206 := Tryz.isAgg290
  z206 := Tryz.sizeOf290
  v206 := Tryz.zeroValue290
  t208 := Tryz.underlying292
  a208 := Tryz.isAgg292
  z208 := Tryz.sizeOf292
  v208 := Tryz.zeroValue292
  g3 := by kernel_rfl
  g4 := by kernel_rfl
  g13 := by kernel_rfl }
theorem Tryz.Builder_Extra_159 : Builder.Extra Tryz.prog Tryz.lays159_ren := {
  sizeBuilder := by kernel_rfl
  liesBuilder := by kernel_rfl
  t5 := Tryz.underlying5
  a5 := Tryz.isAgg5
  z5 := Tryz.sizeOf5
  v5 := Tryz.zeroValue5
  infoByte := by kernel_rfl
  cellsByte := by kernel_rfl
  sizeByte := by kernel_rfl
  neB5 := by decide }
open Go.RowKit in
/-- strings.ToLower: "ToLower returns s with all Unicode letters mapped to their lower case.": ON ASCII TEXT OF AT MOST 2^47 BYTES. Below the heap's end the world is as it was: where a letter turns, the call makes a builder and its buffer. (LAID: no walk: one application.) -/
theorem Tryz.strings_ToLower_ascii (s : ByteArray) (w : World) (hs : s.size ≤ 140737488355328) (hascii : ∀ (j : Nat) (b : UInt8), s.data.toList[j]? = some b → b.toNat < 128) :
    Calls Tryz.prog 180 #[.string s] w fun e w' => e = .returned (.string ⟨(Lib.toLowerA s.data.toList).toArray⟩) ∧ Below w.heap.size w w' := Any.strings_ToLower_ascii Tryz.lays159 Tryz.Builder_Extra_159 s w hs hascii
def Tryz.lays137_ren : Go.Shelf.Ren := ⟨fun | 137 => 168 | 217 => 200 | 266 => 221 | n => n, fun | 9 => 9 | 5 => 5 | 3 => 3 | n => n, fun | n => n⟩
theorem Tryz.lays137 : Go.Proofs.Lays.n137 Tryz.prog Tryz.lays137_ren := {
  mixed := by kernel_rfl
  f137 := Tryz.func168.trans (congrArg some (by kernel_rfl))
  f217 := Tryz.func200.trans (congrArg some (by kernel_rfl))
  f266 := Tryz.func221.trans (congrArg some (by kernel_rfl))
  t3 := Tryz.underlying3
  a3 := Tryz.isAgg3
  z3 := Tryz.sizeOf3
  v3 := Tryz.zeroValue3
  t5 := Tryz.underlying5
  a5 := Tryz.isAgg5
  z5 := Tryz.sizeOf5
  v5 := Tryz.zeroValue5
  t9 := Tryz.underlying9
  a9 := Tryz.isAgg9
  z9 := Tryz.sizeOf9
  v9 := Tryz.zeroValue9 }
open Go.RowKit in
/-- strings.IndexByte: "IndexByte returns the index of the first instance of c in s, or -1 if c is not present in s.": IT RETURNS 'Lib.indexByte s c'; the world is as it was. (LAID: no walk: one application.) -/
theorem Tryz.strings_IndexByte (s : ByteArray) (c : Int) (w : World) :
    Calls Tryz.prog 168 #[.string s, .int .u8 c] w fun e w' => e = .returned (.int .i64 (Lib.indexByte s.data.toList c.toNat.toUInt8)) ∧ w' = w := Any.strings_IndexByte Tryz.lays137 s c w
end Go.Proofs

/-
  The program's PlainOk.
-/
namespace Go.Proofs.YtiamkmkbkehldaaGreatDoor
open Go.RowKit
set_option linter.unusedSimpArgs false
set_option linter.unusedVariables false

set_option maxRecDepth 100000 in
set_option maxHeartbeats 1600000 in
theorem iPlain_walk (s : ByteArray) (w : World) : Calls Tryz.prog 138 #[.string s] w fun e w' => e = .returned (.bool (plainL s.data.toList)) ∧ Below w.heap.size w w' := by
  go_enter Tryz.func138, Tryz.ntmps138
  by_cases h0 : s.toList = []
  · have hp : plainL s.data.toList = false := by rw [← ByteArray.toList_eq, h0]; rfl
    go_wp2_with fail
    go_ret
    exact ⟨ret_bl hp.symm, Below.refl _ _⟩
  have hpos : 0 < s.size := by
    rcases Nat.eq_zero_or_pos s.size with h | h
    · exact absurd (by rw [ByteArray.toList_eq]; exact List.eq_nil_of_length_eq_zero (by simpa using h)) h0
    · exact h
  by_cases h60 : 60 < s.size
  · have hp : plainL s.data.toList = false := by simp [plainL]; omega
    have h60' : (60 : Int) < (s.size : Int) := by omega
    go_wp2_with fail
    go_ret
    exact ⟨ret_bl hp.symm, Below.refl _ _⟩
  have h60' : (s.size : Int) ≤ (60 : Int) := by omega
  have hb0 : byteI s.data.toList 0 = ((s[0]'hpos).toNat : Int) := byteI_at hpos
  have hbn : byteI s.data.toList (s.data.toList.length - 1) = ((s[s.size - 1]'(by omega)).toNat : Int) := by
    have e : s.data.toList.length - 1 = s.size - 1 := by rw [len_is]
    rw [e]
    exact byteI_at (by omega)
  have he : s.toList.isEmpty = false := by cases h : s.toList.isEmpty with
    | false => rfl
    | true => exact absurd (List.isEmpty_iff.1 h) h0
  rcases Bool.eq_false_or_eq_true (letterI ((s[0]'hpos).toNat : Int)) with hl | hl
  rotate_left
  · have hp : plainL s.data.toList = false := by simp [plainL, hb0, hl]
    go_wp2_with (go_at_call 179; refine (beginsPlain_walk _ _).mono ?_; rintro e w' ⟨rfl, rfl⟩)
    go_ret
    exact ⟨ret_bl hp.symm, Below.refl _ _⟩
  rcases Bool.eq_false_or_eq_true (((s[s.size - 1]'(by omega)).toNat : Int) == 32) with hz | hz
  · have hp : plainL s.data.toList = false := by simp only [plainL, hbn, eq_of_beq hz, decide_true, Bool.not_true, Bool.and_false, Bool.false_and]
    have HP := hideB hp
    clear hp hb0 hbn
    go_wp2_with (go_at_call 179; refine (beginsPlain_walk _ _).mono ?_; rintro e w' ⟨rfl, rfl⟩)
    go_ret
    exact ⟨ret_bl HP.out.symm, Below.refl _ _⟩
  have HZ := hideB (show plainL s.data.toList = (s.data.toList.all (fun b => innerI (b.toNat : Int)) && !(words.contains (Go.Lib.toLowerA s.data.toList))) by
    have e1 : s.data.toList.isEmpty = false := by rw [← ByteArray.toList_eq]; exact he
    have e2 : s.data.toList.length ≤ 60 := by rw [len_is]; omega
    have e3 : ¬ ((s[s.size - 1]'(by omega)).toNat : Int) = 32 := by simpa using hz
    simp only [plainL, hb0, hbn, hl, e1, decide_eq_true e2, decide_eq_false e3, Bool.not_false, Bool.true_and])
  clear hb0 hbn
  go_wp2_with (go_at_call 179; refine (beginsPlain_walk _ _).mono ?_; rintro e w' ⟨rfl, rfl⟩)
  clear hl hz h0 he
  go_loop [27] (fun i => ∃ k : Nat, k ≤ s.size ∧ i = .int .i64 k ∧ Hid ((s.data.toList.take k).all (fun b => innerI (b.toNat : Int)) = true)) (fun i => s.size - (intOf i).toNat)
  case atStart => exact ⟨0, Nat.zero_le _, rfl, rfl⟩
  case round =>
    obtain ⟨k, hk, rfl, HA⟩ := hrel
    by_cases hlt : k < s.size
    · have hb : s.data.toList[k]? = some (s[k]'hlt) := by
        rw [Array.getElem?_toList]
        exact Array.getElem?_eq_getElem hlt
      have HB := hideB hb
      have HI := hideB (inner_index (s[k]'hlt))
      clear hb
      rcases Bool.eq_false_or_eq_true (letterI ((s[k]'hlt).toNat : Int)) with hl | hl
      · go_wp2_with (go_at_call 179; refine (beginsPlain_walk _ _).mono ?_; rintro e w' ⟨rfl, rfl⟩)
        refine ⟨⟨k + 1, by omega, by go_num, ?_⟩, by simp [intOf]; omega⟩
        rw [Hid, all_take_succ _ _ _ _ HB.out, HA.out, HI.out, hl]; rfl
      · obtain ⟨ix, hix⟩ : ∃ ix, Go.Lib.indexByte extras (s[k]'hlt) = ix := ⟨_, rfl⟩
        have HX := hideB hix
        clear hix
        have c9 : ∀ w : World, Calls Tryz.prog 168 #[.string ⟨#[48, 49, 50, 51, 52, 53, 54, 55, 56, 57, 45, 46, 47, 32]⟩, .int .u8 ((s[k]'hlt).toNat : Int)] w fun e w' => e = .returned (.int .i64 ix) ∧ w' = w := fun w => by
          have := Tryz.strings_IndexByte ⟨#[48, 49, 50, 51, 52, 53, 54, 55, 56, 57, 45, 46, 47, 32]⟩ ((s[k]'hlt).toNat : Int) w
          have e : (((s[k]'hlt).toNat : Int).toNat.toUInt8) = s[k]'hlt := by simp
          rw [e] at this
          rw [← HX.out]
          exact this
        by_cases hn : ix < 0
        · have HP := hideB (show plainL s.data.toList = false from plain_bad HB.out (by rw [HI.out, hl, HX.out]; simp [hn]))
          go_wp2_with (first | (go_at_call 179; refine (beginsPlain_walk _ _).mono ?_; rintro e w' ⟨rfl, rfl⟩) | (go_at_call 168; refine (c9 _).mono ?_; rintro e w' ⟨rfl, rfl⟩))
          go_ret
          exact ⟨ret_bl HP.out.symm, Below.refl _ _⟩
        · go_wp2_with (first | (go_at_call 179; refine (beginsPlain_walk _ _).mono ?_; rintro e w' ⟨rfl, rfl⟩) | (go_at_call 168; refine (c9 _).mono ?_; rintro e w' ⟨rfl, rfl⟩))
          refine ⟨⟨k + 1, by omega, by go_num, ?_⟩, by simp [intOf]; omega⟩
          rw [Hid, all_take_succ _ _ _ _ HB.out, HA.out, HI.out, hl, HX.out]; simp [hn]
    · obtain rfl : k = s.size := by omega
      have HL := hideB (show s.data.toList.all (fun b => innerI (b.toNat : Int)) = true by
        have e : s.data.toList.take s.size = s.data.toList := by rw [← len_is, List.take_length]
        rw [← e]; exact HA.out)
      obtain ⟨lw, hlw⟩ : ∃ lw, Go.Lib.toLowerA s.data.toList = lw := ⟨_, rfl⟩
      have c10 := Tryz.strings_ToLower_ascii s
      rw [hlw] at c10
      have HC := hideB (fun w => c10 w (by omega) (fun j b hj => inner_ascii b (List.all_eq_true.1 HL.out b (List.mem_of_getElem? hj))))
      have HP := hideB (show plainL s.data.toList = !(words.contains lw) by rw [HZ.out, HL.out, hlw]; rfl)
      clear c10 hlw
      rw [words_is] at HP
      rcases Bool.eq_false_or_eq_true (lw == [110, 117, 108, 108]) with q1 | q1
      · have HR := hideB (HP.out.trans (by rw [q1]; rfl) : plainL s.data.toList = false)
        go_wp2_with (go_at_call 180; refine (HC.out _).mono ?_; rintro e w1 ⟨rfl, hb1⟩)
        go_ret
        exact ⟨ret_bl HR.out.symm, hb1⟩
      rcases Bool.eq_false_or_eq_true (lw == [116, 114, 117, 101]) with q2 | q2
      · have HR := hideB (HP.out.trans (by rw [q1, q2]; rfl) : plainL s.data.toList = false)
        go_wp2_with (go_at_call 180; refine (HC.out _).mono ?_; rintro e w1 ⟨rfl, hb1⟩)
        go_ret
        exact ⟨ret_bl HR.out.symm, hb1⟩
      rcases Bool.eq_false_or_eq_true (lw == [102, 97, 108, 115, 101]) with q3 | q3
      · have HR := hideB (HP.out.trans (by rw [q1, q2, q3]; rfl) : plainL s.data.toList = false)
        go_wp2_with (go_at_call 180; refine (HC.out _).mono ?_; rintro e w1 ⟨rfl, hb1⟩)
        go_ret
        exact ⟨ret_bl HR.out.symm, hb1⟩
      · have HR := hideB (HP.out.trans (by rw [q1, q2, q3]; rfl) : plainL s.data.toList = true)
        go_wp2_with (go_at_call 180; refine (HC.out _).mono ?_; rintro e w1 ⟨rfl, hb1⟩)
        go_ret
        exact ⟨ret_bl HR.out.symm, hb1⟩
end Go.Proofs.YtiamkmkbkehldaaGreatDoor

/-
  The program's YAML: a word, a short value's line, the head of a part's line.
-/
namespace Go.Proofs.YtiamkmkbkehldaaGreatDoor
open Go.RowKit
set_option linter.unusedSimpArgs false
set_option linter.unusedVariables false

set_option maxRecDepth 100000 in
set_option maxHeartbeats 800000 in
theorem plainOrQuoted_any (s : ByteArray) (w : World) (hs : s.size ≤ 60) : Calls Tryz.prog 73 #[.string s] w fun e w' => e = .returned (.string (txt (wordY s))) ∧ Below w.heap.size w w' := by
  have HP := hideIt (iPlain_walk s w)
  cases hp : plainL s.data.toList
  · have HW : Hid (wordY s = quoT s) := by rw [Hid]; unfold wordY; rw [hp]; rfl
    rw [hp] at HP
    go_enter Tryz.func73, Tryz.ntmps73
    go_wp2_with fail
    refine HP.out.mono ?_
    rintro e w1 ⟨rfl, hb1⟩
    have HB1 := hideIt hb1
    have z1 := hb1.size
    clear hb1
    go_wp2_with fail
    refine (iQuo_any s _ (by omega)).mono ?_
    rintro e w2 ⟨rfl, hb2⟩
    have HB2 := hideIt (HB1.out.trans (hb2.mono z1))
    clear hb2
    go_wp2_with fail
    go_ret
    exact ⟨by rw [HW.out]; rfl, HB2.out⟩
  · have HW : Hid (wordY s = s.data.toList) := by rw [Hid]; unfold wordY; rw [hp]; rfl
    rw [hp] at HP
    go_enter Tryz.func73, Tryz.ntmps73
    go_wp2_with fail
    refine HP.out.mono ?_
    rintro e w1 ⟨rfl, hb1⟩
    have HB1 := hideIt hb1
    clear hb1
    go_wp2_with fail
    go_ret
    exact ⟨by rw [HW.out, txt_bytes]; rfl, HB1.out⟩

set_option maxRecDepth 100000 in
set_option maxHeartbeats 1600000 in
theorem isShort_any (B f : Nat) (t : VT) (v : Value) (w : World) (h : TreeAt B w (f + 1) t v) : Calls Tryz.prog 32 #[v] w fun e w' => e = .returned (.bool (decide ((kidsY t).length = 0))) ∧ Below w.heap.size w w' := by
  obtain ⟨kind, n, s, keys, kids⟩ := t
  rcases h with ⟨rfl, rfl, rfl, rfl, rfl, rfl⟩ | ⟨rfl, rfl, rfl, rfl, rfl⟩ | ⟨rfl, rfl, rfl, rfl, rfl⟩ | ⟨rfl, rfl, rfl, rfl, rfl⟩ | ⟨rfl, rfl, rfl, rfl, it, rfl, hi⟩ | ⟨rfl, rfl, rfl, ks, it, rfl, hk, hi⟩
  · go_enter Tryz.func32, Tryz.ntmps32
    go_wp2_with fail
    refine (parts1_any _).mono ?_
    rintro e w1 ⟨rfl, hb1⟩
    go_wp2_with fail
    go_ret
    exact ⟨rfl, hb1⟩
  · go_enter Tryz.func32, Tryz.ntmps32
    go_wp2_with fail
    refine (parts2_any _ _).mono ?_
    rintro e w1 ⟨rfl, hb1⟩
    go_wp2_with fail
    go_ret
    exact ⟨rfl, hb1⟩
  · go_enter Tryz.func32, Tryz.ntmps32
    go_wp2_with fail
    refine (parts3_any _ _).mono ?_
    rintro e w1 ⟨rfl, hb1⟩
    go_wp2_with fail
    go_ret
    exact ⟨rfl, hb1⟩
  · go_enter Tryz.func32, Tryz.ntmps32
    go_wp2_with fail
    refine (parts4_any _ _).mono ?_
    rintro e w1 ⟨rfl, hb1⟩
    go_wp2_with fail
    go_ret
    exact ⟨rfl, hb1⟩
  · obtain ⟨h0, ai, ci, rfl, _⟩ := hi
    obtain ⟨M, hM⟩ : ∃ M, kids.length = M := ⟨_, rfl⟩
    have HK : Hid ((kidsY (.mk 5 0 ByteArray.empty [] kids)).length = M) := hM
    rw [HK.out]
    rw [hM]
    clear hM HK
    go_enter Tryz.func32, Tryz.ntmps32
    go_wp2_with fail
    refine (parts5_any _ _ _ _).mono ?_
    rintro e w1 ⟨rfl, hb1⟩
    go_wp2_with fail
    go_ret
    refine ⟨?_, hb1⟩
    show Ending.returned (.bool _) = Ending.returned (.bool _)
    congr 2
    by_cases e : M = 0
    · subst e; rfl
    · simp [e]
  · obtain ⟨h0, ai, ci, rfl, _⟩ := hi
    obtain ⟨_, _, aK, cK, rfl, _⟩ := hk
    obtain ⟨M, hM⟩ : ∃ M, kids.length = M := ⟨_, rfl⟩
    have HK : Hid ((kidsY (.mk 6 0 ByteArray.empty keys kids)).length = M) := hM
    rw [HK.out]
    rw [hM]
    clear hM HK
    go_enter Tryz.func32, Tryz.ntmps32
    go_wp2_with fail
    refine (parts6_any _ _ _ _ _ _ _).mono ?_
    rintro e w1 ⟨rfl, hb1⟩
    go_wp2_with fail
    go_ret
    refine ⟨?_, hb1⟩
    show Ending.returned (.bool _) = Ending.returned (.bool _)
    congr 2
    by_cases e : M = 0
    · subst e; rfl
    · simp [e]
end Go.Proofs.YtiamkmkbkehldaaGreatDoor

/-
  The program's YAML: a short value's line, the head of a part's line.
-/
namespace Go.Proofs.YtiamkmkbkehldaaGreatDoor
open Go.RowKit
set_option linter.unusedSimpArgs false
set_option linter.unusedVariables false

theorem ya_null (x : Value) (w : World) : (Instr.typeAssert (.iface 170 x) 45 110 true).run Tryz.prog w = .ok (.tuple #[.agg #[.string ByteArray.empty], .bool false]) w := by kernel_rfl
theorem ya_bool (x : Value) (w : World) : (Instr.typeAssert (.iface 163 x) 45 110 true).run Tryz.prog w = .ok (.tuple #[.agg #[.string ByteArray.empty], .bool false]) w := by kernel_rfl
theorem ya_int (x : Value) (w : World) : (Instr.typeAssert (.iface 164 x) 45 110 true).run Tryz.prog w = .ok (.tuple #[.agg #[.string ByteArray.empty], .bool false]) w := by kernel_rfl
theorem ya_text (x : Value) (w : World) : (Instr.typeAssert (.iface 110 x) 45 110 true).run Tryz.prog w = .ok (.tuple #[x, .bool true]) w := by kernel_rfl
theorem ya_list (x : Value) (w : World) : (Instr.typeAssert (.iface 174 x) 45 110 true).run Tryz.prog w = .ok (.tuple #[.agg #[.string ByteArray.empty], .bool false]) w := by kernel_rfl
theorem ya_map (x : Value) (w : World) : (Instr.typeAssert (.iface 119 x) 45 110 true).run Tryz.prog w = .ok (.tuple #[.agg #[.string ByteArray.empty], .bool false]) w := by kernel_rfl
theorem yb_list (x : Value) (w : World) : (Instr.typeAssert (.iface 174 x) 45 119 true).run Tryz.prog w = .ok (.tuple #[.agg #[.slice none 0 0, .slice none 0 0], .bool false]) w := by kernel_rfl
theorem yb_map (x : Value) (w : World) : (Instr.typeAssert (.iface 119 x) 45 119 true).run Tryz.prog w = .ok (.tuple #[x, .bool true]) w := by kernel_rfl
theorem flat_json {f : Nat} {kind n : Int} {s : ByteArray} {keys : List ByteArray} (h : kind ≠ 4) : flatY (.mk kind n s keys []) = jsonT false (f + 1) 0 (.mk kind n s keys []) := by
  show (if kind = 4 then wordY s else jsonT false 1 0 (.mk kind n s keys [])) = _
  have e : ∀ F named, wholeJ F false named 0 keys [] = [] := fun F named => by unfold wholeJ; simp
  rw [if_neg h, jsonT, jsonT, e, e, e, e]
theorem flat_pos {f : Nat} {kind n : Int} {s : ByteArray} {keys : List ByteArray} (h : kind = 1 ∨ kind = 2 ∨ kind = 3 ∨ kind = 5 ∨ kind = 6) : jsonT false (f + 1) 0 (.mk kind n s keys []) ≠ [] := by
  have hl := jsonT_leaf false f 0 (kind := kind) (n := n) (s := s) (keys := keys) (kids := [])
  rcases h with k | k | k | k | k
  · rw [hl.1 k]; simp
  · rw [hl.2.1 k]; split <;> simp
  · rw [hl.2.2.1 k]; intro e; have := itoa_pos n; rw [e] at this; simp at this
  · rw [hl.2.2.2.2.1 k]; simp
  · rw [hl.2.2.2.2.2 k]; simp
theorem fb_new2 (w : World) (o : Obj) : FB 93 w.heap.size (w.heap.size + 1) [.bool false] [] ((w.alloc o).alloc (.cells #[.pointer none, .slice none 0 0, .bool false] 93)) := by
  have e : (w.alloc o).heap.size = w.heap.size + 1 := by simp
  have h := heap_alloc_new (w.alloc o) (.cells #[.pointer none, .slice none 0 0, .bool false] 93)
  rw [e] at h
  exact ⟨by omega, .pointer none, .slice none 0 0, .inl rfl, h, World.ownsRow_nil _ _ _ _, by simp [Value.ownBlock]⟩

set_option maxRecDepth 100000 in
set_option maxHeartbeats 3200000 in
theorem shortLine_any (B f : Nat) (t : VT) (v : Value) (w : World) (h : TreeAt B w (f + 1) t v) (hft : TFit (f + 1) t) (htab : TabB B w) (hB : B ≤ w.heap.size) (hf : f ≤ 400) (h0 : (kidsY t).length = 0) :
    Calls Tryz.prog 33 #[v] w fun e w' => e = .returned (.string (txt (flatY t))) ∧ Below w.heap.size w w' := by
  obtain ⟨kind, n, s, keys, kids⟩ := t
  have hk0 : kids = [] := List.eq_nil_of_length_eq_zero h0
  subst hk0
  have HFIT := hideIt hft
  have HT0 := hideIt h
  have HTAB := hideIt htab
  clear h0 htab
  have t1 := ya_null
  have t2 := ya_bool
  have t3 := ya_int
  have t4 := ya_text
  have t5 := ya_list
  have t6 := ya_map
  have HBW : Hid (∀ o o', Below w.heap.size w ((w.alloc o).alloc o')) := fun o o' => ((Below.refl _ _).alloc (Nat.le_refl _) _).alloc (by simp) _
  by_cases h4 : kind = 4
  · subst h4
    have hs : s.size ≤ 60 := hft.2.2.1 rfl
    have HF : Hid (flatY (.mk 4 n s keys []) = wordY s) := rfl
    rcases h with ⟨k, _⟩ | ⟨k, _⟩ | ⟨k, _⟩ | ⟨_, rfl, rfl, _, rfl⟩ | ⟨k, _⟩ | ⟨k, _⟩
    · omega
    · omega
    · omega
    · clear hft
      go_enter Tryz.func33, Tryz.ntmps33
      go_wp2_with fail
      refine (plainOrQuoted_any s _ hs).mono ?_
      rintro e w1 ⟨rfl, hb1⟩
      have HB1 := hideIt (((Below.refl _ _).alloc (Nat.le_refl _) _).trans (hb1.mono (by simp)))
      clear hb1
      go_wp2_with fail
      go_ret
      exact ⟨by rw [HF.out]; rfl, HB1.out⟩
    · omega
    · omega
  have hkk : kind = 1 ∨ kind = 2 ∨ kind = 3 ∨ kind = 5 ∨ kind = 6 := by
    rcases h with ⟨k, _⟩ | ⟨k, _⟩ | ⟨k, _⟩ | ⟨k, _⟩ | ⟨k, _⟩ | ⟨k, _⟩
    · exact .inl k
    · exact .inr (.inl k)
    · exact .inr (.inr (.inl k))
    · exact absurd k h4
    · exact .inr (.inr (.inr (.inl k)))
    · exact .inr (.inr (.inr (.inr k)))
  have HF := hideIt (flat_json (f := f) (n := n) (s := s) (keys := keys) h4)
  have HPOS := hideIt (flat_pos (f := f) (n := n) (s := s) (keys := keys) hkk)
  have HLEN : Hid ((jsonT false (f + 1) 0 (.mk kind n s keys [])).length ≤ 1000) := by
    rw [Hid]
    have hl := jsonT_leaf false f 0 (kind := kind) (n := n) (s := s) (keys := keys) (kids := [])
    have e : ∀ F named, wholeJ F false named 0 keys [] = [] := fun F named => by unfold wholeJ; simp
    rcases hkk with k | k | k | k | k
    · rw [hl.1 k]; simp
    · rw [hl.2.1 k]; split <;> simp
    · rw [hl.2.2.1 k]; have h3 := hft.2.1 k; have := Lib.itoa_length_le n (by omega) (by omega); omega
    · rw [hl.2.2.2.2.1 k, e]; simp
    · rw [hl.2.2.2.2.2 k, e]; simp
  obtain ⟨o, ho⟩ : ∃ o, Obj.cells #[.string ByteArray.empty] 110 = o := ⟨_, rfl⟩
  obtain ⟨W2, hW2⟩ : ∃ W2, (w.alloc o).alloc (.cells #[.pointer none, .slice none 0 0, .bool false] 93) = W2 := ⟨_, rfl⟩
  have HFB : Hid (FB 93 w.heap.size (w.heap.size + 1) [.bool false] [] W2) := by rw [Hid, ← hW2]; exact fb_new2 w o
  have HB2 : Hid (Below w.heap.size w W2) := by rw [Hid, ← hW2]; exact HBW.out _ _
  have HTR : Hid (TreeAt w.heap.size W2 (f + 1) (.mk kind n s keys []) v) := TreeAt.keep (fun c hc => HB2.out.block c (by omega)) hB HT0.out
  have HTB : Hid (TabB w.heap.size W2) := ((HTAB.out.next (HB2.out.mono hB)).wide hB)
  have z2 := HB2.out.size
  have HJW := hideIt (jwrite_any w.heap.size (w.heap.size + 1) false ft_json (f + 1) 0 _ v [] W2 HFB.out HTR.out HFIT.out HTB.out z2 (by omega) (by rw [List.nil_append]; have := HLEN.out; omega))
  have hif : ∃ ty xx, v = .iface ty xx ∧ ∀ w, (Instr.typeAssert (.iface ty xx) 45 110 true).run Tryz.prog w = .ok (.tuple #[.agg #[.string ByteArray.empty], .bool false]) w := by
    rcases h with ⟨_, _, _, _, _, e⟩ | ⟨_, _, _, _, e⟩ | ⟨_, _, _, _, e⟩ | ⟨k, _⟩ | ⟨_, _, _, _, it, e, _⟩ | ⟨_, _, _, ks, it, e, _⟩
    · exact ⟨_, _, e, ya_null _⟩
    · exact ⟨_, _, e, ya_bool _⟩
    · exact ⟨_, _, e, ya_int _⟩
    · exact absurd k h4
    · exact ⟨_, _, e, ya_list _⟩
    · exact ⟨_, _, e, ya_map _⟩
  clear h hft hkk h4 t1 t2 t3 t4 t5 t6 HT0 HTR
  obtain ⟨ty, xx, rfl, hta⟩ := hif
  go_enter Tryz.func33, Tryz.ntmps33
  go_wp2_with fail
  refine HJW.out.mono ?_
  rintro e w3 ⟨rfl, f3, b3, _⟩
  rw [List.nil_append] at f3
  have HF3 := hideIt f3
  have HB3 := hideIt (HB2.out.trans b3)
  have z3 := HB3.out.size
  clear f3 b3
  go_wp2_with fail
  refine (fb_string HF3.out HPOS.out).mono ?_
  rintro e w4 ⟨rfl, b4⟩
  have HB4 := hideIt (HB3.out.trans b4)
  clear b4
  go_wp2_with fail
  go_ret
  exact ⟨by rw [HF.out]; rfl, HB4.out⟩

set_option maxRecDepth 100000 in
set_option maxHeartbeats 1600000 in
theorem lineHead_list (x : Value) (i : Int) (w : World) : Calls Tryz.prog 37 #[.iface 174 x, .int .i64 i] w fun e w' => e = .returned (.string (txt (headY false ByteArray.empty))) ∧ Below w.heap.size w w' := by
  have t1 := yb_list
  go_enter Tryz.func37, Tryz.ntmps37
  go_wp2_with fail
  go_ret
  exact ⟨rfl, (Below.refl _ _).alloc (Nat.le_refl _) _⟩

set_option maxRecDepth 100000 in
set_option maxHeartbeats 1600000 in
theorem lineHead_map (bk ok MK cK k : Nat) (ai : Option Addr) (ni ci : Nat) (key : ByteArray) (w : World) (hb : bk < w.heap.size) (hc : w.cell? ⟨bk, ok + k, none⟩ = some (.string key)) (hk : k < MK) (hM : MK ≤ 100000) (hz : key.size ≤ 60) :
    Calls Tryz.prog 37 #[.iface 119 (.agg #[.slice (some ⟨bk, ok, none⟩) MK cK, .slice ai ni ci]), .int .i64 k] w fun e w' => e = .returned (.string (txt (headY true key))) ∧ Below w.heap.size w w' := by
  have t1 := yb_map
  have hk' : (k : Int) < (MK : Int) := by omega
  have hwz : (txt (wordY key)).size ≤ 400 := by rw [txt_size]; have := wordY_len key; have := (quoT_len key).2; omega
  obtain ⟨W1, hW1⟩ : ∃ W1, w.alloc (.cells #[.slice (some ⟨bk, ok, none⟩) MK cK, .slice ai ni ci] 119) = W1 := ⟨_, rfl⟩
  have HB1 : Hid (Below w.heap.size w W1) := by rw [Hid, ← hW1]; exact (Below.refl _ _).alloc (Nat.le_refl _) _
  have c0 : W1.cell? ⟨w.heap.size, 0, none⟩ = some (.slice (some ⟨bk, ok, none⟩) MK cK) := by rw [← hW1]; simp
  have c1 := (below_cell HB1.out hb).trans hc
  have HPQ := hideIt (plainOrQuoted_any key W1 hz)
  have z1 := HB1.out.size
  clear hc
  go_enter Tryz.func37, Tryz.ntmps37
  go_wp2_with fail
  refine HPQ.out.mono ?_
  rintro e w2 ⟨rfl, hb2⟩
  have HB2 := hideIt (HB1.out.trans (hb2.mono z1))
  clear hb2
  go_wp2_with fail
  go_ret
  refine ⟨ret_str ?_, HB2.out⟩
  simp only [app_txt]
  rfl
end Go.Proofs.YtiamkmkbkehldaaGreatDoor
