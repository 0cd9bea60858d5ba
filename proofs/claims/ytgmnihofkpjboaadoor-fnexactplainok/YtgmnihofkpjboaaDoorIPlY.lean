/-
  The program's PlainOk.
-/
import Derived.Test.YtgmnihofkpjboaaDoorSPln
import Derived.Test.YtgmnihofkpjboaaDoorShY
import Derived.Below
namespace Go.Proofs.YtgmnihofkpjboaaDoor
open Go.RowKit
set_option linter.unusedSimpArgs false
set_option linter.unusedVariables false

set_option maxRecDepth 100000 in
set_option maxHeartbeats 1600000 in
theorem iPlain_walk (s : ByteArray) (w : World) : Calls Tryd.prog 6 #[.string s] w fun e w' => e = .returned (.bool (plainL s.data.toList)) ∧ Below w.heap.size w w' := by
  go_enter Tryd.func6, Tryd.ntmps6
  by_cases h0 : s.toList = []
  · have hp : plainL s.data.toList = false := by rw [← ByteArray.toList_eq, h0]; rfl
    go_wp2_with fail
    go_ret
    exact ⟨ret_bl hp.symm, Below.refl _ _⟩
  have hpos : 0 < s.size := by
    rcases Nat.eq_zero_or_pos s.size with h | h
    · exact absurd (by rw [ByteArray.toList_eq]; exact List.eq_nil_of_length_eq_zero (by simpa using h)) h0
    · exact h
  by_cases h60 : 60 < s.size
  · have hp : plainL s.data.toList = false := by simp [plainL]; omega
    have h60' : (60 : Int) < (s.size : Int) := by omega
    go_wp2_with fail
    go_ret
    exact ⟨ret_bl hp.symm, Below.refl _ _⟩
  have h60' : (s.size : Int) ≤ (60 : Int) := by omega
  have hb0 : byteI s.data.toList 0 = ((s[0]'hpos).toNat : Int) := byteI_at hpos
  have hbn : byteI s.data.toList (s.data.toList.length - 1) = ((s[s.size - 1]'(by omega)).toNat : Int) := by
    have e : s.data.toList.length - 1 = s.size - 1 := by rw [len_is]
    rw [e]
    exact byteI_at (by omega)
  have he : s.toList.isEmpty = false := by cases h : s.toList.isEmpty with
    | false => rfl
    | true => exact absurd (List.isEmpty_iff.1 h) h0
  rcases Bool.eq_false_or_eq_true (letterI ((s[0]'hpos).toNat : Int)) with hl | hl
  rotate_left
  · have hp : plainL s.data.toList = false := by simp [plainL, hb0, hl]
    go_wp2_with (go_at_call 16; refine (beginsPlain_walk _ _).mono ?_; rintro e w' ⟨rfl, rfl⟩)
    go_ret
    exact ⟨ret_bl hp.symm, Below.refl _ _⟩
  rcases Bool.eq_false_or_eq_true (((s[s.size - 1]'(by omega)).toNat : Int) == 32) with hz | hz
  · have hp : plainL s.data.toList = false := by simp only [plainL, hbn, eq_of_beq hz, decide_true, Bool.not_true, Bool.and_false, Bool.false_and]
    have HP := hideB hp
    clear hp hb0 hbn
    go_wp2_with (go_at_call 16; refine (beginsPlain_walk _ _).mono ?_; rintro e w' ⟨rfl, rfl⟩)
    go_ret
    exact ⟨ret_bl HP.out.symm, Below.refl _ _⟩
  have HZ := hideB (show plainL s.data.toList = (s.data.toList.all (fun b => innerI (b.toNat : Int)) && !(words.contains (Go.Lib.toLowerA s.data.toList))) by
    have e1 : s.data.toList.isEmpty = false := by rw [← ByteArray.toList_eq]; exact he
    have e2 : s.data.toList.length ≤ 60 := by rw [len_is]; omega
    have e3 : ¬ ((s[s.size - 1]'(by omega)).toNat : Int) = 32 := by simpa using hz
    simp only [plainL, hb0, hbn, hl, e1, decide_eq_true e2, decide_eq_false e3, Bool.not_false, Bool.true_and])
  clear hb0 hbn
  go_wp2_with (go_at_call 16; refine (beginsPlain_walk _ _).mono ?_; rintro e w' ⟨rfl, rfl⟩)
  clear hl hz h0 he
  go_loop [27] (fun i => ∃ k : Nat, k ≤ s.size ∧ i = .int .i64 k ∧ Hid ((s.data.toList.take k).all (fun b => innerI (b.toNat : Int)) = true)) (fun i => s.size - (intOf i).toNat)
  case atStart => exact ⟨0, Nat.zero_le _, rfl, rfl⟩
  case round =>
    obtain ⟨k, hk, rfl, HA⟩ := hrel
    by_cases hlt : k < s.size
    · have hb : s.data.toList[k]? = some (s[k]'hlt) := by
        rw [Array.getElem?_toList]
        exact Array.getElem?_eq_getElem hlt
      have HB := hideB hb
      have HI := hideB (inner_index (s[k]'hlt))
      clear hb
      rcases Bool.eq_false_or_eq_true (letterI ((s[k]'hlt).toNat : Int)) with hl | hl
      · go_wp2_with (go_at_call 16; refine (beginsPlain_walk _ _).mono ?_; rintro e w' ⟨rfl, rfl⟩)
        refine ⟨⟨k + 1, by omega, by go_num, ?_⟩, by simp [intOf]; omega⟩
        rw [Hid, all_take_succ _ _ _ _ HB.out, HA.out, HI.out, hl]; rfl
      · obtain ⟨ix, hix⟩ : ∃ ix, Go.Lib.indexByte extras (s[k]'hlt) = ix := ⟨_, rfl⟩
        have HX := hideB hix
        clear hix
        have c9 : ∀ w : World, Calls Tryd.prog 17 #[.string ⟨#[48, 49, 50, 51, 52, 53, 54, 55, 56, 57, 45, 46, 47, 32]⟩, .int .u8 ((s[k]'hlt).toNat : Int)] w fun e w' => e = .returned (.int .i64 ix) ∧ w' = w := fun w => by
          have := Tryd.strings_IndexByte ⟨#[48, 49, 50, 51, 52, 53, 54, 55, 56, 57, 45, 46, 47, 32]⟩ ((s[k]'hlt).toNat : Int) w
          have e : (((s[k]'hlt).toNat : Int).toNat.toUInt8) = s[k]'hlt := by simp
          rw [e] at this
          rw [← HX.out]
          exact this
        by_cases hn : ix < 0
        · have HP := hideB (show plainL s.data.toList = false from plain_bad HB.out (by rw [HI.out, hl, HX.out]; simp [hn]))
          go_wp2_with (first | (go_at_call 16; refine (beginsPlain_walk _ _).mono ?_; rintro e w' ⟨rfl, rfl⟩) | (go_at_call 17; refine (c9 _).mono ?_; rintro e w' ⟨rfl, rfl⟩))
          go_ret
          exact ⟨ret_bl HP.out.symm, Below.refl _ _⟩
        · go_wp2_with (first | (go_at_call 16; refine (beginsPlain_walk _ _).mono ?_; rintro e w' ⟨rfl, rfl⟩) | (go_at_call 17; refine (c9 _).mono ?_; rintro e w' ⟨rfl, rfl⟩))
          refine ⟨⟨k + 1, by omega, by go_num, ?_⟩, by simp [intOf]; omega⟩
          rw [Hid, all_take_succ _ _ _ _ HB.out, HA.out, HI.out, hl, HX.out]; simp [hn]
    · obtain rfl : k = s.size := by omega
      have HL := hideB (show s.data.toList.all (fun b => innerI (b.toNat : Int)) = true by
        have e : s.data.toList.take s.size = s.data.toList := by rw [← len_is, List.take_length]
        rw [← e]; exact HA.out)
      obtain ⟨lw, hlw⟩ : ∃ lw, Go.Lib.toLowerA s.data.toList = lw := ⟨_, rfl⟩
      have c10 := Tryd.strings_ToLower_ascii s
      rw [hlw] at c10
      have HC := hideB (fun w => c10 w (by omega) (fun j b hj => inner_ascii b (List.all_eq_true.1 HL.out b (List.mem_of_getElem? hj))))
      have HP := hideB (show plainL s.data.toList = !(words.contains lw) by rw [HZ.out, HL.out, hlw]; rfl)
      clear c10 hlw
      rw [words_is] at HP
      rcases Bool.eq_false_or_eq_true (lw == [110, 117, 108, 108]) with q1 | q1
      · have HR := hideB (HP.out.trans (by rw [q1]; rfl) : plainL s.data.toList = false)
        go_wp2_with (go_at_call 18; refine (HC.out _).mono ?_; rintro e w1 ⟨rfl, hb1⟩)
        go_ret
        exact ⟨ret_bl HR.out.symm, hb1⟩
      rcases Bool.eq_false_or_eq_true (lw == [116, 114, 117, 101]) with q2 | q2
      · have HR := hideB (HP.out.trans (by rw [q1, q2]; rfl) : plainL s.data.toList = false)
        go_wp2_with (go_at_call 18; refine (HC.out _).mono ?_; rintro e w1 ⟨rfl, hb1⟩)
        go_ret
        exact ⟨ret_bl HR.out.symm, hb1⟩
      rcases Bool.eq_false_or_eq_true (lw == [102, 97, 108, 115, 101]) with q3 | q3
      · have HR := hideB (HP.out.trans (by rw [q1, q2, q3]; rfl) : plainL s.data.toList = false)
        go_wp2_with (go_at_call 18; refine (HC.out _).mono ?_; rintro e w1 ⟨rfl, hb1⟩)
        go_ret
        exact ⟨ret_bl HR.out.symm, hb1⟩
      · have HR := hideB (HP.out.trans (by rw [q1, q2, q3]; rfl) : plainL s.data.toList = true)
        go_wp2_with (go_at_call 18; refine (HC.out _).mono ?_; rintro e w1 ⟨rfl, hb1⟩)
        go_ret
        exact ⟨ret_bl HR.out.symm, hb1⟩
end Go.Proofs.YtgmnihofkpjboaaDoor
