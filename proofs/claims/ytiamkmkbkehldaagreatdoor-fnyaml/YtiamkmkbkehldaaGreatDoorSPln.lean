/-
  The letters: what the two functions that ask for a letter answer.
-/
import Derived.Test.YtiamkmkbkehldaaGreatDoorCbP
import Derived.Test.YtiamkmkbkehldaaGreatDoorProg
import Derived.WalkKit
import Derived.Test.YtiamkmkbkehldaaGreatDoorPure
import Derived.Laws.IdiomStrings
import Derived.Below
import Derived.WideShapes
namespace Go.Proofs.YtiamkmkbkehldaaGreatDoor
open Go.RowKit
set_option linter.unusedSimpArgs false
set_option linter.unusedVariables false

set_option maxRecDepth 100000 in
theorem l5Letter_walk (c : Int) (w : World) : Calls Tryz.prog 157 #[.int .u8 c] w fun e w' => e = .returned (.bool (letterI c)) ∧ w' = w := by
  go_enter Tryz.func157, Tryz.ntmps157
  go_wp2
  all_goals (go_ret; refine ⟨?_, rfl⟩; show Ending.returned (Value.bool _) = _; congr 2; rw [Bool.eq_iff_iff]; simp [letterI]; omega)

set_option maxRecDepth 100000 in
theorem beginsPlain_walk (c : Int) (w : World) : Calls Tryz.prog 179 #[.int .u8 c] w fun e w' => e = .returned (.bool (letterI c)) ∧ w' = w := by
  go_enter Tryz.func179, Tryz.ntmps179
  go_wp2
  all_goals (go_ret; refine ⟨?_, rfl⟩; show Ending.returned (Value.bool _) = _; congr 2; rw [Bool.eq_iff_iff]; simp [letterI]; omega)
end Go.Proofs.YtiamkmkbkehldaaGreatDoor

/-
  The specification's l5Lower: a text with small letters.
-/
namespace Go.Proofs.YtiamkmkbkehldaaGreatDoor
open Go.RowKit Go.WideShapes
set_option linter.unusedSimpArgs false
set_option linter.unusedVariables false


def lowAt (l : List UInt8) (k j : Nat) : Int := ((if j < k then Go.Lib.lowerB (l.getD j 0) else l.getD j 0).toNat : Int)

/-- The row: its first 'k' bytes turned, the others as they were. -/
structure LowRow (l : List UInt8) (b k : Nat) (w wr : World) : Prop where
  bel : Below b w wr
  cells : ∀ j, j < l.length → wr.cell? ⟨b, j, none⟩ = some (.int .u8 (lowAt l k j))
  free : ∀ j, j < l.length → wr.frozen? ⟨b, j, none⟩ = false

theorem LowRow.keep {l : List UInt8} {b k : Nat} {w wr : World} (h : LowRow l b k w wr) (hk : Go.Lib.isUpperB (l.getD k 0) = false) : LowRow l b (k + 1) w wr := by
  refine ⟨h.bel, fun j hj => ?_, h.free⟩
  rw [h.cells j hj]
  unfold lowAt
  by_cases e : j = k
  · subst e
    rw [if_neg (by omega), if_pos (by omega), Go.Lib.lowerB_of_not _ hk]
  · by_cases e2 : j < k
    · rw [if_pos e2, if_pos (by omega)]
    · rw [if_neg e2, if_neg (by omega)]

theorem LowRow.turn {l : List UInt8} {b k : Nat} {w wr : World} (h : LowRow l b k w wr) (hlt : k < l.length) (hk : Go.Lib.isUpperB (l.getD k 0) = true) :
    LowRow l b (k + 1) w (wr.setCell ⟨b, k, none⟩ (.int .u8 (((l.getD k 0).toNat : Int) + 32))) := by
  refine ⟨h.bel.setCell (Nat.le_refl _) _, fun j hj => ?_, fun j hj => ?_⟩
  · by_cases e : j = k
    · subst e
      rw [World.cell?_setCell_same _ _ _ (h.cells j hj)]
      unfold lowAt
      rw [if_pos (by omega), ← Go.Lib.lowerB_int _ hk]
    · rw [World.cell?_setCell_other _ _ _ _ (by intro e'; cases e'; exact e rfl), h.cells j hj]
      unfold lowAt
      by_cases e2 : j < k
      · rw [if_pos e2, if_pos (by omega)]
      · rw [if_neg e2, if_neg (by omega)]
  · rw [World.frozen?_setCell]; exact h.free j hj

theorem lowRow_start (s : ByteArray) (w : World) : ∃ cap W1, (convert 9 22 (.string s)).run Tryz.prog w = .ok (.slice (some ⟨w.heap.size, 0, none⟩) s.size cap) W1 ∧ LowRow s.data.toList w.heap.size 0 w W1 := by
  refine ⟨_, _, run_bytes_of_string w 9 22 5 s Tryz.underlying9 Tryz.underlying22 Tryz.underlying5, ?_⟩
  generalize hC : bytesRow s (grownCap w s.size 0 5) = C
  have hn : s.size ≤ C.size := by rw [← hC]; simp [bytesRow]
  have hs : w.drew.heap.size = w.heap.size := rfl
  refine ⟨((Below.refl w.heap.size w).drew).alloc (Nat.le_refl _) _, fun j hj => ?_, fun j hj => ?_⟩
  · have hj' : j < s.data.size := by simpa using hj
    have := World.cell?_alloc_mark w.drew C 5 (C.size, C.size + 1) j
    rw [hs] at this
    rw [this, ← hC, bytesRow_at s _ j hj']
    simp [lowAt, List.getD, hj', Array.getElem?_eq_getElem hj']
  · have hj' : j < s.size := by rw [← len_is]; exact hj
    have := World.frozen?_alloc_mark w.drew C 5 C.size (C.size + 1) j
    rw [hs] at this
    rw [this]
    simp; omega

theorem lowRow_end {s : ByteArray} {b cap : Nat} {w wr : World} (h : LowRow s.data.toList b s.size w wr) :
    (convert 22 9 (.slice (some ⟨b, 0, none⟩) s.size cap)).run Tryz.prog wr = .ok (.string ⟨(Go.Lib.toLowerA s.data.toList).toArray⟩) wr := by
  have hl : (Go.Lib.toLowerA s.data.toList).length = s.size := by rw [Go.Lib.toLowerA, List.length_map, len_is]
  have := run_convert_bytes_back (P := Tryz.prog) wr 22 9 5 ⟨b, 0, none⟩ cap (Go.Lib.toLowerA s.data.toList) Tryz.underlying22 Tryz.underlying5 Tryz.underlying9 (fun j hj => by
    rw [hl] at hj
    have hj2 : j < s.data.toList.length := by rw [len_is]; exact hj
    rw [add_plain, Nat.zero_add, h.cells j hj2]
    simp only [lowAt, if_pos hj, Go.Lib.toLowerA, List.getElem_map]
    have hj3 : j < s.data.size := by simpa using hj2
    simp [List.getD, hj2, Array.getElem?_eq_getElem hj3])
  rw [hl] at this
  exact this

set_option maxRecDepth 100000 in
set_option maxHeartbeats 1600000 in
theorem l5Lower_walk (s : ByteArray) (w : World) (hs : s.size ≤ 60) : Calls Tryz.prog 158 #[.string s] w fun e w' => e = .returned (.string ⟨(Go.Lib.toLowerA s.data.toList).toArray⟩) ∧ Below w.heap.size w w' := by
  obtain ⟨cap, W1, hconv, hrow⟩ := lowRow_start s w
  have HR := hideB hrow
  clear hrow
  obtain ⟨b, hbw⟩ : ∃ b, w.heap.size = b := ⟨_, rfl⟩
  rw [hbw] at hconv HR ⊢
  obtain ⟨n, hn⟩ : ∃ n, s.size = n := ⟨_, rfl⟩
  have HN := hideB hn
  have HL := hideB (show s.data.toList.length = n by rw [len_is, hn])
  rw [hn] at hconv hs
  clear hbw hn
  go_enter Tryz.func158, Tryz.ntmps158
  go_wp2_with fail
  go_loopw [4] (fun i wr => ∃ k : Nat, k ≤ n ∧ i = .int .i64 k ∧ Hid (LowRow s.data.toList b k w wr)) (fun i _ => n - (intOf i).toNat)
  case atStart => exact ⟨0, Nat.zero_le _, rfl, HR⟩
  case round =>
    obtain ⟨k, hk, rfl, HK⟩ := hrel
    by_cases hlt : k < n
    · obtain ⟨c, hc⟩ : ∃ c, s.data.toList.getD k 0 = c := ⟨_, rfl⟩
      have HCE := hideB hc
      have hcell : wr.cell? ⟨b, k, none⟩ = some (.int .u8 (c.toNat : Int)) := by
        rw [HK.out.cells k (by rw [HL.out]; exact hlt), lowAt, if_neg (by omega), hc]
      have hfree : wr.frozen? ⟨b, k, none⟩ = false := HK.out.free k (by rw [HL.out]; exact hlt)
      clear hc
      have hcb : c.toNat < 256 := c.toNat_lt
      by_cases h1 : (65 : Int) ≤ (c.toNat : Int)
      · by_cases h2 : (c.toNat : Int) ≤ 90
        · have HT := hideB (HK.out.turn (by rw [HL.out]; exact hlt) (by rw [HCE.out, Go.Lib.isUpperB_int]; simp [h1, h2]))
          rw [HCE.out] at HT
          go_wp2_with fail
          go_roundw
          case rel => exact ⟨k + 1, by omega, by go_num, HT⟩
          case measure => simp [intOf]; omega
        · have HT := hideB (HK.out.keep (by rw [HCE.out, Go.Lib.isUpperB_int]; simp [h1, h2]))
          go_wp2_with fail
          go_roundw
          case rel => exact ⟨k + 1, by omega, by go_num, HT⟩
          case measure => simp [intOf]; omega
      · have HT := hideB (HK.out.keep (by rw [HCE.out, Go.Lib.isUpperB_int]; simp [h1]))
        go_wp2_with fail
        go_roundw
        case rel => exact ⟨k + 1, by omega, by go_num, HT⟩
        case measure => simp [intOf]; omega
    · obtain rfl : k = n := by omega
      have hend := lowRow_end (cap := cap) (by rw [HN.out]; exact HK.out : LowRow s.data.toList b s.size w wr)
      rw [HN.out] at hend
      have HB := hideB HK.out.bel
      go_wp2_with fail
      go_ret
      exact ⟨rfl, HB.out⟩
end Go.Proofs.YtiamkmkbkehldaaGreatDoor

/-
  The specification's PlainOk.
-/
namespace Go.Proofs.YtiamkmkbkehldaaGreatDoor
open Go.RowKit
set_option linter.unusedSimpArgs false
set_option linter.unusedVariables false

theorem ret_bl {x y : Bool} (h : x = y) : Ending.returned (.bool x) = Ending.returned (.bool y) := by rw [h]



theorem byteI_at {s : ByteArray} {k : Nat} (h : k < s.size) : byteI s.data.toList k = ((s[k]'h).toNat : Int) := by
  have hb : s.data.toList[k]? = some (s[k]'h) := by
    rw [Array.getElem?_toList]
    exact Array.getElem?_eq_getElem h
  simp [byteI, List.getD, hb]

set_option maxRecDepth 100000 in
set_option maxHeartbeats 1600000 in
theorem sPlain_walk (s : ByteArray) (w : World) : Calls Tryz.prog 105 #[.string s] w fun e w' => e = .returned (.bool (plainL s.data.toList)) ∧ Below w.heap.size w w' := by
  go_enter Tryz.func105, Tryz.ntmps105
  by_cases h0 : s.toList = []
  · have hp : plainL s.data.toList = false := by rw [← ByteArray.toList_eq, h0]; rfl
    go_wp2_with fail
    go_ret
    exact ⟨ret_bl hp.symm, Below.refl _ _⟩
  have hpos : 0 < s.size := by
    rcases Nat.eq_zero_or_pos s.size with h | h
    · exact absurd (by rw [ByteArray.toList_eq]; exact List.eq_nil_of_length_eq_zero (by simpa using h)) h0
    · exact h
  by_cases h60 : 60 < s.size
  · have hp : plainL s.data.toList = false := by simp [plainL]; omega
    have h60' : (60 : Int) < (s.size : Int) := by omega
    go_wp2_with fail
    go_ret
    exact ⟨ret_bl hp.symm, Below.refl _ _⟩
  have h60' : (s.size : Int) ≤ (60 : Int) := by omega
  have hb0 : byteI s.data.toList 0 = ((s[0]'hpos).toNat : Int) := byteI_at hpos
  have hbn : byteI s.data.toList (s.data.toList.length - 1) = ((s[s.size - 1]'(by omega)).toNat : Int) := by
    have e : s.data.toList.length - 1 = s.size - 1 := by rw [len_is]
    rw [e]
    exact byteI_at (by omega)
  have he : s.toList.isEmpty = false := by cases h : s.toList.isEmpty with
    | false => rfl
    | true => exact absurd (List.isEmpty_iff.1 h) h0
  rcases Bool.eq_false_or_eq_true (letterI ((s[0]'hpos).toNat : Int)) with hl | hl
  rotate_left
  · have hp : plainL s.data.toList = false := by simp [plainL, hb0, hl]
    go_wp2_with (go_at_call 157; refine (l5Letter_walk _ _).mono ?_; rintro e w' ⟨rfl, rfl⟩)
    go_ret
    exact ⟨ret_bl hp.symm, Below.refl _ _⟩
  rcases Bool.eq_false_or_eq_true (((s[s.size - 1]'(by omega)).toNat : Int) == 32) with hz | hz
  · have hp : plainL s.data.toList = false := by simp only [plainL, hbn, eq_of_beq hz, decide_true, Bool.not_true, Bool.and_false, Bool.false_and]
    have HP := hideB hp
    clear hp hb0 hbn
    go_wp2_with (go_at_call 157; refine (l5Letter_walk _ _).mono ?_; rintro e w' ⟨rfl, rfl⟩)
    go_ret
    exact ⟨ret_bl HP.out.symm, Below.refl _ _⟩
  have HZ := hideB (show plainL s.data.toList = (s.data.toList.all (fun b => innerI (b.toNat : Int)) && !(words.contains (Go.Lib.toLowerA s.data.toList))) by
    have e1 : s.data.toList.isEmpty = false := by rw [← ByteArray.toList_eq]; exact he
    have e2 : s.data.toList.length ≤ 60 := by rw [len_is]; omega
    have e3 : ¬ ((s[s.size - 1]'(by omega)).toNat : Int) = 32 := by simpa using hz
    simp only [plainL, hb0, hbn, hl, e1, decide_eq_true e2, decide_eq_false e3, Bool.not_false, Bool.true_and])
  clear hb0 hbn
  go_wp2_with (go_at_call 157; refine (l5Letter_walk _ _).mono ?_; rintro e w' ⟨rfl, rfl⟩)
  clear hl hz h0 he
  go_loop [3, 4] (fun i _ => ∃ k : Nat, k ≤ s.size ∧ i = .int .i64 k ∧ Hid ((s.data.toList.take k).all (fun b => innerI (b.toNat : Int)) = true)) (fun i _ => s.size - (intOf i).toNat)
  case atStart => exact ⟨0, Nat.zero_le _, rfl, rfl⟩
  case round =>
    obtain ⟨k, hk, rfl, HA⟩ := hrel
    by_cases hlt : k < s.size
    · have hb : s.data.toList[k]? = some (s[k]'hlt) := by
        rw [Array.getElem?_toList]
        exact Array.getElem?_eq_getElem hlt
      have HB := hideB hb
      clear hb
      rcases Bool.eq_false_or_eq_true (letterI ((s[k]'hlt).toNat : Int)) with hl | hl
      · have HI := hideB (show innerI ((s[k]'hlt).toNat : Int) = true by rw [innerI, hl]; rfl)
        go_wp2_with (go_at_call 157; refine (l5Letter_walk _ _).mono ?_; rintro e w' ⟨rfl, rfl⟩)
        refine ⟨⟨k + 1, by omega, by go_num, ?_⟩, by simp [intOf]; omega⟩
        rw [Hid, all_take_succ _ _ _ _ HB.out, HA.out, HI.out]; rfl
      rcases Bool.eq_false_or_eq_true (innerI ((s[k]'hlt).toNat : Int)) with hi | hi
      · have HI := hideB hi
        have hx : (48 ≤ ((s[k]'hlt).toNat : Int) ∧ ((s[k]'hlt).toNat : Int) ≤ 57) ∨ ((s[k]'hlt).toNat : Int) = 45 ∨ ((s[k]'hlt).toNat : Int) = 46 ∨ ((s[k]'hlt).toNat : Int) = 47 ∨ ((s[k]'hlt).toNat : Int) = 32 := by
          rw [innerI, hl] at hi
          simp at hi
          omega
        clear hi
        rcases hx with ⟨x1, x2⟩ | x | x | x | x
        · go_wp2_with (go_at_call 157; refine (l5Letter_walk _ _).mono ?_; rintro e w' ⟨rfl, rfl⟩)
          refine ⟨⟨k + 1, by omega, by go_num, ?_⟩, by simp [intOf]; omega⟩
          rw [Hid, all_take_succ _ _ _ _ HB.out, HA.out, HI.out]; rfl
        all_goals (
          have y1 : ((s[k]'hlt).toNat : Int) < 48 := by omega
          go_wp2_with (go_at_call 157; refine (l5Letter_walk _ _).mono ?_; rintro e w' ⟨rfl, rfl⟩)
          refine ⟨⟨k + 1, by omega, by go_num, ?_⟩, by simp [intOf]; omega⟩
          rw [Hid, all_take_succ _ _ _ _ HB.out, HA.out, HI.out]; rfl)
      · have HP := hideB (show plainL s.data.toList = false from plain_bad HB.out hi)
        have hx : (((s[k]'hlt).toNat : Int) < 48 ∨ 57 < ((s[k]'hlt).toNat : Int)) ∧ ((s[k]'hlt).toNat : Int) ≠ 45 ∧ ((s[k]'hlt).toNat : Int) ≠ 46 ∧ ((s[k]'hlt).toNat : Int) ≠ 47 ∧ ((s[k]'hlt).toNat : Int) ≠ 32 := by
          rw [innerI, hl] at hi
          simp at hi
          omega
        clear hi
        obtain ⟨hx, z1, z2, z3, z4⟩ := hx
        have z1 := bne_iff_ne.2 z1
        have z2 := bne_iff_ne.2 z2
        have z3 := bne_iff_ne.2 z3
        have z4 := bne_iff_ne.2 z4
        rcases hx with x | x
        · go_wp2_with (go_at_call 157; refine (l5Letter_walk _ _).mono ?_; rintro e w' ⟨rfl, rfl⟩)
          go_ret
          exact ⟨ret_bl HP.out.symm, Below.refl _ _⟩
        · have y1 : ¬ ((s[k]'hlt).toNat : Int) < 48 := by omega
          go_wp2_with (go_at_call 157; refine (l5Letter_walk _ _).mono ?_; rintro e w' ⟨rfl, rfl⟩)
          go_ret
          exact ⟨ret_bl HP.out.symm, Below.refl _ _⟩
    · obtain rfl : k = s.size := by omega
      have HL := hideB (show s.data.toList.all (fun b => innerI (b.toNat : Int)) = true by
        have e : s.data.toList.take s.size = s.data.toList := by rw [← len_is, List.take_length]
        rw [← e]; exact HA.out)
      obtain ⟨lw, hlw⟩ : ∃ lw, Go.Lib.toLowerA s.data.toList = lw := ⟨_, rfl⟩
      have c7 := l5Lower_walk s
      rw [hlw] at c7
      have HC := hideB (fun w => c7 w (by omega))
      have HP := hideB (show plainL s.data.toList = !(words.contains lw) by rw [HZ.out, HL.out, hlw]; rfl)
      clear c7 hlw
      rw [words_is] at HP
      rcases Bool.eq_false_or_eq_true (lw == [110, 117, 108, 108]) with q1 | q1
      · have HR := hideB (HP.out.trans (by rw [q1]; rfl) : plainL s.data.toList = false)
        go_wp2_with (go_at_call 158; refine (HC.out _).mono ?_; rintro e w1 ⟨rfl, hb1⟩)
        go_ret
        exact ⟨ret_bl HR.out.symm, hb1⟩
      rcases Bool.eq_false_or_eq_true (lw == [116, 114, 117, 101]) with q2 | q2
      · have HR := hideB (HP.out.trans (by rw [q1, q2]; rfl) : plainL s.data.toList = false)
        go_wp2_with (go_at_call 158; refine (HC.out _).mono ?_; rintro e w1 ⟨rfl, hb1⟩)
        go_ret
        exact ⟨ret_bl HR.out.symm, hb1⟩
      rcases Bool.eq_false_or_eq_true (lw == [102, 97, 108, 115, 101]) with q3 | q3
      · have HR := hideB (HP.out.trans (by rw [q1, q2, q3]; rfl) : plainL s.data.toList = false)
        go_wp2_with (go_at_call 158; refine (HC.out _).mono ?_; rintro e w1 ⟨rfl, hb1⟩)
        go_ret
        exact ⟨ret_bl HR.out.symm, hb1⟩
      · have HR := hideB (HP.out.trans (by rw [q1, q2, q3]; rfl) : plainL s.data.toList = true)
        go_wp2_with (go_at_call 158; refine (HC.out _).mono ?_; rintro e w1 ⟨rfl, hb1⟩)
        go_ret
        exact ⟨ret_bl HR.out.symm, hb1⟩
end Go.Proofs.YtiamkmkbkehldaaGreatDoor
