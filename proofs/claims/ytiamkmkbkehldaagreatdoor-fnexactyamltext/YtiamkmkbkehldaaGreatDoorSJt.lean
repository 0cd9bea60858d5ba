/-
  The specification's l2Quoted.
-/
import Derived.Test.YtiamkmkbkehldaaGreatDoorIxB
import Derived.Test.YtiamkmkbkehldaaGreatDoorPkP
import Derived.Test.YtiamkmkbkehldaaGreatDoorStepC
import Derived.Deep.RegionWith
import Derived.Test.YtiamkmkbkehldaaGreatDoorSDec
import Derived.Test.YtiamkmkbkehldaaGreatDoorJsB
import Derived.Test.YtiamkmkbkehldaaGreatDoorSpc3
namespace Go.Proofs.YtiamkmkbkehldaaGreatDoor
open Go.RowKit Go.WideShapes
set_option linter.unusedSimpArgs false
set_option linter.unusedVariables false
theorem two_belowQ {w wr w1 w2 : World} (h : Below w.heap.size w wr) (h1 : Below wr.heap.size wr w1) (h2 : Below w1.heap.size w1 w2) : Below w.heap.size w w2 :=
  (h.trans (h1.mono h.size)).trans (h2.mono (h.trans (h1.mono h.size)).size)
theorem quo_tail (o : List UInt8) (c : UInt8) : txt o ++ ⟨#[92, 117, 48, 48]⟩ ++ txt [hexB ((c.toNat : Int) / 16).toNat] ++ txt [hexB ((c.toNat : Int) % 16).toNat] = txt (o ++ [92, 117, 48, 48, hexB (c.toNat / 16), hexB (c.toNat % 16)]) := by
  have e1 : ((c.toNat : Int) / 16).toNat = c.toNat / 16 := by omega
  have e2 : ((c.toNat : Int) % 16).toNat = c.toNat % 16 := by omega
  rw [e1, e2, app_txt, txt_app, txt_app]
  simp

set_option maxRecDepth 100000 in
set_option maxHeartbeats 3200000 in
theorem sQuo_any (s : ByteArray) (w : World) (hs : s.size ≤ 16777216) : Calls Tryz.prog 182 #[.string s] w fun e w' => e = .returned (.string (txt (quoT s))) ∧ Below w.heap.size w w' := by
  go_enter Tryz.func182, Tryz.ntmps182
  go_wp2_with fail
  go_loopw [3, 4] (fun o i wr => ∃ k : Nat, k ≤ s.size ∧ i = .int .i64 k ∧ o = .string (txt (34 :: quo (s.data.toList.take k))) ∧ Below w.heap.size w wr) (fun _ i _ => s.size - (intOf i).toNat)
  case atStart => exact ⟨0, Nat.zero_le _, rfl, rfl, Below.refl _ _⟩
  case round =>
    obtain ⟨k, hk, rfl, rfl, hbel⟩ := hrel
    have HB := hideB hbel
    clear hbel
    by_cases hlt : k < s.size
    · have hl := quo_take_len s.data.toList k
      have HS : Hid (34 :: quo (s.data.toList.take (k + 1)) = (34 :: quo (s.data.toList.take k)) ++ quoB (s.data.toList[k]'(by rw [len_is]; exact hlt))) := by rw [Hid, quo_snoc s.data.toList k (by rw [len_is]; exact hlt)]; rfl
      have hl' : (34 :: quo (s.data.toList.take k)).length ≤ 6 * s.data.toList.length + 1 := by rw [List.length_cons]; omega
      obtain ⟨o, ho⟩ : ∃ o, 34 :: quo (s.data.toList.take k) = o := ⟨_, rfl⟩
      rw [ho] at HS hl' ⊢
      clear ho hl
      have hz : (txt o).size ≤ 134217728 := by rw [txt_size]; rw [len_is] at hl'; omega
      rw [getK hlt] at HS
      obtain ⟨c, hc⟩ : ∃ c, s[k] = c := ⟨_, rfl⟩
      rw [hc] at HS
      have hn : c.toNat < 256 := c.toNat_lt
      have hsl := run_one (P := Tryz.prog) (t := 9) Tryz.underlying9 hlt hc
      by_cases h34 : c = 34
      · subst h34
        have hz1 := txt_size [(34 : UInt8)]
        go_wp2_with fail
        refine ⟨⟨k + 1, by omega, by go_num, ?_, HB.out⟩, by simp [intOf]; omega⟩
        rw [HS.out]; exact str_txt (by rw [app_txt, txt_app]; simp [quoB])
      have n34 : ¬ (c.toNat : Int) = 34 := u8_ne h34
      have b34 : ((c.toNat : Int) == 34) = false := by simpa using n34
      by_cases h92 : c = 92
      · subst h92
        have hz1 := txt_size [(92 : UInt8)]
        go_wp2_with fail
        refine ⟨⟨k + 1, by omega, by go_num, ?_, HB.out⟩, by simp [intOf]; omega⟩
        rw [HS.out]; exact str_txt (by rw [app_txt, txt_app]; simp [quoB])
      have n92 : ¬ (c.toNat : Int) = 92 := u8_ne h92
      have b92 : ((c.toNat : Int) == 92) = false := by simpa using n92
      by_cases h8 : c = 8
      · subst h8
        go_wp2_with fail
        refine ⟨⟨k + 1, by omega, by go_num, ?_, HB.out⟩, by simp [intOf]; omega⟩
        rw [HS.out]; exact str_txt (app_txt _ _)
      have n8 : ¬ (c.toNat : Int) = 8 := u8_ne h8
      have b8 : ((c.toNat : Int) == 8) = false := by simpa using n8
      by_cases h9 : c = 9
      · subst h9
        go_wp2_with fail
        refine ⟨⟨k + 1, by omega, by go_num, ?_, HB.out⟩, by simp [intOf]; omega⟩
        rw [HS.out]; exact str_txt (app_txt _ _)
      have n9 : ¬ (c.toNat : Int) = 9 := u8_ne h9
      have b9 : ((c.toNat : Int) == 9) = false := by simpa using n9
      by_cases h10 : c = 10
      · subst h10
        go_wp2_with fail
        refine ⟨⟨k + 1, by omega, by go_num, ?_, HB.out⟩, by simp [intOf]; omega⟩
        rw [HS.out]; exact str_txt (app_txt _ _)
      have n10 : ¬ (c.toNat : Int) = 10 := u8_ne h10
      have b10 : ((c.toNat : Int) == 10) = false := by simpa using n10
      by_cases h12 : c = 12
      · subst h12
        go_wp2_with fail
        refine ⟨⟨k + 1, by omega, by go_num, ?_, HB.out⟩, by simp [intOf]; omega⟩
        rw [HS.out]; exact str_txt (app_txt _ _)
      have n12 : ¬ (c.toNat : Int) = 12 := u8_ne h12
      have b12 : ((c.toNat : Int) == 12) = false := by simpa using n12
      by_cases h13 : c = 13
      · subst h13
        go_wp2_with fail
        refine ⟨⟨k + 1, by omega, by go_num, ?_, HB.out⟩, by simp [intOf]; omega⟩
        rw [HS.out]; exact str_txt (app_txt _ _)
      have n13 : ¬ (c.toNat : Int) = 13 := u8_ne h13
      have b13 : ((c.toNat : Int) == 13) = false := by simpa using n13
      by_cases hp : c < 32 ∨ c = 127
      · have HE := hideB (show quoB c = [92, 117, 48, 48, hexB (c.toNat / 16), hexB (c.toNat % 16)] by simp only [quoB, h34, h92, h8, h9, h10, h12, h13, hp, if_false, if_true])
        have p1 : ((c.toNat : Int) < 32) ∨ (c.toNat : Int) = 127 := by
          rcases hp with h | h
          · exact .inl (by have : c.toNat < 32 := UInt8.lt_iff_toNat_lt.1 h; omega)
          · exact .inr (by subst h; rfl)
        clear h34 h92 h8 h9 h10 h12 h13 hp
        rcases p1 with p1 | p1
        all_goals (
          first | (have b127 : ((c.toNat : Int) == 127) = true := by simpa using p1) | skip
          have hz1 := txt_one
          have hw1 := u8_quo c
          have hw2 := u8_rem c
          have q2 : ¬ 9223372036854775807 < (txt o).size + 4 := by omega
          have q3 : ¬ 9223372036854775807 < (txt o).size + 4 + 1 := by omega
          have q4 : ¬ 9223372036854775807 < (txt o).size + 4 + 1 + 1 := by omega
          have r3 : ¬ 9223372036854775807 < (txt o).size + 5 := by omega
          have r4 : ¬ 9223372036854775807 < (txt o).size + 6 := by omega
          go_wp2_with (go_at_call 206; refine (l2Hex_int _ _ (by omega) (by omega)).mono ?_; rintro e w' ⟨rfl, hb⟩)
          refine ⟨⟨k + 1, by omega, by go_num, ?_, two_belowQ HB.out (by assumption) (by assumption)⟩, by simp [intOf]; omega⟩
          rw [HS.out, HE.out]
          first
            | exact str_txt (quo_tail o c)
            | (have h127 : c = 127 := UInt8.toNat_inj.1 (by show c.toNat = 127; omega)
               rw [h127]
               exact str_txt (quo_tail o 127)))
      · have HE := hideB (show quoB c = [c] by simp only [quoB, h34, h92, h8, h9, h10, h12, h13, hp, if_false])
        have p1 : ¬ (c.toNat : Int) < 32 := fun h => hp (.inl (UInt8.lt_iff_toNat_lt.2 (by show c.toNat < 32; omega)))
        have p2 : ¬ (c.toNat : Int) = 127 := u8_ne (fun h => hp (.inr h))
        have b127 : ((c.toNat : Int) == 127) = false := by simpa using p2
        have hz1 := txt_size [c]
        clear h34 h92 h8 h9 h10 h12 h13 hp
        go_wp2_with fail
        refine ⟨⟨k + 1, by omega, by go_num, ?_, HB.out⟩, by simp [intOf]; omega⟩
        rw [HS.out, HE.out]; exact str_txt (txt_app _ _)
    · obtain rfl : k = s.size := by omega
      have hl := quo_len s.data.toList
      have HL := hideB (show s.data.toList.take s.size = s.data.toList by rw [← len_is, List.take_length])
      rw [HL.out]
      have hz : (txt (34 :: quo s.data.toList)).size ≤ 134217728 := by rw [txt_size, List.length_cons]; rw [len_is] at hl; omega
      go_wp2_with fail
      go_ret
      exact ⟨ret_str (app_txt _ _), HB.out⟩
end Go.Proofs.YtiamkmkbkehldaaGreatDoor

/-
  The specification's l2Scalar and l2Text: JSON's bytes of a node.
-/
namespace Go.Proofs.YtiamkmkbkehldaaGreatDoor
open Go.RowKit Go.WideShapes
set_option linter.unusedSimpArgs false
set_option linter.unusedVariables false

set_option maxRecDepth 100000 in
set_option maxHeartbeats 1600000 in
theorem l2Scalar_any (f deep : Nat) (lines : Bool) (kd nn : Int) (ss : ByteArray) (kv iv : Value) (keys : List ByteArray) (kids : List VT) (w : World) (h : kd = 1 ∨ (kd = 2 ∧ 0 ≤ nn ∧ nn ≤ 1) ∨ (kd = 3 ∧ -1000000000000000 ≤ nn ∧ nn ≤ 1000000000000000) ∨ (kd = 4 ∧ ss.size ≤ 60)) :
    Calls Tryz.prog 146 #[.agg #[.int .i64 kd, .int .i64 nn, .string ss, kv, iv]] w fun e w' => e = .returned (.string (txt (jsonT lines (f + 1) deep (.mk kd nn ss keys kids)))) ∧ Below w.heap.size w w' := by
  have HLF := hideIt (jsonT_leaf lines f deep (kind := kd) (n := nn) (s := ss) (keys := keys) (kids := kids))
  rcases h with rfl | ⟨rfl, h0, h1⟩ | ⟨rfl, h0, h1⟩ | ⟨rfl, h1⟩
  · have HE := hideIt (HLF.out.1 rfl)
    go_enter Tryz.func146, Tryz.ntmps146
    go_wp2_with fail
    go_ret
    exact ⟨by rw [HE.out]; rfl, (Below.refl _ _).alloc (Nat.le_refl _) _⟩
  · have HE := hideIt (HLF.out.2.1 rfl)
    rcases (show nn = 0 ∨ nn = 1 by omega) with rfl | rfl
    · go_enter Tryz.func146, Tryz.ntmps146
      go_wp2_with fail
      go_ret
      exact ⟨by rw [HE.out]; rfl, (Below.refl _ _).alloc (Nat.le_refl _) _⟩
    · go_enter Tryz.func146, Tryz.ntmps146
      go_wp2_with fail
      go_ret
      exact ⟨by rw [HE.out]; rfl, (Below.refl _ _).alloc (Nat.le_refl _) _⟩
  · have HE := hideIt (HLF.out.2.2.1 rfl)
    go_enter Tryz.func146, Tryz.ntmps146
    go_wp2_with fail
    refine (l1Dec_any nn _ (by omega) (by omega)).mono ?_
    rintro e w1 ⟨rfl, hb1⟩
    have HB := hideIt (((Below.refl _ _).alloc (Nat.le_refl _) _).trans (hb1.mono (by simp)))
    clear hb1
    go_wp2_with fail
    go_ret
    exact ⟨by rw [HE.out]; rfl, HB.out⟩
  · have HE := hideIt (HLF.out.2.2.2.1 rfl)
    go_enter Tryz.func146, Tryz.ntmps146
    go_wp2_with fail
    refine (sQuo_any ss _ (by omega)).mono ?_
    rintro e w1 ⟨rfl, hb1⟩
    have HB := hideIt (((Below.refl _ _).alloc (Nat.le_refl _) _).trans (hb1.mono (by simp)))
    clear hb1
    go_wp2_with fail
    go_ret
    exact ⟨by rw [HE.out]; rfl, HB.out⟩

/-- The blanks ahead of a line. -/
def marg (deep : Nat) : ByteArray := txt (List.replicate (2 * deep) 32)
theorem marg_size (deep : Nat) : (marg deep).size = 2 * deep := by unfold marg; rw [txt_size]; simp
theorem marg_next (deep : Nat) : marg deep ++ ⟨#[32, 32]⟩ = marg (deep + 1) := by
  unfold marg
  rw [app_txt]
  congr 1
  rw [show 2 * (deep + 1) = 2 * deep + 2 by omega, ← List.replicate_append_replicate]; rfl
end Go.Proofs.YtiamkmkbkehldaaGreatDoor

/-
  The specification's l2Text: JSON's bytes of a node.
-/
namespace Go.Proofs.YtiamkmkbkehldaaGreatDoor
open Go.RowKit Go.WideShapes
set_option linter.unusedSimpArgs false
set_option linter.unusedVariables false
end Go.Proofs.YtiamkmkbkehldaaGreatDoor
