/-
  The specification's Escaped.
-/
import Derived.Test.YtnbhologgonjnaaSHex
import Derived.Test.YtnbhologgonjnaaStepT
import Derived.Deep.QuietTactic
import Derived.BigQuiet
import Derived.Deep.RegionWith
namespace Go.Proofs.Ytnbhologgonjnaa
open Go.RowKit Go.WideShapes
set_option linter.unusedSimpArgs false
set_option linter.unusedVariables false
theorem two_below {w wr w1 w2 : World} (h : Below w.heap.size w wr) (h1 : Below wr.drew.heap.size wr.drew w1) (h2 : Below w1.heap.size w1 w2) : Below w.heap.size w w2 :=
  (h.drew.trans (h1.mono (h.drew.size))).trans (h2.mono (h.drew.trans (h1.mono (h.drew.size))).size)
theorem esc_tail (o : List UInt8) (c : UInt8) : txt o ++ ⟨#[92, 120]⟩ ++ txt [hexB ((c.toNat : Int) / 16).toNat] ++ txt [hexB ((c.toNat : Int) % 16).toNat] = txt (o ++ [92, 120, hexB (c.toNat / 16), hexB (c.toNat % 16)]) := by
  have e1 : ((c.toNat : Int) / 16).toNat = c.toNat / 16 := by omega
  have e2 : ((c.toNat : Int) % 16).toNat = c.toNat % 16 := by omega
  rw [e1, e2, app_txt, txt_app, txt_app]
  simp

set_option maxRecDepth 100000 in
set_option maxHeartbeats 3200000 in
theorem sEsc_any (s : ByteArray) (w : World) (hs : s.size ≤ 16777216) : Calls Try.prog 10 #[.string s] w fun e w' => e = .returned (.string (txt (esc s.data.toList))) ∧ Below w.heap.size w w' := by
  go_enter Try.func10, Try.ntmps10
  go_wp2_with fail
  go_loopw [3, 4] (fun o i wr => ∃ k : Nat, k ≤ s.size ∧ i = .int .i64 k ∧ o = .string (txt (esc (s.data.toList.take k))) ∧ Below w.heap.size w wr) (fun _ i _ => s.size - (intOf i).toNat)
  case atStart => exact ⟨0, Nat.zero_le _, rfl, rfl, Below.refl _ _⟩
  case round =>
    obtain ⟨k, hk, rfl, rfl, hbel⟩ := hrel
    have HB := hideB hbel
    clear hbel
    by_cases hlt : k < s.size
    · have hl := esc_take_len s.data.toList k
      have HS := hideB (esc_snoc s.data.toList k (by rw [len_is]; exact hlt))
      obtain ⟨o, ho⟩ : ∃ o, esc (s.data.toList.take k) = o := ⟨_, rfl⟩
      rw [ho] at HS hl ⊢
      clear ho
      have hz : (txt o).size ≤ 67108864 := by rw [txt_size]; rw [len_is] at hl; omega
      rw [getK hlt] at HS
      obtain ⟨c, hc⟩ : ∃ c, s[k] = c := ⟨_, rfl⟩
      rw [hc] at HS
      have hn : c.toNat < 256 := c.toNat_lt
      by_cases h10 : c = 10
      · subst h10
        go_wp2_with fail
        refine ⟨⟨k + 1, by omega, by go_num, ?_, HB.out⟩, by simp [intOf]; omega⟩
        rw [HS.out]; exact str_txt (app_txt _ _)
      by_cases h92 : c = 92
      · subst h92
        go_wp2_with fail
        refine ⟨⟨k + 1, by omega, by go_num, ?_, HB.out⟩, by simp [intOf]; omega⟩
        rw [HS.out]; exact str_txt (app_txt _ _)
      have n10 : ¬ (c.toNat : Int) = 10 := u8_ne h10
      have n92 : ¬ (c.toNat : Int) = 92 := u8_ne h92
      by_cases hp : 32 ≤ c ∧ c ≤ 126
      · have HE := hideB (show escB c = [c] by simp [escB, h10, h92, hp])
        have p1 : 32 ≤ (c.toNat : Int) := u8_le hp.1
        have p2 : (c.toNat : Int) ≤ 126 := u8_le hp.2
        have hsl := run_one (P := Try.prog) (t := 9) Try.underlying9 hlt hc
        have hz1 := txt_size [c]
        clear h10 h92 hp
        go_wp2_with fail
        refine ⟨⟨k + 1, by omega, by go_num, ?_, HB.out⟩, by simp [intOf]; omega⟩
        rw [HS.out, HE.out]; exact str_txt (txt_app _ _)
      · have HE := hideB (show escB c = [92, 120, hexB (c.toNat / 16), hexB (c.toNat % 16)] by simp only [escB, h10, h92, hp, if_false])
        have p1 : ((c.toNat : Int) < 32) ∨ 126 < (c.toNat : Int) := by
          by_cases h1 : 32 ≤ c
          · exact .inr (u8_not_le (fun h2 => hp ⟨h1, h2⟩))
          · exact .inl (u8_not_le h1)
        clear h10 h92 hp
        have hd1 : (decide ((c.toNat : Int) < 32) || decide (126 < (c.toNat : Int))) = true := by simpa using p1
        rcases p1 with p1 | p1
        all_goals (
          go_wp2_with fail
          have hz1 := txt_one
          have hw1 := u8_quo c
          have q2 : ¬ 9223372036854775807 < (txt o).size + 2 := by omega
          have q3 : ¬ 9223372036854775807 < (txt o).size + 2 + 1 := by omega
          have q4 : ¬ 9223372036854775807 < (txt o).size + 2 + 1 + 1 := by omega
          have r3 : ¬ 9223372036854775807 < (txt o).size + 3 := by omega
          have r4 : ¬ 9223372036854775807 < (txt o).size + 4 := by omega
          have hw2 := u8_rem c
          go_region_law (refine step_callT (by rfl) 21 _ _ (by rfl) _ (by rfl) (call_hex _) (l2Hex_int _ _ (by omega) (by omega)) ?_; rintro e w' ⟨rfl, hb⟩; refine ⟨_, rfl, ?_⟩)
          all_goals (
            go_wp2_with fail
            refine ⟨⟨k + 1, by omega, by go_num, ?_, two_below HB.out (by assumption) (by assumption)⟩, by simp [intOf]; omega⟩
            rw [HS.out, HE.out]; exact str_txt (esc_tail o c)))
    · obtain rfl : k = s.size := by omega
      go_wp2_with fail
      go_ret
      refine ⟨ret_txt ?_, HB.out⟩
      rw [← len_is, List.take_length]
end Go.Proofs.Ytnbhologgonjnaa
