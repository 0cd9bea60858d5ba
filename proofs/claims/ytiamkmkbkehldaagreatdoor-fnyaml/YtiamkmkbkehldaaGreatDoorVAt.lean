/-
  The specification's l1Dec: a number in decimal.
-/
import Derived.Test.YtiamkmkbkehldaaGreatDoorProg
import Derived.Test.YtiamkmkbkehldaaGreatDoorPure
import Derived.Lib.ItoaNum
import Derived.Laws.IdiomStrings
import Derived.Below
import Derived.WideShapes
import Derived.WalkKit
import Derived.Test.YtiamkmkbkehldaaGreatDoorIQuo
import Derived.Test.YtiamkmkbkehldaaGreatDoorPhase
import Derived.Deep.RegionWith
import Derived.Test.YtiamkmkbkehldaaGreatDoorRowB
import Derived.Test.YtiamkmkbkehldaaGreatDoorSpc3
import Derived.Test.YtiamkmkbkehldaaGreatDoorVal
namespace Go.Proofs.YtiamkmkbkehldaaGreatDoor
open Go.RowKit Go.WideShapes
set_option linter.unusedSimpArgs false
set_option linter.unusedVariables false

theorem dec_len (u : Nat) : (Lib.decDigits u).length ≤ u + 1 := by
  induction u using Nat.strongRecOn with
  | ind u ih =>
    rw [Lib.decDigits]
    split
    · simp
    · rw [List.length_append]
      have := ih (u / 10) (by omega)
      simp
      omega
theorem dec_step {u : Nat} (h : 10 ≤ u) : Lib.decDigits u = Lib.decDigits (u / 10) ++ [UInt8.ofNat (48 + u % 10)] := by
  rw [Lib.decDigits, dif_neg (by omega)]
theorem dig_int {d : Nat} (h : d < 10) : (((UInt8.ofNat (48 + d)).toNat : Nat) : Int) = 48 + (d : Int) := by
  rw [UInt8.toNat_ofNat_of_lt' (by show 48 + d < 256; omega)]
  omega
theorem one_dig {d : Int} (h0 : 0 ≤ d) (h1 : d < 10) (w : World) : (convert 22 9 (.slice (some ⟨w.heap.size, 0, none⟩) 1 1)).run Tryz.prog (w.alloc (.cells #[.int .u8 (48 + d)] 5)) = .ok (.string (txt [UInt8.ofNat (48 + d.toNat)])) (w.alloc (.cells #[.int .u8 (48 + d)] 5)) := by
  have := run_convert_bytes_back (P := Tryz.prog) (w.alloc (.cells #[.int .u8 (48 + d)] 5)) 22 9 5 ⟨w.heap.size, 0, none⟩ 1 [UInt8.ofNat (48 + d.toNat)] Tryz.underlying22 Tryz.underlying5 Tryz.underlying9 (fun j hj => by
    obtain rfl : j = 0 := by simpa using hj
    rw [add_plain, Nat.zero_add]
    have e := dig_int (d := d.toNat) (by omega)
    rw [Int.toNat_of_nonneg h0] at e
    simp only [List.getElem_cons_zero, e]
    simp)
  exact this

set_option maxRecDepth 100000 in
set_option maxHeartbeats 1600000 in
theorem l1Dec_pos (u : Nat) (w : World) (hu : u ≤ 4000000000000000000) : Calls Tryz.prog 183 #[.int .i64 u] w fun e w' => e = .returned (.string (txt (Lib.decDigits u))) ∧ Below w.heap.size w w' := by
  have hn0 : ¬ (u : Int) < 0 := by omega
  go_enter Tryz.func183, Tryz.ntmps183
  go_wp2_with fail
  go_loopw [0, 3] (fun v o wr => ∃ (m : Nat) (l : List UInt8), m ≤ u ∧ v = .int .i64 m ∧ o = .string (txt l) ∧ Lib.decDigits u = Lib.decDigits m ++ l ∧ Below w.heap.size w wr) (fun v _ _ => (intOf v).toNat)
  case atStart => exact ⟨u, [], Nat.le_refl _, rfl, rfl, by simp, Below.refl _ _⟩
  case round =>
    obtain ⟨m, l, hm, rfl, rfl, hd, hb⟩ := hrel
    have HD := hideB hd
    have HB := hideB hb
    have zb := hb.size
    have hll : l.length ≤ 4000000000000000001 := by
      have h1 := dec_len u
      have h2 := congrArg List.length hd
      rw [List.length_append] at h2
      omega
    have hz : (txt l).size ≤ 4000000000000000001 := by rw [txt_size]; exact hll
    have hz1 : ∀ x, (txt [x]).size = 1 := fun x => txt_size [x]
    clear hd hb hll
    by_cases h10 : 10 ≤ m
    · have h10' : 10 ≤ (m : Int) := by omega
      have hc := one_dig (d := (m : Int) % 10) (by omega) (by omega) wr
      have e1 : ((m : Int) % 10).toNat = m % 10 := by omega
      rw [e1] at hc
      have HS := hideB (dec_step h10)
      obtain ⟨y, hy⟩ : ∃ y, UInt8.ofNat (48 + m % 10) = y := ⟨_, rfl⟩
      rw [hy] at hc HS
      clear hy e1
      have HQ : Hid (Value.int .i64 ((m : Int) / 10) = .int .i64 ((m / 10 : Nat) : Int)) := by rw [Hid]; congr 1
      go_wp2_with fail
      refine ⟨⟨m / 10, y :: l, by omega, HQ.out, str_txt (txt_app [y] l), by rw [HD.out, HS.out, List.append_assoc]; rfl, HB.out.alloc zb _⟩, by simp [intOf]; omega⟩
    · have h10' : ¬ 10 ≤ (m : Int) := by omega
      have hc := one_dig (d := (m : Int)) (by omega) (by omega) wr
      rw [Int.toNat_natCast] at hc
      have HS := hideB (Lib.decDigits_one (i := m) (by omega))
      obtain ⟨y, hy⟩ : ∃ y, UInt8.ofNat (48 + m) = y := ⟨_, rfl⟩
      rw [hy] at hc HS
      clear hy
      go_wp2_with fail
      go_ret
      exact ⟨by rw [HD.out, HS.out]; exact ret_str (txt_app _ _), HB.out.alloc zb _⟩

set_option maxRecDepth 100000 in
set_option maxHeartbeats 1600000 in
theorem l1Dec_any (n : Int) (w : World) (h0 : -4000000000000000000 ≤ n) (h1 : n ≤ 4000000000000000000) : Calls Tryz.prog 183 #[.int .i64 n] w fun e w' => e = .returned (.string (txt (Lib.itoa n))) ∧ Below w.heap.size w w' := by
  by_cases h : n < 0
  · have C := hideB (fun w => l1Dec_pos n.natAbs w (by omega))
    have e : ((n.natAbs : Nat) : Int) = -n := by omega
    have hz : (txt (Lib.decDigits n.natAbs)).size ≤ 4000000000000000001 := by rw [txt_size]; have := dec_len n.natAbs; omega
    have HI := hideB (show Lib.itoa n = 45 :: Lib.decDigits n.natAbs by unfold Lib.itoa; rw [if_pos h])
    rw [e] at C
    clear e
    obtain ⟨D, hD⟩ : ∃ D, Lib.decDigits n.natAbs = D := ⟨_, rfl⟩
    rw [hD] at C hz HI
    clear hD
    go_enter Tryz.func183, Tryz.ntmps183
    go_wp2_with (go_at_call 183; refine (C.out _).mono ?_; rintro e w1 ⟨rfl, hb1⟩)
    go_ret
    exact ⟨by rw [HI.out]; exact ret_str (txt_app [45] D), hb1⟩
  · have e : Lib.itoa n = Lib.decDigits n.toNat := by unfold Lib.itoa; rw [if_neg h]
    have e2 : ((n.toNat : Nat) : Int) = n := by omega
    have := l1Dec_pos n.toNat w (by omega)
    rw [e2] at this
    rw [e]
    exact this
end Go.Proofs.YtiamkmkbkehldaaGreatDoor

/-
  The specification's l2Quoted.
-/
namespace Go.Proofs.YtiamkmkbkehldaaGreatDoor
open Go.RowKit Go.WideShapes
set_option linter.unusedSimpArgs false
set_option linter.unusedVariables false
theorem two_belowQ {w wr w1 w2 : World} (h : Below w.heap.size w wr) (h1 : Below wr.heap.size wr w1) (h2 : Below w1.heap.size w1 w2) : Below w.heap.size w w2 :=
  (h.trans (h1.mono h.size)).trans (h2.mono (h.trans (h1.mono h.size)).size)
theorem quo_tail (o : List UInt8) (c : UInt8) : txt o ++ ⟨#[92, 117, 48, 48]⟩ ++ txt [hexB ((c.toNat : Int) / 16).toNat] ++ txt [hexB ((c.toNat : Int) % 16).toNat] = txt (o ++ [92, 117, 48, 48, hexB (c.toNat / 16), hexB (c.toNat % 16)]) := by
  have e1 : ((c.toNat : Int) / 16).toNat = c.toNat / 16 := by omega
  have e2 : ((c.toNat : Int) % 16).toNat = c.toNat % 16 := by omega
  rw [e1, e2, app_txt, txt_app, txt_app]
  simp

set_option maxRecDepth 100000 in
set_option maxHeartbeats 3200000 in
theorem sQuo_any (s : ByteArray) (w : World) (hs : s.size ≤ 16777216) : Calls Tryz.prog 182 #[.string s] w fun e w' => e = .returned (.string (txt (quoT s))) ∧ Below w.heap.size w w' := by
  go_enter Tryz.func182, Tryz.ntmps182
  go_wp2_with fail
  go_loopw [3, 4] (fun o i wr => ∃ k : Nat, k ≤ s.size ∧ i = .int .i64 k ∧ o = .string (txt (34 :: quo (s.data.toList.take k))) ∧ Below w.heap.size w wr) (fun _ i _ => s.size - (intOf i).toNat)
  case atStart => exact ⟨0, Nat.zero_le _, rfl, rfl, Below.refl _ _⟩
  case round =>
    obtain ⟨k, hk, rfl, rfl, hbel⟩ := hrel
    have HB := hideB hbel
    clear hbel
    by_cases hlt : k < s.size
    · have hl := quo_take_len s.data.toList k
      have HS : Hid (34 :: quo (s.data.toList.take (k + 1)) = (34 :: quo (s.data.toList.take k)) ++ quoB (s.data.toList[k]'(by rw [len_is]; exact hlt))) := by rw [Hid, quo_snoc s.data.toList k (by rw [len_is]; exact hlt)]; rfl
      have hl' : (34 :: quo (s.data.toList.take k)).length ≤ 6 * s.data.toList.length + 1 := by rw [List.length_cons]; omega
      obtain ⟨o, ho⟩ : ∃ o, 34 :: quo (s.data.toList.take k) = o := ⟨_, rfl⟩
      rw [ho] at HS hl' ⊢
      clear ho hl
      have hz : (txt o).size ≤ 134217728 := by rw [txt_size]; rw [len_is] at hl'; omega
      rw [getK hlt] at HS
      obtain ⟨c, hc⟩ : ∃ c, s[k] = c := ⟨_, rfl⟩
      rw [hc] at HS
      have hn : c.toNat < 256 := c.toNat_lt
      have hsl := run_one (P := Tryz.prog) (t := 9) Tryz.underlying9 hlt hc
      by_cases h34 : c = 34
      · subst h34
        have hz1 := txt_size [(34 : UInt8)]
        go_wp2_with fail
        refine ⟨⟨k + 1, by omega, by go_num, ?_, HB.out⟩, by simp [intOf]; omega⟩
        rw [HS.out]; exact str_txt (by rw [app_txt, txt_app]; simp [quoB])
      have n34 : ¬ (c.toNat : Int) = 34 := u8_ne h34
      have b34 : ((c.toNat : Int) == 34) = false := by simpa using n34
      by_cases h92 : c = 92
      · subst h92
        have hz1 := txt_size [(92 : UInt8)]
        go_wp2_with fail
        refine ⟨⟨k + 1, by omega, by go_num, ?_, HB.out⟩, by simp [intOf]; omega⟩
        rw [HS.out]; exact str_txt (by rw [app_txt, txt_app]; simp [quoB])
      have n92 : ¬ (c.toNat : Int) = 92 := u8_ne h92
      have b92 : ((c.toNat : Int) == 92) = false := by simpa using n92
      by_cases h8 : c = 8
      · subst h8
        go_wp2_with fail
        refine ⟨⟨k + 1, by omega, by go_num, ?_, HB.out⟩, by simp [intOf]; omega⟩
        rw [HS.out]; exact str_txt (app_txt _ _)
      have n8 : ¬ (c.toNat : Int) = 8 := u8_ne h8
      have b8 : ((c.toNat : Int) == 8) = false := by simpa using n8
      by_cases h9 : c = 9
      · subst h9
        go_wp2_with fail
        refine ⟨⟨k + 1, by omega, by go_num, ?_, HB.out⟩, by simp [intOf]; omega⟩
        rw [HS.out]; exact str_txt (app_txt _ _)
      have n9 : ¬ (c.toNat : Int) = 9 := u8_ne h9
      have b9 : ((c.toNat : Int) == 9) = false := by simpa using n9
      by_cases h10 : c = 10
      · subst h10
        go_wp2_with fail
        refine ⟨⟨k + 1, by omega, by go_num, ?_, HB.out⟩, by simp [intOf]; omega⟩
        rw [HS.out]; exact str_txt (app_txt _ _)
      have n10 : ¬ (c.toNat : Int) = 10 := u8_ne h10
      have b10 : ((c.toNat : Int) == 10) = false := by simpa using n10
      by_cases h12 : c = 12
      · subst h12
        go_wp2_with fail
        refine ⟨⟨k + 1, by omega, by go_num, ?_, HB.out⟩, by simp [intOf]; omega⟩
        rw [HS.out]; exact str_txt (app_txt _ _)
      have n12 : ¬ (c.toNat : Int) = 12 := u8_ne h12
      have b12 : ((c.toNat : Int) == 12) = false := by simpa using n12
      by_cases h13 : c = 13
      · subst h13
        go_wp2_with fail
        refine ⟨⟨k + 1, by omega, by go_num, ?_, HB.out⟩, by simp [intOf]; omega⟩
        rw [HS.out]; exact str_txt (app_txt _ _)
      have n13 : ¬ (c.toNat : Int) = 13 := u8_ne h13
      have b13 : ((c.toNat : Int) == 13) = false := by simpa using n13
      by_cases hp : c < 32 ∨ c = 127
      · have HE := hideB (show quoB c = [92, 117, 48, 48, hexB (c.toNat / 16), hexB (c.toNat % 16)] by simp only [quoB, h34, h92, h8, h9, h10, h12, h13, hp, if_false, if_true])
        have p1 : ((c.toNat : Int) < 32) ∨ (c.toNat : Int) = 127 := by
          rcases hp with h | h
          · exact .inl (by have : c.toNat < 32 := UInt8.lt_iff_toNat_lt.1 h; omega)
          · exact .inr (by subst h; rfl)
        clear h34 h92 h8 h9 h10 h12 h13 hp
        rcases p1 with p1 | p1
        all_goals (
          first | (have b127 : ((c.toNat : Int) == 127) = true := by simpa using p1) | skip
          have hz1 := txt_one
          have hw1 := u8_quo c
          have hw2 := u8_rem c
          have q2 : ¬ 9223372036854775807 < (txt o).size + 4 := by omega
          have q3 : ¬ 9223372036854775807 < (txt o).size + 4 + 1 := by omega
          have q4 : ¬ 9223372036854775807 < (txt o).size + 4 + 1 + 1 := by omega
          have r3 : ¬ 9223372036854775807 < (txt o).size + 5 := by omega
          have r4 : ¬ 9223372036854775807 < (txt o).size + 6 := by omega
          go_wp2_with (go_at_call 206; refine (l2Hex_int _ _ (by omega) (by omega)).mono ?_; rintro e w' ⟨rfl, hb⟩)
          refine ⟨⟨k + 1, by omega, by go_num, ?_, two_belowQ HB.out (by assumption) (by assumption)⟩, by simp [intOf]; omega⟩
          rw [HS.out, HE.out]
          first
            | exact str_txt (quo_tail o c)
            | (have h127 : c = 127 := UInt8.toNat_inj.1 (by show c.toNat = 127; omega)
               rw [h127]
               exact str_txt (quo_tail o 127)))
      · have HE := hideB (show quoB c = [c] by simp only [quoB, h34, h92, h8, h9, h10, h12, h13, hp, if_false])
        have p1 : ¬ (c.toNat : Int) < 32 := fun h => hp (.inl (UInt8.lt_iff_toNat_lt.2 (by show c.toNat < 32; omega)))
        have p2 : ¬ (c.toNat : Int) = 127 := u8_ne (fun h => hp (.inr h))
        have b127 : ((c.toNat : Int) == 127) = false := by simpa using p2
        have hz1 := txt_size [c]
        clear h34 h92 h8 h9 h10 h12 h13 hp
        go_wp2_with fail
        refine ⟨⟨k + 1, by omega, by go_num, ?_, HB.out⟩, by simp [intOf]; omega⟩
        rw [HS.out, HE.out]; exact str_txt (txt_app _ _)
    · obtain rfl : k = s.size := by omega
      have hl := quo_len s.data.toList
      have HL := hideB (show s.data.toList.take s.size = s.data.toList by rw [← len_is, List.take_length])
      rw [HL.out]
      have hz : (txt (34 :: quo s.data.toList)).size ≤ 134217728 := by rw [txt_size, List.length_cons]; rw [len_is] at hl; omega
      go_wp2_with fail
      go_ret
      exact ⟨ret_str (app_txt _ _), HB.out⟩
end Go.Proofs.YtiamkmkbkehldaaGreatDoor

/-
  The specification's l2Scalar and l2Text: JSON's bytes of a node.
-/
namespace Go.Proofs.YtiamkmkbkehldaaGreatDoor
open Go.RowKit Go.WideShapes
set_option linter.unusedSimpArgs false
set_option linter.unusedVariables false

set_option maxRecDepth 100000 in
set_option maxHeartbeats 1600000 in
theorem l2Scalar_any (f deep : Nat) (lines : Bool) (kd nn : Int) (ss : ByteArray) (kv iv : Value) (keys : List ByteArray) (kids : List VT) (w : World) (h : kd = 1 ∨ (kd = 2 ∧ 0 ≤ nn ∧ nn ≤ 1) ∨ (kd = 3 ∧ -1000000000000000 ≤ nn ∧ nn ≤ 1000000000000000) ∨ (kd = 4 ∧ ss.size ≤ 60)) :
    Calls Tryz.prog 146 #[.agg #[.int .i64 kd, .int .i64 nn, .string ss, kv, iv]] w fun e w' => e = .returned (.string (txt (jsonT lines (f + 1) deep (.mk kd nn ss keys kids)))) ∧ Below w.heap.size w w' := by
  have HLF := hideIt (jsonT_leaf lines f deep (kind := kd) (n := nn) (s := ss) (keys := keys) (kids := kids))
  rcases h with rfl | ⟨rfl, h0, h1⟩ | ⟨rfl, h0, h1⟩ | ⟨rfl, h1⟩
  · have HE := hideIt (HLF.out.1 rfl)
    go_enter Tryz.func146, Tryz.ntmps146
    go_wp2_with fail
    go_ret
    exact ⟨by rw [HE.out]; rfl, (Below.refl _ _).alloc (Nat.le_refl _) _⟩
  · have HE := hideIt (HLF.out.2.1 rfl)
    rcases (show nn = 0 ∨ nn = 1 by omega) with rfl | rfl
    · go_enter Tryz.func146, Tryz.ntmps146
      go_wp2_with fail
      go_ret
      exact ⟨by rw [HE.out]; rfl, (Below.refl _ _).alloc (Nat.le_refl _) _⟩
    · go_enter Tryz.func146, Tryz.ntmps146
      go_wp2_with fail
      go_ret
      exact ⟨by rw [HE.out]; rfl, (Below.refl _ _).alloc (Nat.le_refl _) _⟩
  · have HE := hideIt (HLF.out.2.2.1 rfl)
    go_enter Tryz.func146, Tryz.ntmps146
    go_wp2_with fail
    refine (l1Dec_any nn _ (by omega) (by omega)).mono ?_
    rintro e w1 ⟨rfl, hb1⟩
    have HB := hideIt (((Below.refl _ _).alloc (Nat.le_refl _) _).trans (hb1.mono (by simp)))
    clear hb1
    go_wp2_with fail
    go_ret
    exact ⟨by rw [HE.out]; rfl, HB.out⟩
  · have HE := hideIt (HLF.out.2.2.2.1 rfl)
    go_enter Tryz.func146, Tryz.ntmps146
    go_wp2_with fail
    refine (sQuo_any ss _ (by omega)).mono ?_
    rintro e w1 ⟨rfl, hb1⟩
    have HB := hideIt (((Below.refl _ _).alloc (Nat.le_refl _) _).trans (hb1.mono (by simp)))
    clear hb1
    go_wp2_with fail
    go_ret
    exact ⟨by rw [HE.out]; rfl, HB.out⟩

/-- The blanks ahead of a line. -/
def marg (deep : Nat) : ByteArray := txt (List.replicate (2 * deep) 32)
theorem marg_size (deep : Nat) : (marg deep).size = 2 * deep := by unfold marg; rw [txt_size]; simp
theorem marg_next (deep : Nat) : marg deep ++ ⟨#[32, 32]⟩ = marg (deep + 1) := by
  unfold marg
  rw [app_txt]
  congr 1
  rw [show 2 * (deep + 1) = 2 * deep + 2 by omega, ← List.replicate_append_replicate]; rfl
end Go.Proofs.YtiamkmkbkehldaaGreatDoor

/-
  The specification's l2Text: JSON's bytes of a node.
-/
namespace Go.Proofs.YtiamkmkbkehldaaGreatDoor
open Go.RowKit Go.WideShapes
set_option linter.unusedSimpArgs false
set_option linter.unusedVariables false
end Go.Proofs.YtiamkmkbkehldaaGreatDoor

/-
  impl.valuesAt: the values of all nodes.
-/
namespace Go.Proofs.YtiamkmkbkehldaaGreatDoor
open Go.RowKit
set_option linter.unusedSimpArgs false
set_option linter.unusedVariables false

/-- One more value is laid. -/
theorem valStep {s N k : Nat} {w W0 W : World} {vs : List VN} {VV : Nat → Value} {u : Value} (hrow : W.rowIs s 45 N (fillI VV k)) (hall : ∀ j, j < k → ValIs s W0.heap.size W0 vs (j + 1) j (VV j)) (hk : Keep s W0.heap.size W0 W) (hsz : W0.heap.size ≤ W.heap.size) (hs : s < W0.heap.size) (hb : Below s w W)
    (hv : ValIs s W.heap.size W vs (k + 1) k u) :
    (W.setCell ⟨s, k, none⟩ u).rowIs s 45 N (fillI (fun j => if j = k then u else VV j) (k + 1)) ∧ (∀ j, j < k + 1 → ValIs s (W.setCell ⟨s, k, none⟩ u).heap.size (W.setCell ⟨s, k, none⟩ u) vs (j + 1) j (if j = k then u else VV j)) ∧ Below s w (W.setCell ⟨s, k, none⟩ u) := by
  have hsz2 : (W.setCell ⟨s, k, none⟩ u).heap.size = W.heap.size := World.size_setCell _ _ _
  refine ⟨fillI_step hrow, fun j hj => ?_, hb.setCell (Nat.le_refl _) _⟩
  by_cases e : j = k
  · subst e
    rw [if_pos rfl]
    exact ValIs.keep (Keep.setCell W u) (by omega) (by omega) hv
  · rw [if_neg e]
    exact ValIs.keep (hk.trans (Keep.setCell W u)) (by omega) (by omega) (hall j (by omega))

set_option maxRecDepth 100000 in
set_option maxHeartbeats 6400000 in
theorem valuesAt_any (B : Nat) (v : Value) (vs : List VN) (w : World) (h : NodesAt B w v vs) (hB : B ≤ w.heap.size) (hn1 : 1 ≤ vs.length) (hn80 : vs.length ≤ 80) (hok : ∀ k, k < vs.length → nodeB (nodeAt vs k) = true ∧ kidsIn vs k = true) (hkn : ∀ k, k < vs.length → (nodeAt vs k).kids.length ≤ k) :
    Calls Tryz.prog 72 #[v] w fun e w' => ∃ VV : Nat → Value, e = .returned (.slice (some ⟨w.heap.size, 0, none⟩) vs.length vs.length) ∧
      w'.rowIs w.heap.size 45 vs.length VV ∧ (∀ j, j < vs.length → ValIs w.heap.size w'.heap.size w' vs (j + 1) j (VV j)) ∧ Below w.heap.size w w' := by
  obtain ⟨hlen, a, cap, rfl, hcell⟩ := h
  obtain ⟨b0, o0, rfl, hb0, hc⟩ := hcell (by omega)
  clear hcell
  have HOK := hideIt hok
  have HC := hideIt hc
  clear hok hc
  have hmk := run_make_row' (P := Tryz.prog) 54 45 .nilIface 16 Tryz.underlying54 infoVal rfl .i64 .i64 vs.length (by omega) (by omega)
  obtain ⟨i0, hi, hz0, hz1, hz2⟩ := info_parts infoVal
  go_enter Tryz.func72, Tryz.ntmps72
  go_wp2_with fail
  clear hmk
  have hr0 : (w.alloc (.cells (madeCells #[Value.nilIface] vs.length) 45)).rowIs w.heap.size 45 vs.length (fillI (fun _ => undef) 0) := (World.rowIs_made w _ _ _).congr fun i _ => by simp [fillI]
  have hbz : Below w.heap.size w (w.alloc (.cells (madeCells #[Value.nilIface] vs.length) 45)) := (Below.refl _ _).alloc (Nat.le_refl _) _
  go_loopw [14] (fun i wr => ∃ (k : Nat) (VV : Nat → Value), k ≤ vs.length ∧ i = .int .i64 k ∧ wr.rowIs w.heap.size 45 vs.length (fillI VV k) ∧ (∀ j, j < k → ValIs w.heap.size wr.heap.size wr vs (j + 1) j (VV j)) ∧ Below w.heap.size w wr) (fun i _ => vs.length - (intOf i).toNat)
  case atStart => exact ⟨0, _, Nat.zero_le _, rfl, hr0, fun j hj => by omega, hbz⟩
  case round =>
    obtain ⟨k, VV, hk, rfl, hrow, hall, hbel⟩ := hrel
    obtain ⟨W0, rfl⟩ : ∃ W0, W0 = wr := ⟨_, rfl⟩
    have HA := hideIt hall
    clear hall hr0 hbz
    by_cases hlt : k < vs.length
    · obtain ⟨ka, ki, hn⟩ := HC.out k hlt
      have hn' := hn.below (hbel.mono hB) hb0
      have c0 := hn'.c0
      have c1 := hn'.c1
      have c2 := hn'.c2
      have c3 := hn'.c3
      have c4 := hn'.c4
      have hsize := hbel.size
      have hlt0 := hrow.lt
      have HK := hideIt hn.inn.keys
      obtain ⟨_, _, aK, cK, eK, _⟩ := hn'.inn.keys
      obtain ⟨hkl, hkb, aI, cI, eI, hkc⟩ := hn'.inn.kids
      subst eK eI
      have HR := hideIt hrow
      clear hn hn' hrow
      go_wp2_with fail
      have x0 : (W0.alloc (.cells #[.int .i64 (nodeAt vs k).kind, .int .i64 (nodeAt vs k).n, .string (nodeAt vs k).s, .slice aK (nodeAt vs k).keys.length cK, .slice aI (nodeAt vs k).kids.length cI] 73)).cell? ⟨W0.heap.size, 0, none⟩ = some (.int .i64 (nodeAt vs k).kind) := by simp
      have x1 : (W0.alloc (.cells #[.int .i64 (nodeAt vs k).kind, .int .i64 (nodeAt vs k).n, .string (nodeAt vs k).s, .slice aK (nodeAt vs k).keys.length cK, .slice aI (nodeAt vs k).kids.length cI] 73)).cell? ⟨W0.heap.size, 1, none⟩ = some (.int .i64 (nodeAt vs k).n) := by simp
      have x2 : (W0.alloc (.cells #[.int .i64 (nodeAt vs k).kind, .int .i64 (nodeAt vs k).n, .string (nodeAt vs k).s, .slice aK (nodeAt vs k).keys.length cK, .slice aI (nodeAt vs k).kids.length cI] 73)).cell? ⟨W0.heap.size, 2, none⟩ = some (.string (nodeAt vs k).s) := by simp
      have x3 : (W0.alloc (.cells #[.int .i64 (nodeAt vs k).kind, .int .i64 (nodeAt vs k).n, .string (nodeAt vs k).s, .slice aK (nodeAt vs k).keys.length cK, .slice aI (nodeAt vs k).kids.length cI] 73)).cell? ⟨W0.heap.size, 3, none⟩ = some (.slice aK (nodeAt vs k).keys.length cK) := by simp
      have sW1 : (W0.alloc (.cells #[.int .i64 (nodeAt vs k).kind, .int .i64 (nodeAt vs k).n, .string (nodeAt vs k).s, .slice aK (nodeAt vs k).keys.length cK, .slice aI (nodeAt vs k).kids.length cI] 73)).heap.size = W0.heap.size + 1 := by simp
      have bW1 : Below W0.heap.size W0 (W0.alloc (.cells #[.int .i64 (nodeAt vs k).kind, .int .i64 (nodeAt vs k).n, .string (nodeAt vs k).s, .slice aK (nodeAt vs k).keys.length cK, .slice aI (nodeAt vs k).kids.length cI] 73)) := (Below.refl _ _).alloc (Nat.le_refl _) _
      have rW1 := hideIt (HR.out.alloc (.cells #[.int .i64 (nodeAt vs k).kind, .int .i64 (nodeAt vs k).n, .string (nodeAt vs k).s, .slice aK (nodeAt vs k).keys.length cK, .slice aI (nodeAt vs k).kids.length cI] 73))
      generalize (W0.alloc (.cells #[.int .i64 (nodeAt vs k).kind, .int .i64 (nodeAt vs k).n, .string (nodeAt vs k).s, .slice aK (nodeAt vs k).keys.length cK, .slice aI (nodeAt vs k).kids.length cI] 73)) = W1 at *
      have HsW := hideIt sW1
      have hW1gt : W0.heap.size < W1.heap.size := by omega
      have HX := hideIt (And.intro x0 (And.intro x1 (And.intro x2 x3)))
      have hsub : Below w.heap.size w W1 := hbel.trans (bW1.mono hsize)
      clear sW1 x0 x1 x2 x3 c0 c1 c2 c3 c4
      go_loopw [6, 22] (fun it i wr => ∃ c : Nat, c ≤ (nodeAt vs k).kids.length ∧ i = .int .i64 c ∧ wr.ownsRow W1.heap.size 45 1 it c ((List.range c).map fun j => VV (intAt (nodeAt vs k).kids j).toNat) ∧ Below W1.heap.size W1 wr) (fun _ i _ => (nodeAt vs k).kids.length - (intOf i).toNat)
      case atStart => exact ⟨0, Nat.zero_le _, rfl, World.ownsRow_nil _ _ _ _, Below.refl _ _⟩
      case round =>
        obtain ⟨c, hcl, rfl, hown, hb2⟩ := hrel
        by_cases hcc : c < (nodeAt vs k).kids.length
        · obtain ⟨b1, o1, rfl, hb1', hkc1⟩ := hkc (by omega)
          have hkr := kidsIn_get (HOK.out k hlt).2 hcc
          obtain ⟨q, hq⟩ : ∃ q : Nat, intAt (nodeAt vs k).kids c = (q : Int) := ⟨(intAt (nodeAt vs k).kids c).toNat, by omega⟩
          have hqk : q < k := by omega
          have hck : wr.cell? ⟨b1, o1 + c, none⟩ = some (.int .i64 (q : Int)) := by
            rw [← hq]; exact (below_cell hb2 (by omega)).trans ((below_cell bW1 (by omega)).trans (hkc1 c hcc))
          obtain ⟨tq, xq, hvq⟩ := (HA.out q hqk).iface
          have hcq : wr.cell? ⟨w.heap.size, q, none⟩ = some (.iface tq xq) := by
            refine (below_cell hb2 (by omega)).trans ?_
            rw [rW1.out.cell (by omega), fillI, if_pos hqk, hvq]
          have hqN : (q : Int) < (vs.length : Int) := by omega
          have HQ : Hid ((List.range (c + 1)).map (fun j => VV (intAt (nodeAt vs k).kids j).toNat) = (List.range c).map (fun j => VV (intAt (nodeAt vs k).kids j).toNat) ++ [.iface tq xq]) := by
            rw [Hid, List.range_succ, List.map_append]
            simp [hq, hvq]
          have hb2s := hb2.size
          have HB2 := hideIt hb2
          have h80 : (nodeAt vs k).kids.length ≤ 80 := by have := hkn k hlt; omega
          clear hkc hkc1 hq hkr hvq
          go_wp2_with (at_builtin; refine wpList_append_own _ rfl _ _ 54 rfl W1.heap.size 45 i0 .nilIface 1 16 Tryz.underlying54 hi hz0 hz1 hz2 rfl (by decide) _ _ _ rfl (hown.alloc _) ⟨wr.heap.size, 0, none⟩ 1 1 [.iface tq xq] rfl rfl ?c1 ?c2 ?c3 ?c4 ?c5 ?_)
          case c1 =>
            intro j u hj
            match j, hj with
            | 0, hj => simp at hj; subst hj; simp [Addr.add]
          case c2 => intro u hu; simp at hu; subst hu; rfl
          case c3 => unfold maxLen; omega
          case c4 => omega
          case c5 => simp; omega
          intro v' w3 hown' hgrow _
          have hb3 : Below W1.heap.size W1 w3 := (HB2.out.alloc hb2s _).grown hgrow (by simp; omega) (fun r hr => by
            rcases hown.2 with ⟨rfl, _⟩ | ⟨g, cp, cu, rfl, hbg, _⟩
            · simp [Value.ownBlock] at hr
            · simp [Value.ownBlock] at hr; omega)
          rw [← HQ.out] at hown'
          clear hgrow hown
          go_wp2_with fail
          go_roundw
          case rel => exact ⟨c + 1, by omega, by go_num, hown', hb3⟩
          case measure => simp [intOf]; omega
        · obtain rfl : c = (nodeAt vs k).kids.length := by omega
          have hb2s := hb2.size
          have hIt := hideIt (items_of_own (lo := w.heap.size) (P := fun j u => ValIs w.heap.size wr.heap.size wr vs k (intAt (nodeAt vs k).kids j).toNat u) hown (by omega) (fun j hj => by
            have hkr := kidsIn_get (HOK.out k hlt).2 hj
            obtain ⟨t, x, e⟩ := (HA.out (intAt (nodeAt vs k).kids j).toNat (by omega)).iface
            refine ⟨t, x, e, ?_⟩
            rw [← e]
            exact ValIs.more (by omega) (ValIs.keep ((Keep.of_below (bW1)).trans (Keep.of_below (hb2.mono (by omega)))) (by omega) (by omega) (HA.out _ (by omega)))))
          have hitv := hIt.out
          obtain ⟨ait, cpt, rfl, _⟩ := hitv
          have y0 : wr.cell? ⟨W0.heap.size, 0, none⟩ = some (.int .i64 (nodeAt vs k).kind) := (below_cell hb2 (by omega)).trans HX.out.1
          have y1 : wr.cell? ⟨W0.heap.size, 1, none⟩ = some (.int .i64 (nodeAt vs k).n) := (below_cell hb2 (by omega)).trans HX.out.2.1
          have y2 : wr.cell? ⟨W0.heap.size, 2, none⟩ = some (.string (nodeAt vs k).s) := (below_cell hb2 (by omega)).trans HX.out.2.2.1
          have y3 : wr.cell? ⟨W0.heap.size, 3, none⟩ = some (.slice aK (nodeAt vs k).keys.length cK) := (below_cell hb2 (by omega)).trans HX.out.2.2.2
          have rwr := rowIs_below rW1.out hb2 (by omega)
          have z0 := rwr.cell hlt
          have z1 := rwr.frozen k
          have HRW := hideIt rwr
          have HKE : Hid (Keep w.heap.size W0.heap.size W0 wr) := (Keep.of_below (bW1)).trans (Keep.of_below (hb2.mono (by omega)))
          have HBE : Hid (Below w.heap.size w wr) := hsub.trans (hb2.mono (by omega))
          have hszz : W0.heap.size ≤ wr.heap.size := by omega
          have HKY : Hid (StrsAt w.heap.size wr (.slice aK (nodeAt vs k).keys.length cK) (nodeAt vs k).keys) := (HK.out.wide hB).below HBE.out
          have HNB := hideIt (HOK.out k hlt).1
          clear hown rwr
          by_cases g2 : (nodeAt vs k).kind = 2
          · have S := valStep (u := .iface 163 (.agg #[.int .i64 (nodeAt vs k).n])) HRW.out HA.out HKE.out hszz hlt0 HBE.out (Or.inr (Or.inl ⟨g2, rfl⟩))
            have HS := hideIt S
            clear S
            go_wp2_with fail
            go_roundw
            case rel => exact ⟨k + 1, _, by omega, by go_num, HS.out.1, HS.out.2.1, HS.out.2.2⟩
            case measure => simp [intOf]; omega
          by_cases g3 : (nodeAt vs k).kind = 3
          · have S := valStep (u := .iface 164 (.agg #[.int .i64 (nodeAt vs k).n])) HRW.out HA.out HKE.out hszz hlt0 HBE.out (Or.inr (Or.inr (Or.inl ⟨g3, rfl⟩)))
            have HS := hideIt S
            clear S g2
            go_wp2_with fail
            go_roundw
            case rel => exact ⟨k + 1, _, by omega, by go_num, HS.out.1, HS.out.2.1, HS.out.2.2⟩
            case measure => simp [intOf]; omega
          by_cases g4 : (nodeAt vs k).kind = 4
          · have S := valStep (u := .iface 110 (.agg #[.string (nodeAt vs k).s])) HRW.out HA.out HKE.out hszz hlt0 HBE.out (Or.inr (Or.inr (Or.inr (Or.inl ⟨g4, rfl⟩))))
            have HS := hideIt S
            clear S g2 g3
            go_wp2_with fail
            go_roundw
            case rel => exact ⟨k + 1, _, by omega, by go_num, HS.out.1, HS.out.2.1, HS.out.2.2⟩
            case measure => simp [intOf]; omega
          by_cases g5 : (nodeAt vs k).kind = 5
          · have S := valStep (u := .iface 174 (.agg #[.slice ait (nodeAt vs k).kids.length cpt])) HRW.out HA.out HKE.out hszz hlt0 HBE.out (Or.inr (Or.inr (Or.inr (Or.inr (Or.inl ⟨g5, _, rfl, hIt.out⟩)))))
            have HS := hideIt S
            clear S g2 g3 g4
            go_wp2_with fail
            go_roundw
            case rel => exact ⟨k + 1, _, by omega, by go_num, HS.out.1, HS.out.2.1, HS.out.2.2⟩
            case measure => simp [intOf]; omega
          by_cases g6 : (nodeAt vs k).kind = 6
          · have S := valStep (u := .iface 119 (.agg #[.slice aK (nodeAt vs k).keys.length cK, .slice ait (nodeAt vs k).kids.length cpt])) HRW.out HA.out HKE.out hszz hlt0 HBE.out (Or.inr (Or.inr (Or.inr (Or.inr (Or.inr ⟨g6, _, _, rfl, HKY.out, hIt.out⟩)))))
            have HS := hideIt S
            clear S g2 g3 g4 g5
            go_wp2_with fail
            go_roundw
            case rel => exact ⟨k + 1, _, by omega, by go_num, HS.out.1, HS.out.2.1, HS.out.2.2⟩
            case measure => simp [intOf]; omega
          · have g1 : (nodeAt vs k).kind = 1 := by
              have := HNB.out
              unfold nodeB namedB at this
              by_cases e1 : (nodeAt vs k).kind = 1
              · exact e1
              · simp [e1, g2, g3, g4, g5, g6] at this
            have S := valStep (u := .iface 170 (.agg #[])) HRW.out HA.out HKE.out hszz hlt0 HBE.out (Or.inl ⟨g1, rfl⟩)
            have HS := hideIt S
            clear S g2 g3 g4 g5 g6
            go_wp2_with fail
            go_roundw
            case rel => exact ⟨k + 1, _, by omega, by go_num, HS.out.1, HS.out.2.1, HS.out.2.2⟩
            case measure => simp [intOf]; omega
    · obtain rfl : k = vs.length := by omega
      go_wp2_with fail
      go_ret
      exact ⟨VV, rfl, hrow.congr fun i hi => by simp [fillI, hi], HA.out, hbel⟩
end Go.Proofs.YtiamkmkbkehldaaGreatDoor
