/-
  The specification's l1Dec: a number in decimal.
-/
import Derived.Test.YtiamkmkbkehldaaGreatDoorProg
import Derived.Test.YtiamkmkbkehldaaGreatDoorPkP
import Derived.Lib.ItoaNum
import Derived.Laws.IdiomStrings
import Derived.Below
import Derived.WideShapes
import Derived.WalkKit
namespace Go.Proofs.YtiamkmkbkehldaaGreatDoor
open Go.RowKit Go.WideShapes
set_option linter.unusedSimpArgs false
set_option linter.unusedVariables false

theorem dec_len (u : Nat) : (Lib.decDigits u).length ≤ u + 1 := by
  induction u using Nat.strongRecOn with
  | ind u ih =>
    rw [Lib.decDigits]
    split
    · simp
    · rw [List.length_append]
      have := ih (u / 10) (by omega)
      simp
      omega
theorem dec_step {u : Nat} (h : 10 ≤ u) : Lib.decDigits u = Lib.decDigits (u / 10) ++ [UInt8.ofNat (48 + u % 10)] := by
  rw [Lib.decDigits, dif_neg (by omega)]
theorem dig_int {d : Nat} (h : d < 10) : (((UInt8.ofNat (48 + d)).toNat : Nat) : Int) = 48 + (d : Int) := by
  rw [UInt8.toNat_ofNat_of_lt' (by show 48 + d < 256; omega)]
  omega
theorem one_dig {d : Int} (h0 : 0 ≤ d) (h1 : d < 10) (w : World) : (convert 22 9 (.slice (some ⟨w.heap.size, 0, none⟩) 1 1)).run Tryz.prog (w.alloc (.cells #[.int .u8 (48 + d)] 5)) = .ok (.string (txt [UInt8.ofNat (48 + d.toNat)])) (w.alloc (.cells #[.int .u8 (48 + d)] 5)) := by
  have := run_convert_bytes_back (P := Tryz.prog) (w.alloc (.cells #[.int .u8 (48 + d)] 5)) 22 9 5 ⟨w.heap.size, 0, none⟩ 1 [UInt8.ofNat (48 + d.toNat)] Tryz.underlying22 Tryz.underlying5 Tryz.underlying9 (fun j hj => by
    obtain rfl : j = 0 := by simpa using hj
    rw [add_plain, Nat.zero_add]
    have e := dig_int (d := d.toNat) (by omega)
    rw [Int.toNat_of_nonneg h0] at e
    simp only [List.getElem_cons_zero, e]
    simp)
  exact this

set_option maxRecDepth 100000 in
set_option maxHeartbeats 1600000 in
theorem l1Dec_pos (u : Nat) (w : World) (hu : u ≤ 4000000000000000000) : Calls Tryz.prog 183 #[.int .i64 u] w fun e w' => e = .returned (.string (txt (Lib.decDigits u))) ∧ Below w.heap.size w w' := by
  have hn0 : ¬ (u : Int) < 0 := by omega
  go_enter Tryz.func183, Tryz.ntmps183
  go_wp2_with fail
  go_loopw [0, 3] (fun v o wr => ∃ (m : Nat) (l : List UInt8), m ≤ u ∧ v = .int .i64 m ∧ o = .string (txt l) ∧ Lib.decDigits u = Lib.decDigits m ++ l ∧ Below w.heap.size w wr) (fun v _ _ => (intOf v).toNat)
  case atStart => exact ⟨u, [], Nat.le_refl _, rfl, rfl, by simp, Below.refl _ _⟩
  case round =>
    obtain ⟨m, l, hm, rfl, rfl, hd, hb⟩ := hrel
    have HD := hideB hd
    have HB := hideB hb
    have zb := hb.size
    have hll : l.length ≤ 4000000000000000001 := by
      have h1 := dec_len u
      have h2 := congrArg List.length hd
      rw [List.length_append] at h2
      omega
    have hz : (txt l).size ≤ 4000000000000000001 := by rw [txt_size]; exact hll
    have hz1 : ∀ x, (txt [x]).size = 1 := fun x => txt_size [x]
    clear hd hb hll
    by_cases h10 : 10 ≤ m
    · have h10' : 10 ≤ (m : Int) := by omega
      have hc := one_dig (d := (m : Int) % 10) (by omega) (by omega) wr
      have e1 : ((m : Int) % 10).toNat = m % 10 := by omega
      rw [e1] at hc
      have HS := hideB (dec_step h10)
      obtain ⟨y, hy⟩ : ∃ y, UInt8.ofNat (48 + m % 10) = y := ⟨_, rfl⟩
      rw [hy] at hc HS
      clear hy e1
      have HQ : Hid (Value.int .i64 ((m : Int) / 10) = .int .i64 ((m / 10 : Nat) : Int)) := by rw [Hid]; congr 1
      go_wp2_with fail
      refine ⟨⟨m / 10, y :: l, by omega, HQ.out, str_txt (txt_app [y] l), by rw [HD.out, HS.out, List.append_assoc]; rfl, HB.out.alloc zb _⟩, by simp [intOf]; omega⟩
    · have h10' : ¬ 10 ≤ (m : Int) := by omega
      have hc := one_dig (d := (m : Int)) (by omega) (by omega) wr
      rw [Int.toNat_natCast] at hc
      have HS := hideB (Lib.decDigits_one (i := m) (by omega))
      obtain ⟨y, hy⟩ : ∃ y, UInt8.ofNat (48 + m) = y := ⟨_, rfl⟩
      rw [hy] at hc HS
      clear hy
      go_wp2_with fail
      go_ret
      exact ⟨by rw [HD.out, HS.out]; exact ret_str (txt_app _ _), HB.out.alloc zb _⟩

set_option maxRecDepth 100000 in
set_option maxHeartbeats 1600000 in
theorem l1Dec_any (n : Int) (w : World) (h0 : -4000000000000000000 ≤ n) (h1 : n ≤ 4000000000000000000) : Calls Tryz.prog 183 #[.int .i64 n] w fun e w' => e = .returned (.string (txt (Lib.itoa n))) ∧ Below w.heap.size w w' := by
  by_cases h : n < 0
  · have C := hideB (fun w => l1Dec_pos n.natAbs w (by omega))
    have e : ((n.natAbs : Nat) : Int) = -n := by omega
    have hz : (txt (Lib.decDigits n.natAbs)).size ≤ 4000000000000000001 := by rw [txt_size]; have := dec_len n.natAbs; omega
    have HI := hideB (show Lib.itoa n = 45 :: Lib.decDigits n.natAbs by unfold Lib.itoa; rw [if_pos h])
    rw [e] at C
    clear e
    obtain ⟨D, hD⟩ : ∃ D, Lib.decDigits n.natAbs = D := ⟨_, rfl⟩
    rw [hD] at C hz HI
    clear hD
    go_enter Tryz.func183, Tryz.ntmps183
    go_wp2_with (go_at_call 183; refine (C.out _).mono ?_; rintro e w1 ⟨rfl, hb1⟩)
    go_ret
    exact ⟨by rw [HI.out]; exact ret_str (txt_app [45] D), hb1⟩
  · have e : Lib.itoa n = Lib.decDigits n.toNat := by unfold Lib.itoa; rw [if_neg h]
    have e2 : ((n.toNat : Nat) : Int) = n := by omega
    have := l1Dec_pos n.toNat w (by omega)
    rw [e2] at this
    rw [e]
    exact this
end Go.Proofs.YtiamkmkbkehldaaGreatDoor
