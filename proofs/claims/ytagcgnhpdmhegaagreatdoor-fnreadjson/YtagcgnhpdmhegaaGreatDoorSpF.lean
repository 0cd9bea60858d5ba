/-
  The specification's l1Int: a number in decimal.
-/
import Derived.Test.YtagcgnhpdmhegaaGreatDoorIntP
import Derived.Test.YtagcgnhpdmhegaaGreatDoorSpc3
import Derived.Test.YtagcgnhpdmhegaaGreatDoorJrS
import Derived.Test.YtagcgnhpdmhegaaGreatDoorSDig
import Derived.Test.YtagcgnhpdmhegaaGreatDoorDrL
import Derived.Test.YtagcgnhpdmhegaaGreatDoorLowN
import Derived.Deep.DeepCutAuto
import Derived.Deep.Cut
import Derived.Deep.CutRange
import Derived.Test.YtagcgnhpdmhegaaGreatDoorCbY
import Derived.Test.YtagcgnhpdmhegaaGreatDoorDrV
namespace Go.Proofs.YtagcgnhpdmhegaaGreatDoor
open Go.RowKit
set_option linter.unusedSimpArgs false
set_option linter.unusedVariables false

/-- What l1Int says. -/
def IntOr (t : ByteArray) (w : World) (e : Ending) (w' : World) : Prop := ∃ n ok, e = .returned (.tuple #[.int .i64 n, .bool ok]) ∧ w' = w ∧ ((intT t.data.toList = some n ∧ ok = true) ∨ (intT t.data.toList = none ∧ ok = false))

set_option maxRecDepth 100000 in
set_option maxHeartbeats 6400000 in
theorem l1Int_any (t : ByteArray) (ht : t.size ≤ 1048576) (w : World) :
    Calls Tryz.prog 86 #[.string t] w (IntOr t w) := by
  have HLT := hideB (len_is t)
  have HB0 : Hid (∀ h : 0 < t.size, byAt t.data.toList 0 = (t[0]'h).toNat) := fun h => (byS h).symm
  by_cases hneg : 1 < t.size ∧ byAt t.data.toList 0 = 45
  · obtain ⟨h1, h45⟩ := hneg
    have h0 : 0 < t.size := by omega
    have HIT : Hid (intT t.data.toList = intD true (t.data.toList.drop 1)) := intT_neg (by unfold negI; rw [HLT.out]; simp; exact ⟨h1, h45⟩)
    have HC := hideB (HB0.out h0)
    obtain ⟨y0, hy0⟩ : ∃ y, t[0] = y := ⟨_, rfl⟩
    rw [hy0] at HC
    have hy45 : ((y0.toNat : Nat) : Int) = 45 := by rw [← HC.out, h45]; rfl
    obtain ⟨U, hU⟩ : ∃ U, t.extract 1 t.size = U := ⟨_, rfl⟩
    have HUD : Hid (t.data.toList.drop 1 = U.data.toList) := by
      rw [Hid, ← hU, cut_txt, bytes_txt, List.take_of_length_le (by rw [List.length_drop, HLT.out]; exact Nat.le_refl _)]
    have hUs : U.size = t.size - 1 := by rw [← len_is U, ← HUD.out, List.length_drop, HLT.out]
    rw [HUD.out] at HIT
    have hU1 : 1 ≤ U.size := by omega
    have HUS := hideB hUs
    have h1' : (1 : Int) < (t.size : Int) := by omega
    have q1 : ¬ (U.size : Int) < 1 := by omega
    clear hUs HUD h45 HC
    have HUB := hideB (byS (s := U) (p := 0) (by omega))
    obtain ⟨z, hz⟩ : ∃ z, U[0] = z := ⟨_, rfl⟩
    rw [hz] at HUB
    go_enter Tryz.func86, Tryz.ntmps86
    have HNO : Hid (U.data.toList.length < 1 ∨ 16 < U.data.toList.length ∨ (byAt U.data.toList 0 = 48 ∧ (1 < U.data.toList.length ∨ true = true)) ∨ ¬ digsI U.data.toList ∨ 1000000000000000 < valF U.data.toList 0 U.data.toList.length → intT t.data.toList = none) := fun h => by rw [HIT.out]; exact intD_no h
    by_cases h16 : 16 < U.size
    · have h16' : (16 : Int) < (U.size : Int) := by omega
      have HN1 := hideB (HNO.out (.inr (.inl (by rw [len_is]; exact h16))))
      go_wp2_with fail
      go_ret2
      exact ⟨0, false, rfl, rfl, .inr ⟨HN1.out, rfl⟩⟩
    have h16' : ¬ (16 : Int) < (U.size : Int) := by omega
    by_cases h48 : z.toNat = 48
    · have h48' : ((z.toNat : Nat) : Int) = 48 := by omega
      have HN1 := hideB (HNO.out (.inr (.inr (.inl ⟨by rw [← HUB.out]; exact h48, .inr rfl⟩))))
      by_cases hU2 : 1 < U.size
      · have hU2' : (1 : Int) < (U.size : Int) := by omega
        go_wp2_with fail
        go_ret2
        exact ⟨0, false, rfl, rfl, .inr ⟨HN1.out, rfl⟩⟩
      · have hU2' : ¬ (1 : Int) < (U.size : Int) := by omega
        go_wp2_with fail
        go_ret2
        exact ⟨0, false, rfl, rfl, .inr ⟨HN1.out, rfl⟩⟩
    have h48' : ¬ ((z.toNat : Nat) : Int) = 48 := by omega
    have HYES : Hid ((∀ j, j < U.size → digC (byAt U.data.toList j) = true) → valF U.data.toList 0 U.size ≤ 1000000000000000 → intT t.data.toList = some (-((valF U.data.toList 0 U.size : Nat) : Int))) := fun hd hv => by
      rw [HIT.out, intD_yes, len_is]
      · rfl
      · rw [len_is]
        rintro (h | h | ⟨h, _⟩ | h | h)
        · omega
        · omega
        · rw [← HUB.out] at h; omega
        · exact h (fun j hj => hd j (by rw [← len_is]; exact hj))
        · omega
    clear HUB HUS HIT
    go_wp2_with fail
    go_loop [5, 6] (fun n i => ∃ k : Nat, k ≤ U.size ∧ i = .int .i64 k ∧ n = .int .i64 (valF U.data.toList 0 k : Nat) ∧ Hid (∀ j, j < k → digC (byAt U.data.toList j) = true)) (fun _ i => U.size - (intOf i).toNat)
    case atStart => exact ⟨0, Nat.zero_le _, rfl, rfl, fun j hj => by omega⟩
    case round =>
      obtain ⟨k, hk, rfl, rfl, HD⟩ := hrel
      have hv : valF U.data.toList 0 k < 10000000000000000 := by
        have h1 := valF_top (L := U.data.toList) (q := 0) (k := k) (fun j hj => by rw [Nat.zero_add]; exact HD.out j hj)
        have h2 : 10 ^ k ≤ 10 ^ 16 := Nat.pow_le_pow_right (by decide) (by omega)
        have h3 : (10 ^ 16 : Nat) = 10000000000000000 := by decide
        omega
      have HNX : Hid (valF U.data.toList 0 (k + 1) = 10 * valF U.data.toList 0 k + (byAt U.data.toList (0 + k) - 48)) := rfl
      obtain ⟨V, hV⟩ : ∃ V, valF U.data.toList 0 k = V := ⟨_, rfl⟩
      have HVV := hideB hV
      rw [hV] at hv HNX
      rw [hV]
      clear hV
      by_cases hlt : k < U.size
      · have hlt' : (k : Int) < (U.size : Int) := by omega
        have HY := hideB (byS hlt)
        obtain ⟨y, hy⟩ : ∃ y, U[k] = y := ⟨_, rfl⟩
        rw [hy] at HY
        have hyl : y.toNat < 256 := y.toNat_lt
        by_cases g1 : y.toNat < 48
        · have g1' : (y.toNat : Int) < 48 := by omega
          have HNO := hideB (HNO.out (.inr (.inr (.inr (.inl (fun hd => by
            have := hd k (by rw [len_is]; exact hlt)
            rw [← HY.out] at this
            unfold digC at this
            simp at this
            omega))))))
          go_wp2_with fail
          go_ret2
          exact ⟨0, false, rfl, rfl, .inr ⟨HNO.out, rfl⟩⟩
        have g1' : ¬ (y.toNat : Int) < 48 := by omega
        by_cases g2 : 57 < y.toNat
        · have g2' : (57 : Int) < (y.toNat : Int) := by omega
          have HNO := hideB (HNO.out (.inr (.inr (.inr (.inl (fun hd => by
            have := hd k (by rw [len_is]; exact hlt)
            rw [← HY.out] at this
            unfold digC at this
            simp at this
            omega))))))
          go_wp2_with fail
          go_ret2
          exact ⟨0, false, rfl, rfl, .inr ⟨HNO.out, rfl⟩⟩
        have g2' : ¬ (57 : Int) < (y.toNat : Int) := by omega
        have HD2 : Hid (∀ j, j < k + 1 → digC (byAt U.data.toList j) = true) := fun j hj => by
          by_cases e : j = k
          · subst e; rw [← HY.out]; unfold digC; simp; omega
          · exact HD.out j (by omega)
        go_wp2_with fail
        refine ⟨⟨k + 1, by omega, by go_num, ?_, HD2⟩, by simp [intOf]; omega⟩
        rw [HNX.out, Nat.zero_add, ← HY.out]
        congr 1
        omega
      · obtain rfl : k = U.size := by omega
        have hlt' : ¬ (U.size : Int) < (U.size : Int) := by omega
        have HIN := hideB (l1In_any (-(V : Int)) (-1000000000000000) 1000000000000000 w)
        go_wp2_with fail
        refine HIN.out.mono ?_
        rintro e w1 ⟨rfl, rfl⟩
        go_wp2_with fail
        go_ret2
        refine ⟨_, _, rfl, rfl, ?_⟩
        by_cases hb : V ≤ 1000000000000000
        · refine .inl ⟨?_, by unfold inB; simp; omega⟩
          rw [HYES.out HD.out (by rw [HVV.out]; omega), HVV.out]
        · exact .inr ⟨HNO.out (.inr (.inr (.inr (.inr (by rw [len_is, HVV.out]; omega))))), by unfold inB; simp; omega⟩
  · have hng : negI t.data.toList = false := by unfold negI; rw [HLT.out]; simpa using hneg
    have HIT : Hid (intT t.data.toList = intD false t.data.toList) := intT_pos hng
    have HNG := hideB hneg
    clear hng hneg
    go_enter Tryz.func86, Tryz.ntmps86
    have HNO : Hid (t.data.toList.length < 1 ∨ 16 < t.data.toList.length ∨ (byAt t.data.toList 0 = 48 ∧ (1 < t.data.toList.length ∨ false = true)) ∨ ¬ digsI t.data.toList ∨ 1000000000000000 < valF t.data.toList 0 t.data.toList.length → intT t.data.toList = none) := fun h => by rw [HIT.out]; exact intD_no h
    by_cases hU0 : t.size < 1
    · have hU0' : (t.size : Int) < 1 := by omega
      have hm : ¬ (1 : Int) < (t.size : Int) := by omega
      have HN1 := hideB (HNO.out (.inl (by rw [len_is]; exact hU0)))
      go_wp2_with fail
      go_ret2
      exact ⟨0, false, rfl, rfl, .inr ⟨HN1.out, rfl⟩⟩
    have hU0' : ¬ (t.size : Int) < 1 := by omega
    have h0 : 0 < t.size := by omega
    have HC := hideB (HB0.out h0)
    obtain ⟨z, hz⟩ : ∃ z, t[0] = z := ⟨_, rfl⟩
    rw [hz] at HC
    by_cases hU2 : 1 < t.size
    focus
      have hU2' : (1 : Int) < (t.size : Int) := by omega
      have h45 : ¬ ((z.toNat : Nat) : Int) = 45 := fun e => HNG.out ⟨hU2, by rw [HC.out]; omega⟩
      by_cases h16 : 16 < t.size
      focus
        have h16' : (16 : Int) < (t.size : Int) := by omega
        have HN1 := hideB (HNO.out (.inr (.inl (by rw [len_is]; exact h16))))
        go_wp2_with fail
        go_ret2
        exact ⟨0, false, rfl, rfl, .inr ⟨HN1.out, rfl⟩⟩
      have h16' : ¬ (16 : Int) < (t.size : Int) := by omega
      by_cases h48 : z.toNat = 48
      focus
        have h48' : ((z.toNat : Nat) : Int) = 48 := by omega
        have HN1 := hideB (HNO.out (.inr (.inr (.inl ⟨by rw [HC.out]; exact h48, .inl (by rw [len_is]; exact hU2)⟩))))
        clear h45
        go_wp2_with fail
        go_ret2
        exact ⟨0, false, rfl, rfl, .inr ⟨HN1.out, rfl⟩⟩
      have h48' : ¬ ((z.toNat : Nat) : Int) = 48 := by omega
      have HYES : Hid ((∀ j, j < t.size → digC (byAt t.data.toList j) = true) → valF t.data.toList 0 t.size ≤ 1000000000000000 → intT t.data.toList = some ((valF t.data.toList 0 t.size : Nat) : Int)) := fun hd hv => by
        rw [HIT.out, intD_yes, len_is]
        · rfl
        · rw [len_is]
          rintro (h | h | ⟨h, _⟩ | h | h)
          · omega
          · omega
          · rw [HC.out] at h; omega
          · exact h (fun j hj => hd j (by rw [← len_is]; exact hj))
          · omega
      clear HC HIT h48
      go_wp2_with fail
    rotate_left
    focus
      have hU2' : ¬ (1 : Int) < (t.size : Int) := by omega
      have h16' : ¬ (16 : Int) < (t.size : Int) := by omega
      have h16 : ¬ 16 < t.size := by omega
      have HYES : Hid ((∀ j, j < t.size → digC (byAt t.data.toList j) = true) → valF t.data.toList 0 t.size ≤ 1000000000000000 → intT t.data.toList = some ((valF t.data.toList 0 t.size : Nat) : Int)) := fun hd hv => by
        rw [HIT.out, intD_yes, len_is]
        · rfl
        · rw [len_is]
          rintro (h | h | ⟨_, h⟩ | h | h)
          · omega
          · omega
          · rcases h with h | h
            · omega
            · cases h
          · exact h (fun j hj => hd j (by rw [← len_is]; exact hj))
          · omega
      clear HC HIT
      go_wp2_with fail
    all_goals
      go_loop [5, 6] (fun n i => ∃ k : Nat, k ≤ t.size ∧ i = .int .i64 k ∧ n = .int .i64 (valF t.data.toList 0 k : Nat) ∧ Hid (∀ j, j < k → digC (byAt t.data.toList j) = true)) (fun _ i => t.size - (intOf i).toNat)
      case atStart => exact ⟨0, Nat.zero_le _, rfl, rfl, fun j hj => by omega⟩
      case round =>
        obtain ⟨k, hk, rfl, rfl, HD⟩ := hrel
        have hv : valF t.data.toList 0 k < 10000000000000000 := by
          have h1 := valF_top (L := t.data.toList) (q := 0) (k := k) (fun j hj => by rw [Nat.zero_add]; exact HD.out j hj)
          have h2 : 10 ^ k ≤ 10 ^ 16 := Nat.pow_le_pow_right (by decide) (by omega)
          have h3 : (10 ^ 16 : Nat) = 10000000000000000 := by decide
          omega
        have HNX : Hid (valF t.data.toList 0 (k + 1) = 10 * valF t.data.toList 0 k + (byAt t.data.toList (0 + k) - 48)) := rfl
        obtain ⟨V, hV⟩ : ∃ V, valF t.data.toList 0 k = V := ⟨_, rfl⟩
        have HVV := hideB hV
        rw [hV] at hv HNX
        rw [hV]
        clear hV
        by_cases hlt : k < t.size
        · have hlt' : (k : Int) < (t.size : Int) := by omega
          have HY := hideB (byS hlt)
          obtain ⟨y, hy⟩ : ∃ y, t[k] = y := ⟨_, rfl⟩
          rw [hy] at HY
          have hyl : y.toNat < 256 := y.toNat_lt
          by_cases g1 : y.toNat < 48
          · have g1' : (y.toNat : Int) < 48 := by omega
            have HNO := hideB (HNO.out (.inr (.inr (.inr (.inl (fun hd => by
              have := hd k (by rw [len_is]; exact hlt)
              rw [← HY.out] at this
              unfold digC at this
              simp at this
              omega))))))
            go_wp2_with fail
            go_ret2
            exact ⟨0, false, rfl, rfl, .inr ⟨HNO.out, rfl⟩⟩
          have g1' : ¬ (y.toNat : Int) < 48 := by omega
          by_cases g2 : 57 < y.toNat
          · have g2' : (57 : Int) < (y.toNat : Int) := by omega
            have HNO := hideB (HNO.out (.inr (.inr (.inr (.inl (fun hd => by
              have := hd k (by rw [len_is]; exact hlt)
              rw [← HY.out] at this
              unfold digC at this
              simp at this
              omega))))))
            go_wp2_with fail
            go_ret2
            exact ⟨0, false, rfl, rfl, .inr ⟨HNO.out, rfl⟩⟩
          have g2' : ¬ (57 : Int) < (y.toNat : Int) := by omega
          have HD2 : Hid (∀ j, j < k + 1 → digC (byAt t.data.toList j) = true) := fun j hj => by
            by_cases e : j = k
            · subst e; rw [← HY.out]; unfold digC; simp; omega
            · exact HD.out j (by omega)
          go_wp2_with fail
          refine ⟨⟨k + 1, by omega, by go_num, ?_, HD2⟩, by simp [intOf]; omega⟩
          rw [HNX.out, Nat.zero_add, ← HY.out]
          congr 1
          omega
        · obtain rfl : k = t.size := by omega
          have hlt' : ¬ (t.size : Int) < (t.size : Int) := by omega
          have HIN := hideB (l1In_any (V : Int) (-1000000000000000) 1000000000000000 w)
          go_wp2_with fail
          refine HIN.out.mono ?_
          rintro e w1 ⟨rfl, rfl⟩
          go_wp2_with fail
          go_ret2
          refine ⟨_, _, rfl, rfl, ?_⟩
          by_cases hb : V ≤ 1000000000000000
          · refine .inl ⟨?_, by unfold inB; simp; omega⟩
            rw [HYES.out HD.out (by rw [HVV.out]; omega), HVV.out]
          · exact .inr ⟨HNO.out (.inr (.inr (.inr (.inr (by rw [len_is, HVV.out]; omega))))), by unfold inB; simp; omega⟩
end Go.Proofs.YtagcgnhpdmhegaaGreatDoor

/-
  The specification's single nodes.
-/
namespace Go.Proofs.YtagcgnhpdmhegaaGreatDoor
open Go.RowKit
set_option linter.unusedSimpArgs false
set_option linter.unusedVariables false

set_option maxRecDepth 100000 in
theorem sNull_any (w : World) : Calls Tryz.prog 53 #[] w fun e w' => e = .returned (.slice (some ⟨w.heap.size, 0, none⟩) 1 1) ∧ Nest w.heap.size w' (.slice (some ⟨w.heap.size, 0, none⟩) 1 1) (leafN 1 0 ByteArray.empty) (fun _ => .slice none 0 0) (fun _ => .slice none 0 0) ∧ Below w.heap.size w w' := by
  go_enter Tryz.func53, Tryz.ntmps53
  go_wp2_with fail
  go_ret
  exact ⟨rfl, leaf_nest w 1 0 ⟨#[]⟩, (Below.refl _ _).alloc (Nat.le_refl _) _⟩
set_option maxRecDepth 100000 in
theorem sBool_any (b : Bool) (w : World) : Calls Tryz.prog 54 #[.bool b] w fun e w' => e = .returned (.slice (some ⟨w.heap.size, 0, none⟩) 1 1) ∧ Nest w.heap.size w' (.slice (some ⟨w.heap.size, 0, none⟩) 1 1) (leafN 2 (if b = true then 1 else 0) ByteArray.empty) (fun _ => .slice none 0 0) (fun _ => .slice none 0 0) ∧ Below w.heap.size w w' := by
  cases b
  · go_enter Tryz.func54, Tryz.ntmps54
    go_wp2_with fail
    go_ret
    exact ⟨rfl, leaf_nest w 2 0 ⟨#[]⟩, (Below.refl _ _).alloc (Nat.le_refl _) _⟩
  · go_enter Tryz.func54, Tryz.ntmps54
    go_wp2_with fail
    go_ret
    exact ⟨rfl, leaf_nest w 2 1 ⟨#[]⟩, (Below.refl _ _).alloc (Nat.le_refl _) _⟩
set_option maxRecDepth 100000 in
theorem sNumber_any (n : Int) (w : World) : Calls Tryz.prog 55 #[.int .i64 n] w fun e w' => e = .returned (.slice (some ⟨w.heap.size, 0, none⟩) 1 1) ∧ Nest w.heap.size w' (.slice (some ⟨w.heap.size, 0, none⟩) 1 1) (leafN 3 n ByteArray.empty) (fun _ => .slice none 0 0) (fun _ => .slice none 0 0) ∧ Below w.heap.size w w' := by
  go_enter Tryz.func55, Tryz.ntmps55
  go_wp2_with fail
  go_ret
  exact ⟨rfl, leaf_nest w 3 n ⟨#[]⟩, (Below.refl _ _).alloc (Nat.le_refl _) _⟩
set_option maxRecDepth 100000 in
theorem sWord_any (s : ByteArray) (w : World) : Calls Tryz.prog 57 #[.string s] w fun e w' => e = .returned (.slice (some ⟨w.heap.size, 0, none⟩) 1 1) ∧ Nest w.heap.size w' (.slice (some ⟨w.heap.size, 0, none⟩) 1 1) (leafN 4 0 s) (fun _ => .slice none 0 0) (fun _ => .slice none 0 0) ∧ Below w.heap.size w w' := by
  go_enter Tryz.func57, Tryz.ntmps57
  go_wp2_with fail
  go_ret
  exact ⟨rfl, leaf_nest w 4 0 s, (Below.refl _ _).alloc (Nat.le_refl _) _⟩
end Go.Proofs.YtagcgnhpdmhegaaGreatDoor

/-
  The specification's l2Rj: a number.
-/
namespace Go.Proofs.YtagcgnhpdmhegaaGreatDoor
open Go.RowKit
set_option linter.unusedSimpArgs false
set_option linter.unusedVariables false

/-- What 'digits' leaves. -/
def DigOr (rb p c : Nat) (s : ByteArray) (bad : Bool) (w : World) (e : Ending) (w' : World) : Prop :=
  But rb w w' ∧ ∃ (n : Int) (q : Nat) (b : Bool) (a : Option Addr) (k : Nat), e = .returned (.slice a 1 k) ∧ Nest w.heap.size w' (.slice a 1 k) (leafN 3 n ByteArray.empty) (fun _ => .slice none 0 0) (fun _ => .slice none 0 0) ∧ SjAt w' rb s q b c ∧ (bad = true → b = true) ∧ (bad = false → (numJ s.data.toList p = some (n, q) ∧ b = false) ∨ (numJ s.data.toList p = none ∧ b = true))
theorem zero_int : intT (ByteArray.mk #[48]).data.toList = some 0 := by decide +kernel

set_option maxRecDepth 100000 in
set_option maxHeartbeats 12800000 in
theorem sjDigits_any {rb p c : Nat} {s : ByteArray} {bad : Bool} {w : World} (h : SjAt w rb s p bad c) (hs : s.size ≤ 4000) :
    Calls Tryz.prog 67 #[.pointer (some ⟨rb, 0, none⟩)] w (DigOr rb p c s bad w) := by
  have H := hideB h
  have HLN := hideB (len_is s)
  have hle := h.le
  obtain ⟨c0, c1, c2, c3⟩ := h.cells
  clear h
  have HW := hideB (numW_int (L := s.data.toList) (p := p) (by rw [HLN.out]; exact hle))
  have HNA : Hid (∀ z, dgJ s.data.toList (numAt s.data.toList p) = z → numW s.data.toList p = (s.data.toList.drop p).take (z - p)) := fun z hz => by unfold numW; rw [hz]
  go_enter Tryz.func67, Tryz.ntmps67
  go_upto_region 2 with fail
  go_cut [32] (fun v wx => v = .bool (isAt s.data.toList p 45) ∧ SjAt wx rb s p bad c ∧ But rb w wx)
  case first =>
    by_cases hp : p < s.size
    focus
      have dp : decide ((p : Int) < (s.size : Int)) = true := by simp; omega
      have ep : ((p : Int)).toNat = p := by omega
      have HBY := hideB (byS hp)
      obtain ⟨y, hy⟩ : ∃ y, s[p] = y := ⟨_, rfl⟩
      rw [hy] at HBY
      have hyl : y.toNat < 256 := y.toNat_lt
      by_cases h45 : y.toNat = 45
      focus
        have b45 : ((y.toNat : Int) == 45) = true := by simp; omega
        have HQ : Hid (isAt s.data.toList p 45 = true) := isAt_yes.2 ⟨by rw [HLN.out]; exact hp, by rw [← HBY.out]; exact h45⟩
        clear h45
        go_quiet (fail)
      rotate_left
      focus
        have b45 : ((y.toNat : Int) == 45) = false := by simp; omega
        have HQ : Hid (isAt s.data.toList p 45 = false) := by rw [Hid, isAt_no, ← HBY.out]; exact fun e => h45 e.2
        clear h45
        go_quiet (fail)
    rotate_left 2
    focus
      have dp : decide ((p : Int) < (s.size : Int)) = false := by simp; omega
      have HQ : Hid (isAt s.data.toList p 45 = false) := by rw [Hid, isAt_no, HLN.out]; exact fun e => hp e.1
      go_quiet (fail)
    all_goals
      have HD1 := hideB (below_drewB (w := w) nq)
      have HS1 := hideB (H.out.below HD1.out)
      have HB1 := hideB (But.of_below (rb := rb) HD1.out)
      generalize w.drewN nq = W1 at HS1 HB1 HD1 ⊢
      clear nq c0 c1 c2 c3
      go_wp2
      go_meet
      exact ⟨by rw [HQ.out], HS1.out, HB1.out⟩
  case rest =>
    obtain ⟨rfl, hS1, hB1⟩ := hcut
    have HS1 := hideB hS1
    have HB1 := hideB hB1
    obtain ⟨k0, k1, k2, k3⟩ := hS1.cells
    have f1 := hS1.free 1
    clear hS1 hB1 c0 c1 c2 c3
    go_upto_if 32 with fail
    go_cut [] (fun wx => ∃ Q, SjAt wx rb s Q bad c ∧ But rb w wx ∧ Hid (numAt s.data.toList p = Q) ∧ p ≤ Q)
    case first =>
      cases h45 : isAt s.data.toList p 45
      · go_wp2_with fail
        go_meet
        exact ⟨p, HS1.out, HB1.out, (by rw [Hid]; unfold numAt; rw [if_neg (by rw [h45]; simp)]), Nat.le_refl _⟩
      · have hp : p < s.size := by have := (isAt_yes.1 h45).1; rw [HLN.out] at this; exact this
        have e1 : ((p + 1 : Nat) : Int) = (p : Int) + 1 := by omega
        go_wp2_with fail
        go_meet
        refine ⟨p + 1, ?_, HB1.out.trans (But.of_set _ _), (by rw [Hid]; unfold numAt; rw [if_pos h45]), by omega⟩
        rw [← e1]
        exact HS1.out.setP hp
    case rest =>
      obtain ⟨Q, hS2, hB2, HQ, hpQ⟩ := hcut
      have HS2 := hideB hS2
      have HB2 := hideB hB2
      clear hS2 hB2 HS1 HB1 k0 k1 k2 k3 f1
      go_wp2_with fail
      go_loopw [] (fun wr => ∃ q, SjAt wr rb s q bad c ∧ Hid (dgJ s.data.toList q = dgJ s.data.toList Q) ∧ Q ≤ q ∧ But rb w wr) (fun wr => s.size - placeOf wr rb)
      case atStart => exact ⟨Q, HS2.out, rfl, Nat.le_refl _, HB2.out⟩
      case round =>
        obtain ⟨q, hsr, HK, hQq, hbt⟩ := hrel
        have HS := hideB hsr
        have HBT := hideB hbt
        obtain ⟨h0, h1, h2, h3⟩ := hsr.cells
        have h5 := hsr.le
        clear hsr hbt HS2 HB2
        go_upto_region 4 with fail
        go_cut [73] (fun v wx => (v = .bool (decide (q < s.size ∧ digC (byAt s.data.toList q) = true))) ∧ SjAt wx rb s q bad c ∧ But rb w wx)
        case first =>
          by_cases hq : q < s.size
          focus
            have hq' : decide ((q : Int) < (s.size : Int)) = true := by simp; omega
            have eq : ((q : Int)).toNat = q := by omega
            have HY := hideB (byS hq)
            obtain ⟨x, hx⟩ : ∃ x, s[q] = x := ⟨_, rfl⟩
            rw [hx] at HY
            by_cases g1 : 48 ≤ x.toNat
            focus
              have d1 : decide ((48 : Int) ≤ (x.toNat : Int)) = true := by simp; omega
              by_cases g2 : x.toNat ≤ 57
              focus
                have d2 : decide ((x.toNat : Int) ≤ 57) = true := by simp; omega
                have HV : Hid (decide (q < s.size ∧ digC (byAt s.data.toList q) = true) = true) := by rw [Hid, ← HY.out]; unfold digC; simp; omega
                clear g1 g2
                go_quiet (fail)
              rotate_left
              focus
                have d2 : decide ((x.toNat : Int) ≤ 57) = false := by simp; omega
                have HV : Hid (decide (q < s.size ∧ digC (byAt s.data.toList q) = true) = false) := by rw [Hid, ← HY.out]; unfold digC; simp; omega
                clear g1 g2
                go_quiet (fail)
            rotate_left 2
            focus
              have d1 : decide ((48 : Int) ≤ (x.toNat : Int)) = false := by simp; omega
              have HV : Hid (decide (q < s.size ∧ digC (byAt s.data.toList q) = true) = false) := by rw [Hid, ← HY.out]; unfold digC; simp; omega
              clear g1
              go_quiet (fail)
          rotate_left 3
          focus
            have hq' : decide ((q : Int) < (s.size : Int)) = false := by simp; omega
            have HV : Hid (decide (q < s.size ∧ digC (byAt s.data.toList q) = true) = false) := by rw [Hid]; simp; omega
            go_quiet (fail)
          all_goals
            have HD3 := hideB (below_drewB (w := wr) nq)
            have HS3 := hideB (HS.out.below HD3.out)
            have HB3 := hideB (HBT.out.trans (But.of_below HD3.out))
            generalize wr.drewN nq = W3 at HS3 HB3 HD3 ⊢
            clear nq h0 h1 h2 h3
            go_wp2
            go_meet
            exact ⟨by rw [HV.out], HS3.out, HB3.out⟩
        case rest =>
          obtain ⟨rfl, hS3, hB3⟩ := hcut
          have HS3 := hideB hS3
          have HB3 := hideB hB3
          clear h0 h1 h2 h3
          obtain ⟨h0, h1, h2, h3⟩ := hS3.cells
          have f1 := hS3.free 1
          clear hS3 hB3
          by_cases hd : q < s.size ∧ digC (byAt s.data.toList q) = true
          · have hdd : decide (q < s.size ∧ digC (byAt s.data.toList q) = true) = true := by simpa using hd
            have hq := hd.1
            have HNX : Hid (dgJ s.data.toList q = dgJ s.data.toList (q + 1)) := runJ_yes (by rw [HLN.out]; exact hq) hd.2
            have e1 : ((q + 1 : Nat) : Int) = (q : Int) + 1 := by omega
            rw [hdd]
            clear hd hdd
            go_wp2_with fail
            go_roundw
            case rel =>
              refine ⟨q + 1, ?_, ?_, by omega, HB3.out.trans (But.of_set _ _)⟩
              · rw [← e1]
                exact HS3.out.setP hq
              · rw [Hid, ← HNX.out]; exact HK.out
            case measure =>
              rw [HS.out.placeOf, ← e1, (HS3.out.setP hq).placeOf]
              omega
          · have hdd : decide (q < s.size ∧ digC (byAt s.data.toList q) = true) = false := by simpa using hd
            have HNX : Hid (dgJ s.data.toList q = q) := runJ_no (fun e => hd ⟨by rw [← HLN.out]; exact e.1, e.2⟩)
            rw [hdd]
            clear hd hdd f1
            generalize wc = W3 at HS3 HB3 h0 h1 h2 h3 ⊢
            have HZ : Hid (dgJ s.data.toList (numAt s.data.toList p) = q) := by rw [Hid, HQ.out, ← HK.out, HNX.out]
            have HNW := hideB (HNA.out q HZ.out)
            have HW2 := hideB HW.out
            rw [HZ.out] at HW2
            rw [HNW.out] at HW2
            clear HNX HK HNW HNA HZ HW
            obtain ⟨T, hT⟩ : ∃ T, txt ((s.data.toList.drop p).take (q - p)) = T := ⟨_, rfl⟩
            have HTD : Hid ((s.data.toList.drop p).take (q - p) = T.data.toList) := by rw [Hid, ← hT, bytes_txt]
            rw [HTD.out] at HW2
            have hTs : T.size ≤ 4000 := by rw [← len_is T, ← HTD.out, List.length_take, List.length_drop, HLN.out]; omega
            have hcut : ∀ w, (Instr.slice 9 (.string s) (some (.int .i64 (p : Int))) (some (.int .i64 (q : Int))) none).run Tryz.prog w = .ok (.string T) w := fun w => by
              rw [run_cut (P := Tryz.prog) (t := 9) s p q Tryz.underlying9 (by omega) h5 w, hT]
            clear hT
            go_wp2_with fail
            go_quiet (fail)
            have HD4 := hideB (below_drewB (w := W3) nq)
            have HS4 := hideB (HS3.out.below HD4.out)
            have HB4 := hideB (HB3.out.trans (But.of_below HD4.out))
            clear h0 h1 h2 h3
            obtain ⟨h0, h1, h2, h3⟩ := HS4.out.cells
            have f2 := HS4.out.free 2
            generalize W3.drewN nq = W4 at HS4 HB4 HD4 h0 h1 h2 h3 f2 ⊢
            clear nq hcut HS3 HB3
            have HW3 : Hid (T.data.toList = [45, 48] → numJ s.data.toList p = some (0, q)) := HW2.out.1
            have HW4 : Hid (T.data.toList ≠ [45, 48] → numJ s.data.toList p = match intT T.data.toList with | none => none | some v => some (v, q)) := HW2.out.2
            clear HW2 HTD
            go_upto_if 92 with fail
            go_cut [4] (fun v wx => ∃ T' : ByteArray, v = .string T' ∧ T'.size ≤ 4000 ∧ wx = W4 ∧ Hid (numJ s.data.toList p = match intT T'.data.toList with | none => none | some v => some (v, q)))
            case first =>
              cases hm : (T.toList == (ByteArray.mk #[45, 48]).toList)
              · have hT : T.data.toList ≠ [45, 48] := fun e => by
                  have e2 : T = ByteArray.mk #[45, 48] := by rw [← txt_bytes T, e]; rfl
                  rw [e2] at hm
                  simp at hm
                have HF := hideB (HW4.out hT)
                have hm2 : ¬ T.toList = [45, 48] := fun e => hT (by rw [← ByteArray.toList_eq]; exact e)
                have hm3 : (T.toList == [45, 48]) = false := by simpa using hm2
                rw [hm3]
                clear HW3 HW4 hT hm hm2 hm3
                go_wp2_with fail
                go_meet
                exact ⟨T, rfl, hTs, rfl, HF⟩
              · have hT : T.data.toList = [45, 48] := by rw [str_eq hm]
                have HF : Hid (numJ s.data.toList p = match intT (ByteArray.mk #[48]).data.toList with | none => none | some v => some (v, q)) := by rw [Hid, zero_int]; exact HW3.out hT
                have hm2 : T.toList = [45, 48] := by rw [ByteArray.toList_eq]; exact hT
                have hm3 : (T.toList == [45, 48]) = true := by simpa using hm2
                rw [hm3]
                clear HW3 HW4 hT hm hm2 hm3
                go_wp2_with fail
                go_meet
                exact ⟨⟨#[48]⟩, rfl, by show (1 : Nat) ≤ 4000; omega, rfl, HF⟩
            case rest =>
              obtain ⟨T', rfl, hTs', rfl, HN0⟩ := hcut
              clear HW3 HW4
              have HI := hideB (l1Int_any T' (by omega) wc)
              go_wp2_with fail
              refine HI.out.mono ?_
              rintro e w5 ⟨n, ok, rfl, rfl, hor⟩
              have HOR : Hid ((numJ s.data.toList p = some (n, q) ∧ ok = true) ∨ (numJ s.data.toList p = none ∧ ok = false)) := by
                rw [Hid, HN0.out]
                rcases hor with ⟨e, o⟩ | ⟨e, o⟩
                · rw [e]; exact .inl ⟨rfl, o⟩
                · rw [e]; exact .inr ⟨rfl, o⟩
              clear hor HI
              cases ok
              · have HNO : Hid (numJ s.data.toList p = none) := by
                  rcases HOR.out with ⟨_, o⟩ | ⟨e, _⟩
                  · cases o
                  · exact e
                obtain ⟨W6, hW6⟩ : ∃ W6, w5.setCell ⟨rb, 2, none⟩ (.bool true) = W6 := ⟨_, rfl⟩
                have HS6 : Hid (SjAt W6 rb s q true c) := by rw [Hid, ← hW6]; exact HS4.out.setB true
                have HB6 : Hid (But rb w W6) := by rw [Hid, ← hW6]; exact HB4.out.trans (But.of_set _ _)
                have HNM := hideB (sNumber_any n W6)
                clear HOR
                go_wp2_with fail
                refine HNM.out.mono ?_
                rintro e w7 ⟨rfl, hn7, hb7⟩
                have HN7 := hideB (hn7.low HB6.out.size)
                have HB7 := hideB hb7
                clear hn7 hb7 hW6
                go_wp2_with fail
                go_ret
                exact ⟨HB6.out.trans (But.of_below HB7.out), n, q, true, _, _, rfl, HN7.out, HS6.out.below HB7.out, fun _ => rfl, fun _ => .inr ⟨HNO.out, rfl⟩⟩
              · have HYE : Hid (numJ s.data.toList p = some (n, q)) := by
                  rcases HOR.out with ⟨e, _⟩ | ⟨_, o⟩
                  · exact e
                  · cases o
                have HNM := hideB (sNumber_any n w5)
                clear HOR
                go_wp2_with fail
                refine HNM.out.mono ?_
                rintro e w7 ⟨rfl, hn7, hb7⟩
                have HN7 := hideB (hn7.low HB4.out.size)
                have HB7 := hideB hb7
                clear hn7 hb7
                go_wp2_with fail
                go_ret
                exact ⟨HB4.out.trans (But.of_below HB7.out), n, q, bad, _, _, rfl, HN7.out, HS4.out.below HB7.out, id, fun hb => .inl ⟨HYE.out, hb⟩⟩
end Go.Proofs.YtagcgnhpdmhegaaGreatDoor

/-
  Plain: what the specification reads is small, counts its nodes, and goes on.
-/
namespace Go.Proofs.YtagcgnhpdmhegaaGreatDoor
open Go.RowKit
set_option linter.unusedSimpArgs false
set_option linter.unusedVariables false

def SpOk (S : Nat → Nat → Option (List VN × Nat × Nat)) : Prop := ∀ p c ns q d, c ≤ 80 → S p c = some (ns, q, d) → SmNs ns ∧ d = c + ns.length ∧ d ≤ 80 ∧ p < q
theorem sorted_fine {ks ns : List ByteArray} {ps : List Nat} {l : List (List VN)} (h : sortIn ks ks.length = some (ns, ps)) (hl : ∀ i, i < ks.length → SmNs (rowAt l i)) (hk : ∀ i, i < ks.length → (keyAt ks i).size ≤ 60) (h80 : ks.length ≤ 80) :
    ns.length = ks.length ∧ ps.length = ks.length ∧ (∀ i, i < ks.length → ps.getD i 0 < ks.length) ∧ (∀ i, i < ks.length → SmNs (rowAt l (ps.getD i 0))) ∧ (∀ i, i < ns.length → (keyAt ns i).size ≤ 60) ∧ (catNs (fun j => rowAt l (ps.getD j 0)) ks.length).length = sumL (rowAt l) ks.length := by
  obtain ⟨h1, h2⟩ := sortIn_len h
  obtain ⟨s1, s2⟩ := srt_sorted h
  have hp : ∀ i, i < ks.length → ps.getD i 0 < ks.length := fun i hi => by have := srt_lt hi; rw [s1] at this; exact this
  refine ⟨h1, h2, hp, fun i hi => hl _ (hp i hi), fun i hi => ?_, ?_⟩
  · obtain ⟨j, a1, a2⟩ := sortIn_keys h _ (keyAt_mem hi)
    rw [a2]; exact hk j a1
  · rw [cat_sum, ← s1, sumL_perm (rowAt l) (srt_perm ks)]
end Go.Proofs.YtagcgnhpdmhegaaGreatDoor
