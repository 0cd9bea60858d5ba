/-
  The specification's l1Int: a number in decimal.
-/
import Derived.Test.YtagcgnhpdmhegaaIntP
import Derived.Test.YtagcgnhpdmhegaaSpc2
import Derived.Test.YtagcgnhpdmhegaaJrT
import Derived.Test.YtagcgnhpdmhegaaJrP
import Derived.Test.YtagcgnhpdmhegaaRd4
import Derived.Test.YtagcgnhpdmhegaaSPart
namespace Go.Proofs.Ytagcgnhpdmhegaa
open Go.RowKit
set_option linter.unusedSimpArgs false
set_option linter.unusedVariables false

/-- What l1Int says. -/
def IntOr (t : ByteArray) (w : World) (e : Ending) (w' : World) : Prop := ∃ n ok, e = .returned (.tuple #[.int .i64 n, .bool ok]) ∧ w' = w ∧ ((intT t.data.toList = some n ∧ ok = true) ∨ (intT t.data.toList = none ∧ ok = false))

set_option maxRecDepth 100000 in
set_option maxHeartbeats 6400000 in
theorem l1Int_any (t : ByteArray) (ht : t.size ≤ 1048576) (w : World) :
    Calls Try.prog 41 #[.string t] w (IntOr t w) := by
  have HLT := hideB (len_is t)
  have HB0 : Hid (∀ h : 0 < t.size, byAt t.data.toList 0 = (t[0]'h).toNat) := fun h => (byS h).symm
  by_cases hneg : 1 < t.size ∧ byAt t.data.toList 0 = 45
  · obtain ⟨h1, h45⟩ := hneg
    have h0 : 0 < t.size := by omega
    have HIT : Hid (intT t.data.toList = intD true (t.data.toList.drop 1)) := intT_neg (by unfold negI; rw [HLT.out]; simp; exact ⟨h1, h45⟩)
    have HC := hideB (HB0.out h0)
    obtain ⟨y0, hy0⟩ : ∃ y, t[0] = y := ⟨_, rfl⟩
    rw [hy0] at HC
    have hy45 : ((y0.toNat : Nat) : Int) = 45 := by rw [← HC.out, h45]; rfl
    obtain ⟨U, hU⟩ : ∃ U, t.extract 1 t.size = U := ⟨_, rfl⟩
    have HUD : Hid (t.data.toList.drop 1 = U.data.toList) := by
      rw [Hid, ← hU, cut_txt, bytes_txt, List.take_of_length_le (by rw [List.length_drop, HLT.out]; exact Nat.le_refl _)]
    have hUs : U.size = t.size - 1 := by rw [← len_is U, ← HUD.out, List.length_drop, HLT.out]
    rw [HUD.out] at HIT
    have hU1 : 1 ≤ U.size := by omega
    have HUS := hideB hUs
    have h1' : (1 : Int) < (t.size : Int) := by omega
    have q1 : ¬ (U.size : Int) < 1 := by omega
    clear hUs HUD h45 HC
    have HUB := hideB (byS (s := U) (p := 0) (by omega))
    obtain ⟨z, hz⟩ : ∃ z, U[0] = z := ⟨_, rfl⟩
    rw [hz] at HUB
    go_enter Try.func41, Try.ntmps41
    have HNO : Hid (U.data.toList.length < 1 ∨ 16 < U.data.toList.length ∨ (byAt U.data.toList 0 = 48 ∧ (1 < U.data.toList.length ∨ true = true)) ∨ ¬ digsI U.data.toList ∨ 1000000000000000 < valF U.data.toList 0 U.data.toList.length → intT t.data.toList = none) := fun h => by rw [HIT.out]; exact intD_no h
    by_cases h16 : 16 < U.size
    · have h16' : (16 : Int) < (U.size : Int) := by omega
      have HN1 := hideB (HNO.out (.inr (.inl (by rw [len_is]; exact h16))))
      go_wp2_with fail
      go_ret2
      exact ⟨0, false, rfl, rfl, .inr ⟨HN1.out, rfl⟩⟩
    have h16' : ¬ (16 : Int) < (U.size : Int) := by omega
    by_cases h48 : z.toNat = 48
    · have h48' : ((z.toNat : Nat) : Int) = 48 := by omega
      have HN1 := hideB (HNO.out (.inr (.inr (.inl ⟨by rw [← HUB.out]; exact h48, .inr rfl⟩))))
      by_cases hU2 : 1 < U.size
      · have hU2' : (1 : Int) < (U.size : Int) := by omega
        go_wp2_with fail
        go_ret2
        exact ⟨0, false, rfl, rfl, .inr ⟨HN1.out, rfl⟩⟩
      · have hU2' : ¬ (1 : Int) < (U.size : Int) := by omega
        go_wp2_with fail
        go_ret2
        exact ⟨0, false, rfl, rfl, .inr ⟨HN1.out, rfl⟩⟩
    have h48' : ¬ ((z.toNat : Nat) : Int) = 48 := by omega
    have HYES : Hid ((∀ j, j < U.size → digC (byAt U.data.toList j) = true) → valF U.data.toList 0 U.size ≤ 1000000000000000 → intT t.data.toList = some (-((valF U.data.toList 0 U.size : Nat) : Int))) := fun hd hv => by
      rw [HIT.out, intD_yes, len_is]
      · rfl
      · rw [len_is]
        rintro (h | h | ⟨h, _⟩ | h | h)
        · omega
        · omega
        · rw [← HUB.out] at h; omega
        · exact h (fun j hj => hd j (by rw [← len_is]; exact hj))
        · omega
    clear HUB HUS HIT
    go_wp2_with fail
    go_loop [5, 6] (fun n i => ∃ k : Nat, k ≤ U.size ∧ i = .int .i64 k ∧ n = .int .i64 (valF U.data.toList 0 k : Nat) ∧ Hid (∀ j, j < k → digC (byAt U.data.toList j) = true)) (fun _ i => U.size - (intOf i).toNat)
    case atStart => exact ⟨0, Nat.zero_le _, rfl, rfl, fun j hj => by omega⟩
    case round =>
      obtain ⟨k, hk, rfl, rfl, HD⟩ := hrel
      have hv : valF U.data.toList 0 k < 10000000000000000 := by
        have h1 := valF_top (L := U.data.toList) (q := 0) (k := k) (fun j hj => by rw [Nat.zero_add]; exact HD.out j hj)
        have h2 : 10 ^ k ≤ 10 ^ 16 := Nat.pow_le_pow_right (by decide) (by omega)
        have h3 : (10 ^ 16 : Nat) = 10000000000000000 := by decide
        omega
      have HNX : Hid (valF U.data.toList 0 (k + 1) = 10 * valF U.data.toList 0 k + (byAt U.data.toList (0 + k) - 48)) := rfl
      obtain ⟨V, hV⟩ : ∃ V, valF U.data.toList 0 k = V := ⟨_, rfl⟩
      have HVV := hideB hV
      rw [hV] at hv HNX
      rw [hV]
      clear hV
      by_cases hlt : k < U.size
      · have hlt' : (k : Int) < (U.size : Int) := by omega
        have HY := hideB (byS hlt)
        obtain ⟨y, hy⟩ : ∃ y, U[k] = y := ⟨_, rfl⟩
        rw [hy] at HY
        have hyl : y.toNat < 256 := y.toNat_lt
        by_cases g1 : y.toNat < 48
        · have g1' : (y.toNat : Int) < 48 := by omega
          have HNO := hideB (HNO.out (.inr (.inr (.inr (.inl (fun hd => by
            have := hd k (by rw [len_is]; exact hlt)
            rw [← HY.out] at this
            unfold digC at this
            simp at this
            omega))))))
          go_wp2_with fail
          go_ret2
          exact ⟨0, false, rfl, rfl, .inr ⟨HNO.out, rfl⟩⟩
        have g1' : ¬ (y.toNat : Int) < 48 := by omega
        by_cases g2 : 57 < y.toNat
        · have g2' : (57 : Int) < (y.toNat : Int) := by omega
          have HNO := hideB (HNO.out (.inr (.inr (.inr (.inl (fun hd => by
            have := hd k (by rw [len_is]; exact hlt)
            rw [← HY.out] at this
            unfold digC at this
            simp at this
            omega))))))
          go_wp2_with fail
          go_ret2
          exact ⟨0, false, rfl, rfl, .inr ⟨HNO.out, rfl⟩⟩
        have g2' : ¬ (57 : Int) < (y.toNat : Int) := by omega
        have HD2 : Hid (∀ j, j < k + 1 → digC (byAt U.data.toList j) = true) := fun j hj => by
          by_cases e : j = k
          · subst e; rw [← HY.out]; unfold digC; simp; omega
          · exact HD.out j (by omega)
        go_wp2_with fail
        refine ⟨⟨k + 1, by omega, by go_num, ?_, HD2⟩, by simp [intOf]; omega⟩
        rw [HNX.out, Nat.zero_add, ← HY.out]
        congr 1
        omega
      · obtain rfl : k = U.size := by omega
        have hlt' : ¬ (U.size : Int) < (U.size : Int) := by omega
        have HIN := hideB (l1In_any (-(V : Int)) (-1000000000000000) 1000000000000000 w)
        go_wp2_with fail
        refine HIN.out.mono ?_
        rintro e w1 ⟨rfl, rfl⟩
        go_wp2_with fail
        go_ret2
        refine ⟨_, _, rfl, rfl, ?_⟩
        by_cases hb : V ≤ 1000000000000000
        · refine .inl ⟨?_, by unfold inB; simp; omega⟩
          rw [HYES.out HD.out (by rw [HVV.out]; omega), HVV.out]
        · exact .inr ⟨HNO.out (.inr (.inr (.inr (.inr (by rw [len_is, HVV.out]; omega))))), by unfold inB; simp; omega⟩
  · have hng : negI t.data.toList = false := by unfold negI; rw [HLT.out]; simpa using hneg
    have HIT : Hid (intT t.data.toList = intD false t.data.toList) := intT_pos hng
    have HNG := hideB hneg
    clear hng hneg
    go_enter Try.func41, Try.ntmps41
    have HNO : Hid (t.data.toList.length < 1 ∨ 16 < t.data.toList.length ∨ (byAt t.data.toList 0 = 48 ∧ (1 < t.data.toList.length ∨ false = true)) ∨ ¬ digsI t.data.toList ∨ 1000000000000000 < valF t.data.toList 0 t.data.toList.length → intT t.data.toList = none) := fun h => by rw [HIT.out]; exact intD_no h
    by_cases hU0 : t.size < 1
    · have hU0' : (t.size : Int) < 1 := by omega
      have hm : ¬ (1 : Int) < (t.size : Int) := by omega
      have HN1 := hideB (HNO.out (.inl (by rw [len_is]; exact hU0)))
      go_wp2_with fail
      go_ret2
      exact ⟨0, false, rfl, rfl, .inr ⟨HN1.out, rfl⟩⟩
    have hU0' : ¬ (t.size : Int) < 1 := by omega
    have h0 : 0 < t.size := by omega
    have HC := hideB (HB0.out h0)
    obtain ⟨z, hz⟩ : ∃ z, t[0] = z := ⟨_, rfl⟩
    rw [hz] at HC
    by_cases hU2 : 1 < t.size
    focus
      have hU2' : (1 : Int) < (t.size : Int) := by omega
      have h45 : ¬ ((z.toNat : Nat) : Int) = 45 := fun e => HNG.out ⟨hU2, by rw [HC.out]; omega⟩
      by_cases h16 : 16 < t.size
      focus
        have h16' : (16 : Int) < (t.size : Int) := by omega
        have HN1 := hideB (HNO.out (.inr (.inl (by rw [len_is]; exact h16))))
        go_wp2_with fail
        go_ret2
        exact ⟨0, false, rfl, rfl, .inr ⟨HN1.out, rfl⟩⟩
      have h16' : ¬ (16 : Int) < (t.size : Int) := by omega
      by_cases h48 : z.toNat = 48
      focus
        have h48' : ((z.toNat : Nat) : Int) = 48 := by omega
        have HN1 := hideB (HNO.out (.inr (.inr (.inl ⟨by rw [HC.out]; exact h48, .inl (by rw [len_is]; exact hU2)⟩))))
        clear h45
        go_wp2_with fail
        go_ret2
        exact ⟨0, false, rfl, rfl, .inr ⟨HN1.out, rfl⟩⟩
      have h48' : ¬ ((z.toNat : Nat) : Int) = 48 := by omega
      have HYES : Hid ((∀ j, j < t.size → digC (byAt t.data.toList j) = true) → valF t.data.toList 0 t.size ≤ 1000000000000000 → intT t.data.toList = some ((valF t.data.toList 0 t.size : Nat) : Int)) := fun hd hv => by
        rw [HIT.out, intD_yes, len_is]
        · rfl
        · rw [len_is]
          rintro (h | h | ⟨h, _⟩ | h | h)
          · omega
          · omega
          · rw [HC.out] at h; omega
          · exact h (fun j hj => hd j (by rw [← len_is]; exact hj))
          · omega
      clear HC HIT h48
      go_wp2_with fail
    rotate_left
    focus
      have hU2' : ¬ (1 : Int) < (t.size : Int) := by omega
      have h16' : ¬ (16 : Int) < (t.size : Int) := by omega
      have h16 : ¬ 16 < t.size := by omega
      have HYES : Hid ((∀ j, j < t.size → digC (byAt t.data.toList j) = true) → valF t.data.toList 0 t.size ≤ 1000000000000000 → intT t.data.toList = some ((valF t.data.toList 0 t.size : Nat) : Int)) := fun hd hv => by
        rw [HIT.out, intD_yes, len_is]
        · rfl
        · rw [len_is]
          rintro (h | h | ⟨_, h⟩ | h | h)
          · omega
          · omega
          · rcases h with h | h
            · omega
            · cases h
          · exact h (fun j hj => hd j (by rw [← len_is]; exact hj))
          · omega
      clear HC HIT
      go_wp2_with fail
    all_goals
      go_loop [5, 6] (fun n i => ∃ k : Nat, k ≤ t.size ∧ i = .int .i64 k ∧ n = .int .i64 (valF t.data.toList 0 k : Nat) ∧ Hid (∀ j, j < k → digC (byAt t.data.toList j) = true)) (fun _ i => t.size - (intOf i).toNat)
      case atStart => exact ⟨0, Nat.zero_le _, rfl, rfl, fun j hj => by omega⟩
      case round =>
        obtain ⟨k, hk, rfl, rfl, HD⟩ := hrel
        have hv : valF t.data.toList 0 k < 10000000000000000 := by
          have h1 := valF_top (L := t.data.toList) (q := 0) (k := k) (fun j hj => by rw [Nat.zero_add]; exact HD.out j hj)
          have h2 : 10 ^ k ≤ 10 ^ 16 := Nat.pow_le_pow_right (by decide) (by omega)
          have h3 : (10 ^ 16 : Nat) = 10000000000000000 := by decide
          omega
        have HNX : Hid (valF t.data.toList 0 (k + 1) = 10 * valF t.data.toList 0 k + (byAt t.data.toList (0 + k) - 48)) := rfl
        obtain ⟨V, hV⟩ : ∃ V, valF t.data.toList 0 k = V := ⟨_, rfl⟩
        have HVV := hideB hV
        rw [hV] at hv HNX
        rw [hV]
        clear hV
        by_cases hlt : k < t.size
        · have hlt' : (k : Int) < (t.size : Int) := by omega
          have HY := hideB (byS hlt)
          obtain ⟨y, hy⟩ : ∃ y, t[k] = y := ⟨_, rfl⟩
          rw [hy] at HY
          have hyl : y.toNat < 256 := y.toNat_lt
          by_cases g1 : y.toNat < 48
          · have g1' : (y.toNat : Int) < 48 := by omega
            have HNO := hideB (HNO.out (.inr (.inr (.inr (.inl (fun hd => by
              have := hd k (by rw [len_is]; exact hlt)
              rw [← HY.out] at this
              unfold digC at this
              simp at this
              omega))))))
            go_wp2_with fail
            go_ret2
            exact ⟨0, false, rfl, rfl, .inr ⟨HNO.out, rfl⟩⟩
          have g1' : ¬ (y.toNat : Int) < 48 := by omega
          by_cases g2 : 57 < y.toNat
          · have g2' : (57 : Int) < (y.toNat : Int) := by omega
            have HNO := hideB (HNO.out (.inr (.inr (.inr (.inl (fun hd => by
              have := hd k (by rw [len_is]; exact hlt)
              rw [← HY.out] at this
              unfold digC at this
              simp at this
              omega))))))
            go_wp2_with fail
            go_ret2
            exact ⟨0, false, rfl, rfl, .inr ⟨HNO.out, rfl⟩⟩
          have g2' : ¬ (57 : Int) < (y.toNat : Int) := by omega
          have HD2 : Hid (∀ j, j < k + 1 → digC (byAt t.data.toList j) = true) := fun j hj => by
            by_cases e : j = k
            · subst e; rw [← HY.out]; unfold digC; simp; omega
            · exact HD.out j (by omega)
          go_wp2_with fail
          refine ⟨⟨k + 1, by omega, by go_num, ?_, HD2⟩, by simp [intOf]; omega⟩
          rw [HNX.out, Nat.zero_add, ← HY.out]
          congr 1
          omega
        · obtain rfl : k = t.size := by omega
          have hlt' : ¬ (t.size : Int) < (t.size : Int) := by omega
          have HIN := hideB (l1In_any (V : Int) (-1000000000000000) 1000000000000000 w)
          go_wp2_with fail
          refine HIN.out.mono ?_
          rintro e w1 ⟨rfl, rfl⟩
          go_wp2_with fail
          go_ret2
          refine ⟨_, _, rfl, rfl, ?_⟩
          by_cases hb : V ≤ 1000000000000000
          · refine .inl ⟨?_, by unfold inB; simp; omega⟩
            rw [HYES.out HD.out (by rw [HVV.out]; omega), HVV.out]
          · exact .inr ⟨HNO.out (.inr (.inr (.inr (.inr (by rw [len_is, HVV.out]; omega))))), by unfold inB; simp; omega⟩
end Go.Proofs.Ytagcgnhpdmhegaa

/-
  The specification's single nodes.
-/
namespace Go.Proofs.Ytagcgnhpdmhegaa
open Go.RowKit
set_option linter.unusedSimpArgs false
set_option linter.unusedVariables false

set_option maxRecDepth 100000 in
theorem sNull_any (w : World) : Calls Try.prog 20 #[] w fun e w' => e = .returned (.slice (some ⟨w.heap.size, 0, none⟩) 1 1) ∧ Nest w.heap.size w' (.slice (some ⟨w.heap.size, 0, none⟩) 1 1) (leafN 1 0 ByteArray.empty) (fun _ => .slice none 0 0) (fun _ => .slice none 0 0) ∧ Below w.heap.size w w' := by
  go_enter Try.func20, Try.ntmps20
  go_wp2_with fail
  go_ret
  exact ⟨rfl, leaf_nest w 1 0 ⟨#[]⟩, (Below.refl _ _).alloc (Nat.le_refl _) _⟩
set_option maxRecDepth 100000 in
theorem sBool_any (b : Bool) (w : World) : Calls Try.prog 22 #[.bool b] w fun e w' => e = .returned (.slice (some ⟨w.heap.size, 0, none⟩) 1 1) ∧ Nest w.heap.size w' (.slice (some ⟨w.heap.size, 0, none⟩) 1 1) (leafN 2 (if b = true then 1 else 0) ByteArray.empty) (fun _ => .slice none 0 0) (fun _ => .slice none 0 0) ∧ Below w.heap.size w w' := by
  cases b
  · go_enter Try.func22, Try.ntmps22
    go_wp2_with fail
    go_ret
    exact ⟨rfl, leaf_nest w 2 0 ⟨#[]⟩, (Below.refl _ _).alloc (Nat.le_refl _) _⟩
  · go_enter Try.func22, Try.ntmps22
    go_wp2_with fail
    go_ret
    exact ⟨rfl, leaf_nest w 2 1 ⟨#[]⟩, (Below.refl _ _).alloc (Nat.le_refl _) _⟩
set_option maxRecDepth 100000 in
theorem sNumber_any (n : Int) (w : World) : Calls Try.prog 42 #[.int .i64 n] w fun e w' => e = .returned (.slice (some ⟨w.heap.size, 0, none⟩) 1 1) ∧ Nest w.heap.size w' (.slice (some ⟨w.heap.size, 0, none⟩) 1 1) (leafN 3 n ByteArray.empty) (fun _ => .slice none 0 0) (fun _ => .slice none 0 0) ∧ Below w.heap.size w w' := by
  go_enter Try.func42, Try.ntmps42
  go_wp2_with fail
  go_ret
  exact ⟨rfl, leaf_nest w 3 n ⟨#[]⟩, (Below.refl _ _).alloc (Nat.le_refl _) _⟩
set_option maxRecDepth 100000 in
theorem sWord_any (s : ByteArray) (w : World) : Calls Try.prog 23 #[.string s] w fun e w' => e = .returned (.slice (some ⟨w.heap.size, 0, none⟩) 1 1) ∧ Nest w.heap.size w' (.slice (some ⟨w.heap.size, 0, none⟩) 1 1) (leafN 4 0 s) (fun _ => .slice none 0 0) (fun _ => .slice none 0 0) ∧ Below w.heap.size w w' := by
  go_enter Try.func23, Try.ntmps23
  go_wp2_with fail
  go_ret
  exact ⟨rfl, leaf_nest w 4 0 s, (Below.refl _ _).alloc (Nat.le_refl _) _⟩
end Go.Proofs.Ytagcgnhpdmhegaa

/-
  A nest of nodes, from a lower block on.
-/
namespace Go.Proofs.Ytagcgnhpdmhegaa
open Go.RowKit

theorem Nest.low {base base' : Nat} {w : World} {v : Value} {vs : List VN} {KV IV : Nat → Value} (h : Nest base w v vs KV IV) (hb : base' ≤ base) : Nest base' w v vs KV IV :=
  ⟨own_mono h.row hb, fun i hi => own_mono (h.rk i hi) hb, fun i hi => own_mono (h.ri i hi) hb, h.dkk, h.dii⟩
end Go.Proofs.Ytagcgnhpdmhegaa
