/-
  The program's checks of one node.
-/
import Derived.Test.YtgmnihofkpjboaaGreatDoorSpc2
import Derived.Deep.Light
namespace Go.Proofs.YtgmnihofkpjboaaGreatDoor
open Go.RowKit
set_option linter.unusedSimpArgs false
set_option linter.unusedVariables false

set_option maxHeartbeats 800000 in
theorem textOk_any (s : ByteArray) (w : World) (hs : s.size ≤ 140737488355328) :
    Calls Tryz.prog 65 #[.string s] w fun e w' => e = .returned (.bool (textB s)) ∧ w' = w := by
  by_cases h60 : 60 < s.size
  · have H : Hid (textB s = false) := by unfold textB Hid; simp; omega
    have h' : (60 : Int) < (s.size : Int) := by omega
    go_enter Tryz.func65, Tryz.ntmps65
    go_wp2
    go_ret
    exact ⟨ret_bool H.out.symm, rfl⟩
  have h' : ¬ (60 : Int) < (s.size : Int) := by omega
  go_enter Tryz.func65, Tryz.ntmps65
  go_wp2
  go_loop [9] (fun i => ∃ k : Nat, k ≤ s.size ∧ i = .int .i64 k ∧ low s k) (fun i => s.size - (intOf i).toNat)
  case atStart => exact ⟨0, Nat.zero_le _, rfl, fun j _ h => by omega⟩
  case round =>
    obtain ⟨k, hk, rfl, hlow⟩ := hrel
    by_cases hlt : k < s.size
    · by_cases hc : s[k].toNat ≤ 127
      · have H : Hid (low s (k + 1)) := low_succ hlt hlow hc
        have hc' : ¬ (127 : Int) < (s[k].toNat : Int) := by omega
        go_wp2
        go_round
        case rel => exact ⟨k + 1, by omega, by go_num, H.out⟩
        case measure => simp [intOf]; omega
      · have hc' : (127 : Int) < (s[k].toNat : Int) := by omega
        have H : Hid (textB s = false) := textB_high hlt (by omega)
        go_wp2
        go_ret
        exact ⟨ret_bool H.out.symm, rfl⟩
    · obtain rfl : k = s.size := by omega
      have H : Hid (textB s = decide (s.size ≤ 60)) := textB_of_low hlow
      go_wp2
      go_ret
      exact ⟨ret_bool (by rw [H.out]; simp; omega), rfl⟩

set_option maxHeartbeats 1600000 in
theorem keysRise_any (B : Nat) (v : Value) (l : List ByteArray) (w : World) (h : StrsAt B w v l) :
    Calls Tryz.prog 66 #[v] w fun e w' => e = .returned (.bool (riseB l)) ∧ w' = w := by
  obtain ⟨hkn, hks, a1, c1, rfl, hcell⟩ := h
  go_enter Tryz.func66, Tryz.ntmps66
  go_wp2_with fail
  go_loopw [7] (fun i wr => ∃ k : Nat, k ≤ l.length ∧ i = .int .i64 k ∧ (∀ j, j < k → riseAt l j = true) ∧ wr = w) (fun i _ => l.length - (intOf i).toNat)
  case atStart => exact ⟨0, Nat.zero_le _, rfl, fun j hj => by omega, rfl⟩
  case round =>
    obtain ⟨k, hkl, rfl, hrise, rfl⟩ := hrel
    by_cases hlt : k < l.length
    · obtain ⟨b, o, rfl, hbB, hc⟩ := hcell (by omega)
      have hck := hc k hlt
      have hs := hks k hlt
      by_cases ht : textB (keyAt l k) = true
      · by_cases h0 : k = 0
        · have HR : Hid (∀ j, j < k + 1 → riseAt l j = true) := fun j hj => by
            obtain rfl : j = k := by omega
            simp only [riseAt, ht, h0, decide_true, Bool.true_or, Bool.and_true]
            rw [h0] at ht
            exact ht
          have hd : ¬ (0 : Int) < (k : Int) := by omega
          have HX := hideIt h0
          clear hrise hc hcell h0
          go_wp2_with fail
          refine (textOk_any _ _ hs).mono ?_
          rintro e w1 ⟨rfl, rfl⟩
          go_wp2_with fail
          go_roundw
          case rel => exact ⟨k + 1, by omega, by go_num, HR.out, by trivial⟩
          case measure => simp [intOf]; omega
        · have hcm := hc (k - 1) (by omega)
          have hd : (0 : Int) < (k : Int) := by omega
          have p0 : ((k : Int) - 1).toNat = k - 1 := by omega
          by_cases hl : Op.bytesLess (keyAt l (k - 1)).toList (keyAt l k).toList = true
          · have HR : Hid (∀ j, j < k + 1 → riseAt l j = true) := fun j hj => by
              by_cases e : j = k
              · subst e; simp [riseAt, ht, lessB, hl]
              · exact hrise j (by omega)
            clear hrise hc hcell
            go_wp2_with fail
            refine (textOk_any _ _ hs).mono ?_
            rintro e w1 ⟨rfl, rfl⟩
            go_wp2_with fail
            go_roundw
            case rel => exact ⟨k + 1, by omega, by go_num, HR.out, by trivial⟩
            case measure => simp [intOf]; omega
          · have HR : Hid (riseB l = false) := riseB_false hlt (by simp [riseAt, ht, lessB, hl]; omega)
            have hl' : Op.bytesLess (keyAt l (k - 1)).toList (keyAt l k).toList = false := by simpa using hl
            clear hrise hc hcell hl
            go_wp2_with fail
            refine (textOk_any _ _ hs).mono ?_
            rintro e w1 ⟨rfl, rfl⟩
            go_wp2_with fail
            go_ret
            exact ⟨ret_bool HR.out.symm, rfl⟩
      · have HR : Hid (riseB l = false) := riseB_false hlt (by simp [riseAt, ht])
        have ht' : textB (keyAt l k) = false := by simpa using ht
        clear hrise hc hcell ht
        go_wp2_with fail
        refine (textOk_any _ _ hs).mono ?_
        rintro e w1 ⟨rfl, rfl⟩
        go_wp2_with fail
        go_ret
        exact ⟨ret_bool HR.out.symm, rfl⟩
    · obtain rfl : k = l.length := by omega
      have HR : Hid (riseB l = true) := riseB_true hrise
      clear hrise hcell
      go_wp2_with fail
      go_ret
      exact ⟨ret_bool HR.out.symm, rfl⟩

set_option maxHeartbeats 3200000 in
theorem unnamedZero_any (B : Nat) (x : VN) (ka ki : Value) (w : World) (h : NodeIn B w x ka ki) :
    Calls Tryz.prog 56 #[.agg #[.int .i64 x.kind, .int .i64 x.n, .string x.s, ka, ki]] w fun e w' => e = .returned (.bool (unnamedB x)) ∧ Below w.heap.size w w' := by
  obtain ⟨_, _, a1, c1, e1, _⟩ := h.keys
  obtain ⟨_, _, a2, c2, e2, _⟩ := h.kids
  subst e1 e2
  clear h
  go_enter Tryz.func56, Tryz.ntmps56
  go_wp2_with fail
  all_goals
    go_ret
    refine ⟨ret_bool ?_, (Below.refl _ _).alloc (Nat.le_refl _) _⟩
    go_light
    simp_all [unnamedB]

set_option maxHeartbeats 3200000 in
theorem namedOk_any (B : Nat) (x : VN) (ka ki : Value) (w : World) (h : NodeIn B w x ka ki) (hB : B ≤ w.heap.size) :
    Calls Tryz.prog 57 #[.agg #[.int .i64 x.kind, .int .i64 x.n, .string x.s, ka, ki]] w fun e w' => e = .returned (.bool (namedB x)) ∧ Below w.heap.size w w' := by
  have hsz := h.size
  have HK := hideIt h.keys
  obtain ⟨_, _, a1, c1, e1, _⟩ := h.keys
  obtain ⟨_, _, a2, c2, e2, _⟩ := h.kids
  subst e1 e2
  clear h
  have hw1 : ∀ o, Below w.heap.size w (w.alloc o) := fun o => (Below.refl _ _).alloc (Nat.le_refl _) o
  go_enter Tryz.func57, Tryz.ntmps57
  go_wp2_with (first
    | (go_at_call 65; refine (textOk_any _ _ hsz).mono ?_; rintro e w' ⟨rfl, rfl⟩)
    | (go_at_call 66; refine (keysRise_any B _ x.keys _ (HK.out.below ((hw1 _).mono hB))).mono ?_; rintro e w' ⟨rfl, rfl⟩))
  all_goals
    go_ret
    refine ⟨ret_bool ?_, hw1 _⟩
    go_light
    simp_all [namedB] <;> first | omega | (intro _; omega) | (intro g; exfalso; omega) | (rw [Bool.eq_iff_iff]; simp; omega)
end Go.Proofs.YtgmnihofkpjboaaGreatDoor
