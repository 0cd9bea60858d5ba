/-
  The specification's checks of one node: whether a number is within bounds, a text is one, a node is right.
-/
import Derived.Test.YtgmnihofkpjboaaDoorMem
import Derived.Test.YtgmnihofkpjboaaDoorProg
import Derived.Deep.QuietTactic
import Derived.BigQuiet
import Derived.WalkSmall
namespace Go.Proofs.YtgmnihofkpjboaaDoor
open Go.RowKit
set_option linter.unusedSimpArgs false
set_option linter.unusedVariables false

def inB (n lo hi : Int) : Bool := decide (lo ≤ n) && decide (n ≤ hi)

set_option maxHeartbeats 400000 in
theorem l1In_any (n lo hi : Int) (w : World) :
    Calls Tryd.prog 42 #[.int .i64 n, .int .i64 lo, .int .i64 hi] w fun e w' => e = .returned (.bool (inB n lo hi)) ∧ w' = w := by
  by_cases h1 : lo ≤ n
  · by_cases h2 : n ≤ hi
    · go_enter Tryd.func42, Tryd.ntmps42
      go_wp2
      go_ret
      exact ⟨ret_bool (by simp [inB, h1, h2]), rfl⟩
    · go_enter Tryd.func42, Tryd.ntmps42
      go_wp2
      go_ret
      exact ⟨ret_bool (by simp [inB, h1]; omega), rfl⟩
  · go_enter Tryd.func42, Tryd.ntmps42
    go_wp2
    go_ret
    exact ⟨ret_bool (by simp [inB]; omega), rfl⟩

/-- The first k bytes are of a text. -/
def low (s : ByteArray) (k : Nat) : Prop := ∀ j (h : j < s.size), j < k → s[j].toNat ≤ 127

theorem textB_of_low {s : ByteArray} (h : low s s.size) : textB s = decide (s.size ≤ 60) := by
  unfold textB
  rw [show (s.data.toList.all fun c => decide (c.toNat ≤ 127)) = true from ?_, Bool.and_true]
  rw [List.all_eq_true]
  intro c hc
  obtain ⟨j, hj, rfl⟩ := List.getElem_of_mem hc
  have hj' : j < s.size := by simpa using hj
  exact decide_eq_true (h j hj' hj')

theorem textB_high {s : ByteArray} {k : Nat} (hk : k < s.size) (h : 127 < s[k].toNat) : textB s = false := by
  unfold textB
  rw [show (s.data.toList.all fun c => decide (c.toNat ≤ 127)) = false from ?_, Bool.and_false]
  rw [List.all_eq_false]
  exact ⟨s[k], by rw [show s[k] = s.data.toList[k]'(by simpa using hk) from rfl]; exact List.getElem_mem _, by simp; omega⟩

theorem low_succ {s : ByteArray} {k : Nat} (hk : k < s.size) (h : low s k) (h1 : s[k].toNat ≤ 127) : low s (k + 1) := by
  intro j hj hjk
  by_cases e : j = k
  · subst e; exact h1
  · exact h j hj (by omega)

set_option maxHeartbeats 800000 in
theorem l1Text_any (s : ByteArray) (w : World) (hs : s.size ≤ 140737488355328) :
    Calls Tryd.prog 62 #[.string s] w fun e w' => e = .returned (.bool (textB s)) ∧ w' = w := by
  go_enter Tryd.func62, Tryd.ntmps62
  go_wp2
  go_loop [3] (fun i => ∃ k : Nat, k ≤ s.size ∧ i = .int .i64 k ∧ low s k) (fun i => s.size - (intOf i).toNat)
  case atStart => exact ⟨0, Nat.zero_le _, rfl, fun j _ h => by omega⟩
  case round =>
    obtain ⟨k, hk, rfl, hlow⟩ := hrel
    by_cases hlt : k < s.size
    · by_cases hc : s[k].toNat ≤ 127
      · have H : Hid (low s (k + 1)) := low_succ hlt hlow hc
        have hc' : ¬ (127 : Int) < (s[k].toNat : Int) := by omega
        go_wp2
        go_round
        case rel => exact ⟨k + 1, by omega, by go_num, H.out⟩
        case measure => simp [intOf]; omega
      · have hc' : (127 : Int) < (s[k].toNat : Int) := by omega
        have H : Hid (textB s = false) := textB_high hlt (by omega)
        go_wp2
        go_ret
        exact ⟨ret_bool H.out.symm, rfl⟩
    · obtain rfl : k = s.size := by omega
      have H : Hid (textB s = decide (s.size ≤ 60)) := textB_of_low hlow
      go_wp2
      go_ret
      exact ⟨ret_bool (by rw [H.out]; simp; omega), rfl⟩

set_option maxHeartbeats 1600000 in
theorem l1NodeOk_1 (B : Nat) (x : VN) (ka ki : Value) (w : World) (h : NodeIn B w x ka ki) (hB : B ≤ w.heap.size) (hk : x.kind = 1) :
    Calls Tryd.prog 41 #[.agg #[.int .i64 x.kind, .int .i64 x.n, .string x.s, ka, ki]] w fun e w' => e = .returned (.bool (nodeB x)) ∧ Below w.heap.size w w' := by
  have hsz := h.size
  obtain ⟨_, _, a1, c1, e1, _⟩ := h.keys
  obtain ⟨_, _, a2, c2, e2, _⟩ := h.kids
  subst e1 e2
  clear h hB
  go_enter Tryd.func41, Tryd.ntmps41
  go_wp2_with fail
  all_goals
    go_ret
    refine ⟨ret_bool ?_, (Below.refl _ _).alloc (Nat.le_refl _) _⟩
    simp [nodeB, unnamedB, namedB, len0, *]

set_option maxHeartbeats 1600000 in
theorem l1NodeOk_5 (B : Nat) (x : VN) (ka ki : Value) (w : World) (h : NodeIn B w x ka ki) (hB : B ≤ w.heap.size) (hk : x.kind = 5) :
    Calls Tryd.prog 41 #[.agg #[.int .i64 x.kind, .int .i64 x.n, .string x.s, ka, ki]] w fun e w' => e = .returned (.bool (nodeB x)) ∧ Below w.heap.size w w' := by
  have hsz := h.size
  obtain ⟨_, _, a1, c1, e1, _⟩ := h.keys
  obtain ⟨_, _, a2, c2, e2, _⟩ := h.kids
  subst e1 e2
  clear h hB
  go_enter Tryd.func41, Tryd.ntmps41
  go_wp2_with fail
  all_goals
    go_ret
    refine ⟨ret_bool ?_, (Below.refl _ _).alloc (Nat.le_refl _) _⟩
    simp [nodeB, unnamedB, namedB, len0, *]

set_option maxHeartbeats 1600000 in
theorem l1NodeOk_0 (B : Nat) (x : VN) (ka ki : Value) (w : World) (h : NodeIn B w x ka ki) (hB : B ≤ w.heap.size) (g1 : ¬ x.kind = 1) (g2 : ¬ x.kind = 2) (g3 : ¬ x.kind = 3) (g4 : ¬ x.kind = 4) (g5 : ¬ x.kind = 5) (g6 : ¬ x.kind = 6) :
    Calls Tryd.prog 41 #[.agg #[.int .i64 x.kind, .int .i64 x.n, .string x.s, ka, ki]] w fun e w' => e = .returned (.bool (nodeB x)) ∧ Below w.heap.size w w' := by
  have hsz := h.size
  obtain ⟨_, _, a1, c1, e1, _⟩ := h.keys
  obtain ⟨_, _, a2, c2, e2, _⟩ := h.kids
  subst e1 e2
  clear h hB
  have q1 : (x.kind == 1) = false := by simpa using g1
  have q2 : (x.kind == 2) = false := by simpa using g2
  have q3 : (x.kind == 3) = false := by simpa using g3
  have q4 : (x.kind == 4) = false := by simpa using g4
  have q5 : (x.kind == 5) = false := by simpa using g5
  have q6 : (x.kind == 6) = false := by simpa using g6
  have G1 : Hid (¬ x.kind = 1) := g1
  have G2 : Hid (¬ x.kind = 2) := g2
  have G3 : Hid (¬ x.kind = 3) := g3
  have G4 : Hid (¬ x.kind = 4) := g4
  have G5 : Hid (¬ x.kind = 5) := g5
  have G6 : Hid (¬ x.kind = 6) := g6
  clear g1 g2 g3 g4 g5 g6
  go_enter Tryd.func41, Tryd.ntmps41
  go_wp2_with fail
  all_goals
    go_ret
    refine ⟨ret_bool ?_, (Below.refl _ _).alloc (Nat.le_refl _) _⟩
    simp [nodeB, namedB, G1.out, G2.out, G3.out, G4.out, G5.out, G6.out]

theorem inB_01 (n : Int) : (decide (n = 0) || decide (n = 1)) = inB n 0 1 := by
  rw [Bool.eq_iff_iff]; simp [inB]; omega

set_option maxHeartbeats 1600000 in
theorem l1NodeOk_2 (B : Nat) (x : VN) (ka ki : Value) (w : World) (h : NodeIn B w x ka ki) (hB : B ≤ w.heap.size) (hk : x.kind = 2) :
    Calls Tryd.prog 41 #[.agg #[.int .i64 x.kind, .int .i64 x.n, .string x.s, ka, ki]] w fun e w' => e = .returned (.bool (nodeB x)) ∧ Below w.heap.size w w' := by
  have hsz := h.size
  obtain ⟨_, _, a1, c1, e1, _⟩ := h.keys
  obtain ⟨_, _, a2, c2, e2, _⟩ := h.kids
  subst e1 e2
  clear h hB
  go_enter Tryd.func41, Tryd.ntmps41
  go_wp2_with (go_at_call 42; refine (l1In_any _ _ _ _).mono ?_; rintro e w' ⟨rfl, rfl⟩)
  all_goals
    go_ret
    refine ⟨ret_bool ?_, (Below.refl _ _).alloc (Nat.le_refl _) _⟩
    simp [nodeB, unnamedB, namedB, len0, inB_01, *]

set_option maxHeartbeats 1600000 in
theorem l1NodeOk_3 (B : Nat) (x : VN) (ka ki : Value) (w : World) (h : NodeIn B w x ka ki) (hB : B ≤ w.heap.size) (hk : x.kind = 3) :
    Calls Tryd.prog 41 #[.agg #[.int .i64 x.kind, .int .i64 x.n, .string x.s, ka, ki]] w fun e w' => e = .returned (.bool (nodeB x)) ∧ Below w.heap.size w w' := by
  have hsz := h.size
  obtain ⟨_, _, a1, c1, e1, _⟩ := h.keys
  obtain ⟨_, _, a2, c2, e2, _⟩ := h.kids
  subst e1 e2
  clear h hB
  go_enter Tryd.func41, Tryd.ntmps41
  go_wp2_with (go_at_call 42; refine (l1In_any _ _ _ _).mono ?_; rintro e w' ⟨rfl, rfl⟩)
  all_goals
    go_ret
    refine ⟨ret_bool ?_, (Below.refl _ _).alloc (Nat.le_refl _) _⟩
    have HI : (decide (-1000000000000000 ≤ x.n) && decide (x.n ≤ 1000000000000000)) = inB x.n (-1000000000000000) 1000000000000000 := rfl
    simp [nodeB, unnamedB, namedB, len0, HI, *]

set_option maxHeartbeats 1600000 in
theorem l1NodeOk_4 (B : Nat) (x : VN) (ka ki : Value) (w : World) (h : NodeIn B w x ka ki) (hB : B ≤ w.heap.size) (hk : x.kind = 4) :
    Calls Tryd.prog 41 #[.agg #[.int .i64 x.kind, .int .i64 x.n, .string x.s, ka, ki]] w fun e w' => e = .returned (.bool (nodeB x)) ∧ Below w.heap.size w w' := by
  have hsz := h.size
  obtain ⟨_, _, a1, c1, e1, _⟩ := h.keys
  obtain ⟨_, _, a2, c2, e2, _⟩ := h.kids
  subst e1 e2
  clear h hB
  go_enter Tryd.func41, Tryd.ntmps41
  go_wp2_with (go_at_call 62; refine (l1Text_any _ _ hsz).mono ?_; rintro e w' ⟨rfl, rfl⟩)
  all_goals
    go_ret
    refine ⟨ret_bool ?_, (Below.refl _ _).alloc (Nat.le_refl _) _⟩
    simp [nodeB, unnamedB, namedB, len0, *]

end Go.Proofs.YtgmnihofkpjboaaDoor
