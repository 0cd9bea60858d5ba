/-
  Values of one node, as they are drawn.
-/
import Derived.Test.YtfoehkdnoneeaaaDrP
namespace Go.Proofs.Ytfoehkdnoneeaaa
open Go.RowKit
set_option linter.unusedSimpArgs false
set_option linter.unusedVariables false

def leafN (kind n : Int) (s : ByteArray) : List VN := [{ kind := kind, n := n, s := s, keys := [], kids := [] }]

theorem leaf_nest (w : World) (kind n : Int) (s : ByteArray) : Nest w.heap.size (w.alloc (.cells #[.int .i64 kind, .int .i64 n, .string s, .slice none 0 0, .slice none 0 0] 51)) (.slice (some ⟨w.heap.size, 0, none⟩) 1 1) (leafN kind n s) (fun _ => .slice none 0 0) (fun _ => .slice none 0 0) := by
  refine ⟨?_, fun i hi => ?_, fun i hi => ?_, fun i j hi hj hne => ?_, fun i j hi hj hne => ?_⟩
  · have := World.ownsRow_lit (base := w.heap.size) (e := 51) (size := 5) w #[.int .i64 kind, .int .i64 n, .string s, .slice none 0 0, .slice none 0 0] 1 (Nat.le_refl _) (by simp [maxLen]) rfl
    have eu : upd (fun _ => Value.slice none 0 0) 0 (.slice none 0 0) = fun _ => .slice none 0 0 := by funext i; unfold upd; split <;> rfl
    have e : nestCells (leafN kind n s) (fun _ => .slice none 0 0) (fun _ => .slice none 0 0) = [.int .i64 kind, .int .i64 n, .string s, .slice none 0 0, .slice none 0 0] := by
      have h := nestCells_snoc [] { kind := kind, n := n, s := s, keys := [], kids := [] } (fun _ => .slice none 0 0) (fun _ => .slice none 0 0) (.slice none 0 0) (.slice none 0 0)
      simp only [List.length_nil, eu, List.nil_append] at h
      exact h
    rw [e]
    exact this
  · obtain rfl : i = 0 := by simp [leafN] at hi; omega
    exact World.ownsRow_nil _ _ _ _
  · obtain rfl : i = 0 := by simp [leafN] at hi; omega
    exact World.ownsRow_nil _ _ _ _
  · simp [leafN] at hi hj; omega
  · simp [leafN] at hi hj; omega

theorem leaf_fine {kind n : Int} {s : ByteArray} (h1 : 0 ≤ kind) (h2 : kind ≤ 6) (h3 : -10000000000000000 ≤ n) (h4 : n ≤ 10000000000000000) (h5 : s.size ≤ 60) : Fine 1 (leafN kind n s) := by
  refine ⟨by simp [leafN], by simp [leafN], fun j hj => ?_⟩
  obtain rfl : j = 0 := by simp [leafN] at hj; omega
  exact ⟨by show 0 ≤ 3; omega, fun i hi => absurd hi (by show ¬ i < 0; omega), by show 0 ≤ 3; omega, fun i hi => absurd hi (by show ¬ i < 0; omega), h5, ⟨by show _ ≤ kind; omega, by show kind ≤ _; omega⟩, ⟨by show _ ≤ n; omega, by show n ≤ _; omega⟩⟩

set_option maxHeartbeats 800000 in
theorem l1Null_any (w : World) : Calls Try.prog 40 #[] w fun e w' => ∃ r vs KV IV, e = .returned r ∧ Fine 1 vs ∧ Nest w.heap.size w' r vs KV IV ∧ Below w.heap.size w w' := by
  go_enter Try.func40, Try.ntmps40
  go_wp2_with fail
  go_ret
  exact ⟨_, leafN 1 0 ByteArray.empty, _, _, rfl, leaf_fine (by omega) (by omega) (by omega) (by omega) (by decide), leaf_nest w 1 0 ByteArray.empty, (Below.refl _ _).alloc (Nat.le_refl _) _⟩

set_option maxHeartbeats 800000 in
theorem l1Bool_any (b : Bool) (w : World) : Calls Try.prog 41 #[.bool b] w fun e w' => ∃ r vs KV IV, e = .returned r ∧ Fine 1 vs ∧ Nest w.heap.size w' r vs KV IV ∧ Below w.heap.size w w' := by
  cases b
  · go_enter Try.func41, Try.ntmps41
    go_wp2_with fail
    go_ret
    exact ⟨_, leafN 2 0 ByteArray.empty, _, _, rfl, leaf_fine (by omega) (by omega) (by omega) (by omega) (by decide), leaf_nest w 2 0 ByteArray.empty, (Below.refl _ _).alloc (Nat.le_refl _) _⟩
  · go_enter Try.func41, Try.ntmps41
    go_wp2_with fail
    go_ret
    exact ⟨_, leafN 2 1 ByteArray.empty, _, _, rfl, leaf_fine (by omega) (by omega) (by omega) (by omega) (by decide), leaf_nest w 2 1 ByteArray.empty, (Below.refl _ _).alloc (Nat.le_refl _) _⟩

set_option maxHeartbeats 800000 in
theorem l1Number_any (n : Int) (w : World) (h3 : -10000000000000000 ≤ n) (h4 : n ≤ 10000000000000000) : Calls Try.prog 42 #[.int .i64 n] w fun e w' => ∃ r vs KV IV, e = .returned r ∧ Fine 1 vs ∧ Nest w.heap.size w' r vs KV IV ∧ Below w.heap.size w w' := by
  go_enter Try.func42, Try.ntmps42
  go_wp2_with fail
  go_ret
  exact ⟨_, leafN 3 n ByteArray.empty, _, _, rfl, leaf_fine (by omega) (by omega) (by omega) (by omega) (by decide), leaf_nest w 3 n ByteArray.empty, (Below.refl _ _).alloc (Nat.le_refl _) _⟩

set_option maxHeartbeats 800000 in
theorem l1Word_any (s : ByteArray) (w : World) (hs : s.size ≤ 60) : Calls Try.prog 44 #[.string s] w fun e w' => ∃ r vs KV IV, e = .returned r ∧ Fine 1 vs ∧ Nest w.heap.size w' r vs KV IV ∧ Below w.heap.size w w' := by
  go_enter Try.func44, Try.ntmps44
  go_wp2_with fail
  go_ret
  exact ⟨_, leafN 4 0 s, _, _, rfl, leaf_fine (by omega) (by omega) (by omega) (by omega) hs, leaf_nest w 4 0 s, (Below.refl _ _).alloc (Nat.le_refl _) _⟩
end Go.Proofs.Ytfoehkdnoneeaaa
