/-
  The specification's l3Big: a number in so many bytes.
-/
import Derived.Test.YtnnofahlmlikcaaPkP
import Derived.Test.YtnnofahlmlikcaaRowB
namespace Go.Proofs.Ytnnofahlmlikcaa
open Go.RowKit Go.WideShapes
set_option linter.unusedSimpArgs false
set_option linter.unusedVariables false

/-- What stands before the last 'j' bytes. -/
def bigTo (n : Int) (m j : Nat) : List UInt8 := (bigB n m).take (m - j)
theorem bigTo_all (n : Int) (m : Nat) : bigTo n m 0 = bigB n m := by unfold bigTo; rw [List.take_of_length_le]; rw [bigB_len]; omega
theorem bigTo_none (n : Int) (m : Nat) : bigTo n m m = [] := by unfold bigTo; simp
theorem bigB_drop (n : Int) (m j : Nat) (h : j ≤ m) : (bigB n m).drop (m - j) = bigB n j := by
  induction m with
  | zero => obtain rfl : j = 0 := by omega
            rfl
  | succ m ih =>
    by_cases e : j = m + 1
    · subst e; simp
    · have : m + 1 - j = (m - j) + 1 := by omega
      rw [this, bigB, List.drop_succ_cons]
      exact ih (by omega)
theorem bigTo_step (n : Int) (m j : Nat) (h : j < m) : bigTo n m j = bigTo n m (j + 1) ++ [byI (n / 256 ^ j)] := by
  unfold bigTo
  have e1 : m - j = (m - (j + 1)) + 1 := by omega
  rw [e1]
  have hl : m - (j + 1) < (bigB n m).length := by rw [bigB_len]; omega
  rw [List.take_succ_eq_append_getElem hl]
  congr 2
  have hd := bigB_drop n m (j + 1) (by omega)
  have : (bigB n m).drop (m - (j + 1)) = (bigB n m)[m - (j + 1)] :: (bigB n m).drop (m - (j + 1) + 1) := List.drop_eq_getElem_cons hl
  rw [hd, bigB] at this
  exact (List.cons.inj this).1.symm

set_option maxRecDepth 100000 in
set_option maxHeartbeats 1600000 in
theorem l3Big_any (n : Int) (m : Nat) (w : World) (h0 : -9223372036854775808 ≤ n) (h1 : n ≤ 9223372036854775807) (hm : m ≤ 8) : Calls Try.prog 57 #[.int .i64 n, .int .i64 m] w fun e w' => e = .returned (.string (txt (bigB n m))) ∧ Below w.heap.size w w' := by
  go_enter Try.func57, Try.ntmps57
  go_wp2_with fail
  go_loopw [5, 6] (fun v i wr => ∃ (j : Nat), j ≤ m ∧ i = .int .i64 ((j : Int) - 1) ∧ RowB w.heap.size wr v (bigTo n m j) ∧ Below w.heap.size w wr) (fun _ i _ => (intOf i + 1).toNat)
  case atStart => exact ⟨m, Nat.le_refl _, by go_num, by rw [bigTo_none]; exact rowB_new w, (Below.refl _ _).alloc (Nat.le_refl _) _⟩
  case round =>
    obtain ⟨j, hj, rfl, hrow, hbel⟩ := hrel
    obtain ⟨ao, co, eo⟩ := hrow.slice
    obtain ⟨q, hq⟩ : ∃ q, (bigTo n m j).length = q := ⟨_, rfl⟩
    have HR := hideB hrow
    have HB := hideB hbel
    have hz := hbel.size
    have hq8 : q ≤ 8 := by rw [← hq]; unfold bigTo; rw [List.length_take, bigB_len]; omega
    rw [hq] at eo
    have HQ := hideB hq
    subst eo
    clear hrow hbel hq
    by_cases hlt : 0 < j
    · obtain ⟨k, rfl⟩ : ∃ k, j = k + 1 := ⟨j - 1, by omega⟩
      have e0 : ((k + 1 : Nat) : Int) - 1 = (k : Int) := by omega
      rw [e0]
      have hk8 : (k : Int) ≤ 7 := by omega
      have hk0 : 0 ≤ (k : Int) := by omega
      have e1 := byI_shift n k
      have HS := hideB (bigTo_step n m k (by omega))
      go_wp2_with (at_builtin; refine wpList_push rfl _ _ rfl w.heap.size _ _ rfl HR.out (byI (n / 256 ^ k)) rfl (by rw [HQ.out]; omega) hz ?_)
      intro v' w' hr' hb'
      go_wp2_with fail
      refine ⟨⟨k, by omega, rfl, by rw [HS.out]; exact hr', HB.out.trans hb'⟩, by simp [intOf]⟩
    · obtain rfl : j = 0 := by omega
      have hc0 := HR.out.text HQ.out
      go_wp2_with fail
      go_ret
      exact ⟨ret_txt (bigTo_all n m), HB.out⟩
end Go.Proofs.Ytnnofahlmlikcaa
