/-
  Plain: what is escaped comes back, and has plain bytes alone.
-/
import Derived.Test.YtnbhologgonjnaaUneP
namespace Go.Proofs.Ytnbhologgonjnaa
set_option linter.unusedSimpArgs false
set_option linter.unusedVariables false
theorem hex_back0 : ∀ n : Fin 256, ¬ digI (hexB (n.val / 16)) < 0 ∧ ¬ digI (hexB (n.val % 16)) < 0 ∧ twoB (hexB (n.val / 16)) (hexB (n.val % 16)) = UInt8.ofNat n.val := by decide +kernel
theorem hex_back (c : UInt8) : ¬ digI (hexB (c.toNat / 16)) < 0 ∧ ¬ digI (hexB (c.toNat % 16)) < 0 ∧ twoB (hexB (c.toNat / 16)) (hexB (c.toNat % 16)) = c := by
  have := hex_back0 ⟨c.toNat, c.toNat_lt⟩
  simpa only [UInt8.ofNat_toNat] using this
theorem une_esc (l : List UInt8) : une (esc l) = some l := by
  induction l with
  | nil => exact une_nil
  | cons c l ih =>
    show une (escB c ++ esc l) = _
    unfold escB
    split
    · rename_i h; subst h
      show une (92 :: 110 :: esc l) = _
      rw [une_n, ih]; rfl
    · rename_i h10
      split
      · rename_i h; subst h
        show une (92 :: 92 :: esc l) = _
        rw [une_b, ih]; rfl
      · rename_i h92
        split
        · show une (c :: esc l) = _
          rw [une_plain h92, ih]; rfl
        · have h := hex_back c
          show une (92 :: 120 :: hexB (c.toNat / 16) :: hexB (c.toNat % 16) :: esc l) = _
          rw [une_x _ _ _ h.1 h.2.1, ih, h.2.2]; rfl
theorem unB_esc (l : List UInt8) : unB (esc l) = true := by simp [unB, une_esc]
theorem unT_esc (l : List UInt8) : unT (esc l) = l := by simp [unT, une_esc]
theorem esc_unT {L : List UInt8} (h : unB L = true) : esc (unT L) = L := by
  unfold unB at h
  unfold unT
  split at h
  · rename_i o ho
    have he : esc o = L := by simpa using h
    simp [ho, he]
  · cases h
theorem hexB_plain0 : ∀ n : Fin 16, 32 ≤ hexB n.val ∧ hexB n.val ≤ 126 := by decide +kernel
theorem escB_plain (c : UInt8) : ∀ x ∈ escB c, 32 ≤ x ∧ x ≤ 126 := by
  intro x hx
  have hn := c.toNat_lt
  unfold escB at hx
  split at hx
  · simp at hx; rcases hx with rfl | rfl <;> decide
  · split at hx
    · simp at hx; subst hx; decide
    · split at hx
      · rename_i h; simp at hx; subst hx; exact h
      · simp at hx
        rcases hx with rfl | rfl | rfl | rfl
        · decide
        · decide
        · exact hexB_plain0 ⟨c.toNat / 16, by omega⟩
        · exact hexB_plain0 ⟨c.toNat % 16, by omega⟩
theorem esc_plain (l : List UInt8) : ∀ x ∈ esc l, 32 ≤ x ∧ x ≤ 126 := by
  induction l with
  | nil => intro x hx; cases hx
  | cons c l ih =>
    intro x hx
    rcases List.mem_append.1 (show x ∈ escB c ++ esc l from hx) with h | h
    · exact escB_plain c x h
    · exact ih x h
end Go.Proofs.Ytnbhologgonjnaa
