/-
  Plain: what escaping makes of bytes.
-/
import Derived.Lib.Builder
namespace Go.Proofs.Ytnbhologgonjnaa
set_option linter.unusedSimpArgs false
set_option linter.unusedVariables false

/-- The sign of a number below 16. -/
def hexS : List UInt8 := [48, 49, 50, 51, 52, 53, 54, 55, 56, 57, 97, 98, 99, 100, 101, 102]
def hexB (n : Nat) : UInt8 := hexS.getD n 0
def escB (c : UInt8) : List UInt8 :=
  if c = 10 then [92, 110] else if c = 92 then [92, 92] else if 32 ≤ c ∧ c ≤ 126 then [c] else [92, 120, hexB (c.toNat / 16), hexB (c.toNat % 16)]
def esc : List UInt8 → List UInt8
  | [] => []
  | c :: l => escB c ++ esc l
theorem escB_len (c : UInt8) : (escB c).length ≤ 4 := by unfold escB; split <;> (try split) <;> (try split) <;> simp
theorem esc_app (l m : List UInt8) : esc (l ++ m) = esc l ++ esc m := by
  induction l with
  | nil => rfl
  | cons c l ih => simp [esc, ih]
theorem esc_len (l : List UInt8) : (esc l).length ≤ 4 * l.length := by
  induction l with
  | nil => simp [esc]
  | cons c l ih => have := escB_len c; simp [esc]; omega
theorem esc_snoc (l : List UInt8) (k : Nat) (h : k < l.length) : esc (l.take (k + 1)) = esc (l.take k) ++ escB l[k] := by
  rw [List.take_succ_eq_append_getElem h, esc_app]; simp [esc]
theorem esc_take_len (l : List UInt8) (k : Nat) : (esc (l.take k)).length ≤ 4 * l.length := by
  have := esc_len (l.take k); have h2 : (l.take k).length ≤ l.length := by rw [List.length_take]; omega
  omega
theorem hexB_is (n : Nat) (h : n < 16) : ∃ (h' : n < hexS.length), hexB n = hexS[n] := ⟨by simpa [hexS] using h, by simp [hexB, hexS, h]⟩
end Go.Proofs.Ytnbhologgonjnaa
