/-
  Plain: texts in quotes, as JSON has them.
-/
import Derived.Test.YtgikginlgjglfaaDoorTxt
namespace Go.Proofs.YtgikginlgjglfaaDoor
set_option linter.unusedSimpArgs false
set_option linter.unusedVariables false

def quoB (c : UInt8) : List UInt8 :=
  if c = 34 then [92, 34] else if c = 92 then [92, 92] else if c = 8 then [92, 98] else if c = 9 then [92, 116] else if c = 10 then [92, 110] else if c = 12 then [92, 102] else if c = 13 then [92, 114]
  else if c < 32 ∨ c = 127 then [92, 117, 48, 48, hexB (c.toNat / 16), hexB (c.toNat % 16)] else [c]
def quo : List UInt8 → List UInt8
  | [] => []
  | c :: l => quoB c ++ quo l
/-- The text in quotes. -/
def quoT (s : ByteArray) : List UInt8 := 34 :: (quo s.data.toList ++ [34])
theorem quoB_len (c : UInt8) : 1 ≤ (quoB c).length ∧ (quoB c).length ≤ 6 := by
  unfold quoB
  repeat' split
  all_goals simp
theorem quo_app (l m : List UInt8) : quo (l ++ m) = quo l ++ quo m := by
  induction l with
  | nil => rfl
  | cons c l ih => simp [quo, ih]
theorem quo_len (l : List UInt8) : (quo l).length ≤ 6 * l.length := by
  induction l with
  | nil => simp [quo]
  | cons c l ih => have := quoB_len c; simp [quo]; omega
theorem quo_snoc (l : List UInt8) (k : Nat) (h : k < l.length) : quo (l.take (k + 1)) = quo (l.take k) ++ quoB l[k] := by
  rw [List.take_succ_eq_append_getElem h, quo_app]; simp [quo]
theorem quo_take_len (l : List UInt8) (k : Nat) : (quo (l.take k)).length ≤ 6 * l.length := by
  have := quo_len (l.take k); have h2 : (l.take k).length ≤ l.length := by rw [List.length_take]; omega
  omega
theorem quoT_len (s : ByteArray) : 2 ≤ (quoT s).length ∧ (quoT s).length ≤ 6 * s.size + 2 := by
  have h1 : s.data.toList.length = s.size := Array.length_toList
  have h2 := quo_len s.data.toList
  unfold quoT
  simp only [List.length_cons, List.length_append, List.length_nil]
  omega

/-- The place of a byte that has a letter of its own. -/
def quoS : List UInt8 := [34, 92, 8, 9, 10, 12, 13]
def quoL : List UInt8 := [34, 92, 98, 116, 110, 102, 114]
theorem quo_at0 : ∀ n : Fin 256, (∃ i : Fin 7, quoS[i.val]? = some (UInt8.ofNat n.val) ∧ quoB (UInt8.ofNat n.val) = [92, quoL.getD i.val 0]) ∨ ((∀ i : Fin 7, quoS[i.val]? ≠ some (UInt8.ofNat n.val)) ∧ quoB (UInt8.ofNat n.val) = if UInt8.ofNat n.val < 32 ∨ UInt8.ofNat n.val = 127 then [92, 117, 48, 48, hexB (n.val / 16), hexB (n.val % 16)] else [UInt8.ofNat n.val]) := by decide +kernel
end Go.Proofs.YtgikginlgjglfaaDoor

/-
  Plain: numbers as bytes, and MessagePack's bytes of numbers, texts and counts.
-/
namespace Go.Proofs.YtgikginlgjglfaaDoor
set_option linter.unusedSimpArgs false
set_option linter.unusedVariables false

/-- The byte of a number. -/
def byI (n : Int) : UInt8 := UInt8.ofNat (n % 256).toNat
theorem byI_int (n : Int) : ((byI n).toNat : Int) = n % 256 := by
  have h1 : 0 ≤ n % 256 := Int.emod_nonneg _ (by decide)
  have h2 : n % 256 < 256 := Int.emod_lt_of_pos _ (by decide)
  unfold byI
  rw [UInt8.toNat_ofNat_of_lt' (show (n % 256).toNat < 256 by omega)]
  omega
theorem byI_of {x : UInt8} {n : Int} (h : (x.toNat : Int) = n % 256) : x = byI n := UInt8.toNat_inj.1 (by have := byI_int n; omega)
theorem pow256 (k : Nat) : (2 : Int) ^ (8 * k) = 256 ^ k := by rw [Int.pow_mul]; rfl
theorem byI_shift (n : Int) (k : Nat) : n / 2 ^ (8 * k) % 256 = ((byI (n / 256 ^ k)).toNat : Int) := by rw [byI_int, pow256]
/-- A number in so many bytes, the highest first. -/
def bigB (n : Int) : Nat → List UInt8
  | 0 => []
  | m + 1 => byI (n / 256 ^ m) :: bigB n m
theorem bigB_len (n : Int) (m : Nat) : (bigB n m).length = m := by
  induction m with
  | zero => rfl
  | succ m ih => simp [bigB, ih]
def stepI (m : Int) : Nat := if m < 256 then 0 else if m < 65536 then 1 else if m < 4294967296 then 2 else 3
theorem stepI_le (m : Int) : stepI m ≤ 3 := by unfold stepI; split <;> (try split) <;> (try split) <;> omega
def packI (n : Int) : List UInt8 :=
  if -32 ≤ n ∧ n ≤ 127 then [byI n] else if 0 ≤ n then byI (204 + stepI n) :: bigB n (2 ^ stepI n) else byI (208 + stepI (2 * (-1 - n))) :: bigB n (2 ^ stepI (2 * (-1 - n)))
def packW (s : ByteArray) : List UInt8 :=
  if s.size < 32 then byI (160 + s.size) :: s.data.toList else 217 :: (bigB s.size 1 ++ s.data.toList)
def packC (few many : UInt8) (c : Nat) : List UInt8 := if c < 16 then [byI (few.toNat + c)] else many :: bigB c 2
theorem pow_le3 {k : Nat} (h : k ≤ 3) : 2 ^ k ≤ 8 := by
  match k, h with
  | 0, _ => decide
  | 1, _ => decide
  | 2, _ => decide
  | 3, _ => decide
theorem packI_len (n : Int) : 1 ≤ (packI n).length ∧ (packI n).length ≤ 9 := by
  unfold packI
  split
  · simp
  · split
    · simp [bigB_len]; exact pow_le3 (stepI_le _)
    · simp [bigB_len]; exact pow_le3 (stepI_le _)
theorem packW_len (s : ByteArray) : 1 ≤ (packW s).length ∧ (packW s).length ≤ s.size + 2 := by
  have : s.data.toList.length = s.size := Array.length_toList
  unfold packW
  split
  · simp only [List.length_cons, this]; omega
  · simp only [List.length_cons, List.length_append, bigB_len, this]; omega
theorem packC_len (a b : UInt8) (c : Nat) : 1 ≤ (packC a b c).length ∧ (packC a b c).length ≤ 3 := by
  unfold packC
  split
  · simp
  · simp [bigB_len]
theorem byI_add (n k : Int) : byI (n + 256 * k) = byI n := by unfold byI; rw [Int.add_mul_emod_self_left]
theorem bigB_wrap (n : Int) : ∀ m, m ≤ 8 → bigB (n + 18446744073709551616) m = bigB n m := by
  intro m
  induction m with
  | zero => intro _; rfl
  | succ m ih =>
    intro hm
    rw [bigB, bigB, ih (by omega)]
    congr 1
    have hp : (18446744073709551616 : Int) = 256 ^ m * (256 * 256 ^ (7 - m)) := by
      have : m = 0 ∨ m = 1 ∨ m = 2 ∨ m = 3 ∨ m = 4 ∨ m = 5 ∨ m = 6 ∨ m = 7 := by omega
      rcases this with rfl | rfl | rfl | rfl | rfl | rfl | rfl | rfl <;> decide
    have hpos : (256 : Int) ^ m ≠ 0 := Int.pow_ne_zero (by decide)
    rw [hp, Int.add_mul_ediv_left _ _ hpos, byI_add]
end Go.Proofs.YtgikginlgjglfaaDoor
