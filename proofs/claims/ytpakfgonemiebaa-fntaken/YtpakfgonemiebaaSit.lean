/-
  One node alone, in new memory.
-/
import Derived.Test.YtpakfgonemiebaaAppS
import Derived.Test.YtpakfgonemiebaaRdC
import Derived.Test.YtpakfgonemiebaaStepN
namespace Go.Proofs.Ytpakfgonemiebaa
open Go.RowKit
set_option linter.unusedSimpArgs false
set_option linter.unusedVariables false

def leafN (kind n : Int) (s : ByteArray) : List VN := [{ kind := kind, n := n, s := s, keys := [], kids := [] }]

theorem leaf_nest (w : World) (kind n : Int) (s : ByteArray) : Nest w.heap.size (w.alloc (.cells #[.int .i64 kind, .int .i64 n, .string s, .slice none 0 0, .slice none 0 0] 78)) (.slice (some ⟨w.heap.size, 0, none⟩) 1 1) (leafN kind n s) (fun _ => .slice none 0 0) (fun _ => .slice none 0 0) := by
  refine ⟨?_, fun i hi => ?_, fun i hi => ?_, fun i j hi hj hne => ?_, fun i j hi hj hne => ?_⟩
  · have := World.ownsRow_lit (base := w.heap.size) (e := 78) (size := 5) w #[.int .i64 kind, .int .i64 n, .string s, .slice none 0 0, .slice none 0 0] 1 (Nat.le_refl _) (by simp [maxLen]) rfl
    have eu : upd (fun _ => Value.slice none 0 0) 0 (.slice none 0 0) = fun _ => .slice none 0 0 := by funext i; unfold upd; split <;> rfl
    have e : nestCells (leafN kind n s) (fun _ => .slice none 0 0) (fun _ => .slice none 0 0) = [.int .i64 kind, .int .i64 n, .string s, .slice none 0 0, .slice none 0 0] := by
      have h := nestCells_snoc [] { kind := kind, n := n, s := s, keys := [], kids := [] } (fun _ => .slice none 0 0) (fun _ => .slice none 0 0) (.slice none 0 0) (.slice none 0 0)
      simp only [List.length_nil, eu, List.nil_append] at h
      exact h
    rw [e]
    exact this
  · obtain rfl : i = 0 := by simp [leafN] at hi; omega
    exact World.ownsRow_nil _ _ _ _
  · obtain rfl : i = 0 := by simp [leafN] at hi; omega
    exact World.ownsRow_nil _ _ _ _
  · simp [leafN] at hi hj; omega
  · simp [leafN] at hi hj; omega
end Go.Proofs.Ytpakfgonemiebaa

/-
  Plain: bytes at a place as numbers and texts, as the program and the specification take them.
-/
namespace Go.Proofs.Ytpakfgonemiebaa
open Go.RowKit
set_option linter.unusedSimpArgs false
set_option linter.unusedVariables false

/-- The byte at a place. -/
def byAt (L : List UInt8) (p : Nat) : Nat := (L.getD p 0).toNat
theorem byAt_lt (L : List UInt8) (p : Nat) : byAt L p < 256 := (L.getD p 0).toNat_lt
/-- So many bytes as a number, the highest first. -/
def bigN (L : List UInt8) (p : Nat) : Nat → Nat
  | 0 => 0
  | k + 1 => 256 * bigN L p k + byAt L (p + k)
theorem bigN_lt (L : List UInt8) (p k : Nat) : bigN L p k < 256 ^ k := by
  induction k with
  | zero => simp [bigN]
  | succ k ih => have := byAt_lt L (p + k); rw [bigN, Nat.pow_succ]; omega
theorem bigN_mono (L : List UInt8) (p : Nat) {j k : Nat} (h : j ≤ k) : bigN L p j ≤ bigN L p k := by
  induction k with
  | zero => obtain rfl : j = 0 := by omega
            exact Nat.le_refl _
  | succ k ih =>
    by_cases e : j = k + 1
    · subst e; exact Nat.le_refl _
    · have := ih (by omega); rw [bigN]; omega
def cutT (L : List UInt8) (p n : Nat) : ByteArray := txt ((L.drop p).take n)
theorem cutT_size {L : List UInt8} {p n : Nat} (h : p + n ≤ L.length) : (cutT L p n).size = n := by
  unfold cutT; rw [txt_size, List.length_take, List.length_drop]; omega
def numT (n : Int) : VT := .mk 3 n ByteArray.empty [] []
def wordT (s : ByteArray) : VT := .mk 4 0 s [] []
def nullT : VT := .mk 1 0 ByteArray.empty [] []
def boolT (n : Int) : VT := .mk 2 n ByteArray.empty [] []
/-- The greatest number. -/
def maxI : Nat := 1000000000000000
/-- The program: a number in so many bytes, within its bounds; a text of so many. -/
def numI (L : List UInt8) (p w : Nat) : Option (Nat × Nat) := if p + w ≤ L.length ∧ bigN L p w ≤ maxI then some (bigN L p w, p + w) else none
def takeI (L : List UInt8) (n p : Nat) : Option (ByteArray × Nat) := if p + n ≤ L.length then some (cutT L p n, p + n) else none
def wordI (L : List UInt8) (n p : Nat) : Option (VT × Nat) := if p + n ≤ L.length then some (wordT (cutT L p n), p + n) else none
/-- The specification: the same. -/
def bigS (L : List UInt8) (p w : Nat) : Option (Nat × Nat) := if p + w ≤ L.length ∧ bigN L p (w - 1) ≤ maxI then some (bigN L p w, p + w) else none
def takeS (L : List UInt8) (n p : Nat) : Option (ByteArray × Nat) := if n ≤ 60 ∧ p + n ≤ L.length then some (cutT L p n, p + n) else none

theorem leaf_lay (f : Nat) (k n : Int) (s : ByteArray) : layT (f + 1) (.mk k n s [] []) 0 = leafN k n s := rfl
theorem leaf_full (f : Nat) (k n : Int) (s : ByteArray) : FullT (f + 1) (.mk k n s [] []) := fun j hj => absurd hj (by simp)
theorem leaf_len (k n : Int) (s : ByteArray) : (leafN k n s).length = 1 := rfl
/-- A leaf that is wrong by itself. -/
theorem leaf_wrong {k n : Int} {s : ByteArray} (h : nodeB { kind := k, n := n, s := s, keys := [], kids := [] } = false) : Wrong (leafN k n s) := ⟨0, by simp [leafN], h⟩
theorem big_num {n : Int} (h : n < -1000000000000000 ∨ 1000000000000000 < n) : nodeB { kind := 3, n := n, s := ByteArray.empty, keys := [], kids := [] } = false := by
  unfold nodeB namedB
  simp
  intro _ _
  omega
theorem big_text {s : ByteArray} (h : 60 < s.size) : textB s = false := by
  unfold textB
  simp; omega
theorem text_doom {f c deep : Nat} {s : ByteArray} (h : 60 < s.size) : Doom (f + 1) c deep (wordT s) := by
  refine .inl (fun hg => ?_)
  have h1 := hg.1
  unfold nodeT nodeB namedB at h1
  simp [big_text h] at h1
theorem num_doom {f c deep : Nat} {n : Int} (h : n < -1000000000000000 ∨ 1000000000000000 < n) : Doom (f + 1) c deep (numT n) := by
  refine .inl (fun hg => ?_)
  have h1 : nodeB { kind := 3, n := n, s := ByteArray.empty, keys := [], kids := [] } = true := hg.1
  rw [big_num h] at h1
  cases h1
theorem many_doom {f c deep : Nat} {t : VT} (hf : FullT f t) (h : 80 ≤ c) : Doom f c deep t := .inr (.inl (by have := layT_len hf 0; omega))
end Go.Proofs.Ytpakfgonemiebaa

/-
  Plain: bytes that lie at a place of a text, and the numbers and texts that are read there.
-/
namespace Go.Proofs.Ytpakfgonemiebaa
open Go.RowKit
set_option linter.unusedSimpArgs false
set_option linter.unusedVariables false

def Sit (L : List UInt8) (p : Nat) (B : List UInt8) : Prop := p ≤ L.length ∧ ∃ post, L.drop p = B ++ post
theorem Sit.left {L : List UInt8} {p : Nat} {A B : List UInt8} (h : Sit L p (A ++ B)) : Sit L p A := by
  obtain ⟨h0, post, h⟩ := h
  exact ⟨h0, B ++ post, by rw [h, List.append_assoc]⟩
theorem Sit.len {L : List UInt8} {p : Nat} {B : List UInt8} (h : Sit L p B) : p + B.length ≤ L.length := by
  obtain ⟨h0, post, h⟩ := h
  have := congrArg List.length h
  rw [List.length_drop, List.length_append] at this
  omega
theorem Sit.right {L : List UInt8} {p : Nat} {A B : List UInt8} (h : Sit L p (A ++ B)) : Sit L (p + A.length) B := by
  have hl := h.left.len
  obtain ⟨h0, post, h⟩ := h
  refine ⟨hl, post, ?_⟩
  rw [← List.drop_drop, h, List.append_assoc, List.drop_left]
theorem Sit.byte {L : List UInt8} {p : Nat} {B : List UInt8} (h : Sit L p B) {j : Nat} {x : UInt8} (hj : B[j]? = some x) : byAt L (p + j) = x.toNat := by
  obtain ⟨h0, post, h⟩ := h
  have hlt : j < B.length := by
    rcases Nat.lt_or_ge j B.length with h' | h'
    · exact h'
    · rw [List.getElem?_eq_none h'] at hj; cases hj
  have : L[p + j]? = some x := by
    rw [← List.getElem?_drop, h, List.getElem?_append_left hlt, hj]
  unfold byAt
  rw [List.getD_eq_getElem?_getD, this]
  rfl
theorem Sit.cut {L : List UInt8} {p : Nat} {s : ByteArray} (h : Sit L p s.data.toList) : cutT L p s.size = s := by
  have hl := len_is s
  obtain ⟨h0, post, h⟩ := h
  unfold cutT
  rw [h, ← hl, List.take_left]
  rfl
theorem bigB_get (n : Int) : ∀ (m j : Nat), j < m → (bigB n m)[j]? = some (byI (n / 256 ^ (m - 1 - j))) := by
  intro m
  induction m with
  | zero => intro j hj; omega
  | succ m ih =>
    intro j hj
    cases j with
    | zero => simp [bigB]
    | succ j =>
      rw [bigB, List.getElem?_cons_succ, ih j (by omega)]
      rw [show m + 1 - 1 - (j + 1) = m - 1 - j by omega]
theorem byI_nat (n k : Nat) : (byI ((n : Int) / 256 ^ k)).toNat = n / 256 ^ k % 256 := by
  have h := byI_int ((n : Int) / 256 ^ k)
  have e : ((n : Int) / 256 ^ k) % 256 = ((n / 256 ^ k % 256 : Nat) : Int) := by rw [Int.natCast_emod, Int.natCast_ediv, Int.natCast_pow]; rfl
  rw [e] at h
  exact Int.ofNat.inj h
theorem big_sit {L : List UInt8} {p n m : Nat} (h : Sit L p (bigB (n : Int) m)) (hn : n < 256 ^ m) : bigN L p m = n := by
  have key : ∀ j, j ≤ m → bigN L p j = n / 256 ^ (m - j) := by
    intro j
    induction j with
    | zero => intro _; rw [bigN, Nat.sub_zero, Nat.div_eq_of_lt hn]
    | succ j ih =>
      intro hj
      rw [bigN, ih (by omega), h.byte (bigB_get _ m j (by omega)), byI_nat]
      rw [show m - j = (m - 1 - j) + 1 by omega, Nat.pow_succ, ← Nat.div_div_eq_div_mul, show m - (j + 1) = m - 1 - j by omega]
      omega
  have := key m (Nat.le_refl _)
  rw [Nat.sub_self, Nat.pow_zero, Nat.div_one] at this
  exact this
theorem stepI_nat (n : Nat) (hn : n ≤ 1000000000000000) : n < 256 ^ (2 ^ stepI (n : Int)) := by
  unfold stepI
  split
  · have : n < 256 := by omega
    simpa using this
  split
  · have : n < 65536 := by omega
    simpa using this
  split
  · have : n < 4294967296 := by omega
    simpa using this
  · have : n < 18446744073709551616 := by omega
    simpa using this
end Go.Proofs.Ytpakfgonemiebaa
