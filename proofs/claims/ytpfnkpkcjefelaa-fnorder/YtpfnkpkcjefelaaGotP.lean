/-
  Paths into nodes: where a step leads, said by the place of a key among keys that rise. Plain mathematics.
-/
import Derived.Test.YtpfnkpkcjefelaaPsM
import Derived.Test.YtpfnkpkcjefelaaPartOk
namespace Go.Proofs.Ytpfnkpkcjefelaa
open Go.RowKit
set_option linter.unusedSimpArgs false
set_option linter.unusedVariables false

theorem bytes_lt (x : List UInt8) : ∀ y : List UInt8, Op.bytesLess x y = true ↔ x < y := by
  induction x with
  | nil => intro y; cases y <;> simp [Op.bytesLess]
  | cons a x ih =>
    intro y
    cases y with
    | nil => simp [Op.bytesLess]
    | cons b y =>
      have h := ih y
      rw [List.cons_lt_cons_iff, ← h]
      by_cases h1 : a < b <;> by_cases h2 : a = b <;> simp [Op.bytesLess, h1, h2]

theorem less_iff (a b : ByteArray) : lessB a b = true ↔ a.toList < b.toList := bytes_lt _ _

theorem less_trans {a b c : ByteArray} (h1 : lessB a b = true) (h2 : lessB b c = true) : lessB a c = true := by
  rw [less_iff] at *; exact List.lt_trans h1 h2
theorem less_irr (a : ByteArray) : lessB a a = false := by
  cases h : lessB a a
  · rfl
  · rw [less_iff] at h; exact absurd h (List.lt_irrefl _)
theorem less_total {a b : ByteArray} (h1 : lessB a b = false) (h2 : a.toList ≠ b.toList) : lessB b a = true := by
  have h3 : ¬ a.toList < b.toList := fun h => by rw [← less_iff] at h; rw [h1] at h; cases h
  rw [less_iff]
  by_cases h : b.toList < a.toList
  · exact h
  · exact absurd (List.le_antisymm (List.not_lt.1 h) (List.not_lt.1 h3)) h2

/-- Keys rise: each is ahead of the next one. -/
def Rise (l : List ByteArray) : Prop := ∀ i j, i < j → j < l.length → lessB (keyAt l i) (keyAt l j) = true

theorem riseB_rise {l : List ByteArray} (h : riseB l = true) : Rise l := by
  unfold riseB at h
  rw [List.all_eq_true] at h
  have h1 : ∀ j, j < l.length → 0 < j → lessB (keyAt l (j - 1)) (keyAt l j) = true := by
    intro j hj h0
    have := h j (List.mem_range.2 hj)
    unfold riseAt at this
    simp only [Bool.and_eq_true, Bool.or_eq_true, decide_eq_true_eq] at this
    rcases this.2 with e | e
    · omega
    · exact e
  intro i j hij hj
  induction j with
  | zero => omega
  | succ j ih =>
    have h2 := h1 (j + 1) hj (by omega)
    rw [Nat.add_sub_cancel] at h2
    by_cases e : i = j
    · subst e; exact h2
    · exact less_trans (ih (by omega) (by omega)) h2

/-- How many keys are ahead. -/
def posK (l : List ByteArray) (key : ByteArray) : Nat := (l.takeWhile fun k => lessB k key).length
/-- Is the key there? -/
def hasK (l : List ByteArray) (key : ByteArray) : Bool := decide (posK l key < l.length) && decide ((keyAt l (posK l key)).toList = key.toList)

theorem take_len {p : ByteArray → Bool} : ∀ {l : List ByteArray} {i : Nat}, i ≤ l.length → (∀ j, j < i → p (keyAt l j) = true) → (i < l.length → p (keyAt l i) = false) → (l.takeWhile p).length = i := by
  intro l
  induction l with
  | nil => intro i hi _ _; simp at hi; subst hi; rfl
  | cons a l ih =>
    intro i hi h1 h2
    cases i with
    | zero =>
      have := h2 (by simp)
      simp [keyAt] at this
      simp [List.takeWhile_cons, this]
    | succ i =>
      have ha := h1 0 (by omega)
      simp [keyAt] at ha
      rw [List.takeWhile_cons, if_pos ha, List.length_cons]
      rw [ih (i := i) (by simp at hi; omega) (fun j hj => by have := h1 (j + 1) (by omega); simpa [keyAt] using this) (fun hl => by have := h2 (by simp; omega); simpa [keyAt] using this)]

theorem posK_eq {l : List ByteArray} {key : ByteArray} {i : Nat} (hi : i ≤ l.length) (h1 : ∀ j, j < i → lessB (keyAt l j) key = true) (h2 : i < l.length → lessB (keyAt l i) key = false) : posK l key = i := take_len hi h1 h2

theorem posK_spec {l : List ByteArray} (key : ByteArray) : posK l key ≤ l.length ∧ (∀ j, j < posK l key → lessB (keyAt l j) key = true) ∧ (posK l key < l.length → lessB (keyAt l (posK l key)) key = false) := by
  unfold posK
  induction l with
  | nil => exact ⟨by simp, fun j hj => absurd hj (by simp), fun h => absurd h (by simp)⟩
  | cons a l ih =>
    cases h : lessB a key
    · rw [List.takeWhile_cons, h]
      refine ⟨by simp, fun j hj => absurd hj (by simp), fun _ => ?_⟩
      simpa [keyAt] using h
    · rw [List.takeWhile_cons, h]
      simp only [if_true, List.length_cons]
      refine ⟨by omega, fun j hj => ?_, fun hl => ?_⟩
      · cases j with
        | zero => simpa [keyAt] using h
        | succ j => have := ih.2.1 j (by omega); simpa [keyAt] using this
      · have := ih.2.2 (by omega); simpa [keyAt] using this

/-- Keys behind the place are not ahead of the key, but for the first they are behind it. -/
theorem Rise.behind {l : List ByteArray} (h : Rise l) {key : ByteArray} {i : Nat} (hi : i < l.length) (h1 : lessB (keyAt l i) key = false) {j : Nat} (hij : i < j) (hj : j < l.length) : lessB (keyAt l j) key = false ∧ (keyAt l j).toList ≠ key.toList := by
  have h2 := h i j hij hj
  have key1 : lessB key (keyAt l j) = true := by
    by_cases e : (keyAt l i).toList = key.toList
    · rw [less_iff] at h2 ⊢; rw [← e]; exact h2
    · exact less_trans (less_total h1 e) h2
  rw [less_iff] at key1
  refine ⟨?_, fun e => ?_⟩
  · cases h3 : lessB (keyAt l j) key
    · rfl
    · rw [less_iff] at h3; exact absurd (List.lt_trans h3 key1) (List.lt_irrefl _)
  · rw [e] at key1; exact absurd key1 (List.lt_irrefl _)

theorem less_ne {a b : ByteArray} (h : lessB a b = true) : a.toList ≠ b.toList := fun e => by
  rw [less_iff, e] at h; exact absurd h (List.lt_irrefl _)

/-- The place to which a step leads, of a value of that kind with those keys and so many parts. -/
def stepTo (kind : Int) (keys : List ByteArray) (n : Nat) (x : PS) : Option Nat :=
  if x.named = true then (if kind = 6 ∧ hasK keys x.key = true then some (posK keys x.key) else none)
  else if kind = 5 ∧ x.pl < (n : Int) then some x.pl.toNat else none

def stepN (x : VN) (s : PS) : Option Nat := stepTo x.kind x.keys x.kids.length s

/-- The first place of the key. -/
theorem hasK_first {l : List ByteArray} (h : Rise l) {key : ByteArray} {i : Nat} (hi : i < l.length) (he : (keyAt l i).toList = key.toList) (hf : ∀ j, j < i → (keyAt l j).toList ≠ key.toList) : hasK l key = true ∧ posK l key = i := by
  have hp : posK l key = i := posK_eq (by omega) (fun j hj => by
      have := h j i hj hi
      rw [less_iff] at this ⊢
      rw [← he]; exact this) (fun _ => by
      cases h3 : lessB (keyAt l i) key
      · rfl
      · exact absurd he (less_ne h3))
  refine ⟨?_, hp⟩
  unfold hasK
  rw [hp]
  simp [hi, he]

theorem hasK_none {l : List ByteArray} {key : ByteArray} (hf : ∀ j, j < l.length → (keyAt l j).toList ≠ key.toList) : hasK l key = false := by
  unfold hasK
  by_cases h : posK l key < l.length
  · simp [h, hf _ h]
  · simp [h]

/-- Following steps, node by node. -/
def gotN (vs : List VN) : Nat → List PS → Option Nat
  | i, [] => some i
  | i, s :: r => match stepN (nodeAt vs i) s with
    | none => none
    | some k => gotN vs (intAt (nodeAt vs i).kids k).toNat r

theorem stepN_lt {vs : List VN} {i k : Nat} {s : PS} (hs : s.named = true ∨ 0 ≤ s.pl) (hk : (nodeAt vs i).kind = 6 → (nodeAt vs i).keys.length = (nodeAt vs i).kids.length) (h : stepN (nodeAt vs i) s = some k) : k < (nodeAt vs i).kids.length := by
  unfold stepN stepTo at h
  split at h
  · split at h
    · rename_i h1 h2
      simp only [Option.some.injEq] at h
      subst h
      have := h2.2
      unfold hasK at this
      simp at this
      rw [← hk h2.1]
      exact this.1
    · cases h
  · split at h
    · rename_i h1 h2
      simp only [Option.some.injEq] at h
      subst h
      rcases hs with e | e
      · rw [e] at h1; exact absurd rfl h1
      · omega
    · cases h

theorem gotN_append (vs : List VN) : ∀ (p : List PS) (i : Nat) (s : PS), gotN vs i (p ++ [s]) = (gotN vs i p).bind fun j => match stepN (nodeAt vs j) s with | none => none | some k => some (intAt (nodeAt vs j).kids k).toNat := by
  intro p
  induction p with
  | nil =>
    intro i s
    simp only [List.nil_append, gotN, Option.bind_some]
  | cons a p ih =>
    intro i s
    simp only [List.cons_append, gotN]
    cases stepN (nodeAt vs i) a with
    | none => rfl
    | some k => exact ih _ s

theorem take_step {ps : List PS} {k : Nat} (h : k < ps.length) : ps.take (k + 1) = ps.take k ++ [stepAt ps k] := by
  rw [List.take_add_one, List.getElem?_eq_getElem h]
  simp [stepAt, h]

theorem gotN_none (vs : List VN) (i : Nat) {ps : List PS} {k : Nat} (h : gotN vs i (ps.take k) = none) : gotN vs i ps = none := by
  have e : ps = ps.take k ++ ps.drop k := by simp
  rw [e]
  generalize ps.drop k = r
  generalize ps.take k = q at h
  clear e
  induction q generalizing i with
  | nil => simp [gotN] at h
  | cons a q ih =>
    simp only [gotN, List.cons_append] at h ⊢
    cases hs : stepN (nodeAt vs i) a with
    | none => rfl
    | some k => rw [hs] at h; exact ih _ h
end Go.Proofs.Ytpfnkpkcjefelaa
