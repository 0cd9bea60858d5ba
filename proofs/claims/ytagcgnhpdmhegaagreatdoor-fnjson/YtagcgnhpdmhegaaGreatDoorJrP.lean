/-
  Plain: bytes at a place as numbers and texts, as the program and the specification take them.
-/
import Derived.Test.YtagcgnhpdmhegaaGreatDoorRdC
import Derived.Test.YtagcgnhpdmhegaaGreatDoorMem
import Derived.Test.YtagcgnhpdmhegaaGreatDoorDrL
namespace Go.Proofs.YtagcgnhpdmhegaaGreatDoor
open Go.RowKit
set_option linter.unusedSimpArgs false
set_option linter.unusedVariables false

/-- The byte at a place. -/
def byAt (L : List UInt8) (p : Nat) : Nat := (L.getD p 0).toNat
theorem byAt_lt (L : List UInt8) (p : Nat) : byAt L p < 256 := (L.getD p 0).toNat_lt
/-- So many bytes as a number, the highest first. -/
def bigN (L : List UInt8) (p : Nat) : Nat → Nat
  | 0 => 0
  | k + 1 => 256 * bigN L p k + byAt L (p + k)
theorem bigN_lt (L : List UInt8) (p k : Nat) : bigN L p k < 256 ^ k := by
  induction k with
  | zero => simp [bigN]
  | succ k ih => have := byAt_lt L (p + k); rw [bigN, Nat.pow_succ]; omega
theorem bigN_mono (L : List UInt8) (p : Nat) {j k : Nat} (h : j ≤ k) : bigN L p j ≤ bigN L p k := by
  induction k with
  | zero => obtain rfl : j = 0 := by omega
            exact Nat.le_refl _
  | succ k ih =>
    by_cases e : j = k + 1
    · subst e; exact Nat.le_refl _
    · have := ih (by omega); rw [bigN]; omega
def cutT (L : List UInt8) (p n : Nat) : ByteArray := txt ((L.drop p).take n)
theorem cutT_size {L : List UInt8} {p n : Nat} (h : p + n ≤ L.length) : (cutT L p n).size = n := by
  unfold cutT; rw [txt_size, List.length_take, List.length_drop]; omega
def numT (n : Int) : VT := .mk 3 n ByteArray.empty [] []
def wordT (s : ByteArray) : VT := .mk 4 0 s [] []
def nullT : VT := .mk 1 0 ByteArray.empty [] []
def boolT (n : Int) : VT := .mk 2 n ByteArray.empty [] []
/-- The greatest number. -/
def maxI : Nat := 1000000000000000
/-- The program: a number in so many bytes, within its bounds; a text of so many. -/
def numI (L : List UInt8) (p w : Nat) : Option (Nat × Nat) := if p + w ≤ L.length ∧ bigN L p w ≤ maxI then some (bigN L p w, p + w) else none
def takeI (L : List UInt8) (n p : Nat) : Option (ByteArray × Nat) := if p + n ≤ L.length then some (cutT L p n, p + n) else none
def wordI (L : List UInt8) (n p : Nat) : Option (VT × Nat) := if p + n ≤ L.length then some (wordT (cutT L p n), p + n) else none
/-- The specification: the same. -/
def bigS (L : List UInt8) (p w : Nat) : Option (Nat × Nat) := if p + w ≤ L.length ∧ bigN L p (w - 1) ≤ maxI then some (bigN L p w, p + w) else none
def takeS (L : List UInt8) (n p : Nat) : Option (ByteArray × Nat) := if n ≤ 60 ∧ p + n ≤ L.length then some (cutT L p n, p + n) else none

theorem leaf_lay (f : Nat) (k n : Int) (s : ByteArray) : layT (f + 1) (.mk k n s [] []) 0 = leafN k n s := rfl
theorem leaf_full (f : Nat) (k n : Int) (s : ByteArray) : FullT (f + 1) (.mk k n s [] []) := fun j hj => absurd hj (by simp)
theorem leaf_len (k n : Int) (s : ByteArray) : (leafN k n s).length = 1 := rfl
/-- A leaf that is wrong by itself. -/
theorem leaf_wrong {k n : Int} {s : ByteArray} (h : nodeB { kind := k, n := n, s := s, keys := [], kids := [] } = false) : Wrong (leafN k n s) := ⟨0, by simp [leafN], h⟩
theorem big_num {n : Int} (h : n < -1000000000000000 ∨ 1000000000000000 < n) : nodeB { kind := 3, n := n, s := ByteArray.empty, keys := [], kids := [] } = false := by
  unfold nodeB namedB
  simp
  intro _ _
  omega
theorem big_text {s : ByteArray} (h : 60 < s.size) : textB s = false := by
  unfold textB
  simp; omega
theorem text_doom {f c deep : Nat} {s : ByteArray} (h : 60 < s.size) : Doom (f + 1) c deep (wordT s) := by
  refine .inl (fun hg => ?_)
  have h1 := hg.1
  unfold nodeT nodeB namedB at h1
  simp [big_text h] at h1
theorem num_doom {f c deep : Nat} {n : Int} (h : n < -1000000000000000 ∨ 1000000000000000 < n) : Doom (f + 1) c deep (numT n) := by
  refine .inl (fun hg => ?_)
  have h1 : nodeB { kind := 3, n := n, s := ByteArray.empty, keys := [], kids := [] } = true := hg.1
  rw [big_num h] at h1
  cases h1
theorem many_doom {f c deep : Nat} {t : VT} (hf : FullT f t) (h : 80 ≤ c) : Doom f c deep t := .inr (.inl (by have := layT_len hf 0; omega))
end Go.Proofs.YtagcgnhpdmhegaaGreatDoor

/-
  Plain: what stands at a place of a text, as JSON has it: blanks, digits, words, escapes, texts.
-/
namespace Go.Proofs.YtagcgnhpdmhegaaGreatDoor
open Go.RowKit
set_option linter.unusedSimpArgs false
set_option linter.unusedVariables false

/-- Does the byte c stand at p? -/
def isAt (L : List UInt8) (p c : Nat) : Bool := decide (p < L.length) && decide (byAt L p = c)
theorem isAt_yes {L : List UInt8} {p c : Nat} : isAt L p c = true ↔ p < L.length ∧ byAt L p = c := by unfold isAt; simp
theorem isAt_no {L : List UInt8} {p c : Nat} : isAt L p c = false ↔ ¬ (p < L.length ∧ byAt L p = c) := by unfold isAt; simp

def runF (P : Nat → Bool) (L : List UInt8) : Nat → Nat → Nat
  | 0, p => p
  | f + 1, p => if P (byAt L p) = true then runF P L f (p + 1) else p
/-- The first place from p on whose byte is none of these. -/
def runJ (P : Nat → Bool) (L : List UInt8) (p : Nat) : Nat := runF P L (L.length - p) p
theorem runJ_yes {P : Nat → Bool} {L : List UInt8} {p : Nat} (h : p < L.length) (hb : P (byAt L p) = true) : runJ P L p = runJ P L (p + 1) := by
  unfold runJ
  rw [show L.length - p = L.length - (p + 1) + 1 by omega, runF, if_pos hb]
theorem runJ_no {P : Nat → Bool} {L : List UInt8} {p : Nat} (h : ¬ (p < L.length ∧ P (byAt L p) = true)) : runJ P L p = p := by
  unfold runJ
  by_cases hp : p < L.length
  · rw [show L.length - p = L.length - (p + 1) + 1 by omega, runF, if_neg (fun e => h ⟨hp, e⟩)]
  · rw [show L.length - p = 0 by omega, runF]
theorem runF_says (P : Nat → Bool) (L : List UInt8) : ∀ f p, p ≤ runF P L f p ∧ runF P L f p ≤ p + f ∧ (∀ j, p ≤ j → j < runF P L f p → P (byAt L j) = true) ∧ (runF P L f p < p + f → P (byAt L (runF P L f p)) = false) := by
  intro f
  induction f with
  | zero => intro p; exact ⟨Nat.le_refl _, Nat.le_refl _, fun j h1 h2 => by rw [runF] at h2; omega, fun h => by rw [runF] at h; omega⟩
  | succ f ih =>
    intro p
    rw [runF]
    by_cases h : P (byAt L p) = true
    · rw [if_pos h]
      obtain ⟨a1, a2, a3, a4⟩ := ih (p + 1)
      refine ⟨by omega, by omega, fun j h1 h2 => ?_, fun h2 => a4 (by omega)⟩
      by_cases e : j = p
      · rw [e]; exact h
      · exact a3 j (by omega) h2
    · rw [if_neg h]
      exact ⟨Nat.le_refl _, by omega, fun j h1 h2 => by omega, fun _ => by simpa using h⟩
theorem runJ_ge (P : Nat → Bool) (L : List UInt8) (p : Nat) : p ≤ runJ P L p := (runF_says P L _ p).1
theorem runJ_le {P : Nat → Bool} {L : List UInt8} {p : Nat} (h : p ≤ L.length) : runJ P L p ≤ L.length := by have := (runF_says P L (L.length - p) p).2.1; unfold runJ; omega
theorem runJ_in {P : Nat → Bool} {L : List UInt8} {p j : Nat} (h1 : p ≤ j) (h2 : j < runJ P L p) : P (byAt L j) = true := (runF_says P L _ p).2.2.1 j h1 h2
theorem runJ_end {P : Nat → Bool} {L : List UInt8} {p : Nat} (h : runJ P L p < L.length) : P (byAt L (runJ P L p)) = false := by
  refine (runF_says P L (L.length - p) p).2.2.2 ?_
  have := runJ_ge P L p
  unfold runJ at h this
  omega
theorem runJ_idem (P : Nat → Bool) (L : List UInt8) (p : Nat) : runJ P L (runJ P L p) = runJ P L p := by
  refine runJ_no (fun h => ?_)
  have := runJ_end h.1
  rw [h.2] at this
  cases this
theorem runJ_past {P : Nat → Bool} {L : List UInt8} {p : Nat} (h : L.length ≤ p) : runJ P L p = p := runJ_no (fun e => by omega)

def blankC (c : Nat) : Bool := decide (c = 32 ∨ c = 9 ∨ c = 10 ∨ c = 13)
abbrev skipJ (L : List UInt8) (p : Nat) : Nat := runJ blankC L p
def digC (c : Nat) : Bool := decide (48 ≤ c ∧ c ≤ 57)
abbrev dgJ (L : List UInt8) (p : Nat) : Nat := runJ digC L p
/-- The value of k digits at p. -/
def valF (L : List UInt8) (p : Nat) : Nat → Nat
  | 0 => 0
  | k + 1 => 10 * valF L p k + (byAt L (p + k) - 48)
theorem valF_mono (L : List UInt8) (p : Nat) : ∀ {k m : Nat}, k ≤ m → valF L p k ≤ valF L p m := by
  intro k m h
  induction h with
  | refl => exact Nat.le_refl _
  | step _ ih => rw [valF]; omega
/-- A number at p. -/
def numAt (L : List UInt8) (p : Nat) : Nat := if isAt L p 45 = true then p + 1 else p
def numJ (L : List UInt8) (p : Nat) : Option (Int × Nat) :=
  if dgJ L (numAt L p) = numAt L p ∨ (numAt L p + 1 < dgJ L (numAt L p) ∧ byAt L (numAt L p) = 48) ∨ 1000000000000000 < valF L (numAt L p) (dgJ L (numAt L p) - numAt L p) then none
  else some (if isAt L p 45 = true then -((valF L (numAt L p) (dgJ L (numAt L p) - numAt L p) : Nat) : Int) else ((valF L (numAt L p) (dgJ L (numAt L p) - numAt L p) : Nat) : Int), dgJ L (numAt L p))
theorem numJ_lt {L : List UInt8} {p q : Nat} {v : Int} (h : numJ L p = some (v, q)) : p < q ∧ (p ≤ L.length → q ≤ L.length) ∧ -1000000000000000 ≤ v ∧ v ≤ 1000000000000000 := by
  unfold numJ at h
  split at h
  · cases h
  · rename_i hn
    simp only [Option.some.injEq, Prod.mk.injEq] at h
    obtain ⟨rfl, rfl⟩ := h
    have h1 := runJ_ge digC L (numAt L p)
    have h2 : p ≤ numAt L p := by unfold numAt; split <;> omega
    refine ⟨by show p < runJ digC L (numAt L p); have : ¬ runJ digC L (numAt L p) = numAt L p := fun e => hn (.inl e); omega, fun hp => ?_, ?_⟩
    · refine runJ_le ?_
      unfold numAt
      split
      · rename_i e; have := (isAt_yes.1 e).1; omega
      · exact hp
    · have h3 : ¬ 1000000000000000 < valF L (numAt L p) (dgJ L (numAt L p) - numAt L p) := fun e => hn (.inr (.inr e))
      split <;> omega
/-- A word at p. -/
def wordAt (L : List UInt8) (p : Nat) (w : List UInt8) : Bool := decide ((L.drop p).take w.length = w)
def nullW : List UInt8 := [110, 117, 108, 108]
def trueW : List UInt8 := [116, 114, 117, 101]
def falseW : List UInt8 := [102, 97, 108, 115, 101]
theorem wordAt_le {L : List UInt8} {p : Nat} {w : List UInt8} (h : wordAt L p w = true) (hw : w ≠ []) : p + w.length ≤ L.length := by
  unfold wordAt at h
  simp only [decide_eq_true_eq] at h
  have := congrArg List.length h
  rw [List.length_take, List.length_drop] at this
  have : 0 < w.length := by cases w; exact absurd rfl hw; simp
  omega
theorem wordAt_first {L : List UInt8} {p : Nat} {c : UInt8} {w : List UInt8} (h : wordAt L p (c :: w) = true) : isAt L p c.toNat = true := by
  have hl := wordAt_le h (by simp)
  rw [List.length_cons] at hl
  rw [isAt_yes]
  refine ⟨by omega, ?_⟩
  unfold wordAt at h
  simp only [decide_eq_true_eq] at h
  have h1 := congrArg (fun l => l[0]?) h
  simp only [List.length_cons] at h1
  rw [List.getElem?_take, if_pos (by omega), List.getElem?_drop] at h1
  simp only [List.getElem?_cons_zero, Nat.add_zero] at h1
  unfold byAt
  rw [List.getD_eq_getElem?_getD, h1]; rfl

/-- What one letter behind a \ says. -/
def escC (c : Nat) : Option Nat :=
  if c = 34 then some 34 else if c = 92 then some 92 else if c = 47 then some 47 else if c = 98 then some 8 else if c = 102 then some 12 else if c = 110 then some 10 else if c = 114 then some 13 else if c = 116 then some 9 else none
def hexC (c : Nat) : Option Nat := if 48 ≤ c ∧ c ≤ 57 then some (c - 48) else if 97 ≤ c ∧ c ≤ 102 then some (c - 87) else if 65 ≤ c ∧ c ≤ 70 then some (c - 55) else none
theorem hexC_lt {c d : Nat} (h : hexC c = some d) : d < 16 := by
  unfold hexC at h
  split at h
  · simp at h; omega
  · split at h
    · simp at h; omega
    · split at h
      · simp at h; omega
      · cases h
/-- The value of k digits of sixteen at p; none: one is no digit. -/
def hexF (L : List UInt8) (p : Nat) : Nat → Option Nat
  | 0 => some 0
  | k + 1 => match hexF L p k with
    | none => none
    | some v => match hexC (byAt L (p + k)) with
      | none => none
      | some d => some (16 * v + d)
theorem hexF_lt (L : List UInt8) (p : Nat) : ∀ {k v : Nat}, hexF L p k = some v → v < 16 ^ k := by
  intro k
  induction k with
  | zero => intro v h; simp [hexF] at h; omega
  | succ k ih =>
    intro v h
    rw [hexF] at h
    cases e : hexF L p k with
    | none => simp [e] at h
    | some u =>
      simp only [e] at h
      cases e2 : hexC (byAt L (p + k)) with
      | none => simp [e2] at h
      | some d =>
        simp only [e2, Option.some.injEq] at h
        have := ih e
        have := hexC_lt e2
        rw [Nat.pow_succ]
        omega
def codeJ (L : List UInt8) (p : Nat) : Option (Nat × Nat) :=
  if L.length < p + 4 then none else match hexF L p 4 with
    | none => none
    | some v => if 127 < v then none else some (v, p + 4)
theorem hexF_step {L : List UInt8} {p k v d : Nat} (h : hexF L p k = some v) (hd : hexC (byAt L (p + k)) = some d) : hexF L p (k + 1) = some (16 * v + d) := by rw [hexF, h]; simp only [hd]
theorem hexF_none {L : List UInt8} {p k : Nat} (h : hexF L p k = none) : ∀ m, k ≤ m → hexF L p m = none := by
  intro m hm
  induction hm with
  | refl => exact h
  | step _ ih => rw [hexF, ih]
theorem hexF_stop {L : List UInt8} {p k v m : Nat} (h : hexF L p k = some v) (hd : hexC (byAt L (p + k)) = none) (hm : k < m) : hexF L p m = none := hexF_none (k := k + 1) (by rw [hexF, h]; simp only [hd]) m (by omega)
theorem codeJ_short {L : List UInt8} {p : Nat} (h : L.length < p + 4) : codeJ L p = none := by unfold codeJ; rw [if_pos h]
theorem codeJ_no {L : List UInt8} {p : Nat} (h : hexF L p 4 = none) : codeJ L p = none := by unfold codeJ; rw [h]; split <;> rfl
theorem codeJ_big {L : List UInt8} {p v : Nat} (h : hexF L p 4 = some v) (hv : 127 < v) : codeJ L p = none := by
  unfold codeJ
  split
  · rfl
  · rw [h]; simp only [if_pos hv]
theorem codeJ_yes {L : List UInt8} {p v : Nat} (hp : p + 4 ≤ L.length) (h : hexF L p 4 = some v) (hv : v ≤ 127) : codeJ L p = some (v, p + 4) := by
  unfold codeJ
  rw [if_neg (by omega), h]
  simp only [if_neg (by omega : ¬ 127 < v)]
/-- What stands behind a \. -/
def escJ (L : List UInt8) (p : Nat) : Option (Nat × Nat) :=
  if L.length ≤ p then none else match escC (byAt L p) with
    | some b => some (b, p + 1)
    | none => if byAt L p = 117 then codeJ L (p + 1) else none
theorem escJ_says {L : List UInt8} {p b q : Nat} (h : escJ L p = some (b, q)) : p < q ∧ q ≤ L.length ∧ b ≤ 127 := by
  unfold escJ at h
  split at h
  · cases h
  · rename_i hp
    cases e : escC (byAt L p) with
    | some b' =>
      simp only [e, Option.some.injEq, Prod.mk.injEq] at h
      obtain ⟨rfl, rfl⟩ := h
      refine ⟨by omega, by omega, ?_⟩
      unfold escC at e
      repeat (split at e; · simp at e; omega)
      cases e
    | none =>
      simp only [e] at h
      split at h
      · unfold codeJ at h
        split at h
        · cases h
        · rename_i h4
          cases e2 : hexF L (p + 1) 4 with
          | none => simp [e2] at h
          | some v =>
            simp only [e2] at h
            split at h
            · cases h
            · rename_i hv
              simp only [Option.some.injEq, Prod.mk.injEq] at h
              obtain ⟨rfl, rfl⟩ := h
              exact ⟨by omega, by omega, by omega⟩
      · cases h
def textF (L : List UInt8) : Nat → Nat → Option (List UInt8 × Nat)
  | 0, _ => none
  | f + 1, p => if byAt L p = 34 then some ([], p + 1)
    else if byAt L p = 92 then match escJ L (p + 1) with
      | none => none
      | some (b, q) => match textF L f q with
        | none => none
        | some (l, z) => some (UInt8.ofNat b :: l, z)
    else if byAt L p < 32 ∨ 127 < byAt L p then none
    else match textF L f (p + 1) with
      | none => none
      | some (l, z) => some (UInt8.ofNat (byAt L p) :: l, z)
/-- A text behind its first quote. -/
def txJ (L : List UInt8) (p : Nat) : Option (List UInt8 × Nat) := textF L (L.length - p) p
theorem byAt_past {L : List UInt8} {p : Nat} (h : L.length ≤ p) : byAt L p = 0 := by
  unfold byAt
  rw [List.getD_eq_getElem?_getD, List.getElem?_eq_none h]; rfl
theorem textF_past {L : List UInt8} {p : Nat} (h : L.length ≤ p) (f : Nat) : textF L f p = none := by
  cases f with
  | zero => rfl
  | succ f => rw [textF, byAt_past h]; rfl
theorem textF_same (L : List UInt8) : ∀ m p f g, L.length - p ≤ m → L.length - p ≤ f → L.length - p ≤ g → textF L f p = textF L g p := by
  intro m
  induction m with
  | zero => intro p f g h _ _; rw [textF_past (by omega), textF_past (by omega)]
  | succ m ih =>
    intro p f g h hf hg
    by_cases hp : L.length ≤ p
    · rw [textF_past hp, textF_past hp]
    · obtain ⟨f, rfl⟩ : ∃ f', f = f' + 1 := ⟨f - 1, by omega⟩
      obtain ⟨g, rfl⟩ : ∃ g', g = g' + 1 := ⟨g - 1, by omega⟩
      have key : ∀ q, p < q → textF L f q = textF L g q := fun q hq => ih q f g (by omega) (by omega) (by omega)
      rw [textF, textF, key (p + 1) (by omega)]
      cases e : escJ L (p + 1) with
      | none => rfl
      | some x =>
        obtain ⟨b, q⟩ := x
        have := escJ_says e
        dsimp only
        rw [key q (by omega)]
theorem txJ_eq {L : List UInt8} {p : Nat} (h : p < L.length) : txJ L p = if byAt L p = 34 then some ([], p + 1)
    else if byAt L p = 92 then match escJ L (p + 1) with
      | none => none
      | some (b, q) => match txJ L q with
        | none => none
        | some (l, z) => some (UInt8.ofNat b :: l, z)
    else if byAt L p < 32 ∨ 127 < byAt L p then none
    else match txJ L (p + 1) with
      | none => none
      | some (l, z) => some (UInt8.ofNat (byAt L p) :: l, z) := by
  have e1 : textF L (L.length - (p + 1)) (p + 1) = txJ L (p + 1) := rfl
  conv => lhs; unfold txJ
  rw [show L.length - p = L.length - (p + 1) + 1 by omega, textF, e1]
  cases e : escJ L (p + 1) with
  | none => rfl
  | some x =>
    obtain ⟨b, q⟩ := x
    have := escJ_says e
    dsimp only
    rw [textF_same L L.length q (L.length - (p + 1)) (L.length - q) (by omega) (by omega) (by omega)]
    rfl
theorem txJ_past {L : List UInt8} {p : Nat} (h : L.length ≤ p) : txJ L p = none := textF_past h _
theorem txJ_says {L : List UInt8} : ∀ m p l q, L.length - p ≤ m → txJ L p = some (l, q) → p < q ∧ q ≤ L.length ∧ l.length < q - p ∧ ∀ c ∈ l, c.toNat ≤ 127 := by
  intro m
  induction m with
  | zero => intro p l q h e; rw [txJ_past (by omega)] at e; cases e
  | succ m ih =>
    intro p l q h e
    by_cases hp : L.length ≤ p
    · rw [txJ_past hp] at e; cases e
    · rw [txJ_eq (by omega)] at e
      split at e
      · simp only [Option.some.injEq, Prod.mk.injEq] at e
        obtain ⟨rfl, rfl⟩ := e
        exact ⟨by omega, by omega, by simp, fun c hc => absurd hc (by simp)⟩
      · split at e
        · cases e1 : escJ L (p + 1) with
          | none => simp [e1] at e
          | some x =>
            obtain ⟨b, z⟩ := x
            simp only [e1] at e
            obtain ⟨a1, a2, a3⟩ := escJ_says e1
            cases e2 : txJ L z with
            | none => simp [e2] at e
            | some y =>
              obtain ⟨l2, z2⟩ := y
              simp only [e2, Option.some.injEq, Prod.mk.injEq] at e
              obtain ⟨rfl, rfl⟩ := e
              obtain ⟨b1, b2, b3, b4⟩ := ih z l2 z2 (by omega) e2
              refine ⟨by omega, b2, by simp; omega, fun c hc => ?_⟩
              rcases List.mem_cons.1 hc with rfl | hc
              · rw [UInt8.toNat_ofNat']; omega
              · exact b4 c hc
        · split at e
          · cases e
          · rename_i hr
            cases e2 : txJ L (p + 1) with
            | none => simp [e2] at e
            | some y =>
              obtain ⟨l2, z2⟩ := y
              simp only [e2, Option.some.injEq, Prod.mk.injEq] at e
              obtain ⟨rfl, rfl⟩ := e
              obtain ⟨b1, b2, b3, b4⟩ := ih (p + 1) l2 z2 (by omega) e2
              refine ⟨by omega, b2, by simp; omega, fun c hc => ?_⟩
              rcases List.mem_cons.1 hc with rfl | hc
              · rw [UInt8.toNat_ofNat']; omega
              · exact b4 c hc
end Go.Proofs.YtagcgnhpdmhegaaGreatDoor
