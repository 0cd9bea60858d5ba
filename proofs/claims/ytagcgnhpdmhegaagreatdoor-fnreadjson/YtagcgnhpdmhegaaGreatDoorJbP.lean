/-
  Plain: what stands at a place of a text, as JSON has it: blanks, digits, words, escapes, texts.
-/
import Derived.Test.YtagcgnhpdmhegaaGreatDoorRdN
import Derived.Test.YtagcgnhpdmhegaaGreatDoorStlF
import Derived.Test.YtagcgnhpdmhegaaGreatDoorPure
import Derived.Test.YtagcgnhpdmhegaaGreatDoorRd4
import Derived.Lib.ItoaNum
namespace Go.Proofs.YtagcgnhpdmhegaaGreatDoor
open Go.RowKit
set_option linter.unusedSimpArgs false
set_option linter.unusedVariables false

/-- Does the byte c stand at p? -/
def isAt (L : List UInt8) (p c : Nat) : Bool := decide (p < L.length) && decide (byAt L p = c)
theorem isAt_yes {L : List UInt8} {p c : Nat} : isAt L p c = true ↔ p < L.length ∧ byAt L p = c := by unfold isAt; simp
theorem isAt_no {L : List UInt8} {p c : Nat} : isAt L p c = false ↔ ¬ (p < L.length ∧ byAt L p = c) := by unfold isAt; simp

def runF (P : Nat → Bool) (L : List UInt8) : Nat → Nat → Nat
  | 0, p => p
  | f + 1, p => if P (byAt L p) = true then runF P L f (p + 1) else p
/-- The first place from p on whose byte is none of these. -/
def runJ (P : Nat → Bool) (L : List UInt8) (p : Nat) : Nat := runF P L (L.length - p) p
theorem runJ_yes {P : Nat → Bool} {L : List UInt8} {p : Nat} (h : p < L.length) (hb : P (byAt L p) = true) : runJ P L p = runJ P L (p + 1) := by
  unfold runJ
  rw [show L.length - p = L.length - (p + 1) + 1 by omega, runF, if_pos hb]
theorem runJ_no {P : Nat → Bool} {L : List UInt8} {p : Nat} (h : ¬ (p < L.length ∧ P (byAt L p) = true)) : runJ P L p = p := by
  unfold runJ
  by_cases hp : p < L.length
  · rw [show L.length - p = L.length - (p + 1) + 1 by omega, runF, if_neg (fun e => h ⟨hp, e⟩)]
  · rw [show L.length - p = 0 by omega, runF]
theorem runF_says (P : Nat → Bool) (L : List UInt8) : ∀ f p, p ≤ runF P L f p ∧ runF P L f p ≤ p + f ∧ (∀ j, p ≤ j → j < runF P L f p → P (byAt L j) = true) ∧ (runF P L f p < p + f → P (byAt L (runF P L f p)) = false) := by
  intro f
  induction f with
  | zero => intro p; exact ⟨Nat.le_refl _, Nat.le_refl _, fun j h1 h2 => by rw [runF] at h2; omega, fun h => by rw [runF] at h; omega⟩
  | succ f ih =>
    intro p
    rw [runF]
    by_cases h : P (byAt L p) = true
    · rw [if_pos h]
      obtain ⟨a1, a2, a3, a4⟩ := ih (p + 1)
      refine ⟨by omega, by omega, fun j h1 h2 => ?_, fun h2 => a4 (by omega)⟩
      by_cases e : j = p
      · rw [e]; exact h
      · exact a3 j (by omega) h2
    · rw [if_neg h]
      exact ⟨Nat.le_refl _, by omega, fun j h1 h2 => by omega, fun _ => by simpa using h⟩
theorem runJ_ge (P : Nat → Bool) (L : List UInt8) (p : Nat) : p ≤ runJ P L p := (runF_says P L _ p).1
theorem runJ_le {P : Nat → Bool} {L : List UInt8} {p : Nat} (h : p ≤ L.length) : runJ P L p ≤ L.length := by have := (runF_says P L (L.length - p) p).2.1; unfold runJ; omega
theorem runJ_in {P : Nat → Bool} {L : List UInt8} {p j : Nat} (h1 : p ≤ j) (h2 : j < runJ P L p) : P (byAt L j) = true := (runF_says P L _ p).2.2.1 j h1 h2
theorem runJ_end {P : Nat → Bool} {L : List UInt8} {p : Nat} (h : runJ P L p < L.length) : P (byAt L (runJ P L p)) = false := by
  refine (runF_says P L (L.length - p) p).2.2.2 ?_
  have := runJ_ge P L p
  unfold runJ at h this
  omega
theorem runJ_idem (P : Nat → Bool) (L : List UInt8) (p : Nat) : runJ P L (runJ P L p) = runJ P L p := by
  refine runJ_no (fun h => ?_)
  have := runJ_end h.1
  rw [h.2] at this
  cases this
theorem runJ_past {P : Nat → Bool} {L : List UInt8} {p : Nat} (h : L.length ≤ p) : runJ P L p = p := runJ_no (fun e => by omega)

def blankC (c : Nat) : Bool := decide (c = 32 ∨ c = 9 ∨ c = 10 ∨ c = 13)
abbrev skipJ (L : List UInt8) (p : Nat) : Nat := runJ blankC L p
def digC (c : Nat) : Bool := decide (48 ≤ c ∧ c ≤ 57)
abbrev dgJ (L : List UInt8) (p : Nat) : Nat := runJ digC L p
/-- The value of k digits at p. -/
def valF (L : List UInt8) (p : Nat) : Nat → Nat
  | 0 => 0
  | k + 1 => 10 * valF L p k + (byAt L (p + k) - 48)
theorem valF_mono (L : List UInt8) (p : Nat) : ∀ {k m : Nat}, k ≤ m → valF L p k ≤ valF L p m := by
  intro k m h
  induction h with
  | refl => exact Nat.le_refl _
  | step _ ih => rw [valF]; omega
/-- A number at p. -/
def numAt (L : List UInt8) (p : Nat) : Nat := if isAt L p 45 = true then p + 1 else p
def numJ (L : List UInt8) (p : Nat) : Option (Int × Nat) :=
  if dgJ L (numAt L p) = numAt L p ∨ (numAt L p + 1 < dgJ L (numAt L p) ∧ byAt L (numAt L p) = 48) ∨ 1000000000000000 < valF L (numAt L p) (dgJ L (numAt L p) - numAt L p) then none
  else some (if isAt L p 45 = true then -((valF L (numAt L p) (dgJ L (numAt L p) - numAt L p) : Nat) : Int) else ((valF L (numAt L p) (dgJ L (numAt L p) - numAt L p) : Nat) : Int), dgJ L (numAt L p))
theorem numJ_lt {L : List UInt8} {p q : Nat} {v : Int} (h : numJ L p = some (v, q)) : p < q ∧ (p ≤ L.length → q ≤ L.length) ∧ -1000000000000000 ≤ v ∧ v ≤ 1000000000000000 := by
  unfold numJ at h
  split at h
  · cases h
  · rename_i hn
    simp only [Option.some.injEq, Prod.mk.injEq] at h
    obtain ⟨rfl, rfl⟩ := h
    have h1 := runJ_ge digC L (numAt L p)
    have h2 : p ≤ numAt L p := by unfold numAt; split <;> omega
    refine ⟨by show p < runJ digC L (numAt L p); have : ¬ runJ digC L (numAt L p) = numAt L p := fun e => hn (.inl e); omega, fun hp => ?_, ?_⟩
    · refine runJ_le ?_
      unfold numAt
      split
      · rename_i e; have := (isAt_yes.1 e).1; omega
      · exact hp
    · have h3 : ¬ 1000000000000000 < valF L (numAt L p) (dgJ L (numAt L p) - numAt L p) := fun e => hn (.inr (.inr e))
      split <;> omega
/-- A word at p. -/
def wordAt (L : List UInt8) (p : Nat) (w : List UInt8) : Bool := decide ((L.drop p).take w.length = w)
def nullW : List UInt8 := [110, 117, 108, 108]
def trueW : List UInt8 := [116, 114, 117, 101]
def falseW : List UInt8 := [102, 97, 108, 115, 101]
theorem wordAt_le {L : List UInt8} {p : Nat} {w : List UInt8} (h : wordAt L p w = true) (hw : w ≠ []) : p + w.length ≤ L.length := by
  unfold wordAt at h
  simp only [decide_eq_true_eq] at h
  have := congrArg List.length h
  rw [List.length_take, List.length_drop] at this
  have : 0 < w.length := by cases w; exact absurd rfl hw; simp
  omega
theorem wordAt_first {L : List UInt8} {p : Nat} {c : UInt8} {w : List UInt8} (h : wordAt L p (c :: w) = true) : isAt L p c.toNat = true := by
  have hl := wordAt_le h (by simp)
  rw [List.length_cons] at hl
  rw [isAt_yes]
  refine ⟨by omega, ?_⟩
  unfold wordAt at h
  simp only [decide_eq_true_eq] at h
  have h1 := congrArg (fun l => l[0]?) h
  simp only [List.length_cons] at h1
  rw [List.getElem?_take, if_pos (by omega), List.getElem?_drop] at h1
  simp only [List.getElem?_cons_zero, Nat.add_zero] at h1
  unfold byAt
  rw [List.getD_eq_getElem?_getD, h1]; rfl

/-- What one letter behind a \ says. -/
def escC (c : Nat) : Option Nat :=
  if c = 34 then some 34 else if c = 92 then some 92 else if c = 47 then some 47 else if c = 98 then some 8 else if c = 102 then some 12 else if c = 110 then some 10 else if c = 114 then some 13 else if c = 116 then some 9 else none
def hexC (c : Nat) : Option Nat := if 48 ≤ c ∧ c ≤ 57 then some (c - 48) else if 97 ≤ c ∧ c ≤ 102 then some (c - 87) else if 65 ≤ c ∧ c ≤ 70 then some (c - 55) else none
theorem hexC_lt {c d : Nat} (h : hexC c = some d) : d < 16 := by
  unfold hexC at h
  split at h
  · simp at h; omega
  · split at h
    · simp at h; omega
    · split at h
      · simp at h; omega
      · cases h
/-- The value of k digits of sixteen at p; none: one is no digit. -/
def hexF (L : List UInt8) (p : Nat) : Nat → Option Nat
  | 0 => some 0
  | k + 1 => match hexF L p k with
    | none => none
    | some v => match hexC (byAt L (p + k)) with
      | none => none
      | some d => some (16 * v + d)
theorem hexF_lt (L : List UInt8) (p : Nat) : ∀ {k v : Nat}, hexF L p k = some v → v < 16 ^ k := by
  intro k
  induction k with
  | zero => intro v h; simp [hexF] at h; omega
  | succ k ih =>
    intro v h
    rw [hexF] at h
    cases e : hexF L p k with
    | none => simp [e] at h
    | some u =>
      simp only [e] at h
      cases e2 : hexC (byAt L (p + k)) with
      | none => simp [e2] at h
      | some d =>
        simp only [e2, Option.some.injEq] at h
        have := ih e
        have := hexC_lt e2
        rw [Nat.pow_succ]
        omega
def codeJ (L : List UInt8) (p : Nat) : Option (Nat × Nat) :=
  if L.length < p + 4 then none else match hexF L p 4 with
    | none => none
    | some v => if 127 < v then none else some (v, p + 4)
theorem hexF_step {L : List UInt8} {p k v d : Nat} (h : hexF L p k = some v) (hd : hexC (byAt L (p + k)) = some d) : hexF L p (k + 1) = some (16 * v + d) := by rw [hexF, h]; simp only [hd]
theorem hexF_none {L : List UInt8} {p k : Nat} (h : hexF L p k = none) : ∀ m, k ≤ m → hexF L p m = none := by
  intro m hm
  induction hm with
  | refl => exact h
  | step _ ih => rw [hexF, ih]
theorem hexF_stop {L : List UInt8} {p k v m : Nat} (h : hexF L p k = some v) (hd : hexC (byAt L (p + k)) = none) (hm : k < m) : hexF L p m = none := hexF_none (k := k + 1) (by rw [hexF, h]; simp only [hd]) m (by omega)
theorem codeJ_short {L : List UInt8} {p : Nat} (h : L.length < p + 4) : codeJ L p = none := by unfold codeJ; rw [if_pos h]
theorem codeJ_no {L : List UInt8} {p : Nat} (h : hexF L p 4 = none) : codeJ L p = none := by unfold codeJ; rw [h]; split <;> rfl
theorem codeJ_big {L : List UInt8} {p v : Nat} (h : hexF L p 4 = some v) (hv : 127 < v) : codeJ L p = none := by
  unfold codeJ
  split
  · rfl
  · rw [h]; simp only [if_pos hv]
theorem codeJ_yes {L : List UInt8} {p v : Nat} (hp : p + 4 ≤ L.length) (h : hexF L p 4 = some v) (hv : v ≤ 127) : codeJ L p = some (v, p + 4) := by
  unfold codeJ
  rw [if_neg (by omega), h]
  simp only [if_neg (by omega : ¬ 127 < v)]
/-- What stands behind a \. -/
def escJ (L : List UInt8) (p : Nat) : Option (Nat × Nat) :=
  if L.length ≤ p then none else match escC (byAt L p) with
    | some b => some (b, p + 1)
    | none => if byAt L p = 117 then codeJ L (p + 1) else none
theorem escJ_says {L : List UInt8} {p b q : Nat} (h : escJ L p = some (b, q)) : p < q ∧ q ≤ L.length ∧ b ≤ 127 := by
  unfold escJ at h
  split at h
  · cases h
  · rename_i hp
    cases e : escC (byAt L p) with
    | some b' =>
      simp only [e, Option.some.injEq, Prod.mk.injEq] at h
      obtain ⟨rfl, rfl⟩ := h
      refine ⟨by omega, by omega, ?_⟩
      unfold escC at e
      repeat (split at e; · simp at e; omega)
      cases e
    | none =>
      simp only [e] at h
      split at h
      · unfold codeJ at h
        split at h
        · cases h
        · rename_i h4
          cases e2 : hexF L (p + 1) 4 with
          | none => simp [e2] at h
          | some v =>
            simp only [e2] at h
            split at h
            · cases h
            · rename_i hv
              simp only [Option.some.injEq, Prod.mk.injEq] at h
              obtain ⟨rfl, rfl⟩ := h
              exact ⟨by omega, by omega, by omega⟩
      · cases h
def textF (L : List UInt8) : Nat → Nat → Option (List UInt8 × Nat)
  | 0, _ => none
  | f + 1, p => if byAt L p = 34 then some ([], p + 1)
    else if byAt L p = 92 then match escJ L (p + 1) with
      | none => none
      | some (b, q) => match textF L f q with
        | none => none
        | some (l, z) => some (UInt8.ofNat b :: l, z)
    else if byAt L p < 32 ∨ 127 < byAt L p then none
    else match textF L f (p + 1) with
      | none => none
      | some (l, z) => some (UInt8.ofNat (byAt L p) :: l, z)
/-- A text behind its first quote. -/
def txJ (L : List UInt8) (p : Nat) : Option (List UInt8 × Nat) := textF L (L.length - p) p
theorem byAt_past {L : List UInt8} {p : Nat} (h : L.length ≤ p) : byAt L p = 0 := by
  unfold byAt
  rw [List.getD_eq_getElem?_getD, List.getElem?_eq_none h]; rfl
theorem textF_past {L : List UInt8} {p : Nat} (h : L.length ≤ p) (f : Nat) : textF L f p = none := by
  cases f with
  | zero => rfl
  | succ f => rw [textF, byAt_past h]; rfl
theorem textF_same (L : List UInt8) : ∀ m p f g, L.length - p ≤ m → L.length - p ≤ f → L.length - p ≤ g → textF L f p = textF L g p := by
  intro m
  induction m with
  | zero => intro p f g h _ _; rw [textF_past (by omega), textF_past (by omega)]
  | succ m ih =>
    intro p f g h hf hg
    by_cases hp : L.length ≤ p
    · rw [textF_past hp, textF_past hp]
    · obtain ⟨f, rfl⟩ : ∃ f', f = f' + 1 := ⟨f - 1, by omega⟩
      obtain ⟨g, rfl⟩ : ∃ g', g = g' + 1 := ⟨g - 1, by omega⟩
      have key : ∀ q, p < q → textF L f q = textF L g q := fun q hq => ih q f g (by omega) (by omega) (by omega)
      rw [textF, textF, key (p + 1) (by omega)]
      cases e : escJ L (p + 1) with
      | none => rfl
      | some x =>
        obtain ⟨b, q⟩ := x
        have := escJ_says e
        dsimp only
        rw [key q (by omega)]
theorem txJ_eq {L : List UInt8} {p : Nat} (h : p < L.length) : txJ L p = if byAt L p = 34 then some ([], p + 1)
    else if byAt L p = 92 then match escJ L (p + 1) with
      | none => none
      | some (b, q) => match txJ L q with
        | none => none
        | some (l, z) => some (UInt8.ofNat b :: l, z)
    else if byAt L p < 32 ∨ 127 < byAt L p then none
    else match txJ L (p + 1) with
      | none => none
      | some (l, z) => some (UInt8.ofNat (byAt L p) :: l, z) := by
  have e1 : textF L (L.length - (p + 1)) (p + 1) = txJ L (p + 1) := rfl
  conv => lhs; unfold txJ
  rw [show L.length - p = L.length - (p + 1) + 1 by omega, textF, e1]
  cases e : escJ L (p + 1) with
  | none => rfl
  | some x =>
    obtain ⟨b, q⟩ := x
    have := escJ_says e
    dsimp only
    rw [textF_same L L.length q (L.length - (p + 1)) (L.length - q) (by omega) (by omega) (by omega)]
    rfl
theorem txJ_past {L : List UInt8} {p : Nat} (h : L.length ≤ p) : txJ L p = none := textF_past h _
theorem txJ_says {L : List UInt8} : ∀ m p l q, L.length - p ≤ m → txJ L p = some (l, q) → p < q ∧ q ≤ L.length ∧ l.length < q - p ∧ ∀ c ∈ l, c.toNat ≤ 127 := by
  intro m
  induction m with
  | zero => intro p l q h e; rw [txJ_past (by omega)] at e; cases e
  | succ m ih =>
    intro p l q h e
    by_cases hp : L.length ≤ p
    · rw [txJ_past hp] at e; cases e
    · rw [txJ_eq (by omega)] at e
      split at e
      · simp only [Option.some.injEq, Prod.mk.injEq] at e
        obtain ⟨rfl, rfl⟩ := e
        exact ⟨by omega, by omega, by simp, fun c hc => absurd hc (by simp)⟩
      · split at e
        · cases e1 : escJ L (p + 1) with
          | none => simp [e1] at e
          | some x =>
            obtain ⟨b, z⟩ := x
            simp only [e1] at e
            obtain ⟨a1, a2, a3⟩ := escJ_says e1
            cases e2 : txJ L z with
            | none => simp [e2] at e
            | some y =>
              obtain ⟨l2, z2⟩ := y
              simp only [e2, Option.some.injEq, Prod.mk.injEq] at e
              obtain ⟨rfl, rfl⟩ := e
              obtain ⟨b1, b2, b3, b4⟩ := ih z l2 z2 (by omega) e2
              refine ⟨by omega, b2, by simp; omega, fun c hc => ?_⟩
              rcases List.mem_cons.1 hc with rfl | hc
              · rw [UInt8.toNat_ofNat']; omega
              · exact b4 c hc
        · split at e
          · cases e
          · rename_i hr
            cases e2 : txJ L (p + 1) with
            | none => simp [e2] at e
            | some y =>
              obtain ⟨l2, z2⟩ := y
              simp only [e2, Option.some.injEq, Prod.mk.injEq] at e
              obtain ⟨rfl, rfl⟩ := e
              obtain ⟨b1, b2, b3, b4⟩ := ih (p + 1) l2 z2 (by omega) e2
              refine ⟨by omega, b2, by simp; omega, fun c hc => ?_⟩
              rcases List.mem_cons.1 hc with rfl | hc
              · rw [UInt8.toNat_ofNat']; omega
              · exact b4 c hc
end Go.Proofs.YtagcgnhpdmhegaaGreatDoor

/-
  Plain: bytes that lie at a place of a text, and the numbers and texts that are read there.
-/
namespace Go.Proofs.YtagcgnhpdmhegaaGreatDoor
open Go.RowKit
set_option linter.unusedSimpArgs false
set_option linter.unusedVariables false

def Sit (L : List UInt8) (p : Nat) (B : List UInt8) : Prop := p ≤ L.length ∧ ∃ post, L.drop p = B ++ post
theorem Sit.left {L : List UInt8} {p : Nat} {A B : List UInt8} (h : Sit L p (A ++ B)) : Sit L p A := by
  obtain ⟨h0, post, h⟩ := h
  exact ⟨h0, B ++ post, by rw [h, List.append_assoc]⟩
theorem Sit.len {L : List UInt8} {p : Nat} {B : List UInt8} (h : Sit L p B) : p + B.length ≤ L.length := by
  obtain ⟨h0, post, h⟩ := h
  have := congrArg List.length h
  rw [List.length_drop, List.length_append] at this
  omega
theorem Sit.right {L : List UInt8} {p : Nat} {A B : List UInt8} (h : Sit L p (A ++ B)) : Sit L (p + A.length) B := by
  have hl := h.left.len
  obtain ⟨h0, post, h⟩ := h
  refine ⟨hl, post, ?_⟩
  rw [← List.drop_drop, h, List.append_assoc, List.drop_left]
theorem Sit.byte {L : List UInt8} {p : Nat} {B : List UInt8} (h : Sit L p B) {j : Nat} {x : UInt8} (hj : B[j]? = some x) : byAt L (p + j) = x.toNat := by
  obtain ⟨h0, post, h⟩ := h
  have hlt : j < B.length := by
    rcases Nat.lt_or_ge j B.length with h' | h'
    · exact h'
    · rw [List.getElem?_eq_none h'] at hj; cases hj
  have : L[p + j]? = some x := by
    rw [← List.getElem?_drop, h, List.getElem?_append_left hlt, hj]
  unfold byAt
  rw [List.getD_eq_getElem?_getD, this]
  rfl
end Go.Proofs.YtagcgnhpdmhegaaGreatDoor

/-
  Plain: what a right node says by its kind.
-/
namespace Go.Proofs.YtagcgnhpdmhegaaGreatDoor
open Go.RowKit
set_option linter.unusedSimpArgs false
set_option linter.unusedVariables false

theorem rise_at {keys : List ByteArray} (hr : riseB keys = true) {j : Nat} (hj : j < keys.length) : textB (keyAt keys j) = true ∧ (0 < j → lessB (keyAt keys (j - 1)) (keyAt keys j) = true) := by
  have := List.all_eq_true.1 hr j (List.mem_range.2 hj)
  unfold riseAt at this
  simp only [Bool.and_eq_true, Bool.or_eq_true, decide_eq_true_eq] at this
  exact ⟨this.1, fun h => this.2.resolve_left (by omega)⟩
theorem keys_less {keys : List ByteArray} (hr : riseB keys = true) : ∀ d a, a + d + 1 < keys.length → lessB (keyAt keys a) (keyAt keys (a + d + 1)) = true := by
  intro d
  induction d with
  | zero => intro a h; have := (rise_at hr h).2 (by omega); rwa [show a + 0 + 1 - 1 = a by omega] at this
  | succ d ih =>
    intro a h
    have h1 := ih a (by omega)
    have h2 := (rise_at hr h).2 (by omega)
    rw [show a + (d + 1) + 1 - 1 = a + d + 1 by omega] at h2
    exact less_trans h1 h2
theorem range_keys (keys : List ByteArray) : (List.range keys.length).map (keyAt keys) = keys := by
  apply List.ext_getElem?
  intro i
  rw [List.getElem?_map]
  by_cases h : i < keys.length
  · rw [List.getElem?_range h, Option.map_some]
    unfold keyAt
    rw [List.getD_eq_getElem?_getD, List.getElem?_eq_getElem h]; rfl
  · rw [List.getElem?_eq_none (by simp; omega), List.getElem?_eq_none (by omega)]; rfl
theorem range_kids (kids : List VT) : (List.range kids.length).map (kidT kids) = kids := by
  apply List.ext_getElem?
  intro i
  rw [List.getElem?_map]
  by_cases h : i < kids.length
  · rw [List.getElem?_range h, Option.map_some]
    unfold kidT
    rw [List.getD_eq_getElem?_getD, List.getElem?_eq_getElem h]; rfl
  · rw [List.getElem?_eq_none (by simp; omega), List.getElem?_eq_none (by omega)]; rfl
theorem empty_is {s : ByteArray} (h : s.toList = []) : s = ByteArray.empty := by
  exact str_eq (by rw [h, ByteArray.toList_eq]; rfl)
theorem nodeT_says {kind n : Int} {s : ByteArray} {keys : List ByteArray} {m : Nat} (h : nodeT kind n s keys m = true) :
    (kind = 1 ∧ n = 0 ∧ s = ByteArray.empty ∧ keys = [] ∧ m = 0) ∨ (kind = 2 ∧ (n = 0 ∨ n = 1) ∧ s = ByteArray.empty ∧ keys = [] ∧ m = 0) ∨ (kind = 3 ∧ (-1000000000000000 ≤ n ∧ n ≤ 1000000000000000) ∧ s = ByteArray.empty ∧ keys = [] ∧ m = 0) ∨
    (kind = 4 ∧ n = 0 ∧ s.size ≤ 60 ∧ keys = [] ∧ m = 0) ∨ (kind = 5 ∧ n = 0 ∧ s = ByteArray.empty ∧ keys = []) ∨ (kind = 6 ∧ n = 0 ∧ s = ByteArray.empty ∧ keys.length = m ∧ riseB keys = true) := by
  unfold nodeT nodeB unnamedB namedB at h
  simp only [Bool.and_eq_true, List.length_replicate] at h
  obtain ⟨⟨⟨⟨u1, u2⟩, u3⟩, u4⟩, v⟩ := h
  by_cases k1 : kind = 1
  · subst k1; simp at u1 u2 u3 u4; exact .inl ⟨rfl, u1, empty_is u2, u3, u4⟩
  by_cases k2 : kind = 2
  · subst k2; simp at u2 u3 u4 v; exact .inr (.inl ⟨rfl, v, empty_is u2, u3, u4⟩)
  by_cases k3 : kind = 3
  · subst k3; simp at u2 u3 u4 v; exact .inr (.inr (.inl ⟨rfl, v, empty_is u2, u3, u4⟩))
  by_cases k4 : kind = 4
  · subst k4; simp [textB] at u1 u3 u4 v; exact .inr (.inr (.inr (.inl ⟨rfl, u1, v.1, u3, u4⟩)))
  by_cases k5 : kind = 5
  · subst k5; simp at u1 u2 u3; exact .inr (.inr (.inr (.inr (.inl ⟨rfl, u1, empty_is u2, u3⟩))))
  by_cases k6 : kind = 6
  · subst k6; simp at u1 u2 v; exact .inr (.inr (.inr (.inr (.inr ⟨rfl, u1, empty_is u2, v.1, v.2⟩))))
  simp [k1, k2, k3, k4, k5, k6] at v
end Go.Proofs.YtagcgnhpdmhegaaGreatDoor

/-
  Plain: numbers, texts and words that JSON has written are read again.
-/
namespace Go.Proofs.YtagcgnhpdmhegaaGreatDoor
open Go.RowKit
set_option linter.unusedSimpArgs false
set_option linter.unusedVariables false

theorem runJ_is {P : Nat → Bool} {L : List UInt8} : ∀ {m q : Nat}, (∀ j, j < m → P (byAt L (q + j)) = true) → q + m ≤ L.length → ¬ (q + m < L.length ∧ P (byAt L (q + m)) = true) → runJ P L q = q + m := by
  intro m
  induction m with
  | zero => intro q _ _ h; rw [Nat.add_zero] at *; exact runJ_no h
  | succ m ih =>
    intro q h1 h2 h3
    rw [runJ_yes (by omega) (by have := h1 0 (by omega); rwa [Nat.add_zero] at this), ih (q := q + 1) (fun j hj => by have := h1 (j + 1) (by omega); rwa [show q + (j + 1) = q + 1 + j by omega] at this) (by omega) (by rwa [show q + 1 + m = q + (m + 1) by omega])]
    omega
theorem digB_is {d : Nat} (h : d < 10) : (UInt8.ofNat (48 + d)).toNat = 48 + d := by rw [UInt8.toNat_ofNat']; omega
theorem Sit.one {L : List UInt8} {q : Nat} {x : UInt8} {B : List UInt8} (h : Sit L q (x :: B)) : q < L.length ∧ byAt L q = x.toNat := by
  have := h.len
  rw [List.length_cons] at this
  exact ⟨by omega, h.byte (j := 0) rfl⟩
theorem Sit.next {L : List UInt8} {q : Nat} {x : UInt8} {B : List UInt8} (h : Sit L q (x :: B)) : Sit L (q + 1) B := Sit.right (A := [x]) h
theorem dec_sit {L : List UInt8} : ∀ (m u q : Nat), u ≤ m → Sit L q (Lib.decDigits u) → valF L q (Lib.decDigits u).length = u ∧ (∀ j, j < (Lib.decDigits u).length → digC (byAt L (q + j)) = true) ∧ (1 ≤ u → byAt L q ≠ 48) ∧ 1 ≤ (Lib.decDigits u).length ∧ (1 < (Lib.decDigits u).length → 1 ≤ u) := by
  intro m
  induction m with
  | zero =>
    intro u q hu hs
    obtain rfl : u = 0 := by omega
    rw [Lib.decDigits, dif_pos (by omega)] at hs ⊢
    have hb := hs.one.2
    refine ⟨?_, fun j hj => ?_, fun h => by omega, by simp, fun h => by simp at h⟩
    · simp only [List.length_cons, List.length_nil, Nat.zero_add, valF]; rw [Nat.add_zero, hb]; rfl
    · obtain rfl : j = 0 := by simpa using hj
      rw [Nat.add_zero, hb]; rfl
  | succ m ih =>
    intro u q hu hs
    by_cases h10 : u < 10
    · rw [Lib.decDigits, dif_pos h10] at hs ⊢
      have hb := hs.one.2
      rw [digB_is h10] at hb
      refine ⟨?_, fun j hj => ?_, fun h => by omega, by simp, fun h => by simp at h⟩
      · simp only [List.length_cons, List.length_nil, Nat.zero_add, valF]; rw [Nat.add_zero, hb]; omega
      · obtain rfl : j = 0 := by simpa using hj
        rw [Nat.add_zero, hb]; unfold digC; simp; omega
    · rw [Lib.decDigits, dif_neg h10] at hs ⊢
      obtain ⟨a1, a2, a3, a4, a5⟩ := ih (u / 10) q (by omega) hs.left
      have hb := hs.right.one.2
      rw [digB_is (by omega)] at hb
      refine ⟨?_, fun j hj => ?_, fun h => a3 (by omega), by simp, fun h => by omega⟩
      · rw [List.length_append, List.length_cons, List.length_nil, Nat.zero_add, valF, a1, hb]; omega
      · rw [List.length_append, List.length_cons, List.length_nil] at hj
        by_cases e : j = (Lib.decDigits (u / 10)).length
        · rw [e, hb]; unfold digC; simp; omega
        · exact a2 j (by omega)
/-- No digit stands at q. -/
def NoDig (L : List UInt8) (q : Nat) : Prop := ¬ (q < L.length ∧ digC (byAt L q) = true)
theorem itoa_sit {L : List UInt8} {p : Nat} {n : Int} (h1 : -1000000000000000 ≤ n) (h2 : n ≤ 1000000000000000) (h : Sit L p (Lib.itoa n)) (hs : NoDig L (p + (Lib.itoa n).length)) : numJ L p = some (n, p + (Lib.itoa n).length) := by
  unfold Lib.itoa at h hs ⊢
  by_cases hn : n < 0
  · rw [if_pos hn] at h hs ⊢
    obtain ⟨b0, b1⟩ := h.one
    obtain ⟨a1, a2, a3, a4, a5⟩ := dec_sit (L := L) n.natAbs n.natAbs (p + 1) (Nat.le_refl _) h.next
    have hl := h.next.len
    rw [List.length_cons] at hs ⊢
    have hat : isAt L p 45 = true := isAt_yes.2 ⟨b0, b1⟩
    have hna : numAt L p = p + 1 := by unfold numAt; rw [if_pos hat]
    have hdg : dgJ L (p + 1) = p + 1 + (Lib.decDigits n.natAbs).length := runJ_is a2 hl (by rw [show p + 1 + (Lib.decDigits n.natAbs).length = p + ((Lib.decDigits n.natAbs).length + 1) by omega]; exact hs)
    unfold numJ
    rw [hna, hdg, show p + 1 + (Lib.decDigits n.natAbs).length - (p + 1) = (Lib.decDigits n.natAbs).length by omega, a1, if_neg, if_pos hat]
    · refine congrArg some (Prod.ext ?_ ?_)
      · show -((n.natAbs : Nat) : Int) = n; omega
      · show p + 1 + _ = _; omega
    · rintro (e | ⟨e1, e2⟩ | e)
      · omega
      · exact a3 (by omega) e2
      · omega
  · rw [if_neg hn] at h hs ⊢
    obtain ⟨a1, a2, a3, a4, a5⟩ := dec_sit (L := L) n.toNat n.toNat p (Nat.le_refl _) h
    have hl := h.len
    have hat : ¬ isAt L p 45 = true := fun e => by
      have e2 := (isAt_yes.1 e).2
      have := a2 0 (by omega)
      rw [Nat.add_zero, e2] at this
      cases this
    have hna : numAt L p = p := by unfold numAt; rw [if_neg hat]
    have hdg : dgJ L p = p + (Lib.decDigits n.toNat).length := runJ_is a2 hl hs
    unfold numJ
    rw [hna, hdg, show p + (Lib.decDigits n.toNat).length - p = (Lib.decDigits n.toNat).length by omega, a1, if_neg, if_neg hat]
    · refine congrArg some (Prod.ext ?_ rfl)
      show ((n.toNat : Nat) : Int) = n; omega
    · rintro (e | ⟨e1, e2⟩ | e)
      · omega
      · exact a3 (a5 (by omega)) e2
      · omega
theorem itoa_first {L : List UInt8} {p : Nat} {n : Int} (h : Sit L p (Lib.itoa n)) : p < L.length ∧ (byAt L p = 45 ∨ digC (byAt L p) = true) := by
  unfold Lib.itoa at h
  by_cases hn : n < 0
  · rw [if_pos hn] at h
    exact ⟨h.one.1, .inl h.one.2⟩
  · rw [if_neg hn] at h
    obtain ⟨a1, a2, a3, a4, a5⟩ := dec_sit (L := L) n.toNat n.toNat p (Nat.le_refl _) h
    have hl := h.len
    exact ⟨by omega, .inr (by have := a2 0 (by omega); rwa [Nat.add_zero] at this)⟩

theorem hexC_hexB0 : ∀ d : Fin 16, hexC (hexB d.val).toNat = some d.val := by decide +kernel
theorem hexC_hexB {d : Nat} (h : d < 16) : hexC (hexB d).toNat = some d := hexC_hexB0 ⟨d, h⟩
theorem quoB_says (c : UInt8) (hc : c.toNat ≤ 127) : (∃ x : UInt8, quoB c = [92, x] ∧ escC x.toNat = some c.toNat) ∨ (∃ a b : UInt8, quoB c = [92, 117, 48, 48, a, b] ∧ ∃ u v, hexC a.toNat = some u ∧ hexC b.toNat = some v ∧ 16 * u + v = c.toNat) ∨ (quoB c = [c] ∧ c ≠ 34 ∧ c ≠ 92 ∧ 32 ≤ c.toNat) := by
  unfold quoB
  split
  · rename_i e; subst e; exact .inl ⟨34, rfl, rfl⟩
  split
  · rename_i e; subst e; exact .inl ⟨92, rfl, rfl⟩
  split
  · rename_i e; subst e; exact .inl ⟨98, rfl, rfl⟩
  split
  · rename_i e; subst e; exact .inl ⟨116, rfl, rfl⟩
  split
  · rename_i e; subst e; exact .inl ⟨110, rfl, rfl⟩
  split
  · rename_i e; subst e; exact .inl ⟨102, rfl, rfl⟩
  split
  · rename_i e; subst e; exact .inl ⟨114, rfl, rfl⟩
  split
  · exact .inr (.inl ⟨_, _, rfl, c.toNat / 16, c.toNat % 16, hexC_hexB (by omega), hexC_hexB (by omega), by omega⟩)
  · rename_i h34 h92 _ _ _ _ _ h
    refine .inr (.inr ⟨rfl, h34, h92, ?_⟩)
    have : ¬ c < 32 := fun e => h (.inl e)
    rw [UInt8.lt_iff_toNat_lt] at this
    have e32 : (32 : UInt8).toNat = 32 := rfl
    omega
theorem esc_at {L : List UInt8} {p : Nat} {x : UInt8} {b : Nat} (h : p < L.length) (hx : byAt L p = x.toNat) (hb : escC x.toNat = some b) : escJ L p = some (b, p + 1) := by
  unfold escJ; rw [if_neg (by omega), hx]; simp only [hb]
theorem code_at {L : List UInt8} {p : Nat} {a b : UInt8} {u v : Nat} (h : Sit L p [117, 48, 48, a, b]) (ha : hexC a.toNat = some u) (hb : hexC b.toNat = some v) (hv : 16 * u + v ≤ 127) : escJ L p = some (16 * u + v, p + 5) := by
  have hl := h.len
  simp only [List.length_cons, List.length_nil] at hl
  have b0 := h.byte (j := 0) rfl
  have b1 := h.byte (j := 1) rfl
  have b2 := h.byte (j := 2) rfl
  have b3 := h.byte (j := 3) rfl
  have b4 := h.byte (j := 4) rfl
  rw [Nat.add_zero] at b0
  have e0 : escC (byAt L p) = none := by rw [b0]; rfl
  unfold escJ
  rw [if_neg (by omega)]
  simp only [e0]
  rw [if_pos (show byAt L p = 117 from b0)]
  have h1 : hexF L (p + 1) 1 = some 0 := by rw [hexF, hexF]; simp only [Nat.add_zero, b1]; rfl
  have h2 : hexF L (p + 1) 2 = some 0 := by rw [hexF, h1, show p + 1 + 1 = p + 2 by omega, b2]; rfl
  have h3 : hexF L (p + 1) 3 = some u := by rw [hexF, h2, show p + 1 + 2 = p + 3 by omega, b3]; simp only [ha]; simp
  have h4 : hexF L (p + 1) 4 = some (16 * u + v) := by rw [hexF, h3, show p + 1 + 3 = p + 4 by omega, b4]; simp only [hb]
  rw [codeJ_yes (by omega) h4 hv]
theorem tx_sit {L : List UInt8} : ∀ (l : List UInt8) (q : Nat), (∀ c ∈ l, c.toNat ≤ 127) → Sit L q (quo l ++ [34]) → txJ L q = some (l, q + (quo l).length + 1) := by
  intro l
  induction l with
  | nil =>
    intro q _ h
    obtain ⟨h1, h2⟩ := Sit.one (B := []) h
    rw [txJ_eq h1, if_pos (by rw [h2]; rfl)]
    rfl
  | cons c l ih =>
    intro q hc h
    have hc0 := hc c (by simp)
    have hcl : ∀ d ∈ l, d.toNat ≤ 127 := fun d hd => hc d (by simp [hd])
    have hof : UInt8.ofNat c.toNat = c := by simp
    rw [quo, List.append_assoc] at h
    have hr := ih _ hcl h.right
    rw [quo, List.length_append]
    rcases quoB_says c hc0 with ⟨x, e, ex⟩ | ⟨a, b, e, u, v, eu, ev, euv⟩ | ⟨e, n34, n92, n32⟩
    · rw [e] at h hr ⊢
      have hl := h.left
      obtain ⟨h1, h2⟩ := hl.one
      obtain ⟨h3, h4⟩ := hl.next.one
      have hesc := esc_at h3 h4 ex
      rw [txJ_eq h1, if_neg (by rw [h2]; decide), if_pos (by rw [h2]; rfl), hesc]
      simp only [List.length_cons, List.length_nil] at hr ⊢
      rw [show q + 1 + 1 = q + (0 + 1 + 1) by omega, hr, hof]
      refine congrArg some (Prod.ext rfl ?_)
      show q + (0 + 1 + 1) + (quo l).length + 1 = q + (0 + 1 + 1 + (quo l).length) + 1; omega
    · rw [e] at h hr ⊢
      have hl := h.left
      obtain ⟨h1, h2⟩ := hl.one
      have hesc := code_at hl.next eu ev (by omega)
      rw [txJ_eq h1, if_neg (by rw [h2]; decide), if_pos (by rw [h2]; rfl), hesc]
      simp only [List.length_cons, List.length_nil] at hr ⊢
      rw [show q + 1 + 5 = q + (0 + 1 + 1 + 1 + 1 + 1 + 1) by omega, hr, euv, hof]
      refine congrArg some (Prod.ext rfl ?_)
      show q + (0 + 1 + 1 + 1 + 1 + 1 + 1) + (quo l).length + 1 = q + (0 + 1 + 1 + 1 + 1 + 1 + 1 + (quo l).length) + 1; omega
    · rw [e] at h hr ⊢
      obtain ⟨h1, h2⟩ := h.left.one
      have m34 : ¬ byAt L q = 34 := fun e2 => n34 (UInt8.toNat_inj.1 (by rw [← h2, e2]; rfl))
      have m92 : ¬ byAt L q = 92 := fun e2 => n92 (UInt8.toNat_inj.1 (by rw [← h2, e2]; rfl))
      rw [txJ_eq h1, if_neg m34, if_neg m92, if_neg (by omega)]
      simp only [List.length_cons, List.length_nil] at hr ⊢
      rw [show q + 1 = q + (0 + 1) by omega, hr, h2, hof]
      refine congrArg some (Prod.ext rfl ?_)
      show q + (0 + 1) + (quo l).length + 1 = q + (0 + 1 + (quo l).length) + 1; omega
theorem textB_all {s : ByteArray} (h : textB s = true) : ∀ c ∈ s.data.toList, c.toNat ≤ 127 := by
  unfold textB at h
  simp only [Bool.and_eq_true, List.all_eq_true, decide_eq_true_eq] at h
  exact h.2
theorem quoT_sit {L : List UInt8} {p : Nat} {s : ByteArray} (hs : textB s = true) (h : Sit L p (quoT s)) : isAt L p 34 = true ∧ txJ L (p + 1) = some (s.data.toList, p + (quoT s).length) := by
  unfold quoT at h ⊢
  obtain ⟨h1, h2⟩ := h.one
  refine ⟨isAt_yes.2 ⟨h1, h2⟩, ?_⟩
  rw [tx_sit _ _ (textB_all hs) h.next]
  refine congrArg some (Prod.ext rfl ?_)
  simp only [List.length_cons, List.length_append, List.length_nil]
  omega
theorem word_sit1 {L B : List UInt8} {p : Nat} (h : Sit L p B) : wordAt L p B = true := by
  obtain ⟨h0, post, h⟩ := h
  unfold wordAt
  rw [h, List.take_left]
  simp
theorem word_other {L : List UInt8} {p : Nat} {c : UInt8} {w : List UInt8} (h : byAt L p ≠ c.toNat) : wordAt L p (c :: w) = false := by
  rw [Bool.eq_false_iff]
  intro e
  exact h (isAt_yes.1 (wordAt_first e)).2
end Go.Proofs.YtagcgnhpdmhegaaGreatDoor
