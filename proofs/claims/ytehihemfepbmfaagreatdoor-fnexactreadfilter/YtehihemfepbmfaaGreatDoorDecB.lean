/-
  Plain: what stands at a place of a text, as JSON has it: blanks, digits, words, escapes, texts.
-/
import Derived.Test.YtehihemfepbmfaaGreatDoorUneP
import Derived.Lib.ItoaNum
import Derived.Lib.ParseIntBTie
namespace Go.Proofs.YtehihemfepbmfaaGreatDoor
open Go.RowKit
set_option linter.unusedSimpArgs false
set_option linter.unusedVariables false

/-- Does the byte c stand at p? -/
def isAt (L : List UInt8) (p c : Nat) : Bool := decide (p < L.length) && decide (byAt L p = c)
theorem isAt_yes {L : List UInt8} {p c : Nat} : isAt L p c = true ↔ p < L.length ∧ byAt L p = c := by unfold isAt; simp
theorem isAt_no {L : List UInt8} {p c : Nat} : isAt L p c = false ↔ ¬ (p < L.length ∧ byAt L p = c) := by unfold isAt; simp

def runF (P : Nat → Bool) (L : List UInt8) : Nat → Nat → Nat
  | 0, p => p
  | f + 1, p => if P (byAt L p) = true then runF P L f (p + 1) else p
/-- The first place from p on whose byte is none of these. -/
def runJ (P : Nat → Bool) (L : List UInt8) (p : Nat) : Nat := runF P L (L.length - p) p
theorem runJ_yes {P : Nat → Bool} {L : List UInt8} {p : Nat} (h : p < L.length) (hb : P (byAt L p) = true) : runJ P L p = runJ P L (p + 1) := by
  unfold runJ
  rw [show L.length - p = L.length - (p + 1) + 1 by omega, runF, if_pos hb]
theorem runJ_no {P : Nat → Bool} {L : List UInt8} {p : Nat} (h : ¬ (p < L.length ∧ P (byAt L p) = true)) : runJ P L p = p := by
  unfold runJ
  by_cases hp : p < L.length
  · rw [show L.length - p = L.length - (p + 1) + 1 by omega, runF, if_neg (fun e => h ⟨hp, e⟩)]
  · rw [show L.length - p = 0 by omega, runF]
theorem runF_says (P : Nat → Bool) (L : List UInt8) : ∀ f p, p ≤ runF P L f p ∧ runF P L f p ≤ p + f ∧ (∀ j, p ≤ j → j < runF P L f p → P (byAt L j) = true) ∧ (runF P L f p < p + f → P (byAt L (runF P L f p)) = false) := by
  intro f
  induction f with
  | zero => intro p; exact ⟨Nat.le_refl _, Nat.le_refl _, fun j h1 h2 => by rw [runF] at h2; omega, fun h => by rw [runF] at h; omega⟩
  | succ f ih =>
    intro p
    rw [runF]
    by_cases h : P (byAt L p) = true
    · rw [if_pos h]
      obtain ⟨a1, a2, a3, a4⟩ := ih (p + 1)
      refine ⟨by omega, by omega, fun j h1 h2 => ?_, fun h2 => a4 (by omega)⟩
      by_cases e : j = p
      · rw [e]; exact h
      · exact a3 j (by omega) h2
    · rw [if_neg h]
      exact ⟨Nat.le_refl _, by omega, fun j h1 h2 => by omega, fun _ => by simpa using h⟩
theorem runJ_ge (P : Nat → Bool) (L : List UInt8) (p : Nat) : p ≤ runJ P L p := (runF_says P L _ p).1
theorem runJ_le {P : Nat → Bool} {L : List UInt8} {p : Nat} (h : p ≤ L.length) : runJ P L p ≤ L.length := by have := (runF_says P L (L.length - p) p).2.1; unfold runJ; omega
theorem runJ_in {P : Nat → Bool} {L : List UInt8} {p j : Nat} (h1 : p ≤ j) (h2 : j < runJ P L p) : P (byAt L j) = true := (runF_says P L _ p).2.2.1 j h1 h2
theorem runJ_end {P : Nat → Bool} {L : List UInt8} {p : Nat} (h : runJ P L p < L.length) : P (byAt L (runJ P L p)) = false := by
  refine (runF_says P L (L.length - p) p).2.2.2 ?_
  have := runJ_ge P L p
  unfold runJ at h this
  omega
theorem runJ_idem (P : Nat → Bool) (L : List UInt8) (p : Nat) : runJ P L (runJ P L p) = runJ P L p := by
  refine runJ_no (fun h => ?_)
  have := runJ_end h.1
  rw [h.2] at this
  cases this
theorem runJ_past {P : Nat → Bool} {L : List UInt8} {p : Nat} (h : L.length ≤ p) : runJ P L p = p := runJ_no (fun e => by omega)

def digC (c : Nat) : Bool := decide (48 ≤ c ∧ c ≤ 57)
abbrev dgJ (L : List UInt8) (p : Nat) : Nat := runJ digC L p
/-- The value of k digits at p. -/
def valF (L : List UInt8) (p : Nat) : Nat → Nat
  | 0 => 0
  | k + 1 => 10 * valF L p k + (byAt L (p + k) - 48)
theorem valF_mono (L : List UInt8) (p : Nat) : ∀ {k m : Nat}, k ≤ m → valF L p k ≤ valF L p m := by
  intro k m h
  induction h with
  | refl => exact Nat.le_refl _
  | step _ ih => rw [valF]; omega
/-- A number at p. -/
def numAt (L : List UInt8) (p : Nat) : Nat := if isAt L p 45 = true then p + 1 else p
def numJ (L : List UInt8) (p : Nat) : Option (Int × Nat) :=
  if dgJ L (numAt L p) = numAt L p ∨ (numAt L p + 1 < dgJ L (numAt L p) ∧ byAt L (numAt L p) = 48) ∨ 1000000000000000 < valF L (numAt L p) (dgJ L (numAt L p) - numAt L p) then none
  else some (if isAt L p 45 = true then -((valF L (numAt L p) (dgJ L (numAt L p) - numAt L p) : Nat) : Int) else ((valF L (numAt L p) (dgJ L (numAt L p) - numAt L p) : Nat) : Int), dgJ L (numAt L p))
/-- A word at p. -/
def wordAt (L : List UInt8) (p : Nat) (w : List UInt8) : Bool := decide ((L.drop p).take w.length = w)
def nullW : List UInt8 := [110, 117, 108, 108]
def trueW : List UInt8 := [116, 114, 117, 101]
def falseW : List UInt8 := [102, 97, 108, 115, 101]
theorem wordAt_le {L : List UInt8} {p : Nat} {w : List UInt8} (h : wordAt L p w = true) (hw : w ≠ []) : p + w.length ≤ L.length := by
  unfold wordAt at h
  simp only [decide_eq_true_eq] at h
  have := congrArg List.length h
  rw [List.length_take, List.length_drop] at this
  have : 0 < w.length := by cases w; exact absurd rfl hw; simp
  omega
/-- What one letter behind a \ says. -/
def escC (c : Nat) : Option Nat :=
  if c = 34 then some 34 else if c = 92 then some 92 else if c = 47 then some 47 else if c = 98 then some 8 else if c = 102 then some 12 else if c = 110 then some 10 else if c = 114 then some 13 else if c = 116 then some 9 else none
def hexC (c : Nat) : Option Nat := if 48 ≤ c ∧ c ≤ 57 then some (c - 48) else if 97 ≤ c ∧ c ≤ 102 then some (c - 87) else if 65 ≤ c ∧ c ≤ 70 then some (c - 55) else none
theorem hexC_lt {c d : Nat} (h : hexC c = some d) : d < 16 := by
  unfold hexC at h
  split at h
  · simp at h; omega
  · split at h
    · simp at h; omega
    · split at h
      · simp at h; omega
      · cases h
/-- The value of k digits of sixteen at p; none: one is no digit. -/
def hexF (L : List UInt8) (p : Nat) : Nat → Option Nat
  | 0 => some 0
  | k + 1 => match hexF L p k with
    | none => none
    | some v => match hexC (byAt L (p + k)) with
      | none => none
      | some d => some (16 * v + d)
theorem hexF_lt (L : List UInt8) (p : Nat) : ∀ {k v : Nat}, hexF L p k = some v → v < 16 ^ k := by
  intro k
  induction k with
  | zero => intro v h; simp [hexF] at h; omega
  | succ k ih =>
    intro v h
    rw [hexF] at h
    cases e : hexF L p k with
    | none => simp [e] at h
    | some u =>
      simp only [e] at h
      cases e2 : hexC (byAt L (p + k)) with
      | none => simp [e2] at h
      | some d =>
        simp only [e2, Option.some.injEq] at h
        have := ih e
        have := hexC_lt e2
        rw [Nat.pow_succ]
        omega
def codeJ (L : List UInt8) (p : Nat) : Option (Nat × Nat) :=
  if L.length < p + 4 then none else match hexF L p 4 with
    | none => none
    | some v => if 127 < v then none else some (v, p + 4)
theorem hexF_step {L : List UInt8} {p k v d : Nat} (h : hexF L p k = some v) (hd : hexC (byAt L (p + k)) = some d) : hexF L p (k + 1) = some (16 * v + d) := by rw [hexF, h]; simp only [hd]
theorem hexF_none {L : List UInt8} {p k : Nat} (h : hexF L p k = none) : ∀ m, k ≤ m → hexF L p m = none := by
  intro m hm
  induction hm with
  | refl => exact h
  | step _ ih => rw [hexF, ih]
theorem hexF_stop {L : List UInt8} {p k v m : Nat} (h : hexF L p k = some v) (hd : hexC (byAt L (p + k)) = none) (hm : k < m) : hexF L p m = none := hexF_none (k := k + 1) (by rw [hexF, h]; simp only [hd]) m (by omega)
theorem codeJ_short {L : List UInt8} {p : Nat} (h : L.length < p + 4) : codeJ L p = none := by unfold codeJ; rw [if_pos h]
theorem codeJ_no {L : List UInt8} {p : Nat} (h : hexF L p 4 = none) : codeJ L p = none := by unfold codeJ; rw [h]; split <;> rfl
theorem codeJ_big {L : List UInt8} {p v : Nat} (h : hexF L p 4 = some v) (hv : 127 < v) : codeJ L p = none := by
  unfold codeJ
  split
  · rfl
  · rw [h]; simp only [if_pos hv]
theorem codeJ_yes {L : List UInt8} {p v : Nat} (hp : p + 4 ≤ L.length) (h : hexF L p 4 = some v) (hv : v ≤ 127) : codeJ L p = some (v, p + 4) := by
  unfold codeJ
  rw [if_neg (by omega), h]
  simp only [if_neg (by omega : ¬ 127 < v)]
/-- What stands behind a \. -/
def escJ (L : List UInt8) (p : Nat) : Option (Nat × Nat) :=
  if L.length ≤ p then none else match escC (byAt L p) with
    | some b => some (b, p + 1)
    | none => if byAt L p = 117 then codeJ L (p + 1) else none
theorem escJ_says {L : List UInt8} {p b q : Nat} (h : escJ L p = some (b, q)) : p < q ∧ q ≤ L.length ∧ b ≤ 127 := by
  unfold escJ at h
  split at h
  · cases h
  · rename_i hp
    cases e : escC (byAt L p) with
    | some b' =>
      simp only [e, Option.some.injEq, Prod.mk.injEq] at h
      obtain ⟨rfl, rfl⟩ := h
      refine ⟨by omega, by omega, ?_⟩
      unfold escC at e
      repeat (split at e; · simp at e; omega)
      cases e
    | none =>
      simp only [e] at h
      split at h
      · unfold codeJ at h
        split at h
        · cases h
        · rename_i h4
          cases e2 : hexF L (p + 1) 4 with
          | none => simp [e2] at h
          | some v =>
            simp only [e2] at h
            split at h
            · cases h
            · rename_i hv
              simp only [Option.some.injEq, Prod.mk.injEq] at h
              obtain ⟨rfl, rfl⟩ := h
              exact ⟨by omega, by omega, by omega⟩
      · cases h
def textF (L : List UInt8) : Nat → Nat → Option (List UInt8 × Nat)
  | 0, _ => none
  | f + 1, p => if byAt L p = 34 then some ([], p + 1)
    else if byAt L p = 92 then match escJ L (p + 1) with
      | none => none
      | some (b, q) => match textF L f q with
        | none => none
        | some (l, z) => some (UInt8.ofNat b :: l, z)
    else if byAt L p < 32 ∨ 127 < byAt L p then none
    else match textF L f (p + 1) with
      | none => none
      | some (l, z) => some (UInt8.ofNat (byAt L p) :: l, z)
/-- A text behind its first quote. -/
def txJ (L : List UInt8) (p : Nat) : Option (List UInt8 × Nat) := textF L (L.length - p) p
theorem byAt_past {L : List UInt8} {p : Nat} (h : L.length ≤ p) : byAt L p = 0 := by
  unfold byAt
  rw [List.getD_eq_getElem?_getD, List.getElem?_eq_none h]; rfl
theorem textF_past {L : List UInt8} {p : Nat} (h : L.length ≤ p) (f : Nat) : textF L f p = none := by
  cases f with
  | zero => rfl
  | succ f => rw [textF, byAt_past h]; rfl
theorem textF_same (L : List UInt8) : ∀ m p f g, L.length - p ≤ m → L.length - p ≤ f → L.length - p ≤ g → textF L f p = textF L g p := by
  intro m
  induction m with
  | zero => intro p f g h _ _; rw [textF_past (by omega), textF_past (by omega)]
  | succ m ih =>
    intro p f g h hf hg
    by_cases hp : L.length ≤ p
    · rw [textF_past hp, textF_past hp]
    · obtain ⟨f, rfl⟩ : ∃ f', f = f' + 1 := ⟨f - 1, by omega⟩
      obtain ⟨g, rfl⟩ : ∃ g', g = g' + 1 := ⟨g - 1, by omega⟩
      have key : ∀ q, p < q → textF L f q = textF L g q := fun q hq => ih q f g (by omega) (by omega) (by omega)
      rw [textF, textF, key (p + 1) (by omega)]
      cases e : escJ L (p + 1) with
      | none => rfl
      | some x =>
        obtain ⟨b, q⟩ := x
        have := escJ_says e
        dsimp only
        rw [key q (by omega)]
theorem txJ_eq {L : List UInt8} {p : Nat} (h : p < L.length) : txJ L p = if byAt L p = 34 then some ([], p + 1)
    else if byAt L p = 92 then match escJ L (p + 1) with
      | none => none
      | some (b, q) => match txJ L q with
        | none => none
        | some (l, z) => some (UInt8.ofNat b :: l, z)
    else if byAt L p < 32 ∨ 127 < byAt L p then none
    else match txJ L (p + 1) with
      | none => none
      | some (l, z) => some (UInt8.ofNat (byAt L p) :: l, z) := by
  have e1 : textF L (L.length - (p + 1)) (p + 1) = txJ L (p + 1) := rfl
  conv => lhs; unfold txJ
  rw [show L.length - p = L.length - (p + 1) + 1 by omega, textF, e1]
  cases e : escJ L (p + 1) with
  | none => rfl
  | some x =>
    obtain ⟨b, q⟩ := x
    have := escJ_says e
    dsimp only
    rw [textF_same L L.length q (L.length - (p + 1)) (L.length - q) (by omega) (by omega) (by omega)]
    rfl
theorem txJ_past {L : List UInt8} {p : Nat} (h : L.length ≤ p) : txJ L p = none := textF_past h _
theorem txJ_says {L : List UInt8} : ∀ m p l q, L.length - p ≤ m → txJ L p = some (l, q) → p < q ∧ q ≤ L.length ∧ l.length < q - p ∧ ∀ c ∈ l, c.toNat ≤ 127 := by
  intro m
  induction m with
  | zero => intro p l q h e; rw [txJ_past (by omega)] at e; cases e
  | succ m ih =>
    intro p l q h e
    by_cases hp : L.length ≤ p
    · rw [txJ_past hp] at e; cases e
    · rw [txJ_eq (by omega)] at e
      split at e
      · simp only [Option.some.injEq, Prod.mk.injEq] at e
        obtain ⟨rfl, rfl⟩ := e
        exact ⟨by omega, by omega, by simp, fun c hc => absurd hc (by simp)⟩
      · split at e
        · cases e1 : escJ L (p + 1) with
          | none => simp [e1] at e
          | some x =>
            obtain ⟨b, z⟩ := x
            simp only [e1] at e
            obtain ⟨a1, a2, a3⟩ := escJ_says e1
            cases e2 : txJ L z with
            | none => simp [e2] at e
            | some y =>
              obtain ⟨l2, z2⟩ := y
              simp only [e2, Option.some.injEq, Prod.mk.injEq] at e
              obtain ⟨rfl, rfl⟩ := e
              obtain ⟨b1, b2, b3, b4⟩ := ih z l2 z2 (by omega) e2
              refine ⟨by omega, b2, by simp; omega, fun c hc => ?_⟩
              rcases List.mem_cons.1 hc with rfl | hc
              · rw [UInt8.toNat_ofNat']; omega
              · exact b4 c hc
        · split at e
          · cases e
          · rename_i hr
            cases e2 : txJ L (p + 1) with
            | none => simp [e2] at e
            | some y =>
              obtain ⟨l2, z2⟩ := y
              simp only [e2, Option.some.injEq, Prod.mk.injEq] at e
              obtain ⟨rfl, rfl⟩ := e
              obtain ⟨b1, b2, b3, b4⟩ := ih (p + 1) l2 z2 (by omega) e2
              refine ⟨by omega, b2, by simp; omega, fun c hc => ?_⟩
              rcases List.mem_cons.1 hc with rfl | hc
              · rw [UInt8.toNat_ofNat']; omega
              · exact b4 c hc
end Go.Proofs.YtehihemfepbmfaaGreatDoor

/-
  Plain: what l1Int reads out of a text, and that a number at a place of a text is read so.
-/
namespace Go.Proofs.YtehihemfepbmfaaGreatDoor
open Go.RowKit
set_option linter.unusedSimpArgs false
set_option linter.unusedVariables false

def digsI (d : List UInt8) : Prop := ∀ j, j < d.length → digC (byAt d j) = true
instance (d : List UInt8) : Decidable (digsI d) := by unfold digsI; infer_instance
/-- The number of a row of digits, behind a sign or not. -/
def intD (neg : Bool) (d : List UInt8) : Option Int :=
  if d.length < 1 ∨ 16 < d.length ∨ (byAt d 0 = 48 ∧ (1 < d.length ∨ neg = true)) ∨ ¬ digsI d ∨ 1000000000000000 < valF d 0 d.length then none
  else some (if neg = true then -((valF d 0 d.length : Nat) : Int) else ((valF d 0 d.length : Nat) : Int))
def negI (l : List UInt8) : Bool := decide (1 < l.length ∧ byAt l 0 = 45)
def intT (l : List UInt8) : Option Int := if negI l = true then intD true (l.drop 1) else intD false l
theorem intT_neg {l : List UInt8} (h : negI l = true) : intT l = intD true (l.drop 1) := by unfold intT; rw [if_pos h]
theorem intT_pos {l : List UInt8} (h : negI l = false) : intT l = intD false l := by unfold intT; rw [if_neg (by rw [h]; simp)]
theorem intD_no {neg : Bool} {d : List UInt8} (h : d.length < 1 ∨ 16 < d.length ∨ (byAt d 0 = 48 ∧ (1 < d.length ∨ neg = true)) ∨ ¬ digsI d ∨ 1000000000000000 < valF d 0 d.length) : intD neg d = none := by unfold intD; rw [if_pos h]
theorem intD_yes {neg : Bool} {d : List UInt8} (h : ¬ (d.length < 1 ∨ 16 < d.length ∨ (byAt d 0 = 48 ∧ (1 < d.length ∨ neg = true)) ∨ ¬ digsI d ∨ 1000000000000000 < valF d 0 d.length)) : intD neg d = some (if neg = true then -((valF d 0 d.length : Nat) : Int) else ((valF d 0 d.length : Nat) : Int)) := by unfold intD; rw [if_neg h]
theorem byAt_cut {L : List UInt8} {q m j : Nat} (h : j < m) : byAt ((L.drop q).take m) j = byAt L (q + j) := by
  unfold byAt
  rw [List.getD_eq_getElem?_getD, List.getD_eq_getElem?_getD, List.getElem?_take, if_pos h, List.getElem?_drop]
theorem valF_cut {L : List UInt8} {q m : Nat} : ∀ {k : Nat}, k ≤ m → valF ((L.drop q).take m) 0 k = valF L q k := by
  intro k
  induction k with
  | zero => intro _; rfl
  | succ k ih => intro h; rw [valF, valF, ih (by omega), Nat.zero_add, byAt_cut (by omega)]
theorem valF_low {L : List UInt8} {q : Nat} : ∀ {k : Nat}, 48 < byAt L q → 10 ^ k ≤ valF L q (k + 1) := by
  intro k h
  induction k with
  | zero => rw [valF, valF]; simp; omega
  | succ k ih => rw [valF, Nat.pow_succ]; omega
theorem valF_top {L : List UInt8} {q : Nat} : ∀ {k : Nat}, (∀ j, j < k → digC (byAt L (q + j)) = true) → valF L q k < 10 ^ k := by
  intro k
  induction k with
  | zero => intro _; simp [valF]
  | succ k ih =>
    intro h
    have h1 := ih (fun j hj => h j (by omega))
    have h2 := h k (by omega)
    unfold digC at h2
    simp only [decide_eq_true_eq] at h2
    rw [valF, Nat.pow_succ]
    omega
theorem cut_len {L : List UInt8} {q m : Nat} (h : q + m ≤ L.length) : ((L.drop q).take m).length = m := by
  rw [List.length_take, List.length_drop]; omega
theorem valF_long {L : List UInt8} {q m : Nat} (h0 : 48 < byAt L q) (hm : 16 < m) : 1000000000000000 < valF L q m := by
  have h1 := valF_low (k := 16) h0
  have h2 := valF_mono L q (show 16 + 1 ≤ m by omega)
  have : (1000000000000000 : Nat) < 10 ^ 16 := by decide
  omega
/-- Digits that stand at q, up to z. -/
theorem intD_at {L : List UInt8} {q z : Nat} {neg : Bool} (hz : dgJ L q = z) (hq : q ≤ L.length) (hn : neg = true → ¬ (z = q + 1 ∧ byAt L q = 48)) :
    intD neg ((L.drop q).take (z - q)) = if z = q ∨ (q + 1 < z ∧ byAt L q = 48) ∨ 1000000000000000 < valF L q (z - q) then none else some (if neg = true then -((valF L q (z - q) : Nat) : Int) else ((valF L q (z - q) : Nat) : Int)) := by
  have hge : q ≤ z := by rw [← hz]; exact runJ_ge _ _ _
  have hle : z ≤ L.length := by rw [← hz]; exact runJ_le hq
  have hin : ∀ j, j < z - q → digC (byAt L (q + j)) = true := fun j hj => runJ_in (p := q) (by omega) (by show q + j < dgJ L q; rw [hz]; omega)
  have hl := cut_len (L := L) (q := q) (m := z - q) (by omega)
  by_cases h0 : z = q
  · rw [if_pos (.inl h0), intD_no (.inl (by omega))]
  have hb0 : byAt ((L.drop q).take (z - q)) 0 = byAt L q := byAt_cut (by omega)
  have hdg : digsI ((L.drop q).take (z - q)) := fun j hj => by rw [hl] at hj; rw [byAt_cut hj]; exact hin j hj
  have hval : valF ((L.drop q).take (z - q)) 0 ((L.drop q).take (z - q)).length = valF L q (z - q) := by rw [hl]; exact valF_cut (Nat.le_refl _)
  have h48 := hin 0 (by omega)
  unfold digC at h48
  simp only [decide_eq_true_eq, Nat.add_zero] at h48
  by_cases hbad : (q + 1 < z ∧ byAt L q = 48) ∨ 1000000000000000 < valF L q (z - q)
  · rw [if_pos (.inr hbad)]
    refine intD_no ?_
    rw [hval, hl, hb0]
    rcases hbad with h | h
    · exact .inr (.inr (.inl ⟨h.2, .inl (by omega)⟩))
    · exact .inr (.inr (.inr (.inr h)))
  · rw [if_neg (fun h => by rcases h with h | h; exact h0 h; exact hbad h)]
    rw [intD_yes, hval]
    rw [hval, hl, hb0]
    rintro (h | h | ⟨h, h1⟩ | h | h)
    · omega
    · by_cases h1 : byAt L q = 48
      · exact hbad (.inl ⟨by omega, h1⟩)
      · exact hbad (.inr (valF_long (by omega) h))
    · rcases h1 with h1 | h1
      · exact hbad (.inl ⟨by omega, h⟩)
      · by_cases h2 : z = q + 1
        · exact hn h1 ⟨h2, h⟩
        · exact hbad (.inl ⟨by omega, h⟩)
    · exact h hdg
    · exact hbad (.inr h)
/-- The text of the number at p. -/
def numW (L : List UInt8) (p : Nat) : List UInt8 := (L.drop p).take (dgJ L (numAt L p) - p)
theorem numAt_ge (L : List UInt8) (p : Nat) : p ≤ numAt L p := by unfold numAt; split <;> omega
theorem numAt_le {L : List UInt8} {p : Nat} (h : p ≤ L.length) : numAt L p ≤ L.length := by
  unfold numAt
  split
  · rename_i e; have := (isAt_yes.1 e).1; omega
  · exact h
theorem numW_int {L : List UInt8} {p : Nat} (hp : p ≤ L.length) : (numW L p = [45, 48] → numJ L p = some (0, dgJ L (numAt L p))) ∧ (numW L p ≠ [45, 48] → numJ L p = match intT (numW L p) with | none => none | some v => some (v, dgJ L (numAt L p))) := by
  obtain ⟨q, hq⟩ : ∃ q, numAt L p = q := ⟨_, rfl⟩
  obtain ⟨z, hz⟩ : ∃ z, dgJ L q = z := ⟨_, rfl⟩
  have hge : q ≤ z := by rw [← hz]; exact runJ_ge _ _ _
  have hql : q ≤ L.length := by rw [← hq]; exact numAt_le hp
  have hle : z ≤ L.length := by rw [← hz]; exact runJ_le hql
  have hw : numW L p = (L.drop p).take (z - p) := by unfold numW; rw [hq, hz]
  have hpq := numAt_ge L p
  have hlen := cut_len (L := L) (q := p) (m := z - p) (by omega)
  have hnum : numJ L p = if z = q ∨ (q + 1 < z ∧ byAt L q = 48) ∨ 1000000000000000 < valF L q (z - q) then none else some (if isAt L p 45 = true then -((valF L q (z - q) : Nat) : Int) else ((valF L q (z - q) : Nat) : Int), z) := by unfold numJ; rw [hq, hz]
  have hin : ∀ j, j < z - q → digC (byAt L (q + j)) = true := fun j hj => runJ_in (p := q) (by omega) (by show q + j < dgJ L q; rw [hz]; omega)
  rw [hw, hq, hz]
  by_cases hn : isAt L p 45 = true
  · have hq1 : q = p + 1 := by rw [← hq]; unfold numAt; rw [if_pos hn]
    have h45 := (isAt_yes.1 hn).2
    refine ⟨fun h => ?_, fun h => ?_⟩
    · have hl2 : z - p = 2 := by rw [h] at hlen; simpa using hlen.symm
      have h48 : byAt L q = 48 := by
        have := byAt_cut (L := L) (q := p) (m := z - p) (j := 1) (by omega)
        rw [h] at this
        rw [hq1, ← this]; rfl
      have hv : valF L q (z - q) = 0 := by rw [show z - q = 1 by omega, valF, valF, Nat.add_zero, h48]
      rw [hnum, hv, if_neg (by omega)]
      simp
    · by_cases hzq : z = q
      · rw [hnum, if_pos (.inl hzq)]
        have hng : negI ((L.drop p).take (z - p)) = false := by unfold negI; rw [hlen]; simp; omega
        rw [intT_pos hng, intD_no]
        refine .inr (.inr (.inr (.inl (fun hd => ?_))))
        have := hd 0 (by omega)
        rw [byAt_cut (by omega), Nat.add_zero, h45] at this
        cases this
      · have hng : negI ((L.drop p).take (z - p)) = true := by
          unfold negI; rw [hlen, byAt_cut (by omega), Nat.add_zero, h45]; simp; omega
        have hdr : ((L.drop p).take (z - p)).drop 1 = (L.drop q).take (z - q) := by
          rw [List.drop_take, List.drop_drop, hq1, show z - p - 1 = z - (p + 1) by omega]
        rw [intT_neg hng, hdr, intD_at hz hql, hnum]
        · split
          · rfl
          · rfl
        · rintro - ⟨h1, h2⟩
          refine h ?_
          have e2 : z - p = 2 := by omega
          rw [e2]
          have hp0 : p < L.length := by omega
          have hp1 : p + 1 < L.length := by omega
          rw [List.drop_eq_getElem_cons hp0, List.drop_eq_getElem_cons hp1]
          have b0 : L[p] = 45 := by
            have := h45; unfold byAt at this; rw [List.getD_eq_getElem?_getD, List.getElem?_eq_getElem hp0] at this
            exact UInt8.toNat_inj.1 this
          have b1 : L[p + 1] = 48 := by
            have := h2; rw [hq1] at this; unfold byAt at this; rw [List.getD_eq_getElem?_getD, List.getElem?_eq_getElem hp1] at this
            exact UInt8.toNat_inj.1 this
          rw [b0, b1]; rfl
  · have hq1 : q = p := by rw [← hq]; unfold numAt; rw [if_neg hn]
    subst hq1
    have hnd : ∀ h : 0 < z - q, byAt ((L.drop q).take (z - q)) 0 ≠ 45 := fun h e => by
      rw [byAt_cut h, Nat.add_zero] at e
      have := hin 0 h
      rw [Nat.add_zero, e] at this
      cases this
    have hng : negI ((L.drop q).take (z - q)) = false := by
      unfold negI
      rw [hlen]
      simp only [decide_eq_false_iff_not]
      rintro ⟨h1, h2⟩
      exact hnd (by omega) h2
    refine ⟨fun h => ?_, fun h => ?_⟩
    · exfalso
      have hl2 : z - q = 2 := by rw [h] at hlen; simpa using hlen.symm
      refine hnd (by omega) ?_
      rw [h]; rfl
    · rw [intT_pos hng, intD_at hz hql (fun h => by cases h), hnum]
      split
      · rfl
      · rfl
end Go.Proofs.YtehihemfepbmfaaGreatDoor

/-
  Plain: numbers, texts and words that JSON has written are read again.
-/
namespace Go.Proofs.YtehihemfepbmfaaGreatDoor
open Go.RowKit
set_option linter.unusedSimpArgs false
set_option linter.unusedVariables false

theorem runJ_is {P : Nat → Bool} {L : List UInt8} : ∀ {m q : Nat}, (∀ j, j < m → P (byAt L (q + j)) = true) → q + m ≤ L.length → ¬ (q + m < L.length ∧ P (byAt L (q + m)) = true) → runJ P L q = q + m := by
  intro m
  induction m with
  | zero => intro q _ _ h; rw [Nat.add_zero] at *; exact runJ_no h
  | succ m ih =>
    intro q h1 h2 h3
    rw [runJ_yes (by omega) (by have := h1 0 (by omega); rwa [Nat.add_zero] at this), ih (q := q + 1) (fun j hj => by have := h1 (j + 1) (by omega); rwa [show q + (j + 1) = q + 1 + j by omega] at this) (by omega) (by rwa [show q + 1 + m = q + (m + 1) by omega])]
    omega
theorem digB_is {d : Nat} (h : d < 10) : (UInt8.ofNat (48 + d)).toNat = 48 + d := by rw [UInt8.toNat_ofNat']; omega
theorem Sit.one {L : List UInt8} {q : Nat} {x : UInt8} {B : List UInt8} (h : Sit L q (x :: B)) : q < L.length ∧ byAt L q = x.toNat := by
  have := h.len
  rw [List.length_cons] at this
  exact ⟨by omega, h.byte (j := 0) rfl⟩
theorem Sit.next {L : List UInt8} {q : Nat} {x : UInt8} {B : List UInt8} (h : Sit L q (x :: B)) : Sit L (q + 1) B := Sit.right (A := [x]) h
theorem dec_sit {L : List UInt8} : ∀ (m u q : Nat), u ≤ m → Sit L q (Lib.decDigits u) → valF L q (Lib.decDigits u).length = u ∧ (∀ j, j < (Lib.decDigits u).length → digC (byAt L (q + j)) = true) ∧ (1 ≤ u → byAt L q ≠ 48) ∧ 1 ≤ (Lib.decDigits u).length ∧ (1 < (Lib.decDigits u).length → 1 ≤ u) := by
  intro m
  induction m with
  | zero =>
    intro u q hu hs
    obtain rfl : u = 0 := by omega
    rw [Lib.decDigits, dif_pos (by omega)] at hs ⊢
    have hb := hs.one.2
    refine ⟨?_, fun j hj => ?_, fun h => by omega, by simp, fun h => by simp at h⟩
    · simp only [List.length_cons, List.length_nil, Nat.zero_add, valF]; rw [Nat.add_zero, hb]; rfl
    · obtain rfl : j = 0 := by simpa using hj
      rw [Nat.add_zero, hb]; rfl
  | succ m ih =>
    intro u q hu hs
    by_cases h10 : u < 10
    · rw [Lib.decDigits, dif_pos h10] at hs ⊢
      have hb := hs.one.2
      rw [digB_is h10] at hb
      refine ⟨?_, fun j hj => ?_, fun h => by omega, by simp, fun h => by simp at h⟩
      · simp only [List.length_cons, List.length_nil, Nat.zero_add, valF]; rw [Nat.add_zero, hb]; omega
      · obtain rfl : j = 0 := by simpa using hj
        rw [Nat.add_zero, hb]; unfold digC; simp; omega
    · rw [Lib.decDigits, dif_neg h10] at hs ⊢
      obtain ⟨a1, a2, a3, a4, a5⟩ := ih (u / 10) q (by omega) hs.left
      have hb := hs.right.one.2
      rw [digB_is (by omega)] at hb
      refine ⟨?_, fun j hj => ?_, fun h => a3 (by omega), by simp, fun h => by omega⟩
      · rw [List.length_append, List.length_cons, List.length_nil, Nat.zero_add, valF, a1, hb]; omega
      · rw [List.length_append, List.length_cons, List.length_nil] at hj
        by_cases e : j = (Lib.decDigits (u / 10)).length
        · rw [e, hb]; unfold digC; simp; omega
        · exact a2 j (by omega)
/-- No digit stands at q. -/
def NoDig (L : List UInt8) (q : Nat) : Prop := ¬ (q < L.length ∧ digC (byAt L q) = true)
theorem itoa_sit {L : List UInt8} {p : Nat} {n : Int} (h1 : -1000000000000000 ≤ n) (h2 : n ≤ 1000000000000000) (h : Sit L p (Lib.itoa n)) (hs : NoDig L (p + (Lib.itoa n).length)) : numJ L p = some (n, p + (Lib.itoa n).length) := by
  unfold Lib.itoa at h hs ⊢
  by_cases hn : n < 0
  · rw [if_pos hn] at h hs ⊢
    obtain ⟨b0, b1⟩ := h.one
    obtain ⟨a1, a2, a3, a4, a5⟩ := dec_sit (L := L) n.natAbs n.natAbs (p + 1) (Nat.le_refl _) h.next
    have hl := h.next.len
    rw [List.length_cons] at hs ⊢
    have hat : isAt L p 45 = true := isAt_yes.2 ⟨b0, b1⟩
    have hna : numAt L p = p + 1 := by unfold numAt; rw [if_pos hat]
    have hdg : dgJ L (p + 1) = p + 1 + (Lib.decDigits n.natAbs).length := runJ_is a2 hl (by rw [show p + 1 + (Lib.decDigits n.natAbs).length = p + ((Lib.decDigits n.natAbs).length + 1) by omega]; exact hs)
    unfold numJ
    rw [hna, hdg, show p + 1 + (Lib.decDigits n.natAbs).length - (p + 1) = (Lib.decDigits n.natAbs).length by omega, a1, if_neg, if_pos hat]
    · refine congrArg some (Prod.ext ?_ ?_)
      · show -((n.natAbs : Nat) : Int) = n; omega
      · show p + 1 + _ = _; omega
    · rintro (e | ⟨e1, e2⟩ | e)
      · omega
      · exact a3 (by omega) e2
      · omega
  · rw [if_neg hn] at h hs ⊢
    obtain ⟨a1, a2, a3, a4, a5⟩ := dec_sit (L := L) n.toNat n.toNat p (Nat.le_refl _) h
    have hl := h.len
    have hat : ¬ isAt L p 45 = true := fun e => by
      have e2 := (isAt_yes.1 e).2
      have := a2 0 (by omega)
      rw [Nat.add_zero, e2] at this
      cases this
    have hna : numAt L p = p := by unfold numAt; rw [if_neg hat]
    have hdg : dgJ L p = p + (Lib.decDigits n.toNat).length := runJ_is a2 hl hs
    unfold numJ
    rw [hna, hdg, show p + (Lib.decDigits n.toNat).length - p = (Lib.decDigits n.toNat).length by omega, a1, if_neg, if_neg hat]
    · refine congrArg some (Prod.ext ?_ rfl)
      show ((n.toNat : Nat) : Int) = n; omega
    · rintro (e | ⟨e1, e2⟩ | e)
      · omega
      · exact a3 (a5 (by omega)) e2
      · omega
end Go.Proofs.YtehihemfepbmfaaGreatDoor

/-
  Plain: a number that is written in digits is read again.
-/
namespace Go.Proofs.YtehihemfepbmfaaGreatDoor
open Go.RowKit
set_option linter.unusedSimpArgs false
set_option linter.unusedVariables false

theorem pu_snoc : ∀ (l : List UInt8) (acc a : Nat) (d : UInt8), Lib.parseUint10 acc l = .ok a → 48 ≤ d.toNat → d.toNat ≤ 57 → a < 1000000000000000 → Lib.parseUint10 acc (l ++ [d]) = .ok (a * 10 + (d.toNat - 48)) := by
  intro l
  induction l with
  | nil =>
    intro acc a d h h1 h2 h3
    simp only [Lib.parseUint10, Lib.NumEnd.ok.injEq] at h
    subst h
    rw [List.nil_append, Lib.parseUint10, if_pos ⟨h1, h2⟩, if_neg (by omega), if_neg (by omega), Lib.parseUint10]
  | cons c l ih =>
    intro acc a d h h1 h2 h3
    rw [List.cons_append, Lib.parseUint10]
    rw [Lib.parseUint10] at h
    split at h
    · rename_i hc
      rw [if_pos hc]
      split at h
      · cases h
      · rename_i h4
        rw [if_neg h4]
        split at h
        · cases h
        · rename_i h5
          rw [if_neg h5]
          exact ih _ _ _ h h1 h2 h3
    · cases h
theorem dec_parse : ∀ m u, u ≤ m → u ≤ 1000000000000000 → Lib.parseUint10 0 (Lib.decDigits u) = .ok u := by
  intro m
  induction m with
  | zero =>
    intro u h _
    obtain rfl : u = 0 := by omega
    rw [Lib.decDigits, dif_pos (by omega)]; rfl
  | succ m ih =>
    intro u h h15
    by_cases h10 : u < 10
    · rw [Lib.decDigits, dif_pos h10]
      have := digB_is h10
      have h2 := pu_snoc [] 0 0 (UInt8.ofNat (48 + u)) rfl (by omega) (by omega) (by omega)
      rw [List.nil_append, this] at h2
      rw [h2]
      congr 1
      omega
    · rw [Lib.decDigits, dif_neg h10]
      have h1 := ih (u / 10) (by omega) (by omega)
      have := digB_is (show u % 10 < 10 by omega)
      rw [pu_snoc _ _ _ _ h1 (by omega) (by omega) (by omega), this]
      congr 1
      omega
theorem dec_all : ∀ m u, u ≤ m → ∀ c ∈ Lib.decDigits u, 48 ≤ c.toNat ∧ c.toNat ≤ 57 := by
  intro m
  induction m with
  | zero =>
    intro u h c hc
    obtain rfl : u = 0 := by omega
    rw [Lib.decDigits, dif_pos (by omega)] at hc
    have : c = UInt8.ofNat (48 + 0) := by simpa using hc
    subst this; decide
  | succ m ih =>
    intro u h c hc
    by_cases h10 : u < 10
    · rw [Lib.decDigits, dif_pos h10, List.mem_singleton] at hc
      have := digB_is h10
      rw [hc, this]; omega
    · rw [Lib.decDigits, dif_neg h10, List.mem_append, List.mem_singleton] at hc
      rcases hc with hc | hc
      · exact ih _ (by omega) c hc
      · have := digB_is (show u % 10 < 10 by omega)
        rw [hc, this]; omega
theorem dec_ne (u : Nat) : Lib.decDigits u ≠ [] := by
  rw [Lib.decDigits]; split <;> simp
theorem itoa_back {n : Int} (h1 : -1000000000000000 ≤ n) (h2 : n ≤ 1000000000000000) : Lib.parseIntB 64 (Lib.itoa n) = .ok n := by
  rw [Lib.parseIntB_64]
  unfold Lib.itoa
  have hm : ∀ u : Nat, u ≤ 1000000000000000 → Lib.parseMag (Lib.decDigits u) = .ok u := fun u hu => by
    unfold Lib.parseMag
    rw [if_neg (dec_ne u), dec_parse u u (Nat.le_refl _) hu]
  split
  · rw [Lib.atoiAll_minus, hm _ (by omega)]
    simp only [Lib.signed]
    rw [if_neg (by omega)]
    congr 1; omega
  · have hm2 := hm n.toNat (by omega)
    have hall := dec_all _ n.toNat (Nat.le_refl _)
    cases e : Lib.decDigits n.toNat with
    | nil => exact absurd e (dec_ne _)
    | cons c r =>
      rw [e] at hm2 hall
      have := hall c (by simp)
      rw [Lib.atoiAll_plain c r (by omega) (by omega), hm2]
      simp only [Lib.signless]
      rw [if_neg (by omega)]
      congr 1; omega
end Go.Proofs.YtehihemfepbmfaaGreatDoor
