/-
  Plain: what stands at a place of a text, as JSON has it: blanks, digits, words, escapes, texts.
-/
import Derived.Test.YtiamkmkbkehldaaGreatDoorRdN
import Derived.Test.YtiamkmkbkehldaaGreatDoorCbP
import Derived.Lib.ParseIntBTie
import Derived.Lib.ItoaNum
import Derived.Lib.TrimByte
namespace Go.Proofs.YtiamkmkbkehldaaGreatDoor
open Go.RowKit
set_option linter.unusedSimpArgs false
set_option linter.unusedVariables false

/-- Does the byte c stand at p? -/
def isAt (L : List UInt8) (p c : Nat) : Bool := decide (p < L.length) && decide (byAt L p = c)
theorem isAt_yes {L : List UInt8} {p c : Nat} : isAt L p c = true ↔ p < L.length ∧ byAt L p = c := by unfold isAt; simp
theorem isAt_no {L : List UInt8} {p c : Nat} : isAt L p c = false ↔ ¬ (p < L.length ∧ byAt L p = c) := by unfold isAt; simp

def nullW : List UInt8 := [110, 117, 108, 108]
def trueW : List UInt8 := [116, 114, 117, 101]
def falseW : List UInt8 := [102, 97, 108, 115, 101]
/-- What one letter behind a \ says. -/
def escC (c : Nat) : Option Nat :=
  if c = 34 then some 34 else if c = 92 then some 92 else if c = 47 then some 47 else if c = 98 then some 8 else if c = 102 then some 12 else if c = 110 then some 10 else if c = 114 then some 13 else if c = 116 then some 9 else none
def hexC (c : Nat) : Option Nat := if 48 ≤ c ∧ c ≤ 57 then some (c - 48) else if 97 ≤ c ∧ c ≤ 102 then some (c - 87) else if 65 ≤ c ∧ c ≤ 70 then some (c - 55) else none
theorem hexC_lt {c d : Nat} (h : hexC c = some d) : d < 16 := by
  unfold hexC at h
  split at h
  · simp at h; omega
  · split at h
    · simp at h; omega
    · split at h
      · simp at h; omega
      · cases h
/-- The value of k digits of sixteen at p; none: one is no digit. -/
def hexF (L : List UInt8) (p : Nat) : Nat → Option Nat
  | 0 => some 0
  | k + 1 => match hexF L p k with
    | none => none
    | some v => match hexC (byAt L (p + k)) with
      | none => none
      | some d => some (16 * v + d)
theorem hexF_lt (L : List UInt8) (p : Nat) : ∀ {k v : Nat}, hexF L p k = some v → v < 16 ^ k := by
  intro k
  induction k with
  | zero => intro v h; simp [hexF] at h; omega
  | succ k ih =>
    intro v h
    rw [hexF] at h
    cases e : hexF L p k with
    | none => simp [e] at h
    | some u =>
      simp only [e] at h
      cases e2 : hexC (byAt L (p + k)) with
      | none => simp [e2] at h
      | some d =>
        simp only [e2, Option.some.injEq] at h
        have := ih e
        have := hexC_lt e2
        rw [Nat.pow_succ]
        omega
def codeJ (L : List UInt8) (p : Nat) : Option (Nat × Nat) :=
  if L.length < p + 4 then none else match hexF L p 4 with
    | none => none
    | some v => if 127 < v then none else some (v, p + 4)
theorem hexF_step {L : List UInt8} {p k v d : Nat} (h : hexF L p k = some v) (hd : hexC (byAt L (p + k)) = some d) : hexF L p (k + 1) = some (16 * v + d) := by rw [hexF, h]; simp only [hd]
theorem hexF_none {L : List UInt8} {p k : Nat} (h : hexF L p k = none) : ∀ m, k ≤ m → hexF L p m = none := by
  intro m hm
  induction hm with
  | refl => exact h
  | step _ ih => rw [hexF, ih]
theorem hexF_stop {L : List UInt8} {p k v m : Nat} (h : hexF L p k = some v) (hd : hexC (byAt L (p + k)) = none) (hm : k < m) : hexF L p m = none := hexF_none (k := k + 1) (by rw [hexF, h]; simp only [hd]) m (by omega)
theorem codeJ_short {L : List UInt8} {p : Nat} (h : L.length < p + 4) : codeJ L p = none := by unfold codeJ; rw [if_pos h]
theorem codeJ_no {L : List UInt8} {p : Nat} (h : hexF L p 4 = none) : codeJ L p = none := by unfold codeJ; rw [h]; split <;> rfl
theorem codeJ_big {L : List UInt8} {p v : Nat} (h : hexF L p 4 = some v) (hv : 127 < v) : codeJ L p = none := by
  unfold codeJ
  split
  · rfl
  · rw [h]; simp only [if_pos hv]
theorem codeJ_yes {L : List UInt8} {p v : Nat} (hp : p + 4 ≤ L.length) (h : hexF L p 4 = some v) (hv : v ≤ 127) : codeJ L p = some (v, p + 4) := by
  unfold codeJ
  rw [if_neg (by omega), h]
  simp only [if_neg (by omega : ¬ 127 < v)]
/-- What stands behind a \. -/
def escJ (L : List UInt8) (p : Nat) : Option (Nat × Nat) :=
  if L.length ≤ p then none else match escC (byAt L p) with
    | some b => some (b, p + 1)
    | none => if byAt L p = 117 then codeJ L (p + 1) else none
theorem escJ_says {L : List UInt8} {p b q : Nat} (h : escJ L p = some (b, q)) : p < q ∧ q ≤ L.length ∧ b ≤ 127 := by
  unfold escJ at h
  split at h
  · cases h
  · rename_i hp
    cases e : escC (byAt L p) with
    | some b' =>
      simp only [e, Option.some.injEq, Prod.mk.injEq] at h
      obtain ⟨rfl, rfl⟩ := h
      refine ⟨by omega, by omega, ?_⟩
      unfold escC at e
      repeat (split at e; · simp at e; omega)
      cases e
    | none =>
      simp only [e] at h
      split at h
      · unfold codeJ at h
        split at h
        · cases h
        · rename_i h4
          cases e2 : hexF L (p + 1) 4 with
          | none => simp [e2] at h
          | some v =>
            simp only [e2] at h
            split at h
            · cases h
            · rename_i hv
              simp only [Option.some.injEq, Prod.mk.injEq] at h
              obtain ⟨rfl, rfl⟩ := h
              exact ⟨by omega, by omega, by omega⟩
      · cases h
def textF (L : List UInt8) : Nat → Nat → Option (List UInt8 × Nat)
  | 0, _ => none
  | f + 1, p => if byAt L p = 34 then some ([], p + 1)
    else if byAt L p = 92 then match escJ L (p + 1) with
      | none => none
      | some (b, q) => match textF L f q with
        | none => none
        | some (l, z) => some (UInt8.ofNat b :: l, z)
    else if byAt L p < 32 ∨ 127 < byAt L p then none
    else match textF L f (p + 1) with
      | none => none
      | some (l, z) => some (UInt8.ofNat (byAt L p) :: l, z)
/-- A text behind its first quote. -/
def txJ (L : List UInt8) (p : Nat) : Option (List UInt8 × Nat) := textF L (L.length - p) p
theorem byAt_past {L : List UInt8} {p : Nat} (h : L.length ≤ p) : byAt L p = 0 := by
  unfold byAt
  rw [List.getD_eq_getElem?_getD, List.getElem?_eq_none h]; rfl
theorem textF_past {L : List UInt8} {p : Nat} (h : L.length ≤ p) (f : Nat) : textF L f p = none := by
  cases f with
  | zero => rfl
  | succ f => rw [textF, byAt_past h]; rfl
theorem textF_same (L : List UInt8) : ∀ m p f g, L.length - p ≤ m → L.length - p ≤ f → L.length - p ≤ g → textF L f p = textF L g p := by
  intro m
  induction m with
  | zero => intro p f g h _ _; rw [textF_past (by omega), textF_past (by omega)]
  | succ m ih =>
    intro p f g h hf hg
    by_cases hp : L.length ≤ p
    · rw [textF_past hp, textF_past hp]
    · obtain ⟨f, rfl⟩ : ∃ f', f = f' + 1 := ⟨f - 1, by omega⟩
      obtain ⟨g, rfl⟩ : ∃ g', g = g' + 1 := ⟨g - 1, by omega⟩
      have key : ∀ q, p < q → textF L f q = textF L g q := fun q hq => ih q f g (by omega) (by omega) (by omega)
      rw [textF, textF, key (p + 1) (by omega)]
      cases e : escJ L (p + 1) with
      | none => rfl
      | some x =>
        obtain ⟨b, q⟩ := x
        have := escJ_says e
        dsimp only
        rw [key q (by omega)]
theorem txJ_eq {L : List UInt8} {p : Nat} (h : p < L.length) : txJ L p = if byAt L p = 34 then some ([], p + 1)
    else if byAt L p = 92 then match escJ L (p + 1) with
      | none => none
      | some (b, q) => match txJ L q with
        | none => none
        | some (l, z) => some (UInt8.ofNat b :: l, z)
    else if byAt L p < 32 ∨ 127 < byAt L p then none
    else match txJ L (p + 1) with
      | none => none
      | some (l, z) => some (UInt8.ofNat (byAt L p) :: l, z) := by
  have e1 : textF L (L.length - (p + 1)) (p + 1) = txJ L (p + 1) := rfl
  conv => lhs; unfold txJ
  rw [show L.length - p = L.length - (p + 1) + 1 by omega, textF, e1]
  cases e : escJ L (p + 1) with
  | none => rfl
  | some x =>
    obtain ⟨b, q⟩ := x
    have := escJ_says e
    dsimp only
    rw [textF_same L L.length q (L.length - (p + 1)) (L.length - q) (by omega) (by omega) (by omega)]
    rfl
theorem txJ_past {L : List UInt8} {p : Nat} (h : L.length ≤ p) : txJ L p = none := textF_past h _
theorem txJ_says {L : List UInt8} : ∀ m p l q, L.length - p ≤ m → txJ L p = some (l, q) → p < q ∧ q ≤ L.length ∧ l.length < q - p ∧ ∀ c ∈ l, c.toNat ≤ 127 := by
  intro m
  induction m with
  | zero => intro p l q h e; rw [txJ_past (by omega)] at e; cases e
  | succ m ih =>
    intro p l q h e
    by_cases hp : L.length ≤ p
    · rw [txJ_past hp] at e; cases e
    · rw [txJ_eq (by omega)] at e
      split at e
      · simp only [Option.some.injEq, Prod.mk.injEq] at e
        obtain ⟨rfl, rfl⟩ := e
        exact ⟨by omega, by omega, by simp, fun c hc => absurd hc (by simp)⟩
      · split at e
        · cases e1 : escJ L (p + 1) with
          | none => simp [e1] at e
          | some x =>
            obtain ⟨b, z⟩ := x
            simp only [e1] at e
            obtain ⟨a1, a2, a3⟩ := escJ_says e1
            cases e2 : txJ L z with
            | none => simp [e2] at e
            | some y =>
              obtain ⟨l2, z2⟩ := y
              simp only [e2, Option.some.injEq, Prod.mk.injEq] at e
              obtain ⟨rfl, rfl⟩ := e
              obtain ⟨b1, b2, b3, b4⟩ := ih z l2 z2 (by omega) e2
              refine ⟨by omega, b2, by simp; omega, fun c hc => ?_⟩
              rcases List.mem_cons.1 hc with rfl | hc
              · rw [UInt8.toNat_ofNat']; omega
              · exact b4 c hc
        · split at e
          · cases e
          · rename_i hr
            cases e2 : txJ L (p + 1) with
            | none => simp [e2] at e
            | some y =>
              obtain ⟨l2, z2⟩ := y
              simp only [e2, Option.some.injEq, Prod.mk.injEq] at e
              obtain ⟨rfl, rfl⟩ := e
              obtain ⟨b1, b2, b3, b4⟩ := ih (p + 1) l2 z2 (by omega) e2
              refine ⟨by omega, b2, by simp; omega, fun c hc => ?_⟩
              rcases List.mem_cons.1 hc with rfl | hc
              · rw [UInt8.toNat_ofNat']; omega
              · exact b4 c hc
end Go.Proofs.YtiamkmkbkehldaaGreatDoor

/-
  Plain: YAML's lines as the program reads them.
-/
namespace Go.Proofs.YtiamkmkbkehldaaGreatDoor
open Go.RowKit
set_option linter.unusedSimpArgs false
set_option linter.unusedVariables false

/-- The lines of a text, with what stands ahead of the first; none: the last one is not ended. -/
def linesG : List UInt8 → List UInt8 → Option (List (List UInt8))
  | acc, [] => if acc = [] then some [] else none
  | acc, c :: r => if c = 10 then (match linesG [] r with | none => none | some l => some (acc :: l)) else linesG (acc ++ [c]) r
theorem linesG_line : ∀ (l acc r : List UInt8), (∀ c ∈ l, c ≠ 10) → linesG acc (l ++ 10 :: r) = match linesG [] r with | none => none | some x => some ((acc ++ l) :: x) := by
  intro l
  induction l with
  | nil => intro acc r _; rw [List.nil_append, linesG, if_pos rfl, List.append_nil]
  | cons c l ih =>
    intro acc r h
    rw [List.cons_append, linesG, if_neg (h c (by simp)), ih _ _ (fun d hd => h d (by simp [hd])), List.append_assoc]
    rfl
theorem linesG_open : ∀ (l acc : List UInt8), (∀ c ∈ l, c ≠ 10) → acc ++ l ≠ [] → linesG acc l = none := by
  intro l
  induction l with
  | nil => intro acc _ h; rw [linesG, if_neg (by simpa using h)]
  | cons c l ih =>
    intro acc h hne
    rw [linesG, if_neg (h c (by simp)), ih _ (fun d hd => h d (by simp [hd])) (by simp)]
/-- A line behind its blanks. -/
def saidY (l : List UInt8) : List UInt8 := Lib.trimLeftB l 32
structure YL where
  ahead : Nat
  kind : Int
  key : List UInt8
  rest : List UInt8
/-- What the program makes of a line: kind, key, rest; none: it gives up. -/
def lineY (T : List UInt8) : Option (Int × List UInt8 × List UInt8) :=
  if T = [45] ∨ Lib.hasPrefix T [45, 32] = true then some (5, [], T.drop 1)
  else if byAt T 0 = 34 then match txJ T 1 with
    | none => none
    | some (l, q) => if isAt T q 58 = true then some (6, l, T.drop (q + 1)) else some (0, [], T)
  else if (58 : UInt8) ∉ T then some (0, [], T)
  else if plainL (T.takeWhile (· != 58)) = true then some (6, T.takeWhile (· != 58), (T.dropWhile (· != 58)).drop 1)
  else none
def ylOf : List (List UInt8) → Option (List YL)
  | [] => some []
  | l :: r => if saidY l = [] ∨ byAt (saidY l) 0 = 35 then ylOf r else match lineY (saidY l) with
    | none => none
    | some (k, key, rest) => match ylOf r with
      | none => none
      | some z => some (⟨l.length - (saidY l).length, k, key, rest⟩ :: z)
/-- The lines of a text that say something. -/
def linesY (s : List UInt8) : Option (List YL) := match linesG [] s with
  | none => none
  | some ls => ylOf ls
theorem linesY_nil : linesY [] = some [] := rfl
/-- One line, and what stands behind it. -/
theorem linesY_line {l r : List UInt8} (h : ∀ c ∈ l, c ≠ 10) : linesY (l ++ 10 :: r) = if saidY l = [] ∨ byAt (saidY l) 0 = 35 then linesY r else match lineY (saidY l) with
    | none => none
    | some (k, key, rest) => match linesY r with
      | none => none
      | some z => some (⟨l.length - (saidY l).length, k, key, rest⟩ :: z) := by
  unfold linesY
  rw [linesG_line l [] r h]
  cases e : linesG [] r with
  | none =>
    simp only
    split
    · rfl
    · cases lineY (saidY l) <;> rfl
  | some x =>
    simp only [List.nil_append]
    rw [ylOf]
theorem linesY_open {l : List UInt8} (h : ∀ c ∈ l, c ≠ 10) (hne : l ≠ []) : linesY l = none := by
  unfold linesY
  rw [linesG_open l [] h (by simpa using hne)]

/-- What stands in one line. -/
def shortY (S : List UInt8) : Option VT :=
  if S = nullW ∨ S = [126] then some nullT
  else if S = falseW then some (boolT 0)
  else if S = trueW then some (boolT 1)
  else if S = [91, 93] then some (listT [])
  else if S = [123, 125] then some (mapT [] [])
  else if plainL S = true then some (wordT (txt S))
  else if Lib.hasPrefix S [34] = true then match txJ S 1 with
    | none => none
    | some (l, q) => if q < S.length then none else some (wordT (txt l))
  else match Lib.parseIntB 64 S with
    | .ok v => if Lib.itoa v = S then some (numT v) else none
    | _ => none
/-- A list or a map of which these lines are read. -/
def wholeV : List (Int × List UInt8 × VT) → Option VT
  | [] => none
  | x :: l => if (∀ y ∈ l, y.1 = x.1) then
      (if x.1 = 5 then some (listT ((x :: l).map (fun y => y.2.2))) else if x.1 = 6 then some (mapT ((x :: l).map (fun y => txt y.2.1)) ((x :: l).map (fun y => y.2.2))) else none) else none
/-- The lines with just so many blanks ahead. -/
def rowsY : Nat → Nat → List YL → Option (List (Int × List UInt8 × VT) × List YL)
  | 0, _, _ => none
  | _ + 1, _, [] => some ([], [])
  | f + 1, ahead, x :: r => if x.ahead = ahead then
      match (if x.rest = [] then match rowsY f (ahead + 2) r with
          | none => none
          | some (l, z) => match wholeV l with
            | none => none
            | some t => some (t, z)
        else if Lib.hasPrefix x.rest [32] = true then match shortY (x.rest.drop 1) with
          | none => none
          | some t => some (t, r)
        else none) with
      | none => none
      | some (t, z) => match rowsY f ahead z with
        | none => none
        | some (l, z2) => some ((x.kind, x.key, t) :: l, z2)
    else some ([], x :: r)
theorem rowsY_len : ∀ {f ahead : Nat} {ls : List YL} {l : List (Int × List UInt8 × VT)} {z : List YL}, rowsY f ahead ls = some (l, z) → z.length ≤ ls.length ∧ l.length ≤ ls.length := by
  intro f
  induction f with
  | zero => intro ahead ls l z h; cases h
  | succ f ih =>
    intro ahead ls l z h
    cases ls with
    | nil => simp [rowsY] at h; obtain ⟨rfl, rfl⟩ := h; simp
    | cons x r =>
      rw [rowsY] at h
      split at h
      · have key : ∀ (o : Option (VT × List YL)), (∀ t z, o = some (t, z) → z.length ≤ r.length) → (match o with | none => none | some (t, z) => match rowsY f ahead z with | none => none | some (l, z2) => some ((x.kind, x.key, t) :: l, z2)) = some (l, z) → z.length ≤ (x :: r).length ∧ l.length ≤ (x :: r).length := by
          intro o ho h
          cases o with
          | none => cases h
          | some y =>
            obtain ⟨t, z1⟩ := y
            have h1 := ho t z1 rfl
            simp only at h
            cases e : rowsY f ahead z1 with
            | none => simp [e] at h
            | some w =>
              obtain ⟨l2, z2⟩ := w
              simp only [e, Option.some.injEq, Prod.mk.injEq] at h
              obtain ⟨rfl, rfl⟩ := h
              have h2 := ih e
              simp only [List.length_cons]
              omega
        refine key _ ?_ h
        intro t z1 e
        split at e
        · cases e2 : rowsY f (ahead + 2) r with
          | none => simp [e2] at e
          | some w =>
            obtain ⟨l2, z2⟩ := w
            simp only [e2] at e
            cases e3 : wholeV l2 with
            | none => simp [e3] at e
            | some t2 =>
              simp only [e3, Option.some.injEq, Prod.mk.injEq] at e
              obtain ⟨rfl, rfl⟩ := e
              exact (ih e2).1
        · split at e
          · cases e3 : shortY (x.rest.drop 1) with
            | none => simp only [e3] at e; cases e
            | some t2 =>
              simp only [e3, Option.some.injEq, Prod.mk.injEq] at e
              obtain ⟨rfl, rfl⟩ := e
              exact Nat.le_refl _
          · cases e
      · simp only [Option.some.injEq, Prod.mk.injEq] at h
        obtain ⟨rfl, rfl⟩ := h
        simp
theorem rowsY_same : ∀ (m f g ahead : Nat) (ls : List YL), ls.length ≤ m → ls.length < f → ls.length < g → rowsY f ahead ls = rowsY g ahead ls := by
  intro m
  induction m with
  | zero =>
    intro f g ahead ls h0 h1 h2
    obtain ⟨f, rfl⟩ : ∃ f', f = f' + 1 := ⟨f - 1, by omega⟩
    obtain ⟨g, rfl⟩ : ∃ g', g = g' + 1 := ⟨g - 1, by omega⟩
    obtain rfl : ls = [] := List.eq_nil_of_length_eq_zero (by omega)
    rfl
  | succ m ih =>
    intro f g ahead ls h0 h1 h2
    obtain ⟨f, rfl⟩ : ∃ f', f = f' + 1 := ⟨f - 1, by omega⟩
    obtain ⟨g, rfl⟩ : ∃ g', g = g' + 1 := ⟨g - 1, by omega⟩
    cases ls with
    | nil => rfl
    | cons x r =>
      simp only [List.length_cons] at h0 h1 h2
      rw [rowsY, rowsY, ih f g (ahead + 2) r (by omega) (by omega) (by omega)]
      split
      · have key : ∀ (o : Option (VT × List YL)), (∀ t z, o = some (t, z) → z.length ≤ r.length) → (match o with | none => none | some (t, z) => match rowsY f ahead z with | none => none | some (l, z2) => some ((x.kind, x.key, t) :: l, z2)) = (match o with | none => none | some (t, z) => match rowsY g ahead z with | none => none | some (l, z2) => some ((x.kind, x.key, t) :: l, z2)) := by
          intro o ho
          cases o with
          | none => rfl
          | some y =>
            obtain ⟨t, z1⟩ := y
            have h3 := ho t z1 rfl
            simp only
            rw [ih f g ahead z1 (by omega) (by omega) (by omega)]
        refine key _ ?_
        intro t z1 e
        split at e
        · cases e2 : rowsY g (ahead + 2) r with
          | none => simp [e2] at e
          | some w =>
            obtain ⟨l2, z2⟩ := w
            simp only [e2] at e
            cases e3 : wholeV l2 with
            | none => simp [e3] at e
            | some t2 =>
              simp only [e3, Option.some.injEq, Prod.mk.injEq] at e
              obtain ⟨rfl, rfl⟩ := e
              exact (rowsY_len e2).1
        · split at e
          · cases e3 : shortY (x.rest.drop 1) with
            | none => simp only [e3] at e; cases e
            | some t2 =>
              simp only [e3, Option.some.injEq, Prod.mk.injEq] at e
              obtain ⟨rfl, rfl⟩ := e
              exact Nat.le_refl _
          · cases e
      · rfl
/-- The same without fuel. -/
def rowsM (ahead : Nat) (ls : List YL) : Option (List (Int × List UInt8 × VT) × List YL) := rowsY (ls.length + 1) ahead ls
/-- A block: the value, and the lines that are left. -/
def blockM (ahead : Nat) (ls : List YL) : Option (VT × List YL) := match rowsM ahead ls with
  | none => none
  | some (l, z) => match wholeV l with
    | none => none
    | some t => some (t, z)
/-- What belongs to one line. -/
def partM (ahead : Nat) (x : YL) (r : List YL) : Option (VT × List YL) :=
  if x.rest = [] then blockM (ahead + 2) r
  else if Lib.hasPrefix x.rest [32] = true then match shortY (x.rest.drop 1) with
    | none => none
    | some t => some (t, r)
  else none
theorem partM_len {ahead : Nat} {x : YL} {r z : List YL} {t : VT} (h : partM ahead x r = some (t, z)) : z.length ≤ r.length := by
  unfold partM at h
  split at h
  · unfold blockM at h
    cases e2 : rowsM (ahead + 2) r with
    | none => simp [e2] at h
    | some w =>
      obtain ⟨l2, z2⟩ := w
      simp only [e2] at h
      cases e3 : wholeV l2 with
      | none => simp [e3] at h
      | some t2 =>
        simp only [e3, Option.some.injEq, Prod.mk.injEq] at h
        obtain ⟨rfl, rfl⟩ := h
        exact (rowsY_len e2).1
  · split at h
    · cases e3 : shortY (x.rest.drop 1) with
      | none => simp only [e3] at h; cases h
      | some t2 =>
        simp only [e3, Option.some.injEq, Prod.mk.injEq] at h
        obtain ⟨rfl, rfl⟩ := h
        exact Nat.le_refl _
    · cases h
theorem rowsM_nil (ahead : Nat) : rowsM ahead [] = some ([], []) := rfl
theorem rowsM_off {ahead : Nat} {x : YL} {r : List YL} (h : ¬ x.ahead = ahead) : rowsM ahead (x :: r) = some ([], x :: r) := by
  unfold rowsM; rw [rowsY, if_neg h]
theorem rowsM_on {ahead : Nat} {x : YL} {r : List YL} (h : x.ahead = ahead) : rowsM ahead (x :: r) = match partM ahead x r with
    | none => none
    | some (t, z) => match rowsM ahead z with
      | none => none
      | some (l, z2) => some ((x.kind, x.key, t) :: l, z2) := by
  have hz : ∀ t z, partM ahead x r = some (t, z) → rowsY (r.length + 1) ahead z = rowsM ahead z := fun t z e => by
    have := partM_len e
    exact rowsY_same z.length _ _ _ _ (Nat.le_refl _) (by omega) (by omega)
  have hp : (if x.rest = [] then match rowsY (r.length + 1) (ahead + 2) r with
          | none => none
          | some (l, z) => match wholeV l with
            | none => none
            | some t => some (t, z)
        else if Lib.hasPrefix x.rest [32] = true then match shortY (x.rest.drop 1) with
          | none => none
          | some t => some (t, r)
        else none) = partM ahead x r := rfl
  conv => lhs; unfold rowsM
  rw [List.length_cons, rowsY, if_pos h, hp]
  cases e : partM ahead x r with
  | none => rfl
  | some y =>
    obtain ⟨t, z⟩ := y
    simp only [hz t z e]
/-- The lines' value. -/
def topY (ls : List YL) : Option VT := match blockM 0 ls with
  | none => none
  | some (t, z) => if z = [] then some t else none
def rdLines (ls : List YL) : Option VT := match ls with
  | [x] => if x.ahead = 0 ∧ x.kind = 0 then shortY x.rest else topY [x]
  | _ => topY ls
/-- The text's value; none: the program gives up. -/
def rdYaml (s : List UInt8) : Option VT := match linesY s with
  | none => none
  | some ls => rdLines ls
end Go.Proofs.YtiamkmkbkehldaaGreatDoor
