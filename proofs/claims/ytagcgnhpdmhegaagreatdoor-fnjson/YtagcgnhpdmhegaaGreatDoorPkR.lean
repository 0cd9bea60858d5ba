/-
  Plain: MessagePack as the program reads it and as the specification does; that both say the same.
-/
import Derived.Test.YtagcgnhpdmhegaaGreatDoorJrP
namespace Go.Proofs.YtagcgnhpdmhegaaGreatDoor
open Go.RowKit
set_option linter.unusedSimpArgs false
set_option linter.unusedVariables false

/-- Two's complement. -/
def sgnN (w x : Nat) : Int := if 2 * x < 256 ^ w then (x : Int) else (x : Int) - ((256 ^ w : Nat) : Int)
def sgnI (L : List UInt8) (p w : Nat) : Option (VT × Nat) := if p + w ≤ L.length then some (numT (sgnN w (bigN L p w)), p + w) else none
def numV (L : List UInt8) (p w : Nat) : Option (VT × Nat) := match numI L p w with
  | none => none
  | some (n, q) => some (numT n, q)
def longV (L : List UInt8) (p w : Nat) : Option (VT × Nat) := match numI L p w with
  | none => none
  | some (n, q) => wordI L n q
def rowV (R : Nat → Option (VT × Nat)) (L : List UInt8) (named : Bool) (p w : Nat) : Option (VT × Nat) := match numI L p w with
  | none => none
  | some (n, q) => rowT R named n q
/-- The program's reading. -/
def rdP (L : List UInt8) : Nat → Nat → Option (VT × Nat)
  | 0, _ => none
  | f + 1, p =>
    if L.length ≤ p then none
    else if byAt L p < 128 then some (numT (byAt L p), p + 1)
    else if byAt L p < 144 then rowT (rdP L f) true (byAt L p - 128) (p + 1)
    else if byAt L p < 160 then rowT (rdP L f) false (byAt L p - 144) (p + 1)
    else if byAt L p < 192 then wordI L (byAt L p - 160) (p + 1)
    else if 224 ≤ byAt L p then some (numT ((byAt L p : Int) - 256), p + 1)
    else if byAt L p = 192 then some (nullT, p + 1)
    else if byAt L p = 194 then some (boolT 0, p + 1)
    else if byAt L p = 195 then some (boolT 1, p + 1)
    else if byAt L p < 204 then none
    else if byAt L p < 208 then numV L (p + 1) (2 ^ (byAt L p - 204))
    else if byAt L p < 212 then sgnI L (p + 1) (2 ^ (byAt L p - 208))
    else if byAt L p < 217 then none
    else if byAt L p < 220 then longV L (p + 1) (2 ^ (byAt L p - 217))
    else if byAt L p < 222 then rowV (rdP L f) L false (p + 1) (2 * 2 ^ (byAt L p - 220))
    else rowV (rdP L f) L true (p + 1) (2 * 2 ^ (byAt L p - 222))
/-- The specification's l4Word. -/
def spW (L : List UInt8) : Nat → Nat → Option (ByteArray × Nat)
  | 0, _ => none
  | _ + 1, p =>
    if L.length ≤ p then none
    else if 160 ≤ byAt L p ∧ byAt L p < 192 then takeS L (byAt L p - 160) (p + 1)
    else if 217 ≤ byAt L p ∧ byAt L p ≤ 219 then match bigS L (p + 1) (2 ^ (byAt L p - 217)) with
      | none => none
      | some (n, q) => takeS L n q
    else none
def bigV (L : List UInt8) (p w c : Nat) : Option (List VN × Nat × Nat) := match bigS L p w with
  | none => none
  | some (n, q) => some (leafN 3 n ByteArray.empty, q, c)
def sgnS (L : List UInt8) (p w c : Nat) : Option (List VN × Nat × Nat) :=
  if p + w ≤ L.length ∧ -1000000000000000 ≤ sgnN w (bigN L p w) ∧ sgnN w (bigN L p w) ≤ 1000000000000000 then some (leafN 3 (sgnN w (bigN L p w)) ByteArray.empty, p + w, c) else none
def bigRow (W : Nat → Option (ByteArray × Nat)) (S : Nat → Nat → Option (List VN × Nat × Nat)) (L : List UInt8) (named : Bool) (w deep p c : Nat) : Option (List VN × Nat × Nat) := match bigS L p w with
  | none => none
  | some (n, q) => spRow W S named n deep q c
def wordV (L : List UInt8) (f p c : Nat) : Option (List VN × Nat × Nat) := match spW L f p with
  | none => none
  | some (s, q) => some (leafN 4 0 s, q, c)
/-- The specification's l4Value. -/
def spP (L : List UInt8) : Nat → Nat → Nat → Nat → Option (List VN × Nat × Nat)
  | 0, _, _, _ => none
  | f + 1, deep, p, c =>
    if 80 < c + 1 ∨ L.length ≤ p then none
    else if (160 ≤ byAt L p ∧ byAt L p < 192) ∨ (217 ≤ byAt L p ∧ byAt L p ≤ 219) then wordV L (f + 1) p (c + 1)
    else if byAt L p < 128 then some (leafN 3 (byAt L p) ByteArray.empty, p + 1, c + 1)
    else if byAt L p < 144 then spRow (spW L f) (spP L f (deep + 1)) true (byAt L p - 128) (deep + 1) (p + 1) (c + 1)
    else if byAt L p < 160 then spRow (spW L f) (spP L f (deep + 1)) false (byAt L p - 144) (deep + 1) (p + 1) (c + 1)
    else if byAt L p = 192 then some (leafN 1 0 ByteArray.empty, p + 1, c + 1)
    else if byAt L p = 194 then some (leafN 2 0 ByteArray.empty, p + 1, c + 1)
    else if byAt L p = 195 then some (leafN 2 1 ByteArray.empty, p + 1, c + 1)
    else if 204 ≤ byAt L p ∧ byAt L p ≤ 207 then bigV L (p + 1) (2 ^ (byAt L p - 204)) (c + 1)
    else if 208 ≤ byAt L p ∧ byAt L p ≤ 211 then sgnS L (p + 1) (2 ^ (byAt L p - 208)) (c + 1)
    else if byAt L p = 220 ∨ byAt L p = 221 then bigRow (spW L f) (spP L f (deep + 1)) L false (2 * 2 ^ (byAt L p - 220)) (deep + 1) (p + 1) (c + 1)
    else if byAt L p = 222 ∨ byAt L p = 223 then bigRow (spW L f) (spP L f (deep + 1)) L true (2 * 2 ^ (byAt L p - 222)) (deep + 1) (p + 1) (c + 1)
    else if 224 ≤ byAt L p then some (leafN 3 ((byAt L p : Int) - 256) ByteArray.empty, p + 1, c + 1)
    else none

theorem numI_or (L : List UInt8) {p w : Nat} (hw : 1 ≤ w) : (numI L p w = bigS L p w ∧ ∀ n q, numI L p w = some (n, q) → n ≤ maxI) ∨ (numI L p w = none ∧ bigS L p w = some (bigN L p w, p + w) ∧ maxI < bigN L p w) := by
  have hm := bigN_mono L p (show w - 1 ≤ w by omega)
  unfold numI bigS
  by_cases h1 : p + w ≤ L.length
  · by_cases h2 : bigN L p w ≤ maxI
    · left
      rw [if_pos ⟨h1, h2⟩, if_pos ⟨h1, by omega⟩]
      exact ⟨rfl, fun n q h => by simp at h; omega⟩
    · by_cases h3 : bigN L p (w - 1) ≤ maxI
      · right
        rw [if_neg (fun h => h2 h.2), if_pos ⟨h1, h3⟩]
        exact ⟨rfl, rfl, by omega⟩
      · left
        rw [if_neg (fun h => h2 h.2), if_neg (fun h => h3 h.2)]
        exact ⟨rfl, fun n q h => by simp at h⟩
  · left
    rw [if_neg (fun h => h1 h.1), if_neg (fun h => h1 h.1)]
    exact ⟨rfl, fun n q h => by simp at h⟩

theorem rdP_num {L : List UInt8} {f p : Nat} (hp : p < L.length) (h : byAt L p < 128) : rdP L (f + 1) p = some (numT (byAt L p), p + 1) := by
  rw [rdP, if_neg (by omega), if_pos (by omega)]
theorem rdP_map {L : List UInt8} {f p : Nat} (hp : p < L.length) (h : 128 ≤ byAt L p ∧ byAt L p < 144) : rdP L (f + 1) p = rowT (rdP L f) true (byAt L p - 128) (p + 1) := by
  rw [rdP, if_neg (by omega), if_neg (by omega), if_pos (by omega)]
theorem rdP_list {L : List UInt8} {f p : Nat} (hp : p < L.length) (h : 144 ≤ byAt L p ∧ byAt L p < 160) : rdP L (f + 1) p = rowT (rdP L f) false (byAt L p - 144) (p + 1) := by
  rw [rdP, if_neg (by omega), if_neg (by omega), if_neg (by omega), if_pos (by omega)]
theorem rdP_word {L : List UInt8} {f p : Nat} (hp : p < L.length) (h : 160 ≤ byAt L p ∧ byAt L p < 192) : rdP L (f + 1) p = wordI L (byAt L p - 160) (p + 1) := by
  rw [rdP, if_neg (by omega), if_neg (by omega), if_neg (by omega), if_neg (by omega), if_pos (by omega)]
theorem rdP_neg {L : List UInt8} {f p : Nat} (hp : p < L.length) (h : 224 ≤ byAt L p) : rdP L (f + 1) p = some (numT ((byAt L p : Int) - 256), p + 1) := by
  rw [rdP, if_neg (by omega), if_neg (by omega), if_neg (by omega), if_neg (by omega), if_neg (by omega), if_pos (by omega)]
theorem rdP_null {L : List UInt8} {f p : Nat} (hp : p < L.length) (h : byAt L p = 192) : rdP L (f + 1) p = some (nullT, p + 1) := by
  rw [rdP, if_neg (by omega), if_neg (by omega), if_neg (by omega), if_neg (by omega), if_neg (by omega), if_neg (by omega), if_pos (by omega)]
theorem rdP_no {L : List UInt8} {f p : Nat} (hp : p < L.length) (h : byAt L p = 194) : rdP L (f + 1) p = some (boolT 0, p + 1) := by
  rw [rdP, if_neg (by omega), if_neg (by omega), if_neg (by omega), if_neg (by omega), if_neg (by omega), if_neg (by omega), if_neg (by omega), if_pos (by omega)]
theorem rdP_yes {L : List UInt8} {f p : Nat} (hp : p < L.length) (h : byAt L p = 195) : rdP L (f + 1) p = some (boolT 1, p + 1) := by
  rw [rdP, if_neg (by omega), if_neg (by omega), if_neg (by omega), if_neg (by omega), if_neg (by omega), if_neg (by omega), if_neg (by omega), if_neg (by omega), if_pos (by omega)]
theorem rdP_bad {L : List UInt8} {f p : Nat} (hp : p < L.length) (h : byAt L p = 193 ∨ (196 ≤ byAt L p ∧ byAt L p < 204)) : rdP L (f + 1) p = none := by
  rw [rdP, if_neg (by omega), if_neg (by omega), if_neg (by omega), if_neg (by omega), if_neg (by omega), if_neg (by omega), if_neg (by omega), if_neg (by omega), if_neg (by omega), if_pos (by omega)]
theorem rdP_wide {L : List UInt8} {f p : Nat} (hp : p < L.length) (h : 204 ≤ byAt L p ∧ byAt L p < 208) : rdP L (f + 1) p = numV L (p + 1) (2 ^ (byAt L p - 204)) := by
  rw [rdP, if_neg (by omega), if_neg (by omega), if_neg (by omega), if_neg (by omega), if_neg (by omega), if_neg (by omega), if_neg (by omega), if_neg (by omega), if_neg (by omega), if_neg (by omega), if_pos (by omega)]
theorem rdP_sgn {L : List UInt8} {f p : Nat} (hp : p < L.length) (h : 208 ≤ byAt L p ∧ byAt L p < 212) : rdP L (f + 1) p = sgnI L (p + 1) (2 ^ (byAt L p - 208)) := by
  rw [rdP, if_neg (by omega), if_neg (by omega), if_neg (by omega), if_neg (by omega), if_neg (by omega), if_neg (by omega), if_neg (by omega), if_neg (by omega), if_neg (by omega), if_neg (by omega), if_neg (by omega), if_pos (by omega)]
theorem rdP_bad2 {L : List UInt8} {f p : Nat} (hp : p < L.length) (h : 212 ≤ byAt L p ∧ byAt L p < 217) : rdP L (f + 1) p = none := by
  rw [rdP, if_neg (by omega), if_neg (by omega), if_neg (by omega), if_neg (by omega), if_neg (by omega), if_neg (by omega), if_neg (by omega), if_neg (by omega), if_neg (by omega), if_neg (by omega), if_neg (by omega), if_neg (by omega), if_pos (by omega)]
theorem rdP_long {L : List UInt8} {f p : Nat} (hp : p < L.length) (h : 217 ≤ byAt L p ∧ byAt L p < 220) : rdP L (f + 1) p = longV L (p + 1) (2 ^ (byAt L p - 217)) := by
  rw [rdP, if_neg (by omega), if_neg (by omega), if_neg (by omega), if_neg (by omega), if_neg (by omega), if_neg (by omega), if_neg (by omega), if_neg (by omega), if_neg (by omega), if_neg (by omega), if_neg (by omega), if_neg (by omega), if_neg (by omega), if_pos (by omega)]
theorem rdP_list2 {L : List UInt8} {f p : Nat} (hp : p < L.length) (h : 220 ≤ byAt L p ∧ byAt L p < 222) : rdP L (f + 1) p = rowV (rdP L f) L false (p + 1) (2 * 2 ^ (byAt L p - 220)) := by
  rw [rdP, if_neg (by omega), if_neg (by omega), if_neg (by omega), if_neg (by omega), if_neg (by omega), if_neg (by omega), if_neg (by omega), if_neg (by omega), if_neg (by omega), if_neg (by omega), if_neg (by omega), if_neg (by omega), if_neg (by omega), if_neg (by omega), if_pos (by omega)]
theorem rdP_map2 {L : List UInt8} {f p : Nat} (hp : p < L.length) (h : 222 ≤ byAt L p ∧ byAt L p < 224) : rdP L (f + 1) p = rowV (rdP L f) L true (p + 1) (2 * 2 ^ (byAt L p - 222)) := by
  rw [rdP, if_neg (by omega), if_neg (by omega), if_neg (by omega), if_neg (by omega), if_neg (by omega), if_neg (by omega), if_neg (by omega), if_neg (by omega), if_neg (by omega), if_neg (by omega), if_neg (by omega), if_neg (by omega), if_neg (by omega), if_neg (by omega), if_neg (by omega)]
theorem rdP_end {L : List UInt8} {f p : Nat} (hp : L.length ≤ p) : rdP L (f + 1) p = none := by rw [rdP, if_pos hp]
theorem spP_word {L : List UInt8} {f deep p c : Nat} (hp : p < L.length) (hc : c + 1 ≤ 80) (h : (160 ≤ byAt L p ∧ byAt L p < 192) ∨ (217 ≤ byAt L p ∧ byAt L p ≤ 219)) : spP L (f + 1) deep p c = wordV L (f + 1) p (c + 1) := by
  rw [spP, if_neg (by omega), if_pos (by omega)]
theorem spP_num {L : List UInt8} {f deep p c : Nat} (hp : p < L.length) (hc : c + 1 ≤ 80) (h : byAt L p < 128) : spP L (f + 1) deep p c = some (leafN 3 (byAt L p) ByteArray.empty, p + 1, c + 1) := by
  rw [spP, if_neg (by omega), if_neg (by omega), if_pos (by omega)]
theorem spP_map {L : List UInt8} {f deep p c : Nat} (hp : p < L.length) (hc : c + 1 ≤ 80) (h : 128 ≤ byAt L p ∧ byAt L p < 144) : spP L (f + 1) deep p c = spRow (spW L f) (spP L f (deep + 1)) true (byAt L p - 128) (deep + 1) (p + 1) (c + 1) := by
  rw [spP, if_neg (by omega), if_neg (by omega), if_neg (by omega), if_pos (by omega)]
theorem spP_list {L : List UInt8} {f deep p c : Nat} (hp : p < L.length) (hc : c + 1 ≤ 80) (h : 144 ≤ byAt L p ∧ byAt L p < 160) : spP L (f + 1) deep p c = spRow (spW L f) (spP L f (deep + 1)) false (byAt L p - 144) (deep + 1) (p + 1) (c + 1) := by
  rw [spP, if_neg (by omega), if_neg (by omega), if_neg (by omega), if_neg (by omega), if_pos (by omega)]
theorem spP_null {L : List UInt8} {f deep p c : Nat} (hp : p < L.length) (hc : c + 1 ≤ 80) (h : byAt L p = 192) : spP L (f + 1) deep p c = some (leafN 1 0 ByteArray.empty, p + 1, c + 1) := by
  rw [spP, if_neg (by omega), if_neg (by omega), if_neg (by omega), if_neg (by omega), if_neg (by omega), if_pos (by omega)]
theorem spP_no {L : List UInt8} {f deep p c : Nat} (hp : p < L.length) (hc : c + 1 ≤ 80) (h : byAt L p = 194) : spP L (f + 1) deep p c = some (leafN 2 0 ByteArray.empty, p + 1, c + 1) := by
  rw [spP, if_neg (by omega), if_neg (by omega), if_neg (by omega), if_neg (by omega), if_neg (by omega), if_neg (by omega), if_pos (by omega)]
theorem spP_yes {L : List UInt8} {f deep p c : Nat} (hp : p < L.length) (hc : c + 1 ≤ 80) (h : byAt L p = 195) : spP L (f + 1) deep p c = some (leafN 2 1 ByteArray.empty, p + 1, c + 1) := by
  rw [spP, if_neg (by omega), if_neg (by omega), if_neg (by omega), if_neg (by omega), if_neg (by omega), if_neg (by omega), if_neg (by omega), if_pos (by omega)]
theorem spP_wide {L : List UInt8} {f deep p c : Nat} (hp : p < L.length) (hc : c + 1 ≤ 80) (h : 204 ≤ byAt L p ∧ byAt L p < 208) : spP L (f + 1) deep p c = bigV L (p + 1) (2 ^ (byAt L p - 204)) (c + 1) := by
  rw [spP, if_neg (by omega), if_neg (by omega), if_neg (by omega), if_neg (by omega), if_neg (by omega), if_neg (by omega), if_neg (by omega), if_neg (by omega), if_pos (by omega)]
theorem spP_sgn {L : List UInt8} {f deep p c : Nat} (hp : p < L.length) (hc : c + 1 ≤ 80) (h : 208 ≤ byAt L p ∧ byAt L p < 212) : spP L (f + 1) deep p c = sgnS L (p + 1) (2 ^ (byAt L p - 208)) (c + 1) := by
  rw [spP, if_neg (by omega), if_neg (by omega), if_neg (by omega), if_neg (by omega), if_neg (by omega), if_neg (by omega), if_neg (by omega), if_neg (by omega), if_neg (by omega), if_pos (by omega)]
theorem spP_list2 {L : List UInt8} {f deep p c : Nat} (hp : p < L.length) (hc : c + 1 ≤ 80) (h : 220 ≤ byAt L p ∧ byAt L p < 222) : spP L (f + 1) deep p c = bigRow (spW L f) (spP L f (deep + 1)) L false (2 * 2 ^ (byAt L p - 220)) (deep + 1) (p + 1) (c + 1) := by
  rw [spP, if_neg (by omega), if_neg (by omega), if_neg (by omega), if_neg (by omega), if_neg (by omega), if_neg (by omega), if_neg (by omega), if_neg (by omega), if_neg (by omega), if_neg (by omega), if_pos (by omega)]
theorem spP_map2 {L : List UInt8} {f deep p c : Nat} (hp : p < L.length) (hc : c + 1 ≤ 80) (h : 222 ≤ byAt L p ∧ byAt L p < 224) : spP L (f + 1) deep p c = bigRow (spW L f) (spP L f (deep + 1)) L true (2 * 2 ^ (byAt L p - 222)) (deep + 1) (p + 1) (c + 1) := by
  rw [spP, if_neg (by omega), if_neg (by omega), if_neg (by omega), if_neg (by omega), if_neg (by omega), if_neg (by omega), if_neg (by omega), if_neg (by omega), if_neg (by omega), if_neg (by omega), if_neg (by omega), if_pos (by omega)]
theorem spP_neg {L : List UInt8} {f deep p c : Nat} (hp : p < L.length) (hc : c + 1 ≤ 80) (h : 224 ≤ byAt L p) : spP L (f + 1) deep p c = some (leafN 3 ((byAt L p : Int) - 256) ByteArray.empty, p + 1, c + 1) := by
  rw [spP, if_neg (by omega), if_neg (by omega), if_neg (by omega), if_neg (by omega), if_neg (by omega), if_neg (by omega), if_neg (by omega), if_neg (by omega), if_neg (by omega), if_neg (by omega), if_neg (by omega), if_neg (by omega), if_pos (by omega)]
theorem spP_bad {L : List UInt8} {f deep p c : Nat} (hp : p < L.length) (hc : c + 1 ≤ 80) (h : byAt L p = 193 ∨ (196 ≤ byAt L p ∧ byAt L p < 204) ∨ (212 ≤ byAt L p ∧ byAt L p < 217)) : spP L (f + 1) deep p c = none := by
  rw [spP, if_neg (by omega), if_neg (by omega), if_neg (by omega), if_neg (by omega), if_neg (by omega), if_neg (by omega), if_neg (by omega), if_neg (by omega), if_neg (by omega), if_neg (by omega), if_neg (by omega), if_neg (by omega), if_neg (by omega)]
theorem spP_end {L : List UInt8} {f deep p c : Nat} (h : 80 < c + 1 ∨ L.length ≤ p) : spP L (f + 1) deep p c = none := by rw [spP, if_pos h]
theorem spW_short {L : List UInt8} {f p : Nat} (hp : p < L.length) (h : 160 ≤ byAt L p ∧ byAt L p < 192) : spW L (f + 1) p = takeS L (byAt L p - 160) (p + 1) := by rw [spW, if_neg (by omega), if_pos h]
theorem spW_long {L : List UInt8} {f p : Nat} (hp : p < L.length) (h : 217 ≤ byAt L p ∧ byAt L p ≤ 219) : spW L (f + 1) p = match bigS L (p + 1) (2 ^ (byAt L p - 217)) with | none => none | some (n, q) => takeS L n q := by rw [spW, if_neg (by omega), if_neg (by omega), if_pos h]
theorem spW_none {L : List UInt8} {f p : Nat} (h : L.length ≤ p ∨ ¬ (160 ≤ byAt L p ∧ byAt L p < 192) ∧ ¬ (217 ≤ byAt L p ∧ byAt L p ≤ 219)) : spW L (f + 1) p = none := by
  rw [spW]
  rcases h with h | ⟨h1, h2⟩
  · rw [if_pos h]
  · by_cases hl : L.length ≤ p
    · rw [if_pos hl]
    · rw [if_neg hl, if_neg h1, if_neg h2]
theorem two_pos (k : Nat) : 1 ≤ 2 ^ k := Nat.one_le_two_pow
theorem take_or (L : List UInt8) (n p : Nat) : (∃ s q, takeS L n p = some (s, q) ∧ wordI L n p = some (wordT s, q) ∧ s.size ≤ 60) ∨ (takeS L n p = none ∧ (wordI L n p = none ∨ ∃ s q, wordI L n p = some (wordT s, q) ∧ 60 < s.size)) := by
  unfold takeS wordI
  by_cases h1 : p + n ≤ L.length
  · rw [if_pos h1]
    by_cases h2 : n ≤ 60
    · rw [if_pos ⟨h2, h1⟩]
      exact .inl ⟨_, _, rfl, rfl, by rw [cutT_size h1]; exact h2⟩
    · rw [if_neg (fun h => h2 h.1)]
      exact .inr ⟨rfl, .inr ⟨_, _, rfl, by rw [cutT_size h1]; omega⟩⟩
  · rw [if_neg h1, if_neg (fun h => h1 h.2)]
    exact .inr ⟨rfl, .inl rfl⟩
/-- A text is read alike. -/
theorem word_or {L : List UInt8} {f p : Nat} (hp : p < L.length) (h : (160 ≤ byAt L p ∧ byAt L p < 192) ∨ (217 ≤ byAt L p ∧ byAt L p ≤ 219)) :
    (∃ s q, spW L (f + 1) p = some (s, q) ∧ rdP L (f + 1) p = some (wordT s, q) ∧ s.size ≤ 60) ∨ (spW L (f + 1) p = none ∧ (rdP L (f + 1) p = none ∨ ∃ s q, rdP L (f + 1) p = some (wordT s, q) ∧ 60 < s.size)) := by
  rcases h with h | h
  · rw [spW_short hp h, rdP_word hp h]
    exact take_or L _ _
  · rw [spW_long hp h, rdP_long hp ⟨h.1, by omega⟩]
    unfold longV
    rcases numI_or L (p := p + 1) (two_pos (byAt L p - 217)) with ⟨h1, h2⟩ | ⟨h1, h2, h3⟩
    · rw [h1]
      cases e : bigS L (p + 1) (2 ^ (byAt L p - 217)) with
      | none => exact .inr ⟨rfl, .inl rfl⟩
      | some x => exact take_or L x.1 x.2
    · rw [h1, h2]
      refine .inr ⟨?_, .inl rfl⟩
      simp only [takeS]
      rw [if_neg (fun h => by have := h.1; unfold maxI at h3; omega)]
theorem wordI_leaf {L : List UInt8} {n p : Nat} {t : VT} {q : Nat} (h : wordI L n p = some (t, q)) : ∃ s, t = wordT s := by
  unfold wordI at h
  split at h
  · simp only [Option.some.injEq, Prod.mk.injEq] at h; obtain ⟨rfl, _⟩ := h; exact ⟨_, rfl⟩
  · cases h
theorem rdP_cases {L : List UInt8} {f p : Nat} {t : VT} {q : Nat} (h : rdP L (f + 1) p = some (t, q)) : (∃ k n s, t = .mk k n s [] [] ∧ (k ≠ 4 ∨ ((160 ≤ byAt L p ∧ byAt L p < 192) ∨ (217 ≤ byAt L p ∧ byAt L p ≤ 219)))) ∨ ∃ named m p', rowT (rdP L f) named m p' = some (t, q) := by
  have hb := byAt_lt L p
  have leaf : ∀ {k n : Int} {s : ByteArray} {q' : Nat}, some ((VT.mk k n s [] [] : VT), q') = some (t, q) → k ≠ 4 → (∃ k n s, t = .mk k n s [] [] ∧ (k ≠ 4 ∨ ((160 ≤ byAt L p ∧ byAt L p < 192) ∨ (217 ≤ byAt L p ∧ byAt L p ≤ 219)))) ∨ ∃ named m p', rowT (rdP L f) named m p' = some (t, q) := fun {k n s q'} h hk => by
    simp only [Option.some.injEq, Prod.mk.injEq] at h
    obtain ⟨rfl, _⟩ := h
    exact .inl ⟨k, n, s, rfl, .inl hk⟩
  by_cases hp : p < L.length
  rotate_left
  · rw [rdP_end (by omega)] at h; cases h
  by_cases b1 : byAt L p < 128
  · rw [rdP_num hp b1] at h; exact leaf h (by decide)
  by_cases b2 : byAt L p < 144
  · rw [rdP_map hp ⟨by omega, b2⟩] at h; exact .inr ⟨_, _, _, h⟩
  by_cases b3 : byAt L p < 160
  · rw [rdP_list hp ⟨by omega, b3⟩] at h; exact .inr ⟨_, _, _, h⟩
  by_cases b4 : byAt L p < 192
  · rw [rdP_word hp ⟨by omega, b4⟩] at h
    obtain ⟨s, rfl⟩ := wordI_leaf h
    exact .inl ⟨4, 0, s, rfl, .inr (.inl ⟨by omega, b4⟩)⟩
  by_cases b5 : 224 ≤ byAt L p
  · rw [rdP_neg hp b5] at h; exact leaf h (by decide)
  by_cases b6 : byAt L p = 192
  · rw [rdP_null hp b6] at h; exact leaf h (by decide)
  by_cases b7 : byAt L p = 194
  · rw [rdP_no hp b7] at h; exact leaf h (by decide)
  by_cases b8 : byAt L p = 195
  · rw [rdP_yes hp b8] at h; exact leaf h (by decide)
  by_cases b9 : byAt L p < 204
  · rw [rdP_bad hp (by omega)] at h; cases h
  by_cases b10 : byAt L p < 208
  · rw [rdP_wide hp ⟨by omega, b10⟩] at h
    unfold numV at h
    split at h
    · cases h
    · exact leaf h (by decide)
  by_cases b11 : byAt L p < 212
  · rw [rdP_sgn hp ⟨by omega, b11⟩] at h
    unfold sgnI at h
    split at h
    · exact leaf h (by decide)
    · cases h
  by_cases b12 : byAt L p < 217
  · rw [rdP_bad2 hp ⟨by omega, b12⟩] at h; cases h
  by_cases b13 : byAt L p < 220
  · rw [rdP_long hp ⟨by omega, b13⟩] at h
    unfold longV at h
    split at h
    · cases h
    · obtain ⟨s, rfl⟩ := wordI_leaf h
      exact .inl ⟨4, 0, s, rfl, .inr (.inr ⟨by omega, by omega⟩)⟩
  by_cases b14 : byAt L p < 222
  · rw [rdP_list2 hp ⟨by omega, b14⟩] at h
    unfold rowV at h
    split at h
    · cases h
    · exact .inr ⟨_, _, _, h⟩
  · rw [rdP_map2 hp (by omega)] at h
    unfold rowV at h
    split at h
    · cases h
    · exact .inr ⟨_, _, _, h⟩
theorem textOf_row {R : Nat → Option (VT × Nat)} {named : Bool} {m p : Nat} {t : VT} {q : Nat} (h : rowT R named m p = some (t, q)) : textOf t = none := by
  unfold rowT at h
  split at h
  · split at h
    · cases h
    · simp only [Option.some.injEq, Prod.mk.injEq] at h; obtain ⟨rfl, _⟩ := h; rfl
  · split at h
    · cases h
    · simp only [Option.some.injEq, Prod.mk.injEq] at h; obtain ⟨rfl, _⟩ := h; rfl
theorem textOf_rowV {R : Nat → Option (VT × Nat)} {L : List UInt8} {named : Bool} {w p : Nat} {t : VT} {q : Nat} (h : rowV R L named p w = some (t, q)) : textOf t = none := by
  unfold rowV at h
  split at h
  · cases h
  · exact textOf_row h
theorem rdP_full (L : List UInt8) : ∀ f p t q, rdP L f p = some (t, q) → FullT f t := by
  intro f
  induction f with
  | zero => intro p t q h; simp [rdP] at h
  | succ f ih =>
    intro p t q h
    rcases rdP_cases h with ⟨k, n, s, rfl, _⟩ | ⟨named, m, p', h1⟩
    · exact leaf_full f _ _ _
    · exact rowT_full ih h1
theorem relW_pack (L : List UInt8) (f : Nat) : RelW (rdP L f) (spW L f) := by
  cases f with
  | zero => exact ⟨fun p s q h => by simp [spW] at h, fun p _ => .inl rfl⟩
  | succ f =>
    have hb := fun p => byAt_lt L p
    refine ⟨fun p s q h => ?_, fun p h => ?_⟩
    · by_cases hp : p < L.length
      · by_cases hr : (160 ≤ byAt L p ∧ byAt L p < 192) ∨ (217 ≤ byAt L p ∧ byAt L p ≤ 219)
        · rcases word_or (f := f) hp hr with ⟨s', q', h1, h2, _⟩ | ⟨h1, _⟩
          · rw [h] at h1
            simp only [Option.some.injEq, Prod.mk.injEq] at h1
            obtain ⟨rfl, rfl⟩ := h1
            exact ⟨_, h2, rfl⟩
          · rw [h] at h1; cases h1
        · rw [spW_none (.inr ⟨fun h => hr (.inl h), fun h => hr (.inr h)⟩)] at h; cases h
      · rw [spW_none (.inl (by omega))] at h; cases h
    · by_cases hp : p < L.length
      · by_cases hr : (160 ≤ byAt L p ∧ byAt L p < 192) ∨ (217 ≤ byAt L p ∧ byAt L p ≤ 219)
        · rcases word_or (f := f) hp hr with ⟨s', q', h1, h2, _⟩ | ⟨h1, h2⟩
          · rw [h] at h1; cases h1
          · rcases h2 with h2 | ⟨s, q, h2, h3⟩
            · exact .inl h2
            · exact .inr ⟨_, q, h2, .inr ⟨s, rfl, big_text h3⟩⟩
        · cases e : rdP L (f + 1) p with
          | none => exact .inl rfl
          | some x =>
            obtain ⟨t, q⟩ := x
            refine .inr ⟨t, q, rfl, .inl ?_⟩
            rcases rdP_cases e with ⟨k, n, s, rfl, hk⟩ | ⟨named, m, p', h1⟩
            · rcases hk with hk | hk
              · simp [textOf, hk]
              · exact absurd hk hr
            · exact textOf_row h1
      · exact .inl (rdP_end (by omega))
theorem rowV_or {W : Nat → Option (ByteArray × Nat)} {S : Nat → Nat → Option (List VN × Nat × Nat)} (R : Nat → Option (VT × Nat)) (L : List UInt8) (named : Bool) {p w : Nat} (hw : 1 ≤ w) (deep c : Nat) :
    (∃ n q, rowV R L named p w = rowT R named n q ∧ bigRow W S L named w deep p c = spRow W S named n deep q c) ∨ (rowV R L named p w = none ∧ bigRow W S L named w deep p c = none) := by
  unfold rowV bigRow
  rcases numI_or L (p := p) hw with ⟨h1, h2⟩ | ⟨h1, h2, h3⟩
  · rw [h1]
    cases e : bigS L p w with
    | none => exact .inr ⟨rfl, rfl⟩
    | some x => exact .inl ⟨x.1, x.2, rfl, rfl⟩
  · rw [h1, h2]
    refine .inr ⟨rfl, ?_⟩
    simp only [spRow]
    rw [if_pos (.inl (by unfold maxI at h3; omega))]
theorem relV_pack (L : List UInt8) : ∀ f deep, RelV f deep (rdP L f) (spP L f deep) := by
  intro f
  induction f with
  | zero => intro deep; exact ⟨rdP_full L 0, fun p c ns q d _ h => by simp [spP] at h, fun p c _ _ => .inl rfl⟩
  | succ f ih =>
    intro deep
    have HW := relW_pack L f
    have leafY : ∀ (p : Nat) (c : Nat) (ns : List VN) (q d : Nat) (k n : Int) (s : ByteArray) (q' : Nat), c + 1 ≤ 80 → rdP L (f + 1) p = some (.mk k n s [] [], q') → some (leafN k n s, q', c + 1) = some (ns, q, d) →
        d = c + ns.length ∧ d ≤ 80 ∧ 1 ≤ ns.length ∧ ((∃ t, rdP L (f + 1) p = some (t, q) ∧ ns = layT (f + 1) t 0) ∨ (rdP L (f + 1) p = none ∧ Wrong ns)) := by
      intro p c ns q d k n s q' hc hr h
      simp only [Option.some.injEq, Prod.mk.injEq] at h
      obtain ⟨rfl, rfl, rfl⟩ := h
      exact ⟨rfl, hc, by simp [leafN], .inl ⟨_, hr, (leaf_lay f k n s).symm⟩⟩
    refine ⟨rdP_full L (f + 1), fun p c ns q d hc h => ?_, fun p c hc h => ?_⟩
    · have hb := byAt_lt L p
      by_cases h80 : c + 1 ≤ 80
      · by_cases hp : p < L.length
        · by_cases b0 : (160 ≤ byAt L p ∧ byAt L p < 192) ∨ (217 ≤ byAt L p ∧ byAt L p ≤ 219)
          · rw [spP_word hp h80 b0] at h
            unfold wordV at h
            rcases word_or (f := f) hp b0 with ⟨s', q', h1, h2, _⟩ | ⟨h1, _⟩
            · rw [h1] at h
              exact leafY p c ns q d _ _ _ q' h80 h2 h
            · rw [h1] at h; cases h
          by_cases b1 : byAt L p < 128
          · rw [spP_num hp h80 b1] at h
            exact leafY p c ns q d _ _ _ _ h80 (rdP_num hp b1) h
          by_cases b2 : byAt L p < 144
          · rw [spP_map hp h80 ⟨by omega, b2⟩] at h
            rw [rdP_map hp ⟨by omega, b2⟩]
            exact row_yes (ih (deep + 1)) HW h80 h
          by_cases b3 : byAt L p < 160
          · rw [spP_list hp h80 ⟨by omega, b3⟩] at h
            rw [rdP_list hp ⟨by omega, b3⟩]
            exact row_yes (ih (deep + 1)) HW h80 h
          by_cases b4 : byAt L p = 192
          · rw [spP_null hp h80 b4] at h
            exact leafY p c ns q d _ _ _ _ h80 (rdP_null hp b4) h
          by_cases b5 : byAt L p = 194
          · rw [spP_no hp h80 b5] at h
            exact leafY p c ns q d _ _ _ _ h80 (rdP_no hp b5) h
          by_cases b6 : byAt L p = 195
          · rw [spP_yes hp h80 b6] at h
            exact leafY p c ns q d _ _ _ _ h80 (rdP_yes hp b6) h
          by_cases b7 : 204 ≤ byAt L p ∧ byAt L p < 208
          · rw [spP_wide hp h80 b7] at h
            have hr := rdP_wide (f := f) hp b7
            unfold bigV at h
            unfold numV at hr
            rcases numI_or L (p := p + 1) (two_pos (byAt L p - 204)) with ⟨h1, h2⟩ | ⟨h1, h2, h3⟩
            · rw [h1] at hr
              cases e : bigS L (p + 1) (2 ^ (byAt L p - 204)) with
              | none => simp [e] at h
              | some x =>
                rw [e] at h hr
                exact leafY p c ns q d _ _ _ _ h80 hr h
            · rw [h2] at h
              rw [h1] at hr
              simp only [Option.some.injEq, Prod.mk.injEq] at h
              obtain ⟨rfl, rfl, rfl⟩ := h
              exact ⟨rfl, h80, by simp [leafN], .inr ⟨hr, leaf_wrong (big_num (.inr (by unfold maxI at h3; omega)))⟩⟩
          by_cases b8 : 208 ≤ byAt L p ∧ byAt L p < 212
          · rw [spP_sgn hp h80 b8] at h
            have hr := rdP_sgn (f := f) hp b8
            unfold sgnS at h
            unfold sgnI at hr
            split at h
            · rename_i hx
              rw [if_pos hx.1] at hr
              exact leafY p c ns q d _ _ _ _ h80 hr h
            · cases h
          by_cases b9 : 220 ≤ byAt L p ∧ byAt L p < 222
          · rw [spP_list2 hp h80 b9] at h
            rw [rdP_list2 hp b9]
            rcases rowV_or (W := spW L f) (S := spP L f (deep + 1)) (rdP L f) L false (p := p + 1) (w := 2 * 2 ^ (byAt L p - 220)) (by have := two_pos (byAt L p - 220); omega) (deep + 1) (c + 1) with ⟨n, q', h1, h2⟩ | ⟨h1, h2⟩
            · rw [h2] at h
              rw [h1]
              exact row_yes (ih (deep + 1)) HW h80 h
            · rw [h2] at h; cases h
          by_cases b10 : 222 ≤ byAt L p ∧ byAt L p < 224
          · rw [spP_map2 hp h80 b10] at h
            rw [rdP_map2 hp b10]
            rcases rowV_or (W := spW L f) (S := spP L f (deep + 1)) (rdP L f) L true (p := p + 1) (w := 2 * 2 ^ (byAt L p - 222)) (by have := two_pos (byAt L p - 222); omega) (deep + 1) (c + 1) with ⟨n, q', h1, h2⟩ | ⟨h1, h2⟩
            · rw [h2] at h
              rw [h1]
              exact row_yes (ih (deep + 1)) HW h80 h
            · rw [h2] at h; cases h
          by_cases b11 : 224 ≤ byAt L p
          · rw [spP_neg hp h80 b11] at h
            exact leafY p c ns q d _ _ _ _ h80 (rdP_neg hp b11) h
          · rw [spP_bad hp h80 (by omega)] at h; cases h
        · rw [spP_end (.inr (by omega))] at h; cases h
      · rw [spP_end (.inl (by omega))] at h; cases h
    · have hb := byAt_lt L p
      by_cases h80 : c + 1 ≤ 80
      · by_cases hp : p < L.length
        · by_cases b0 : (160 ≤ byAt L p ∧ byAt L p < 192) ∨ (217 ≤ byAt L p ∧ byAt L p ≤ 219)
          · rw [spP_word hp h80 b0] at h
            unfold wordV at h
            rcases word_or (f := f) hp b0 with ⟨s', q', h1, h2, _⟩ | ⟨h1, h2⟩
            · rw [h1] at h; cases h
            · rcases h2 with h2 | ⟨s, q, h2, h3⟩
              · exact .inl h2
              · exact .inr ⟨_, q, h2, text_doom h3⟩
          by_cases b1 : byAt L p < 128
          · rw [spP_num hp h80 b1] at h; cases h
          by_cases b2 : byAt L p < 144
          · rw [spP_map hp h80 ⟨by omega, b2⟩] at h
            rw [rdP_map hp ⟨by omega, b2⟩]
            exact row_no (ih (deep + 1)) HW h80 h
          by_cases b3 : byAt L p < 160
          · rw [spP_list hp h80 ⟨by omega, b3⟩] at h
            rw [rdP_list hp ⟨by omega, b3⟩]
            exact row_no (ih (deep + 1)) HW h80 h
          by_cases b4 : byAt L p = 192
          · rw [spP_null hp h80 b4] at h; cases h
          by_cases b5 : byAt L p = 194
          · rw [spP_no hp h80 b5] at h; cases h
          by_cases b6 : byAt L p = 195
          · rw [spP_yes hp h80 b6] at h; cases h
          by_cases b7 : 204 ≤ byAt L p ∧ byAt L p < 208
          · rw [spP_wide hp h80 b7] at h
            have hr := rdP_wide (f := f) hp b7
            unfold bigV at h
            unfold numV at hr
            rcases numI_or L (p := p + 1) (two_pos (byAt L p - 204)) with ⟨h1, h2⟩ | ⟨h1, h2, h3⟩
            · rw [h1] at hr
              cases e : bigS L (p + 1) (2 ^ (byAt L p - 204)) with
              | none => rw [e] at hr; exact .inl hr
              | some x => rw [e] at h; cases h
            · rw [h1] at hr
              exact .inl hr
          by_cases b8 : 208 ≤ byAt L p ∧ byAt L p < 212
          · rw [spP_sgn hp h80 b8] at h
            have hr := rdP_sgn (f := f) hp b8
            unfold sgnS at h
            unfold sgnI at hr
            split at h
            · cases h
            · rename_i hx
              by_cases h1 : p + 1 + 2 ^ (byAt L p - 208) ≤ L.length
              · rw [if_pos h1] at hr
                exact .inr ⟨_, _, hr, num_doom (by
                  by_cases h2 : -1000000000000000 ≤ sgnN (2 ^ (byAt L p - 208)) (bigN L (p + 1) (2 ^ (byAt L p - 208)))
                  · by_cases h3 : sgnN (2 ^ (byAt L p - 208)) (bigN L (p + 1) (2 ^ (byAt L p - 208))) ≤ 1000000000000000
                    · exact absurd ⟨h1, h2, h3⟩ hx
                    · right; omega
                  · left; omega)⟩
              · rw [if_neg h1] at hr
                exact .inl hr
          by_cases b9 : 220 ≤ byAt L p ∧ byAt L p < 222
          · rw [spP_list2 hp h80 b9] at h
            rw [rdP_list2 hp b9]
            rcases rowV_or (W := spW L f) (S := spP L f (deep + 1)) (rdP L f) L false (p := p + 1) (w := 2 * 2 ^ (byAt L p - 220)) (by have := two_pos (byAt L p - 220); omega) (deep + 1) (c + 1) with ⟨n, q', h1, h2⟩ | ⟨h1, h2⟩
            · rw [h2] at h
              rw [h1]
              exact row_no (ih (deep + 1)) HW h80 h
            · exact .inl h1
          by_cases b10 : 222 ≤ byAt L p ∧ byAt L p < 224
          · rw [spP_map2 hp h80 b10] at h
            rw [rdP_map2 hp b10]
            rcases rowV_or (W := spW L f) (S := spP L f (deep + 1)) (rdP L f) L true (p := p + 1) (w := 2 * 2 ^ (byAt L p - 222)) (by have := two_pos (byAt L p - 222); omega) (deep + 1) (c + 1) with ⟨n, q', h1, h2⟩ | ⟨h1, h2⟩
            · rw [h2] at h
              rw [h1]
              exact row_no (ih (deep + 1)) HW h80 h
            · exact .inl h1
          by_cases b11 : 224 ≤ byAt L p
          · rw [spP_neg hp h80 b11] at h; cases h
          · by_cases b12 : byAt L p < 212
            · exact .inl (rdP_bad hp (by omega))
            · exact .inl (rdP_bad2 hp (by omega))
        · exact .inl (rdP_end (by omega))
      · cases e : rdP L (f + 1) p with
        | none => exact .inl rfl
        | some x => exact .inr ⟨x.1, x.2, rfl, many_doom (rdP_full L (f + 1) p x.1 x.2 e) (by omega)⟩
/-- What both say of a whole text. -/
def okOf (f : Nat) (r : Option (VT × Nat)) : Option (List VN × Nat) := match r with
  | none => none
  | some (t, q) => if okB (layT f t 0) = true then some (layT f t 0, q) else none
theorem same_read {f : Nat} {R : Nat → Option (VT × Nat)} {S : Nat → Nat → Option (List VN × Nat × Nat)} (H : RelV f 0 R S) : (match S 0 0 with | none => none | some (ns, q, _) => if okB ns = true then some (ns, q) else none) = okOf f (R 0) := by
  cases e : S 0 0 with
  | none =>
    rcases H.no 0 0 (by omega) e with h | ⟨t, q, h1, h2⟩
    · rw [h]; rfl
    · rw [h1]
      have hf := H.full _ _ _ h1
      show none = (if okB (layT f t 0) = true then some (layT f t 0, q) else none)
      rw [if_neg]
      intro hok
      obtain ⟨a, b, c⟩ := (ok_lay hf).1 hok
      rcases h2 with h2 | h2 | h2
      · exact h2 b
      · omega
      · omega
  | some x =>
    obtain ⟨ns, q, d⟩ := x
    obtain ⟨_, _, _, h4⟩ := H.yes 0 0 ns q d (by omega) e
    rcases h4 with ⟨t, h1, h2⟩ | ⟨h1, j, h2, h3⟩
    · rw [h1, h2]; rfl
    · rw [h1]
      simp only [not_ok h2 h3, Bool.false_eq_true, if_false]
      rfl
end Go.Proofs.YtagcgnhpdmhegaaGreatDoor
