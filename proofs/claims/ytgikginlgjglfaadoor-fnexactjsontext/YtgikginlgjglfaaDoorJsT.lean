/-
  Plain: JSON's bytes of a tree, in one line or in lines.
-/
import Derived.Test.YtgikginlgjglfaaDoorPkP
import Derived.Test.YtgikginlgjglfaaDoorPkT
import Derived.Lib.ItoaNum
namespace Go.Proofs.YtgikginlgjglfaaDoor
open Go.RowKit
set_option linter.unusedSimpArgs false
set_option linter.unusedVariables false

/-- Where a line begins. -/
def lineJ (lines : Bool) (deep : Nat) : List UInt8 := if lines = true then 10 :: List.replicate (2 * deep) 32 else []
def keyJ (lines : Bool) (key : ByteArray) : List UInt8 := quoT key ++ 58 :: (if lines = true then [32] else [])
/-- The first 'k' parts. -/
def partsJ (F : VT → List UInt8) (lines named : Bool) (deep : Nat) (keys : List ByteArray) (kids : List VT) : Nat → List UInt8
  | 0 => []
  | k + 1 => partsJ F lines named deep keys kids k ++ (if k = 0 then [] else [44]) ++ lineJ lines (deep + 1) ++ (if named = true then keyJ lines (keyAt keys k) else []) ++ F (kidT kids k)
def wholeJ (F : VT → List UInt8) (lines named : Bool) (deep : Nat) (keys : List ByteArray) (kids : List VT) : List UInt8 :=
  if kids.length = 0 then [] else partsJ F lines named deep keys kids kids.length ++ lineJ lines deep
def jsonT (lines : Bool) : Nat → Nat → VT → List UInt8
  | 0, _, _ => []
  | f + 1, deep, .mk kind n s keys kids =>
    if kind = 1 then [110, 117, 108, 108] else if kind = 2 then (if n = 1 then [116, 114, 117, 101] else [102, 97, 108, 115, 101]) else if kind = 3 then Lib.itoa n else if kind = 4 then quoT s
    else if kind = 5 then 91 :: (wholeJ (jsonT lines f (deep + 1)) lines false deep keys kids ++ [93])
    else 123 :: (wholeJ (jsonT lines f (deep + 1)) lines true deep keys kids ++ [125])
theorem jsonT_leaf (lines : Bool) (f deep : Nat) {kind n : Int} {s : ByteArray} {keys : List ByteArray} {kids : List VT} :
    (kind = 1 → jsonT lines (f + 1) deep (.mk kind n s keys kids) = [110, 117, 108, 108]) ∧ (kind = 2 → jsonT lines (f + 1) deep (.mk kind n s keys kids) = if n = 1 then [116, 114, 117, 101] else [102, 97, 108, 115, 101]) ∧ (kind = 3 → jsonT lines (f + 1) deep (.mk kind n s keys kids) = Lib.itoa n) ∧ (kind = 4 → jsonT lines (f + 1) deep (.mk kind n s keys kids) = quoT s) ∧
    (kind = 5 → jsonT lines (f + 1) deep (.mk kind n s keys kids) = 91 :: (wholeJ (jsonT lines f (deep + 1)) lines false deep keys kids ++ [93])) ∧ (kind = 6 → jsonT lines (f + 1) deep (.mk kind n s keys kids) = 123 :: (wholeJ (jsonT lines f (deep + 1)) lines true deep keys kids ++ [125])) := by
  refine ⟨?_, ?_, ?_, ?_, ?_, ?_⟩ <;> (intro h; subst h; rw [jsonT]; simp)
theorem lineJ_len (lines : Bool) (deep : Nat) : (lineJ lines deep).length ≤ 2 * deep + 1 := by
  unfold lineJ; split <;> simp
theorem keyJ_len (lines : Bool) (key : ByteArray) : (keyJ lines key).length ≤ 6 * key.size + 4 := by
  have := (quoT_len key).2
  unfold keyJ; rw [List.length_append, List.length_cons]; split <;> simp <;> omega
theorem partsJ_mono (F : VT → List UInt8) (lines named : Bool) (deep : Nat) (keys : List ByteArray) (kids : List VT) {j k : Nat} (h : j ≤ k) : (partsJ F lines named deep keys kids j).length ≤ (partsJ F lines named deep keys kids k).length := by
  induction k with
  | zero => obtain rfl : j = 0 := by omega
            exact Nat.le_refl _
  | succ k ih =>
    by_cases e : j = k + 1
    · subst e; exact Nat.le_refl _
    · have := ih (by omega)
      rw [partsJ]; simp only [List.length_append]; omega
end Go.Proofs.YtgikginlgjglfaaDoor
