/-
  Plain: JSON's bytes of a tree, in one line or in lines.
-/
import Derived.Test.YtiamkmkbkehldaaDoorPkP
import Derived.Test.YtiamkmkbkehldaaDoorPkT
import Derived.Lib.ItoaNum
import Derived.Lib.ItoaLen
namespace Go.Proofs.YtiamkmkbkehldaaDoor
open Go.RowKit
set_option linter.unusedSimpArgs false
set_option linter.unusedVariables false

/-- Where a line begins. -/
def lineJ (lines : Bool) (deep : Nat) : List UInt8 := if lines = true then 10 :: List.replicate (2 * deep) 32 else []
def keyJ (lines : Bool) (key : ByteArray) : List UInt8 := quoT key ++ 58 :: (if lines = true then [32] else [])
/-- The first 'k' parts. -/
def partsJ (F : VT → List UInt8) (lines named : Bool) (deep : Nat) (keys : List ByteArray) (kids : List VT) : Nat → List UInt8
  | 0 => []
  | k + 1 => partsJ F lines named deep keys kids k ++ (if k = 0 then [] else [44]) ++ lineJ lines (deep + 1) ++ (if named = true then keyJ lines (keyAt keys k) else []) ++ F (kidT kids k)
def wholeJ (F : VT → List UInt8) (lines named : Bool) (deep : Nat) (keys : List ByteArray) (kids : List VT) : List UInt8 :=
  if kids.length = 0 then [] else partsJ F lines named deep keys kids kids.length ++ lineJ lines deep
def jsonT (lines : Bool) : Nat → Nat → VT → List UInt8
  | 0, _, _ => []
  | f + 1, deep, .mk kind n s keys kids =>
    if kind = 1 then [110, 117, 108, 108] else if kind = 2 then (if n = 1 then [116, 114, 117, 101] else [102, 97, 108, 115, 101]) else if kind = 3 then Lib.itoa n else if kind = 4 then quoT s
    else if kind = 5 then 91 :: (wholeJ (jsonT lines f (deep + 1)) lines false deep keys kids ++ [93])
    else 123 :: (wholeJ (jsonT lines f (deep + 1)) lines true deep keys kids ++ [125])
theorem jsonT_leaf (lines : Bool) (f deep : Nat) {kind n : Int} {s : ByteArray} {keys : List ByteArray} {kids : List VT} :
    (kind = 1 → jsonT lines (f + 1) deep (.mk kind n s keys kids) = [110, 117, 108, 108]) ∧ (kind = 2 → jsonT lines (f + 1) deep (.mk kind n s keys kids) = if n = 1 then [116, 114, 117, 101] else [102, 97, 108, 115, 101]) ∧ (kind = 3 → jsonT lines (f + 1) deep (.mk kind n s keys kids) = Lib.itoa n) ∧ (kind = 4 → jsonT lines (f + 1) deep (.mk kind n s keys kids) = quoT s) ∧
    (kind = 5 → jsonT lines (f + 1) deep (.mk kind n s keys kids) = 91 :: (wholeJ (jsonT lines f (deep + 1)) lines false deep keys kids ++ [93])) ∧ (kind = 6 → jsonT lines (f + 1) deep (.mk kind n s keys kids) = 123 :: (wholeJ (jsonT lines f (deep + 1)) lines true deep keys kids ++ [125])) := by
  refine ⟨?_, ?_, ?_, ?_, ?_, ?_⟩ <;> (intro h; subst h; rw [jsonT]; simp)
theorem lineJ_len (lines : Bool) (deep : Nat) : (lineJ lines deep).length ≤ 2 * deep + 1 := by
  unfold lineJ; split <;> simp
theorem keyJ_len (lines : Bool) (key : ByteArray) : (keyJ lines key).length ≤ 6 * key.size + 4 := by
  have := (quoT_len key).2
  unfold keyJ; rw [List.length_append, List.length_cons]; split <;> simp <;> omega
theorem partsJ_mono (F : VT → List UInt8) (lines named : Bool) (deep : Nat) (keys : List ByteArray) (kids : List VT) {j k : Nat} (h : j ≤ k) : (partsJ F lines named deep keys kids j).length ≤ (partsJ F lines named deep keys kids k).length := by
  induction k with
  | zero => obtain rfl : j = 0 := by omega
            exact Nat.le_refl _
  | succ k ih =>
    by_cases e : j = k + 1
    · subst e; exact Nat.le_refl _
    · have := ih (by omega)
      rw [partsJ]; simp only [List.length_append]; omega
end Go.Proofs.YtiamkmkbkehldaaDoor

/-
  Plain: how long JSON's bytes of a right tree are.
-/
namespace Go.Proofs.YtiamkmkbkehldaaDoor
open Go.RowKit
set_option linter.unusedSimpArgs false
set_option linter.unusedVariables false

theorem dec_pos (u : Nat) : 1 ≤ (Lib.decDigits u).length := by
  rw [Lib.decDigits]
  split <;> simp
theorem itoa_pos (n : Int) : 1 ≤ (Lib.itoa n).length := by
  unfold Lib.itoa
  split
  · simp
  · exact dec_pos _
/-- No more than so many bytes a node. -/
theorem jsonT_le {vs : List VN} (hok : okB vs = true) (lines : Bool) : ∀ (f deep i : Nat) (sh : Nat), i < vs.length → i < f → deep + i ≤ 100 → (jsonT lines f deep (treeOf vs f i)).length + 600 ≤ 1200 * (layT f (treeOf vs f i) sh).length := by
  intro f
  induction f with
  | zero => intro deep i sh hi hf; omega
  | succ f ih =>
    intro deep i sh hi hf hd
    rw [treeOf]
    have hl := jsonT_leaf lines f deep (kind := (nodeAt vs i).kind) (n := (nodeAt vs i).n) (s := (nodeAt vs i).s) (keys := (nodeAt vs i).keys) (kids := (nodeAt vs i).kids.map fun k => treeOf vs f k.toNat)
    rw [layT_eq]
    have hkid : ∀ (named : Bool), (named = true → ∀ j, j < (nodeAt vs i).kids.length → (keyAt (nodeAt vs i).keys j).size ≤ 60) → ∀ k, k ≤ (nodeAt vs i).kids.length →
        (partsJ (jsonT lines f (deep + 1)) lines named deep (nodeAt vs i).keys ((nodeAt vs i).kids.map fun k => treeOf vs f k.toNat) k).length ≤ 1200 * (accT f sh ((nodeAt vs i).kids.map fun k => treeOf vs f k.toNat) k).length := by
      intro named hkey k
      induction k with
      | zero => intro _; simp [partsJ]
      | succ k ihk =>
        intro hk
        have h1 := ihk (by omega)
        rw [partsJ, accT_succ f sh (by rw [List.length_map]; omega)]
        simp only [List.length_append]
        rw [kidT_map (by omega)]
        obtain ⟨_, p2, _, _⟩ := okB_parts hok
        have hki := kidsIn_get (p2 i hi).2 (j := k) (by omega)
        have h2 := ih (deep + 1) (intAt (nodeAt vs i).kids k).toNat (sh + (accT f sh ((nodeAt vs i).kids.map fun k => treeOf vs f k.toNat) k).length) (by omega) (by omega) (by omega)
        have h3 : (if named = true then keyJ lines (keyAt (nodeAt vs i).keys k) else []).length ≤ 364 := by
          cases named
          · simp
          · have := keyJ_len lines (keyAt (nodeAt vs i).keys k)
            have := hkey rfl k (by omega)
            simp only [if_true]; omega
        have h4 : (if k = 0 then ([] : List UInt8) else [44]).length ≤ 1 := by split <;> simp
        have h5 := lineJ_len lines (deep + 1)
        omega
    have hw : ∀ (named : Bool), (named = true → ∀ j, j < (nodeAt vs i).kids.length → (keyAt (nodeAt vs i).keys j).size ≤ 60) →
        (wholeJ (jsonT lines f (deep + 1)) lines named deep (nodeAt vs i).keys ((nodeAt vs i).kids.map fun k => treeOf vs f k.toNat)).length ≤ 1200 * (accT f sh ((nodeAt vs i).kids.map fun k => treeOf vs f k.toNat) (nodeAt vs i).kids.length).length + 201 := by
      intro named hkey
      have h1 := hkid named hkey _ (Nat.le_refl _)
      have h2 := lineJ_len lines deep
      unfold wholeJ
      rw [List.length_map]
      split
      · simp
      · rw [List.length_append]; omega
    simp only [List.length_append, List.length_cons, List.length_nil, List.length_map]
    rcases node_says hok hi with k | ⟨k, _⟩ | ⟨k, h1, h2⟩ | ⟨k, hs⟩ | k | ⟨k, hkk, hks⟩
    · rw [hl.1 k]; simp; omega
    · rw [hl.2.1 k]; split <;> (simp; omega)
    · rw [hl.2.2.1 k]; have := Lib.itoa_length_le (nodeAt vs i).n (by omega) (by omega); omega
    · rw [hl.2.2.2.1 k]; have := (quoT_len (nodeAt vs i).s).2; omega
    · rw [hl.2.2.2.2.1 k]
      have h2 := hw false (by simp)
      simp only [List.length_append, List.length_cons, List.length_nil] at h2 ⊢
      omega
    · rw [hl.2.2.2.2.2 k]
      have h2 := hw true (fun _ j hj => hks j (by omega))
      simp only [List.length_append, List.length_cons, List.length_nil] at h2 ⊢
      omega
end Go.Proofs.YtiamkmkbkehldaaDoor
