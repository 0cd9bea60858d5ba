/-
  Plain: YAML's bytes of a tree.
-/
import Derived.Test.YtiamkmkbkehldaaDoorJsB
import Derived.Test.YtiamkmkbkehldaaDoorNdS
namespace Go.Proofs.YtiamkmkbkehldaaDoor
open Go.RowKit
set_option linter.unusedSimpArgs false
set_option linter.unusedVariables false

def wordY (s : ByteArray) : List UInt8 := if plainL s.data.toList = true then s.data.toList else quoT s
def kidsY : VT → List VT | .mk _ _ _ _ kids => kids
/-- What stands in one line. -/
def flatY : VT → List UInt8 | .mk kind n s keys kids => if kind = 4 then wordY s else jsonT false 1 0 (.mk kind n s keys kids)
def headY (named : Bool) (key : ByteArray) : List UInt8 := if named = true then wordY key ++ [58] else [45]
/-- What stands behind the head of a part's line. -/
def tailY (F : VT → List UInt8) (t : VT) : List UInt8 := if (kidsY t).length = 0 then 32 :: (flatY t ++ [10]) else 10 :: F t
def blkY (F : VT → List UInt8) (named : Bool) (pad : Nat) (keys : List ByteArray) (kids : List VT) : Nat → List UInt8
  | 0 => []
  | k + 1 => blkY F named pad keys kids k ++ (List.replicate pad 32 ++ (headY named (keyAt keys k) ++ tailY F (kidT kids k)))
def blockY : Nat → Nat → VT → List UInt8
  | 0, _, _ => []
  | f + 1, pad, .mk kind n s keys kids => blkY (blockY f (pad + 2)) (decide (kind = 6)) pad keys kids kids.length
def yamlT (f : Nat) (t : VT) : List UInt8 := if (kidsY t).length = 0 then flatY t ++ [10] else blockY f 0 t
theorem blkY_mono (F : VT → List UInt8) (named : Bool) (pad : Nat) (keys : List ByteArray) (kids : List VT) {j k : Nat} (h : j ≤ k) : (blkY F named pad keys kids j).length ≤ (blkY F named pad keys kids k).length := by
  induction k with
  | zero => obtain rfl : j = 0 := by omega
            exact Nat.le_refl _
  | succ k ih =>
    by_cases e : j = k + 1
    · rw [e]; exact Nat.le_refl _
    · have := ih (by omega)
      rw [blkY, List.length_append]; omega
theorem quo_ge (l : List UInt8) : l.length ≤ (quo l).length := by
  induction l with
  | nil => exact Nat.le_refl _
  | cons c l ih => have := quoB_len c; rw [quo, List.length_append, List.length_cons]; omega
theorem wordY_len (s : ByteArray) : (wordY s).length ≤ (quoT s).length := by
  unfold wordY
  split
  · have := quo_ge s.data.toList
    unfold quoT
    simp only [List.length_cons, List.length_append, List.length_nil]; omega
  · exact Nat.le_refl _
theorem flatY_len (f deep : Nat) (t : VT) (h : (kidsY t).length = 0) : (flatY t).length ≤ (jsonT true (f + 1) deep t).length := by
  obtain ⟨kind, n, s, keys, kids⟩ := t
  have hk : kids = [] := List.eq_nil_of_length_eq_zero h
  subst hk
  show (if kind = 4 then wordY s else jsonT false 1 0 (.mk kind n s keys [])).length ≤ _
  have e : ∀ F named d, wholeJ F true named d keys [] = [] := fun F named d => by unfold wholeJ; simp
  have e2 : ∀ F named d, wholeJ F false named d keys [] = [] := fun F named d => by unfold wholeJ; simp
  split
  · rename_i h4
    rw [(jsonT_leaf true f deep).2.2.2.1 h4]
    exact wordY_len s
  · rename_i h4
    rw [jsonT, jsonT, if_neg h4, if_neg h4, e, e, e2, e2]
    split
    · exact Nat.le_refl _
    split
    · exact Nat.le_refl _
    split
    · exact Nat.le_refl _
    split <;> exact Nat.le_refl _
theorem tailY_len {f deep : Nat} {t : VT} (hf : 1 ≤ f) (h : (kidsY t).length ≠ 0 → (blockY f (2 * deep + 2) t).length ≤ (jsonT true f (deep + 1) t).length) : (tailY (blockY f (2 * deep + 2)) t).length ≤ (jsonT true f (deep + 1) t).length + 2 := by
  unfold tailY
  split
  · rename_i h0
    obtain ⟨g, rfl⟩ : ∃ g, f = g + 1 := ⟨f - 1, by omega⟩
    have := flatY_len g (deep + 1) t h0
    simp only [List.length_cons, List.length_append, List.length_nil]; omega
  · rename_i h0
    have := h h0
    rw [List.length_cons]; omega
theorem headY_len (named : Bool) (key : ByteArray) : (headY named key).length + 1 ≤ (if named = true then keyJ true key else []).length + 2 := by
  have := wordY_len key
  unfold headY
  cases named
  · simp
  · unfold keyJ
    simp only [if_true, List.length_append, List.length_cons, List.length_nil]
    omega
theorem blkY_len {f deep : Nat} (hf : 1 ≤ f) {named : Bool} {keys : List ByteArray} {kids : List VT} (h : ∀ j, j < kids.length → (kidsY (kidT kids j)).length ≠ 0 → (blockY f (2 * deep + 2) (kidT kids j)).length ≤ (jsonT true f (deep + 1) (kidT kids j)).length) :
    ∀ k, k ≤ kids.length → (blkY (blockY f (2 * deep + 2)) named (2 * deep) keys kids k).length ≤ (partsJ (jsonT true f (deep + 1)) true named deep keys kids k).length := by
  intro k
  induction k with
  | zero => intro _; exact Nat.le_refl _
  | succ k ih =>
    intro hk
    have h1 := ih (by omega)
    have h2 := tailY_len hf (h k (by omega))
    have h3 := headY_len named (keyAt keys k)
    have h4 : (lineJ true (deep + 1)).length = 2 * (deep + 1) + 1 := by unfold lineJ; simp
    rw [blkY, partsJ]
    simp only [List.length_append, List.length_replicate]
    omega
theorem blockY_len : ∀ (f deep : Nat) (t : VT), goodT f t → (kidsY t).length ≠ 0 → (blockY f (2 * deep) t).length ≤ (jsonT true f deep t).length := by
  intro f
  induction f with
  | zero => intro deep t h; exact h.elim
  | succ f ih =>
    intro deep t h h0
    obtain ⟨kind, n, s, keys, kids⟩ := t
    obtain ⟨h1, h2⟩ := h
    have hf : 1 ≤ f := by
      rcases Nat.eq_zero_or_pos f with e | e
      · subst e
        exact (h2 0 (Nat.pos_of_ne_zero h0)).elim
      · exact e
    have hb := fun named => blkY_len (deep := deep) (named := named) (keys := keys) hf (fun j hj hn => ih (deep + 1) (kidT kids j) (h2 j hj) hn) kids.length (Nat.le_refl _)
    have hl := jsonT_leaf true f deep (kind := kind) (n := n) (s := s) (keys := keys) (kids := kids)
    have h00 : ¬ kids.length = 0 := h0
    have hw : ∀ named, (partsJ (jsonT true f (deep + 1)) true named deep keys kids kids.length).length ≤ (wholeJ (jsonT true f (deep + 1)) true named deep keys kids).length := fun named => by
      unfold wholeJ
      rw [if_neg h00, List.length_append]; omega
    rcases nodeT_says h1 with ⟨_, _, _, _, hm⟩ | ⟨_, _, _, _, hm⟩ | ⟨_, _, _, _, hm⟩ | ⟨_, _, _, _, hm⟩ | ⟨k, _, _, _⟩ | ⟨k, _, _, _, _⟩
    · exact absurd hm h00
    · exact absurd hm h00
    · exact absurd hm h00
    · exact absurd hm h00
    · rw [hl.2.2.2.2.1 k, blockY]
      have e : decide (kind = 6) = false := by simp; omega
      rw [e]
      have h5 := hb false
      have h6 := hw false
      rw [show 2 * deep + 2 = 2 * deep + 2 from rfl]
      simp only [List.length_cons, List.length_append, List.length_nil]
      omega
    · rw [hl.2.2.2.2.2 k, blockY]
      have e : decide (kind = 6) = true := by simp; omega
      rw [e]
      have h5 := hb true
      have h6 := hw true
      simp only [List.length_cons, List.length_append, List.length_nil]
      omega
end Go.Proofs.YtiamkmkbkehldaaDoor
