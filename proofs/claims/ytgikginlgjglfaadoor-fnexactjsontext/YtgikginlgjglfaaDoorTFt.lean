/-
  Plain: how long JSON's bytes of a right tree are.
-/
import Derived.Test.YtgikginlgjglfaaDoorJsT
import Derived.Lib.ItoaLen
import Derived.Test.YtgikginlgjglfaaDoorPkT
namespace Go.Proofs.YtgikginlgjglfaaDoor
open Go.RowKit
set_option linter.unusedSimpArgs false
set_option linter.unusedVariables false

theorem dec_pos (u : Nat) : 1 ≤ (Lib.decDigits u).length := by
  rw [Lib.decDigits]
  split <;> simp
theorem itoa_pos (n : Int) : 1 ≤ (Lib.itoa n).length := by
  unfold Lib.itoa
  split
  · simp
  · exact dec_pos _
theorem jsonT_pos {vs : List VN} (hok : okB vs = true) (lines : Bool) (f deep : Nat) {i : Nat} (hi : i < vs.length) : 1 ≤ (jsonT lines (f + 1) deep (treeOf vs (f + 1) i)).length := by
  rw [treeOf]
  have hl := jsonT_leaf lines f deep (kind := (nodeAt vs i).kind) (n := (nodeAt vs i).n) (s := (nodeAt vs i).s) (keys := (nodeAt vs i).keys) (kids := (nodeAt vs i).kids.map fun k => treeOf vs f k.toNat)
  rcases node_says hok hi with k | ⟨k, _⟩ | ⟨k, _⟩ | ⟨k, _⟩ | k | ⟨k, _⟩
  · rw [hl.1 k]; simp
  · rw [hl.2.1 k]; split <;> simp
  · rw [hl.2.2.1 k]; exact itoa_pos _
  · rw [hl.2.2.2.1 k]; have := (quoT_len (nodeAt vs i).s).1; omega
  · rw [hl.2.2.2.2.1 k]; simp
  · rw [hl.2.2.2.2.2 k]; simp
/-- No more than so many bytes a node. -/
theorem jsonT_le {vs : List VN} (hok : okB vs = true) (lines : Bool) : ∀ (f deep i : Nat) (sh : Nat), i < vs.length → i < f → deep + i ≤ 100 → (jsonT lines f deep (treeOf vs f i)).length + 600 ≤ 1200 * (layT f (treeOf vs f i) sh).length := by
  intro f
  induction f with
  | zero => intro deep i sh hi hf; omega
  | succ f ih =>
    intro deep i sh hi hf hd
    rw [treeOf]
    have hl := jsonT_leaf lines f deep (kind := (nodeAt vs i).kind) (n := (nodeAt vs i).n) (s := (nodeAt vs i).s) (keys := (nodeAt vs i).keys) (kids := (nodeAt vs i).kids.map fun k => treeOf vs f k.toNat)
    rw [layT_eq]
    have hkid : ∀ (named : Bool), (named = true → ∀ j, j < (nodeAt vs i).kids.length → (keyAt (nodeAt vs i).keys j).size ≤ 60) → ∀ k, k ≤ (nodeAt vs i).kids.length →
        (partsJ (jsonT lines f (deep + 1)) lines named deep (nodeAt vs i).keys ((nodeAt vs i).kids.map fun k => treeOf vs f k.toNat) k).length ≤ 1200 * (accT f sh ((nodeAt vs i).kids.map fun k => treeOf vs f k.toNat) k).length := by
      intro named hkey k
      induction k with
      | zero => intro _; simp [partsJ]
      | succ k ihk =>
        intro hk
        have h1 := ihk (by omega)
        rw [partsJ, accT_succ f sh (by rw [List.length_map]; omega)]
        simp only [List.length_append]
        rw [kidT_map (by omega)]
        obtain ⟨_, p2, _, _⟩ := okB_parts hok
        have hki := kidsIn_get (p2 i hi).2 (j := k) (by omega)
        have h2 := ih (deep + 1) (intAt (nodeAt vs i).kids k).toNat (sh + (accT f sh ((nodeAt vs i).kids.map fun k => treeOf vs f k.toNat) k).length) (by omega) (by omega) (by omega)
        have h3 : (if named = true then keyJ lines (keyAt (nodeAt vs i).keys k) else []).length ≤ 364 := by
          cases named
          · simp
          · have := keyJ_len lines (keyAt (nodeAt vs i).keys k)
            have := hkey rfl k (by omega)
            simp only [if_true]; omega
        have h4 : (if k = 0 then ([] : List UInt8) else [44]).length ≤ 1 := by split <;> simp
        have h5 := lineJ_len lines (deep + 1)
        omega
    have hw : ∀ (named : Bool), (named = true → ∀ j, j < (nodeAt vs i).kids.length → (keyAt (nodeAt vs i).keys j).size ≤ 60) →
        (wholeJ (jsonT lines f (deep + 1)) lines named deep (nodeAt vs i).keys ((nodeAt vs i).kids.map fun k => treeOf vs f k.toNat)).length ≤ 1200 * (accT f sh ((nodeAt vs i).kids.map fun k => treeOf vs f k.toNat) (nodeAt vs i).kids.length).length + 201 := by
      intro named hkey
      have h1 := hkid named hkey _ (Nat.le_refl _)
      have h2 := lineJ_len lines deep
      unfold wholeJ
      rw [List.length_map]
      split
      · simp
      · rw [List.length_append]; omega
    simp only [List.length_append, List.length_cons, List.length_nil, List.length_map]
    rcases node_says hok hi with k | ⟨k, _⟩ | ⟨k, h1, h2⟩ | ⟨k, hs⟩ | k | ⟨k, hkk, hks⟩
    · rw [hl.1 k]; simp; omega
    · rw [hl.2.1 k]; split <;> (simp; omega)
    · rw [hl.2.2.1 k]; have := Lib.itoa_length_le (nodeAt vs i).n (by omega) (by omega); omega
    · rw [hl.2.2.2.1 k]; have := (quoT_len (nodeAt vs i).s).2; omega
    · rw [hl.2.2.2.2.1 k]
      have h2 := hw false (by simp)
      simp only [List.length_append, List.length_cons, List.length_nil] at h2 ⊢
      omega
    · rw [hl.2.2.2.2.2 k]
      have h2 := hw true (fun _ j hj => hks j (by omega))
      simp only [List.length_append, List.length_cons, List.length_nil] at h2 ⊢
      omega
theorem jsonT_100k {vs : List VN} (hok : okB vs = true) (lines : Bool) {f i : Nat} (hi : i < vs.length) (hf : i < f) : (jsonT lines f 0 (treeOf vs f i)).length ≤ 100000 := by
  obtain ⟨p1, _⟩ := okB_parts hok
  have h1 := jsonT_le hok lines f 0 i 0 hi hf (by omega)
  have h2 := lay_part hok hf hi
  rw [h2.1] at h1
  have := h2.2
  omega
end Go.Proofs.YtgikginlgjglfaaDoor

/-
  Plain: numbers, texts and keys of a tree within their bounds.
-/
namespace Go.Proofs.YtgikginlgjglfaaDoor
open Go.RowKit
set_option linter.unusedSimpArgs false
set_option linter.unusedVariables false

/-- Numbers, texts and keys of a tree within their bounds. -/
def TFit : Nat → VT → Prop
  | 0, _ => True
  | f + 1, .mk kind n s keys kids => (kind = 2 → 0 ≤ n ∧ n ≤ 1) ∧ (kind = 3 → -1000000000000000 ≤ n ∧ n ≤ 1000000000000000) ∧ (kind = 4 → s.size ≤ 60) ∧ kids.length ≤ 80 ∧ (kind = 6 → keys.length = kids.length ∧ ∀ j, j < keys.length → (keyAt keys j).size ≤ 60) ∧ ∀ j, j < kids.length → TFit f (kidT kids j)
theorem tfit_of {vs : List VN} (hok : okB vs = true) : ∀ (f i : Nat), i < vs.length → TFit f (treeOf vs f i) := by
  intro f
  induction f with
  | zero => intro i _; trivial
  | succ f ih =>
    intro i hi
    rw [treeOf]
    have hs := node_says hok hi
    have hk := (keys_few hok i hi)
    refine ⟨fun k => ?_, fun k => ?_, fun k => ?_, by rw [List.length_map]; exact hk.2.1, fun k => ?_, fun j hj => ?_⟩
    · rcases hs with h | ⟨h, a, b⟩ | ⟨h, a, b⟩ | ⟨h, a⟩ | h | ⟨h, a, b⟩ <;> first | exact ⟨a, b⟩ | omega
    · rcases hs with h | ⟨h, a, b⟩ | ⟨h, a, b⟩ | ⟨h, a⟩ | h | ⟨h, a, b⟩ <;> first | omega | exact ⟨a, b⟩
    · rcases hs with h | ⟨h, a, b⟩ | ⟨h, a, b⟩ | ⟨h, a⟩ | h | ⟨h, a, b⟩ <;> first | omega | exact a
    · rcases hs with h | ⟨h, a, b⟩ | ⟨h, a, b⟩ | ⟨h, a⟩ | h | ⟨h, a, b⟩ <;> first | omega | exact ⟨by rw [List.length_map]; exact a, b⟩
    · rw [List.length_map] at hj
      rw [kidT_map hj]
      obtain ⟨_, p2, _, _⟩ := okB_parts hok
      have hki := kidsIn_get (p2 i hi).2 hj
      exact ih _ (by omega)

end Go.Proofs.YtgikginlgjglfaaDoor
