/-
  Plain: MessagePack's bytes of a tree.
-/
import Derived.Test.YtgikginlgjglfaaDoorPkP
import Derived.Test.YtgikginlgjglfaaDoorTree
import Derived.Test.YtgikginlgjglfaaDoorPartP
namespace Go.Proofs.YtgikginlgjglfaaDoor
open Go.RowKit
set_option linter.unusedSimpArgs false
set_option linter.unusedVariables false

/-- The bytes of the first 'k' kids, each behind its key if 'named'. -/
def packL (F : VT → List UInt8) (named : Bool) (keys : List ByteArray) (kids : List VT) : Nat → List UInt8
  | 0 => []
  | k + 1 => packL F named keys kids k ++ (if named = true then packW (keyAt keys k) else []) ++ F (kidT kids k)
def packT : Nat → VT → List UInt8
  | 0, _ => []
  | f + 1, .mk kind n s keys kids =>
    if kind = 1 then [192] else if kind = 2 then [byI (194 + n)] else if kind = 3 then packI n else if kind = 4 then packW s
    else if kind = 5 then packC 144 220 kids.length ++ packL (packT f) false keys kids kids.length
    else packC 128 222 kids.length ++ packL (packT f) true keys kids kids.length
theorem packT_leaf (f : Nat) {kind n : Int} {s : ByteArray} {keys : List ByteArray} {kids : List VT} :
    (kind = 1 → packT (f + 1) (.mk kind n s keys kids) = [192]) ∧ (kind = 2 → packT (f + 1) (.mk kind n s keys kids) = [byI (194 + n)]) ∧ (kind = 3 → packT (f + 1) (.mk kind n s keys kids) = packI n) ∧ (kind = 4 → packT (f + 1) (.mk kind n s keys kids) = packW s) ∧
    (kind = 5 → packT (f + 1) (.mk kind n s keys kids) = packC 144 220 kids.length ++ packL (packT f) false keys kids kids.length) ∧ (kind = 6 → packT (f + 1) (.mk kind n s keys kids) = packC 128 222 kids.length ++ packL (packT f) true keys kids kids.length) := by
  refine ⟨?_, ?_, ?_, ?_, ?_, ?_⟩ <;> (intro h; subst h; rw [packT]; simp)
/-- What a right node says. -/
theorem node_says {vs : List VN} (hok : okB vs = true) {i : Nat} (hi : i < vs.length) :
    (nodeAt vs i).kind = 1 ∨ ((nodeAt vs i).kind = 2 ∧ 0 ≤ (nodeAt vs i).n ∧ (nodeAt vs i).n ≤ 1) ∨ ((nodeAt vs i).kind = 3 ∧ -1000000000000000 ≤ (nodeAt vs i).n ∧ (nodeAt vs i).n ≤ 1000000000000000) ∨ ((nodeAt vs i).kind = 4 ∧ (nodeAt vs i).s.size ≤ 60) ∨
    ((nodeAt vs i).kind = 5) ∨ ((nodeAt vs i).kind = 6 ∧ (nodeAt vs i).keys.length = (nodeAt vs i).kids.length ∧ ∀ j, j < (nodeAt vs i).keys.length → (keyAt (nodeAt vs i).keys j).size ≤ 60) := by
  obtain ⟨p1, p2, _, p4⟩ := okB_parts hok
  have hn := (p2 i hi).1
  unfold nodeB namedB at hn
  simp only [Bool.and_eq_true] at hn
  have h2 := hn.2
  by_cases k1 : (nodeAt vs i).kind = 1
  · exact Or.inl k1
  by_cases k2 : (nodeAt vs i).kind = 2
  · simp [k2] at h2; exact Or.inr (Or.inl ⟨k2, by omega, by omega⟩)
  by_cases k3 : (nodeAt vs i).kind = 3
  · simp [k3] at h2; exact Or.inr (Or.inr (Or.inl ⟨k3, by omega, by omega⟩))
  by_cases k4 : (nodeAt vs i).kind = 4
  · simp [k4, textB] at h2; exact Or.inr (Or.inr (Or.inr (Or.inl ⟨k4, h2.1⟩)))
  by_cases k5 : (nodeAt vs i).kind = 5
  · exact Or.inr (Or.inr (Or.inr (Or.inr (Or.inl k5))))
  by_cases k6 : (nodeAt vs i).kind = 6
  · simp [k6] at h2
    refine Or.inr (Or.inr (Or.inr (Or.inr (Or.inr ⟨k6, h2.1, fun j hj => ?_⟩))))
    have := List.all_eq_true.1 h2.2 j (List.mem_range.2 hj)
    unfold riseAt at this
    simp [textB] at this
    exact this.1.1
  simp [k1, k2, k3, k4, k5, k6] at h2
theorem packT_pos {vs : List VN} (hok : okB vs = true) (f : Nat) {i : Nat} (hi : i < vs.length) : 1 ≤ (packT (f + 1) (treeOf vs (f + 1) i)).length := by
  rw [treeOf]
  have hl := packT_leaf f (kind := (nodeAt vs i).kind) (n := (nodeAt vs i).n) (s := (nodeAt vs i).s) (keys := (nodeAt vs i).keys) (kids := (nodeAt vs i).kids.map fun k => treeOf vs f k.toNat)
  rcases node_says hok hi with k | ⟨k, _⟩ | ⟨k, _⟩ | ⟨k, _⟩ | k | ⟨k, _⟩
  · rw [hl.1 k]; simp
  · rw [hl.2.1 k]; simp
  · rw [hl.2.2.1 k]; exact (packI_len _).1
  · rw [hl.2.2.2.1 k]; exact (packW_len _).1
  · rw [hl.2.2.2.2.1 k, List.length_append]; have := (packC_len 144 220 ((nodeAt vs i).kids.map fun k => treeOf vs f k.toNat).length).1; omega
  · rw [hl.2.2.2.2.2 k, List.length_append]; have := (packC_len 128 222 ((nodeAt vs i).kids.map fun k => treeOf vs f k.toNat).length).1; omega
/-- No more than so many bytes a node. -/
theorem packT_le {vs : List VN} (hok : okB vs = true) : ∀ (f i : Nat) (sh : Nat), i < vs.length → i < f → (packT f (treeOf vs f i)).length + 70 ≤ 200 * (layT f (treeOf vs f i) sh).length := by
  intro f
  induction f with
  | zero => intro i sh hi hf; omega
  | succ f ih =>
    intro i sh hi hf
    rw [treeOf]
    have hl := packT_leaf f (kind := (nodeAt vs i).kind) (n := (nodeAt vs i).n) (s := (nodeAt vs i).s) (keys := (nodeAt vs i).keys) (kids := (nodeAt vs i).kids.map fun k => treeOf vs f k.toNat)
    rw [layT_eq]
    have hkid : ∀ (named : Bool), (named = true → ∀ j, j < (nodeAt vs i).kids.length → (keyAt (nodeAt vs i).keys j).size ≤ 60) → ∀ k, k ≤ (nodeAt vs i).kids.length →
        (packL (packT f) named (nodeAt vs i).keys ((nodeAt vs i).kids.map fun k => treeOf vs f k.toNat) k).length ≤ 200 * (accT f sh ((nodeAt vs i).kids.map fun k => treeOf vs f k.toNat) k).length := by
      intro named hkey k
      induction k with
      | zero => intro _; simp [packL]
      | succ k ihk =>
        intro hk
        have h1 := ihk (by omega)
        rw [packL, accT_succ f sh (by rw [List.length_map]; omega), List.length_append, List.length_append, List.length_append, kidT_map (by omega)]
        obtain ⟨_, p2, _, _⟩ := okB_parts hok
        have hki := kidsIn_get (p2 i hi).2 (j := k) (by omega)
        have h2 := ih (intAt (nodeAt vs i).kids k).toNat (sh + (accT f sh ((nodeAt vs i).kids.map fun k => treeOf vs f k.toNat) k).length) (by omega) (by omega)
        have h3 : (if named = true then packW (keyAt (nodeAt vs i).keys k) else []).length ≤ 62 := by
          cases named
          · simp
          · have := (packW_len (keyAt (nodeAt vs i).keys k)).2
            have := hkey rfl k (by omega)
            simp; omega
        omega
    simp only [List.length_append, List.length_cons, List.length_nil, List.length_map]
    rcases node_says hok hi with k | ⟨k, _⟩ | ⟨k, _⟩ | ⟨k, hs⟩ | k | ⟨k, hkk, hks⟩
    · rw [hl.1 k]; simp; omega
    · rw [hl.2.1 k]; simp; omega
    · rw [hl.2.2.1 k]; have := (packI_len (nodeAt vs i).n).2; omega
    · rw [hl.2.2.2.1 k]; have := (packW_len (nodeAt vs i).s).2; omega
    · rw [hl.2.2.2.2.1 k, List.length_append]
      have h1 := (packC_len 144 220 ((nodeAt vs i).kids.map fun k => treeOf vs f k.toNat).length).2
      have h2 := hkid false (by simp) _ (Nat.le_refl _)
      simp only [List.length_map] at h1 h2 ⊢
      omega
    · rw [hl.2.2.2.2.2 k, List.length_append]
      have h1 := (packC_len 128 222 ((nodeAt vs i).kids.map fun k => treeOf vs f k.toNat).length).2
      have h2 := hkid true (fun _ j hj => hks j (by omega)) _ (Nat.le_refl _)
      simp only [List.length_map] at h1 h2 ⊢
      omega
theorem packT_16k {vs : List VN} (hok : okB vs = true) {f i : Nat} (hi : i < vs.length) (hf : i < f) : (packT f (treeOf vs f i)).length ≤ 16000 := by
  have h1 := packT_le hok f i 0 hi hf
  have h2 := lay_part hok hf hi
  rw [h2.1] at h1
  have := h2.2
  omega
theorem packL_mono (F : VT → List UInt8) (named : Bool) (keys : List ByteArray) (kids : List VT) {j k : Nat} (h : j ≤ k) : (packL F named keys kids j).length ≤ (packL F named keys kids k).length := by
  induction k with
  | zero => obtain rfl : j = 0 := by omega
            exact Nat.le_refl _
  | succ k ih =>
    by_cases e : j = k + 1
    · subst e; exact Nat.le_refl _
    · have := ih (by omega)
      rw [packL, List.length_append, List.length_append]; omega
end Go.Proofs.YtgikginlgjglfaaDoor
