/-
  Plain: what is read as CBOR, written again, is no longer.
-/
import Derived.Test.YtokhindolimchaaGreatCbG
namespace Go.Proofs.YtokhindolimchaaGreat
open Go.RowKit
set_option linter.unusedSimpArgs false
set_option linter.unusedVariables false

theorem stepI_min {n j : Nat} (hj : j ≤ 3) (h : n < 256 ^ (2 ^ j)) : 2 ^ stepI (n : Int) ≤ 2 ^ j := by
  have : stepI (n : Int) ≤ j := by
    unfold stepI
    rcases (show j = 0 ∨ j = 1 ∨ j = 2 ∨ j = 3 by omega) with rfl | rfl | rfl | rfl
    · have h' : n < 256 := by simpa using h
      rw [if_pos (by omega)]; omega
    · have h' : n < 65536 := by simpa using h
      split <;> (try split) <;> omega
    · have h' : n < 4294967296 := by simpa using h
      split <;> (try split) <;> (try split) <;> omega
    · split <;> (try split) <;> (try split) <;> omega
  exact Nat.pow_le_pow_right (by omega) this
theorem head_short {L : List UInt8} {p n q : Nat} (k : Nat) (h : headI L p = some (n, q)) : (headC k (n : Int)).length ≤ q - p := by
  unfold headI at h
  by_cases hn : (n : Int) < 24
  · rw [headC_low hn]
    have := head_on (L := L) (p := p) (n := n) (q := q) (by unfold headI; exact h)
    simp
    omega
  · rw [headC_big hn rfl rfl, List.length_cons, bigB_len]
    split at h
    · simp only [Option.some.injEq, Prod.mk.injEq] at h; omega
    · split at h
      · unfold numI at h
        split at h
        · simp only [Option.some.injEq, Prod.mk.injEq] at h
          obtain ⟨rfl, rfl⟩ := h
          have h1 := stepI_min (j := byAt L p % 32 - 24) (by omega) (bigN_lt L (p + 1) (2 ^ (byAt L p % 32 - 24)))
          obtain ⟨A, hA⟩ : ∃ A, 2 ^ stepI ((bigN L (p + 1) (2 ^ (byAt L p % 32 - 24)) : Nat) : Int) = A := ⟨_, rfl⟩
          rw [hA] at h1 ⊢
          omega
        · cases h
      · cases h
/-- The lengths of so many texts. -/
def sumF (F : Nat → Nat) : List Nat → Nat
  | [] => 0
  | x :: l => F x + sumF F l
theorem sumF_perm {F : Nat → Nat} {a b : List Nat} (h : a.Perm b) : sumF F a = sumF F b := by
  induction h with
  | nil => rfl
  | cons x _ ih => simp only [sumF, ih]
  | swap x y l => simp only [sumF]; omega
  | trans _ _ h1 h2 => exact h1.trans h2
theorem sumF_map {F : Nat → Nat} {g : Nat → Nat} (l : List Nat) : sumF F (l.map g) = sumF (fun j => F (g j)) l := by
  induction l with
  | nil => rfl
  | cons x l ih => simp only [List.map_cons, sumF, ih]
theorem sumF_congr {F G : Nat → Nat} : ∀ {l : List Nat}, (∀ x ∈ l, F x = G x) → sumF F l = sumF G l := by
  intro l
  induction l with
  | nil => intro _; rfl
  | cons x l ih => intro h; simp only [sumF]; rw [h x (by simp), ih (fun y hy => h y (by simp [hy]))]
theorem sumF_app {F : Nat → Nat} (a b : List Nat) : sumF F (a ++ b) = sumF F a + sumF F b := by
  induction a with
  | nil => simp [sumF]
  | cons x a ih => simp only [List.cons_append, sumF, ih]; omega
theorem cborL_sum (F : VT → List UInt8) (kids : List VT) (k : Nat) : (cborL F kids k).length = sumF (fun j => (F (kidT kids j)).length) (List.range k) := by
  induction k with
  | zero => rfl
  | succ k ih => rw [cborL, List.length_append, ih, List.range_succ, sumF_app]; simp [sumF]
theorem entC_sum (F : VT → List UInt8) (keys : List ByteArray) (kids : List VT) (ps : List Nat) : (entC F keys kids ps).length = sumF (fun j => (cborW (keyAt keys j)).length + (F (kidT kids j)).length) ps := by
  induction ps with
  | nil => rfl
  | cons x ps ih =>
    have e : entC F keys kids (x :: ps) = cborW (keyAt keys x) ++ (F (kidT kids x) ++ entC F keys kids ps) := by unfold entC; rw [List.flatMap_cons, List.append_assoc]
    rw [e, List.length_append, List.length_append, ih, sumF]
    omega
theorem range_shift (F : Nat → Nat) (k : Nat) : sumF F (List.range (k + 1)) = F 0 + sumF (fun j => F (j + 1)) (List.range k) := by
  rw [List.range_succ_eq_map, sumF, sumF_map]
theorem items_short {R : Nat → Option (VT × Nat)} {F : VT → List UInt8} : ∀ {k p : Nat} {l : List VT} {r : Nat}, rdItems R k p = some (l, r) → (∀ i, i < k → ∀ p q, R p = some (kidT l i, q) → p ≤ q ∧ (F (kidT l i)).length ≤ q - p) → l.length = k ∧ p ≤ r ∧ sumF (fun j => (F (kidT l j)).length) (List.range k) ≤ r - p := by
  intro k
  induction k with
  | zero => intro p l r h _; simp [rdItems] at h; obtain ⟨rfl, rfl⟩ := h; exact ⟨rfl, Nat.le_refl _, by simp [sumF]⟩
  | succ k ih =>
    intro p l r h H
    rw [rdItems] at h
    cases e : R p with
    | none => rw [e] at h; cases h
    | some x =>
      obtain ⟨t, q⟩ := x
      rw [e] at h
      dsimp only at h
      cases e2 : rdItems R k q with
      | none => rw [e2] at h; cases h
      | some z =>
        obtain ⟨l2, r2⟩ := z
        rw [e2] at h
        simp only [Option.some.injEq, Prod.mk.injEq] at h
        obtain ⟨rfl, rfl⟩ := h
        obtain ⟨a1, a2, a3⟩ := ih e2 (fun i hi p q h => H (i + 1) (by omega) p q h)
        have b := H 0 (by omega) p q e
        refine ⟨by simp [a1], by omega, ?_⟩
        rw [range_shift]
        have e3 : sumF (fun j => (F (kidT (t :: l2) (j + 1))).length) (List.range k) = sumF (fun j => (F (kidT l2 j)).length) (List.range k) := rfl
        rw [e3]
        have e4 : (F (kidT (t :: l2) 0)).length ≤ q - p := b.2
        omega
theorem pairs_short {R : Nat → Option (VT × Nat)} {F : VT → List UInt8} : ∀ {k p : Nat} {ks : List ByteArray} {l : List VT} {r : Nat}, rdPairs R k p = some (ks, l, r) → (∀ i, i < k → ∀ p q, R p = some (kidT l i, q) → p ≤ q ∧ (F (kidT l i)).length ≤ q - p) → (∀ i, i < k → ∀ p t q, R p = some (t, q) → textOf t = some (keyAt ks i) → p ≤ q ∧ (cborW (keyAt ks i)).length ≤ q - p) → ks.length = k ∧ l.length = k ∧ p ≤ r ∧ sumF (fun j => (cborW (keyAt ks j)).length + (F (kidT l j)).length) (List.range k) ≤ r - p := by
  intro k
  induction k with
  | zero => intro p ks l r h _ _; simp [rdPairs] at h; obtain ⟨rfl, rfl, rfl⟩ := h; exact ⟨rfl, rfl, Nat.le_refl _, by simp [sumF]⟩
  | succ k ih =>
    intro p ks l r h H HW
    rw [rdPairs] at h
    cases e : R p with
    | none => rw [e] at h; cases h
    | some x =>
      obtain ⟨t, q⟩ := x
      rw [e] at h
      dsimp only at h
      cases e1 : textOf t with
      | none => rw [e1] at h; cases h
      | some s =>
        rw [e1] at h
        dsimp only at h
        cases e2 : R q with
        | none => rw [e2] at h; cases h
        | some x2 =>
          obtain ⟨u, r2⟩ := x2
          rw [e2] at h
          dsimp only at h
          cases e3 : rdPairs R k r2 with
          | none => rw [e3] at h; cases h
          | some z =>
            obtain ⟨ks2, l2, r3⟩ := z
            rw [e3] at h
            simp only [Option.some.injEq, Prod.mk.injEq] at h
            obtain ⟨rfl, rfl, rfl⟩ := h
            obtain ⟨a1, a2, a3, a4⟩ := ih e3 (fun i hi p q h => H (i + 1) (by omega) p q h) (fun i hi p t q h1 h2 => HW (i + 1) (by omega) p t q h1 h2)
            have b := H 0 (by omega) q r2 e2
            have c := HW 0 (by omega) p t q e e1
            refine ⟨by simp [a1], by simp [a2], by omega, ?_⟩
            rw [range_shift]
            have e4 : sumF (fun j => (cborW (keyAt (s :: ks2) (j + 1))).length + (F (kidT (u :: l2) (j + 1))).length) (List.range k) = sumF (fun j => (cborW (keyAt ks2 j)).length + (F (kidT l2 j)).length) (List.range k) := rfl
            rw [e4]
            have e5 : (F (kidT (u :: l2) 0)).length ≤ r2 - q := b.2
            have e6 : (cborW (keyAt (s :: ks2) 0)).length ≤ q - p := c.2
            omega
end Go.Proofs.YtokhindolimchaaGreat

/-
  Plain: what is read as CBOR, written again, is no longer: trees.
-/
namespace Go.Proofs.YtokhindolimchaaGreat
open Go.RowKit
set_option linter.unusedSimpArgs false
set_option linter.unusedVariables false

theorem wordI_short {L : List UInt8} {p n r : Nat} {t : VT} {q : Nat} (e : headI L p = some (n, r)) (h : wordI L n r = some (t, q)) : t = wordT (cutT L r n) ∧ (cborW (cutT L r n)).length ≤ q - p := by
  have h1 := head_short 3 e
  have h2 := head_on e
  unfold wordI at h
  split at h
  · rename_i g
    simp only [Option.some.injEq, Prod.mk.injEq] at h
    obtain ⟨rfl, rfl⟩ := h
    refine ⟨rfl, ?_⟩
    unfold cborW
    rw [List.length_append, len_is, cutT_size g]
    omega
  · cases h
theorem rowT_text {R : Nat → Option (VT × Nat)} {named : Bool} {many p : Nat} {t : VT} {q : Nat} (h : rowT R named many p = some (t, q)) : textOf t = none := by
  unfold rowT at h
  split at h
  · split at h
    · cases h
    · simp only [Option.some.injEq, Prod.mk.injEq] at h; rw [← h.1]; rfl
  · split at h
    · cases h
    · simp only [Option.some.injEq, Prod.mk.injEq] at h; rw [← h.1]; rfl
theorem word_short {L : List UInt8} {f p : Nat} {t : VT} {q : Nat} {z : ByteArray} (h : rdC L f p = some (t, q)) (ht : textOf t = some z) : (cborW z).length ≤ q - p := by
  cases f with
  | zero => simp [rdC] at h
  | succ f =>
    rw [rdC] at h
    split at h
    · cases h
    split at h
    · simp only [Option.some.injEq, Prod.mk.injEq] at h; rw [← h.1] at ht; cases ht
    split at h
    · simp only [Option.some.injEq, Prod.mk.injEq] at h; rw [← h.1] at ht; cases ht
    split at h
    · simp only [Option.some.injEq, Prod.mk.injEq] at h; rw [← h.1] at ht; cases ht
    cases e : headI L p with
    | none => rw [e] at h; cases h
    | some y =>
      obtain ⟨n, r⟩ := y
      rw [e] at h
      dsimp only at h
      unfold kindI at h
      split at h
      · simp only [Option.some.injEq, Prod.mk.injEq] at h; rw [← h.1] at ht; cases ht
      split at h
      · simp only [Option.some.injEq, Prod.mk.injEq] at h; rw [← h.1] at ht; cases ht
      split at h
      · obtain ⟨h1, h2⟩ := wordI_short e h
        rw [h1] at ht
        have : cutT L r n = z := by simpa [textOf, wordT] using ht
        rw [← this]
        exact h2
      split at h
      · rw [rowT_text h] at ht; cases ht
      split at h
      · rw [rowT_text h] at ht; cases ht
      · cases h
theorem rdC_short {L : List UInt8} (hL : L.length ≤ 4000) : ∀ f p t q, rdC L f p = some (t, q) → goodT f t → (cborT f t).length ≤ q - p := by
  intro f
  induction f with
  | zero => intro p t q h; simp [rdC] at h
  | succ f ih =>
    intro p t q h hg
    have hpq := (rdC_ok L hL (f + 1) p t q h).1
    have M : ∀ p t q, rdC L f p = some (t, q) → p < q := fun p t q h => (rdC_ok L hL f p t q h).1
    rw [rdC] at h
    split at h
    · cases h
    split at h
    · simp only [Option.some.injEq, Prod.mk.injEq] at h; obtain ⟨rfl, rfl⟩ := h; rw [nullT, (cborT_leaf f).1 rfl]; simp
    split at h
    · simp only [Option.some.injEq, Prod.mk.injEq] at h; obtain ⟨rfl, rfl⟩ := h; rw [boolT, (cborT_leaf f).2.1 rfl]; simp
    split at h
    · simp only [Option.some.injEq, Prod.mk.injEq] at h; obtain ⟨rfl, rfl⟩ := h; rw [boolT, (cborT_leaf f).2.1 rfl]; simp
    cases e : headI L p with
    | none => rw [e] at h; cases h
    | some y =>
      obtain ⟨n, r⟩ := y
      rw [e] at h
      dsimp only at h
      have hpr := head_on e
      unfold kindI at h
      split at h
      · simp only [Option.some.injEq, Prod.mk.injEq] at h
        obtain ⟨rfl, rfl⟩ := h
        rw [numT, (cborT_leaf f).2.2.1 rfl, cborN, if_neg (by omega)]
        exact head_short 0 e
      split at h
      · simp only [Option.some.injEq, Prod.mk.injEq] at h
        obtain ⟨rfl, rfl⟩ := h
        rw [numT, (cborT_leaf f).2.2.1 rfl, cborN, if_pos (by omega), show (-1 - (-1 - (n : Int))) = (n : Int) by omega]
        exact head_short 1 e
      split at h
      · obtain ⟨h1, h2⟩ := wordI_short e h
        rw [h1, wordT, (cborT_leaf f).2.2.2.1 rfl]
        exact h2
      split at h
      · unfold rowT at h
        rw [if_neg (by decide)] at h
        cases e2 : rdItems (rdC L f) n r with
        | none => rw [e2] at h; cases h
        | some z =>
          obtain ⟨l, q2⟩ := z
          rw [e2] at h
          simp only [Option.some.injEq, Prod.mk.injEq] at h
          obtain ⟨rfl, rfl⟩ := h
          have hll := items_len e2
          obtain ⟨a1, a2, a3⟩ := items_short (F := cborT f) e2 (fun i hi p q hr => ⟨Nat.le_of_lt (M _ _ _ hr), ih p _ q hr (hg.2 i (by rw [hll]; exact hi))⟩)
          rw [listT, (cborT_leaf f).2.2.2.2.1 rfl, List.length_append, cborL_sum, a1]
          have := head_short 4 e
          omega
      split at h
      · unfold rowT at h
        rw [if_pos rfl] at h
        cases e2 : rdPairs (rdC L f) n r with
        | none => rw [e2] at h; cases h
        | some z =>
          obtain ⟨ks, l, q2⟩ := z
          rw [e2] at h
          simp only [Option.some.injEq, Prod.mk.injEq] at h
          obtain ⟨rfl, rfl⟩ := h
          obtain ⟨g1, g2, _⟩ := mapT_good hg
          obtain ⟨b1, b2, _⟩ := pairs_full (rdC_full L f) e2
          obtain ⟨a1, a2, a3, a4⟩ := pairs_short (F := cborT f) e2 (fun i hi p q hr => ⟨Nat.le_of_lt (M _ _ _ hr), ih p _ q hr (g1 i (by omega))⟩) (fun i hi p t q hr ht => ⟨Nat.le_of_lt (M _ _ _ hr), word_short hr ht⟩)
          have hsl := srt_len ks
          have hkn : ∀ j, j < ks.length → (keyAt ((srt ks).map (keyAt ks)) j).size < 61 := fun j hj => by
            rw [keyAt_map (by omega)]
            have := g2 _ (srt_lt hj)
            unfold textB at this
            simp only [Bool.and_eq_true, decide_eq_true_eq] at this
            omega
          rw [mapT, (cborT_leaf f).2.2.2.2.2 rfl, List.length_append, entC_sum, List.length_map, hsl, a1]
          rw [sumF_perm (byLen_perm (fun j hj => hkn j (by omega)))]
          have e5 : sumF (fun j => (cborW (keyAt ((srt ks).map (keyAt ks)) j)).length + (cborT f (kidT ((srt ks).map (kidT l)) j)).length) (List.range n) = sumF (fun j => (cborW (keyAt ks j)).length + (cborT f (kidT l j)).length) (List.range n) := by
            rw [sumF_congr (G := fun j => (fun i => (cborW (keyAt ks i)).length + (cborT f (kidT l i)).length) ((srt ks).getD j 0)) (fun j hj => by
              have hj' := List.mem_range.1 hj
              rw [keyAt_map (by omega), kidAt_map (by omega)])]
            refine Eq.trans (sumF_map (F := fun i => (cborW (keyAt ks i)).length + (cborT f (kidT l i)).length) (g := fun j => (srt ks).getD j 0) (List.range n)).symm ?_
            rw [show n = (srt ks).length by omega, range_getD]
            have := srt_perm ks
            rw [← hsl] at this
            exact sumF_perm this
          rw [e5]
          have := head_short 5 e
          omega
      · cases h
end Go.Proofs.YtokhindolimchaaGreat

/-
  Plain: what is read as MessagePack, written again, is no longer.
-/
namespace Go.Proofs.YtokhindolimchaaGreat
open Go.RowKit
set_option linter.unusedSimpArgs false
set_option linter.unusedVariables false

theorem packI_short {w : Nat} {n : Int} {j : Nat} (hw : w = 2 ^ j) (hj : j ≤ 3) (h1 : n < ((256 ^ w : Nat) : Int)) (h2 : 2 * (-1 - n) < ((256 ^ w : Nat) : Int)) : (packI n).length ≤ 1 + w := by
  unfold packI
  split
  · simp
  split
  · obtain ⟨m, rfl⟩ : ∃ m : Nat, n = m := ⟨n.toNat, by omega⟩
    rw [List.length_cons, bigB_len]
    subst hw
    have := stepI_min (n := m) hj (by omega)
    omega
  · obtain ⟨m, hm⟩ : ∃ m : Nat, 2 * (-1 - n) = m := ⟨(2 * (-1 - n)).toNat, by omega⟩
    rw [hm, List.length_cons, bigB_len]
    subst hw
    have := stepI_min (n := m) hj (by omega)
    omega
theorem packC_row (a b : UInt8) {n : Nat} {L : List UInt8} {p w q : Nat} (hw : 2 ≤ w) (h : numI L p w = some (n, q)) : (packC a b n).length ≤ q - p + 1 := by
  unfold numI at h
  split at h
  · simp only [Option.some.injEq, Prod.mk.injEq] at h
    have := (packC_len a b n).2
    omega
  · cases h
theorem packC_few (a b : UInt8) {n : Nat} (h : n < 16) : (packC a b n).length = 1 := by
  unfold packC
  rw [if_pos h]
  rfl
theorem packL_sum (F : VT → List UInt8) (keys : List ByteArray) (kids : List VT) (k : Nat) : (packL F true keys kids k).length = sumF (fun j => (packW (keyAt keys j)).length + (F (kidT kids j)).length) (List.range k) := by
  induction k with
  | zero => rfl
  | succ k ih => rw [packL, if_pos rfl, List.length_append, List.length_append, ih, List.range_succ, sumF_app]; simp [sumF]; omega
theorem numI_on {L : List UInt8} {p w n q : Nat} (h : numI L p w = some (n, q)) : q = p + w ∧ n = bigN L p w ∧ n ≤ maxI := by
  unfold numI at h
  split at h
  · rename_i g
    simp only [Option.some.injEq, Prod.mk.injEq] at h
    exact ⟨by omega, by omega, by have := g.2; omega⟩
  · cases h
theorem wordI_on {L : List UInt8} {n r : Nat} {t : VT} {q : Nat} (h : wordI L n r = some (t, q)) : t = wordT (cutT L r n) ∧ q = r + n ∧ (cutT L r n).size = n := by
  unfold wordI at h
  split at h
  · rename_i g
    simp only [Option.some.injEq, Prod.mk.injEq] at h
    exact ⟨h.1.symm, by omega, cutT_size g⟩
  · cases h
theorem pword_short {L : List UInt8} {f p : Nat} {t : VT} {q : Nat} {z : ByteArray} (h : rdP L f p = some (t, q)) (ht : textOf t = some z) : (packW z).length ≤ q - p := by
  have leaf : ∀ {x : VT} {r : Nat}, textOf x = none → some (x, r) = some (t, q) → (packW z).length ≤ q - p := fun {x r} hx h => by
    simp only [Option.some.injEq, Prod.mk.injEq] at h
    rw [← h.1, hx] at ht
    cases ht
  have row : ∀ {R : Nat → Option (VT × Nat)} {named : Bool} {many r : Nat}, rowT R named many r = some (t, q) → (packW z).length ≤ q - p := fun {R named many r} h => by
    rw [rowT_text h] at ht
    cases ht
  have rowv : ∀ {R : Nat → Option (VT × Nat)} {named : Bool} {r w : Nat}, rowV R L named r w = some (t, q) → (packW z).length ≤ q - p := fun {R named r w} h => by
    unfold rowV at h
    split at h
    · cases h
    · exact row h
  cases f with
  | zero => simp [rdP] at h
  | succ f =>
    by_cases hp : L.length ≤ p
    · rw [rdP_end hp] at h; cases h
    have hp' : p < L.length := by omega
    have hb := byAt_lt L p
    rcases (show byAt L p < 128 ∨ (128 ≤ byAt L p ∧ byAt L p < 144) ∨ (144 ≤ byAt L p ∧ byAt L p < 160) ∨ (160 ≤ byAt L p ∧ byAt L p < 192) ∨ 224 ≤ byAt L p ∨ byAt L p = 192 ∨ byAt L p = 194 ∨ byAt L p = 195 ∨ (byAt L p = 193 ∨ (196 ≤ byAt L p ∧ byAt L p < 204)) ∨ (204 ≤ byAt L p ∧ byAt L p < 208) ∨ (208 ≤ byAt L p ∧ byAt L p < 212) ∨ (212 ≤ byAt L p ∧ byAt L p < 217) ∨ (217 ≤ byAt L p ∧ byAt L p < 220) ∨ (220 ≤ byAt L p ∧ byAt L p < 222) ∨ (222 ≤ byAt L p ∧ byAt L p < 224) by omega) with c | c | c | c | c | c | c | c | c | c | c | c | c | c | c
    · rw [rdP_num hp' c] at h; exact leaf rfl h
    · rw [rdP_map hp' c] at h; exact row h
    · rw [rdP_list hp' c] at h; exact row h
    · rw [rdP_word hp' c] at h
      obtain ⟨h1, h2, h3⟩ := wordI_on h
      rw [h1] at ht
      have e : cutT L (p + 1) (byAt L p - 160) = z := by simpa [textOf, wordT] using ht
      rw [e] at h3
      have hl := len_is z
      unfold packW
      rw [if_pos (by omega), List.length_cons]
      omega
    · rw [rdP_neg hp' c] at h; exact leaf rfl h
    · rw [rdP_null hp' c] at h; exact leaf rfl h
    · rw [rdP_no hp' c] at h; exact leaf rfl h
    · rw [rdP_yes hp' c] at h; exact leaf rfl h
    · rw [rdP_bad hp' c] at h; cases h
    · rw [rdP_wide hp' c] at h
      unfold numV at h
      split at h
      · cases h
      · exact leaf rfl h
    · rw [rdP_sgn hp' c] at h
      unfold sgnI at h
      split at h
      · exact leaf rfl h
      · cases h
    · rw [rdP_bad2 hp' c] at h; cases h
    · rw [rdP_long hp' c] at h
      unfold longV at h
      cases e : numI L (p + 1) (2 ^ (byAt L p - 217)) with
      | none => rw [e] at h; cases h
      | some y =>
        obtain ⟨n, r⟩ := y
        rw [e] at h
        dsimp only at h
        obtain ⟨h1, h2, h3⟩ := wordI_on h
        obtain ⟨g1, _⟩ := numI_on e
        rw [h1] at ht
        have ez : cutT L r n = z := by simpa [textOf, wordT] using ht
        rw [ez] at h3
        have := (packW_len z).2
        have := two_pos (byAt L p - 217)
        omega
    · rw [rdP_list2 hp' c] at h; exact rowv h
    · rw [rdP_map2 hp' c] at h; exact rowv h
theorem ppairs_short {R : Nat → Option (VT × Nat)} {F : VT → List UInt8} : ∀ {k p : Nat} {ks : List ByteArray} {l : List VT} {r : Nat}, rdPairs R k p = some (ks, l, r) → (∀ i, i < k → ∀ p q, R p = some (kidT l i, q) → p ≤ q ∧ (F (kidT l i)).length ≤ q - p) → (∀ i, i < k → ∀ p t q, R p = some (t, q) → textOf t = some (keyAt ks i) → p ≤ q ∧ (packW (keyAt ks i)).length ≤ q - p) → ks.length = k ∧ l.length = k ∧ p ≤ r ∧ sumF (fun j => (packW (keyAt ks j)).length + (F (kidT l j)).length) (List.range k) ≤ r - p := by
  intro k
  induction k with
  | zero => intro p ks l r h _ _; simp [rdPairs] at h; obtain ⟨rfl, rfl, rfl⟩ := h; exact ⟨rfl, rfl, Nat.le_refl _, by simp [sumF]⟩
  | succ k ih =>
    intro p ks l r h H HW
    rw [rdPairs] at h
    cases e : R p with
    | none => rw [e] at h; cases h
    | some x =>
      obtain ⟨t, q⟩ := x
      rw [e] at h
      dsimp only at h
      cases e1 : textOf t with
      | none => rw [e1] at h; cases h
      | some s =>
        rw [e1] at h
        dsimp only at h
        cases e2 : R q with
        | none => rw [e2] at h; cases h
        | some x2 =>
          obtain ⟨u, r2⟩ := x2
          rw [e2] at h
          dsimp only at h
          cases e3 : rdPairs R k r2 with
          | none => rw [e3] at h; cases h
          | some z =>
            obtain ⟨ks2, l2, r3⟩ := z
            rw [e3] at h
            simp only [Option.some.injEq, Prod.mk.injEq] at h
            obtain ⟨rfl, rfl, rfl⟩ := h
            obtain ⟨a1, a2, a3, a4⟩ := ih e3 (fun i hi p q h => H (i + 1) (by omega) p q h) (fun i hi p t q h1 h2 => HW (i + 1) (by omega) p t q h1 h2)
            have b := H 0 (by omega) q r2 e2
            have c := HW 0 (by omega) p t q e e1
            refine ⟨by simp [a1], by simp [a2], by omega, ?_⟩
            rw [range_shift]
            have e4 : sumF (fun j => (packW (keyAt (s :: ks2) (j + 1))).length + (F (kidT (u :: l2) (j + 1))).length) (List.range k) = sumF (fun j => (packW (keyAt ks2 j)).length + (F (kidT l2 j)).length) (List.range k) := rfl
            rw [e4]
            have e5 : (F (kidT (u :: l2) 0)).length ≤ r2 - q := b.2
            have e6 : (packW (keyAt (s :: ks2) 0)).length ≤ q - p := c.2
            omega
theorem plist_short {f n r : Nat} {L : List UInt8} {t : VT} {q : Nat} (M : ∀ p t q, rdP L f p = some (t, q) → p < q) (ih : ∀ p t q, rdP L f p = some (t, q) → goodT f t → (packT f t).length ≤ q - p) (h : rowT (rdP L f) false n r = some (t, q)) (hg : goodT (f + 1) t) : r ≤ q ∧ (packT (f + 1) t).length ≤ (packC 144 220 n).length + (q - r) := by
  unfold rowT at h
  rw [if_neg (by decide)] at h
  cases e2 : rdItems (rdP L f) n r with
  | none => rw [e2] at h; cases h
  | some z =>
    obtain ⟨l, q2⟩ := z
    rw [e2] at h
    simp only [Option.some.injEq, Prod.mk.injEq] at h
    obtain ⟨rfl, rfl⟩ := h
    have hll := items_len e2
    obtain ⟨a1, a2, a3⟩ := items_short (F := packT f) e2 (fun i hi p q hr => ⟨Nat.le_of_lt (M _ _ _ hr), ih p _ q hr (hg.2 i (by rw [hll]; exact hi))⟩)
    refine ⟨a2, ?_⟩
    rw [listT, (packT_leaf f).2.2.2.2.1 rfl, List.length_append, packL_list, cborL_sum, a1]
    omega
theorem pmap_short {f n r : Nat} {L : List UInt8} {t : VT} {q : Nat} (M : ∀ p t q, rdP L f p = some (t, q) → p < q) (ih : ∀ p t q, rdP L f p = some (t, q) → goodT f t → (packT f t).length ≤ q - p) (h : rowT (rdP L f) true n r = some (t, q)) (hg : goodT (f + 1) t) : r ≤ q ∧ (packT (f + 1) t).length ≤ (packC 128 222 n).length + (q - r) := by
  unfold rowT at h
  rw [if_pos rfl] at h
  cases e2 : rdPairs (rdP L f) n r with
  | none => rw [e2] at h; cases h
  | some z =>
    obtain ⟨ks, l, q2⟩ := z
    rw [e2] at h
    simp only [Option.some.injEq, Prod.mk.injEq] at h
    obtain ⟨rfl, rfl⟩ := h
    obtain ⟨g1, g2, _⟩ := mapT_good hg
    obtain ⟨b1, b2, _⟩ := pairs_full (rdP_full L f) e2
    obtain ⟨a1, a2, a3, a4⟩ := ppairs_short (F := packT f) e2 (fun i hi p q hr => ⟨Nat.le_of_lt (M _ _ _ hr), ih p _ q hr (g1 i (by omega))⟩) (fun i hi p t q hr ht => ⟨Nat.le_of_lt (M _ _ _ hr), pword_short hr ht⟩)
    have hsl := srt_len ks
    refine ⟨a3, ?_⟩
    rw [mapT, (packT_leaf f).2.2.2.2.2 rfl, List.length_append, packL_sum, List.length_map, hsl, a1]
    have e5 : sumF (fun j => (packW (keyAt ((srt ks).map (keyAt ks)) j)).length + (packT f (kidT ((srt ks).map (kidT l)) j)).length) (List.range n) = sumF (fun j => (packW (keyAt ks j)).length + (packT f (kidT l j)).length) (List.range n) := by
      rw [sumF_congr (G := fun j => (fun i => (packW (keyAt ks i)).length + (packT f (kidT l i)).length) ((srt ks).getD j 0)) (fun j hj => by
        have hj' := List.mem_range.1 hj
        rw [keyAt_map (by omega), kidAt_map (by omega)])]
      refine Eq.trans (sumF_map (F := fun i => (packW (keyAt ks i)).length + (packT f (kidT l i)).length) (g := fun j => (srt ks).getD j 0) (List.range n)).symm ?_
      rw [show n = (srt ks).length by omega, range_getD]
      have := srt_perm ks
      rw [← hsl] at this
      exact sumF_perm this
    rw [e5]
    omega
theorem rdP_short {L : List UInt8} (hL : L.length ≤ 4000) : ∀ f p t q, rdP L f p = some (t, q) → goodT f t → (packT f t).length ≤ q - p := by
  intro f
  induction f with
  | zero => intro p t q h; simp [rdP] at h
  | succ f ih =>
    intro p t q h hg
    have hpq := (rdP_ok L hL (f + 1) p t q h).1
    have M : ∀ p t q, rdP L f p = some (t, q) → p < q := fun p t q h => (rdP_ok L hL f p t q h).1
    have hb := byAt_lt L p
    by_cases hp : L.length ≤ p
    · rw [rdP_end hp] at h; cases h
    have hp' : p < L.length := by omega
    rcases (show byAt L p < 128 ∨ (128 ≤ byAt L p ∧ byAt L p < 144) ∨ (144 ≤ byAt L p ∧ byAt L p < 160) ∨ (160 ≤ byAt L p ∧ byAt L p < 192) ∨ 224 ≤ byAt L p ∨ byAt L p = 192 ∨ byAt L p = 194 ∨ byAt L p = 195 ∨ (byAt L p = 193 ∨ (196 ≤ byAt L p ∧ byAt L p < 204)) ∨ (204 ≤ byAt L p ∧ byAt L p < 208) ∨ (208 ≤ byAt L p ∧ byAt L p < 212) ∨ (212 ≤ byAt L p ∧ byAt L p < 217) ∨ (217 ≤ byAt L p ∧ byAt L p < 220) ∨ (220 ≤ byAt L p ∧ byAt L p < 222) ∨ (222 ≤ byAt L p ∧ byAt L p < 224) by omega) with c | c | c | c | c | c | c | c | c | c | c | c | c | c | c
    · rw [rdP_num hp' c] at h
      simp only [Option.some.injEq, Prod.mk.injEq] at h
      obtain ⟨rfl, rfl⟩ := h
      rw [numT, (packT_leaf f).2.2.1 rfl, packI, if_pos (by omega)]
      simp
    · rw [rdP_map hp' c] at h
      obtain ⟨a1, a2⟩ := pmap_short M ih h hg
      rw [packC_few _ _ (by omega)] at a2
      omega
    · rw [rdP_list hp' c] at h
      obtain ⟨a1, a2⟩ := plist_short M ih h hg
      rw [packC_few _ _ (by omega)] at a2
      omega
    · rw [rdP_word hp' c] at h
      obtain ⟨h1, h2, h3⟩ := wordI_on h
      have hl := len_is (cutT L (p + 1) (byAt L p - 160))
      rw [h1, wordT, (packT_leaf f).2.2.2.1 rfl]
      unfold packW
      rw [if_pos (by omega), List.length_cons]
      omega
    · rw [rdP_neg hp' c] at h
      simp only [Option.some.injEq, Prod.mk.injEq] at h
      obtain ⟨rfl, rfl⟩ := h
      rw [numT, (packT_leaf f).2.2.1 rfl, packI, if_pos (by omega)]
      simp
    · rw [rdP_null hp' c] at h; simp only [Option.some.injEq, Prod.mk.injEq] at h; obtain ⟨rfl, rfl⟩ := h; rw [nullT, (packT_leaf f).1 rfl]; simp
    · rw [rdP_no hp' c] at h; simp only [Option.some.injEq, Prod.mk.injEq] at h; obtain ⟨rfl, rfl⟩ := h; rw [boolT, (packT_leaf f).2.1 rfl]; simp
    · rw [rdP_yes hp' c] at h; simp only [Option.some.injEq, Prod.mk.injEq] at h; obtain ⟨rfl, rfl⟩ := h; rw [boolT, (packT_leaf f).2.1 rfl]; simp
    · rw [rdP_bad hp' c] at h; cases h
    · rw [rdP_wide hp' c] at h
      unfold numV at h
      cases e : numI L (p + 1) (2 ^ (byAt L p - 204)) with
      | none => rw [e] at h; cases h
      | some y =>
        obtain ⟨n, r⟩ := y
        rw [e] at h
        simp only [Option.some.injEq, Prod.mk.injEq] at h
        obtain ⟨rfl, rfl⟩ := h
        obtain ⟨g1, g2, g3⟩ := numI_on e
        have hlt := bigN_lt L (p + 1) (2 ^ (byAt L p - 204))
        rw [numT, (packT_leaf f).2.2.1 rfl]
        have := packI_short (w := 2 ^ (byAt L p - 204)) (n := (n : Int)) rfl (by omega) (by omega) (by omega)
        omega
    · rw [rdP_sgn hp' c] at h
      unfold sgnI at h
      split at h
      · simp only [Option.some.injEq, Prod.mk.injEq] at h
        obtain ⟨rfl, rfl⟩ := h
        have hlt := bigN_lt L (p + 1) (2 ^ (byAt L p - 208))
        rw [numT, (packT_leaf f).2.2.1 rfl]
        have := packI_short (w := 2 ^ (byAt L p - 208)) (n := sgnN (2 ^ (byAt L p - 208)) (bigN L (p + 1) (2 ^ (byAt L p - 208)))) rfl (by omega) (by unfold sgnN; split <;> omega) (by unfold sgnN; split <;> omega)
        omega
      · cases h
    · rw [rdP_bad2 hp' c] at h; cases h
    · have h0 := h
      rw [rdP_long hp' c] at h
      have hz : ∃ z, t = wordT z := by
        unfold longV at h
        split at h
        · cases h
        · exact ⟨_, (wordI_on h).1⟩
      obtain ⟨z, rfl⟩ := hz
      have hh := pword_short h0 (z := z) rfl
      rw [wordT, (packT_leaf f).2.2.2.1 rfl]
      exact hh
    · rw [rdP_list2 hp' c] at h
      unfold rowV at h
      cases e : numI L (p + 1) (2 * 2 ^ (byAt L p - 220)) with
      | none => rw [e] at h; cases h
      | some y =>
        obtain ⟨n, r⟩ := y
        rw [e] at h
        dsimp only at h
        obtain ⟨g1, _⟩ := numI_on e
        obtain ⟨a1, a2⟩ := plist_short M ih h hg
        have := packC_row 144 220 (by have := two_pos (byAt L p - 220); omega) e
        have := two_pos (byAt L p - 220)
        omega
    · rw [rdP_map2 hp' c] at h
      unfold rowV at h
      cases e : numI L (p + 1) (2 * 2 ^ (byAt L p - 222)) with
      | none => rw [e] at h; cases h
      | some y =>
        obtain ⟨n, r⟩ := y
        rw [e] at h
        dsimp only at h
        obtain ⟨g1, _⟩ := numI_on e
        obtain ⟨a1, a2⟩ := pmap_short M ih h hg
        have := packC_row 128 222 (by have := two_pos (byAt L p - 222); omega) e
        have := two_pos (byAt L p - 222)
        omega
end Go.Proofs.YtokhindolimchaaGreat
