/-
  Plain: what MessagePack's reading gives is bounded by the bytes that it takes; and what the specification reads is small.
-/
import Derived.Test.YtokhindolimchaaGreatRdF
import Derived.Test.YtokhindolimchaaGreatSpF
namespace Go.Proofs.YtokhindolimchaaGreat
open Go.RowKit
set_option linter.unusedSimpArgs false
set_option linter.unusedVariables false

theorem pow2_cases {a : Nat} (h : a ≤ 3) : 2 ^ a = 1 ∨ 2 ^ a = 2 ∨ 2 ^ a = 4 ∨ 2 ^ a = 8 := by
  rcases (show a = 0 ∨ a = 1 ∨ a = 2 ∨ a = 3 by omega) with rfl | rfl | rfl | rfl <;> simp
theorem sgnN_in {w x : Nat} (hw : w = 1 ∨ w = 2 ∨ w = 4 ∨ w = 8) (h : x < 256 ^ w) : -9223372036854775808 ≤ sgnN w x ∧ sgnN w x ≤ 9223372036854775807 := by
  unfold sgnN
  rcases hw with rfl | rfl | rfl | rfl
  · have h' : x < 256 := by simpa using h
    split <;> (simp only [show (256 : Nat) ^ 1 = 256 by decide] at *; omega)
  · have h' : x < 65536 := by simpa using h
    split <;> (simp only [show (256 : Nat) ^ 2 = 65536 by decide] at *; omega)
  · have h' : x < 4294967296 := by simpa using h
    split <;> (simp only [show (256 : Nat) ^ 4 = 4294967296 by decide] at *; omega)
  · have h' : x < 18446744073709551616 := by simpa using h
    split <;> (simp only [show (256 : Nat) ^ 8 = 18446744073709551616 by decide] at *; omega)
theorem rdP_ok (L : List UInt8) (hL : L.length ≤ 4000) : ∀ f, RdOk f L (rdP L f) := by
  intro f
  induction f with
  | zero => intro p t q h; simp [rdP] at h
  | succ f ih =>
    intro p t q h
    have leaf : ∀ {k n : Int} {q' : Nat}, p < q' → q' ≤ L.length → (1 ≤ k ∧ k ≤ 6 ∧ k ≠ 4) → (-9223372036854775808 ≤ n ∧ n ≤ 9223372036854775807) → some ((VT.mk k n ByteArray.empty [] [] : VT), q') = some (t, q) → p < q ∧ q ≤ L.length ∧ (layT (f + 1) t 0).length ≤ q - p ∧ FitT (f + 1) t ∧ ∀ z, textOf t = some z → z.size ≤ L.length := fun {k n q'} h1 h2 hk hn h => by
      simp only [Option.some.injEq, Prod.mk.injEq] at h
      obtain ⟨rfl, rfl⟩ := h
      obtain ⟨l1, l2, l3⟩ := leaf_ok (f := f) hk hn
      exact ⟨h1, h2, by omega, l2, fun z hz => by rw [l3] at hz; cases hz⟩
    have row : ∀ {named : Bool} {n r : Nat}, p < r → r ≤ L.length → rowT (rdP L f) named n r = some (t, q) → p < q ∧ q ≤ L.length ∧ (layT (f + 1) t 0).length ≤ q - p ∧ FitT (f + 1) t ∧ ∀ z, textOf t = some z → z.size ≤ L.length := fun {named n r} h1 h2 h => by
      obtain ⟨c1, c2, c3, c4, c5⟩ := row_ok ih hL h2 h
      exact ⟨by omega, c2, by omega, c4, c5⟩
    have word : ∀ {n r : Nat}, p < r → wordI L n r = some (t, q) → p < q ∧ q ≤ L.length ∧ (layT (f + 1) t 0).length ≤ q - p ∧ FitT (f + 1) t ∧ ∀ z, textOf t = some z → z.size ≤ L.length := fun {n r} h1 h => by
      obtain ⟨c1, c2, c3, c4, c5⟩ := word_ok hL h f
      exact ⟨by omega, c2, by omega, c4, c5⟩
    have hb := byAt_lt L p
    rw [rdP] at h
    by_cases c0 : L.length ≤ p
    · rw [if_pos c0] at h
      cases h
    rw [if_neg c0] at h
    by_cases c1 : byAt L p < 128
    · rw [if_pos c1] at h
      exact leaf (by omega) (by omega) (by decide) (by omega) h
    rw [if_neg c1] at h
    by_cases c2 : byAt L p < 144
    · rw [if_pos c2] at h
      exact row (by omega) (by omega) h
    rw [if_neg c2] at h
    by_cases c3 : byAt L p < 160
    · rw [if_pos c3] at h
      exact row (by omega) (by omega) h
    rw [if_neg c3] at h
    by_cases c4 : byAt L p < 192
    · rw [if_pos c4] at h
      exact word (by omega) h
    rw [if_neg c4] at h
    by_cases c5 : 224 ≤ byAt L p
    · rw [if_pos c5] at h
      exact leaf (by omega) (by omega) (by decide) (by omega) h
    rw [if_neg c5] at h
    by_cases c6 : byAt L p = 192
    · rw [if_pos c6] at h
      exact leaf (by omega) (by omega) (by decide) (by decide) h
    rw [if_neg c6] at h
    by_cases c7 : byAt L p = 194
    · rw [if_pos c7] at h
      exact leaf (by omega) (by omega) (by decide) (by decide) h
    rw [if_neg c7] at h
    by_cases c8 : byAt L p = 195
    · rw [if_pos c8] at h
      exact leaf (by omega) (by omega) (by decide) (by decide) h
    rw [if_neg c8] at h
    by_cases c9 : byAt L p < 204
    · rw [if_pos c9] at h
      cases h
    rw [if_neg c9] at h
    by_cases c10 : byAt L p < 208
    · rw [if_pos c10] at h
      unfold numV at h
      cases e : numI L (p + 1) (2 ^ (byAt L p - 204)) with
      | none => rw [e] at h; cases h
      | some x =>
        obtain ⟨n, r⟩ := x
        rw [e] at h
        obtain ⟨d1, d2, d3⟩ := num_ok e
        unfold maxI at d1
        exact leaf (by rw [d2]; exact Nat.lt_of_lt_of_le (Nat.lt_succ_self p) (Nat.le_add_right _ _)) d3 (by decide) (by omega) h
    rw [if_neg c10] at h
    by_cases c11 : byAt L p < 212
    · rw [if_pos c11] at h
      unfold sgnI at h
      split at h
      · rename_i g
        have h1 := sgnN_in (pow2_cases (show byAt L p - 208 ≤ 3 by omega)) (bigN_lt L (p + 1) (2 ^ (byAt L p - 208)))
        exact leaf (Nat.lt_of_lt_of_le (Nat.lt_succ_self p) (Nat.le_add_right _ _)) g (by decide) h1 h
      · cases h
    rw [if_neg c11] at h
    by_cases c12 : byAt L p < 217
    · rw [if_pos c12] at h
      cases h
    rw [if_neg c12] at h
    by_cases c13 : byAt L p < 220
    · rw [if_pos c13] at h
      unfold longV at h
      cases e : numI L (p + 1) (2 ^ (byAt L p - 217)) with
      | none => rw [e] at h; cases h
      | some x =>
        obtain ⟨n, r⟩ := x
        rw [e] at h
        obtain ⟨d1, d2, d3⟩ := num_ok e
        exact word (by rw [d2]; exact Nat.lt_of_lt_of_le (Nat.lt_succ_self p) (Nat.le_add_right _ _)) h
    rw [if_neg c13] at h
    by_cases c14 : byAt L p < 222
    · rw [if_pos c14] at h
      unfold rowV at h
      split at h
      · cases h
      · rename_i n r e
        obtain ⟨d1, d2, d3⟩ := num_ok e
        exact row (by rw [d2]; exact Nat.lt_of_lt_of_le (Nat.lt_succ_self p) (Nat.le_add_right _ _)) d3 h
    rw [if_neg c14] at h
    unfold rowV at h
    split at h
    · cases h
    · rename_i n r e
      obtain ⟨d1, d2, d3⟩ := num_ok e
      exact row (by rw [d2]; exact Nat.lt_of_lt_of_le (Nat.lt_succ_self p) (Nat.le_add_right _ _)) d3 h
end Go.Proofs.YtokhindolimchaaGreat

/-
  Plain: MessagePack: what is read of a text's beginning is read of the text; cut short it says nothing.
-/
namespace Go.Proofs.YtokhindolimchaaGreat
open Go.RowKit
set_option linter.unusedSimpArgs false
set_option linter.unusedVariables false

theorem numV_take {L : List UInt8} {m p w : Nat} {x : VT × Nat} (hm : m ≤ L.length) (h : numV (L.take m) p w = some x) : numV L p w = some x := by
  unfold numV at h ⊢
  cases e : numI (L.take m) p w with
  | none => rw [e] at h; cases h
  | some y => rw [e] at h; rw [numI_take hm e]; exact h
theorem sgnI_take {L : List UInt8} {m p w : Nat} {x : VT × Nat} (hm : m ≤ L.length) (h : sgnI (L.take m) p w = some x) : sgnI L p w = some x := by
  have hl : (L.take m).length = m := by rw [List.length_take]; omega
  unfold sgnI at h ⊢
  rw [hl] at h
  split at h
  · rename_i g
    rw [bigN_take w g] at h
    rw [if_pos (by omega)]
    exact h
  · cases h
theorem longV_take {L : List UInt8} {m p w : Nat} {x : VT × Nat} (hm : m ≤ L.length) (h : longV (L.take m) p w = some x) : longV L p w = some x := by
  unfold longV at h ⊢
  cases e : numI (L.take m) p w with
  | none => rw [e] at h; cases h
  | some y => rw [e] at h; rw [numI_take hm e]; exact wordI_take hm h
theorem rowV_take {L : List UInt8} {R R' : Nat → Option (VT × Nat)} (H : ∀ p x, R' p = some x → R p = some x) {m : Nat} {named : Bool} {p w : Nat} {x : VT × Nat} (hm : m ≤ L.length) (h : rowV R' (L.take m) named p w = some x) : rowV R L named p w = some x := by
  unfold rowV at h ⊢
  cases e : numI (L.take m) p w with
  | none => rw [e] at h; cases h
  | some y => rw [e] at h; rw [numI_take hm e]; exact rowT_ext H h
theorem rowV_ext {L : List UInt8} {R R' : Nat → Option (VT × Nat)} (H : ∀ p x, R' p = some x → R p = some x) {named : Bool} {p w : Nat} {x : VT × Nat} (h : rowV R' L named p w = some x) : rowV R L named p w = some x := by
  unfold rowV at h ⊢
  cases e : numI L p w with
  | none => rw [e] at h; cases h
  | some y => rw [e] at h; exact rowT_ext H h
theorem rdP_take {L : List UInt8} {m : Nat} (hm : m ≤ L.length) : ∀ f p x, rdP (L.take m) f p = some x → rdP L f p = some x := by
  have hl : (L.take m).length = m := by rw [List.length_take]; omega
  intro f
  induction f with
  | zero => intro p x h; simp [rdP] at h
  | succ f ih =>
    intro p x h
    by_cases hp : m ≤ p
    · rw [rdP_end (by omega)] at h; cases h
    have hp1 : p < (L.take m).length := by omega
    have hp2 : p < L.length := by omega
    have hb := byAt_take (L := L) (show p < m by omega)
    have hlt := byAt_lt L p
    rcases (show byAt L p < 128 ∨ (128 ≤ byAt L p ∧ byAt L p < 144) ∨ (144 ≤ byAt L p ∧ byAt L p < 160) ∨ (160 ≤ byAt L p ∧ byAt L p < 192) ∨ 224 ≤ byAt L p ∨ byAt L p = 192 ∨ byAt L p = 194 ∨ byAt L p = 195 ∨ (byAt L p = 193 ∨ (196 ≤ byAt L p ∧ byAt L p < 204)) ∨ (204 ≤ byAt L p ∧ byAt L p < 208) ∨ (208 ≤ byAt L p ∧ byAt L p < 212) ∨ (212 ≤ byAt L p ∧ byAt L p < 217) ∨ (217 ≤ byAt L p ∧ byAt L p < 220) ∨ (220 ≤ byAt L p ∧ byAt L p < 222) ∨ (222 ≤ byAt L p ∧ byAt L p < 224) by omega) with c | c | c | c | c | c | c | c | c | c | c | c | c | c | c
    · rw [rdP_num hp1 (by rw [hb]; exact c), hb] at h; rw [rdP_num hp2 c]; exact h
    · rw [rdP_map hp1 (by rw [hb]; exact c), hb] at h; rw [rdP_map hp2 c]; exact rowT_ext ih h
    · rw [rdP_list hp1 (by rw [hb]; exact c), hb] at h; rw [rdP_list hp2 c]; exact rowT_ext ih h
    · rw [rdP_word hp1 (by rw [hb]; exact c), hb] at h; rw [rdP_word hp2 c]; exact wordI_take hm h
    · rw [rdP_neg hp1 (by rw [hb]; exact c), hb] at h; rw [rdP_neg hp2 c]; exact h
    · rw [rdP_null hp1 (by rw [hb]; exact c)] at h; rw [rdP_null hp2 c]; exact h
    · rw [rdP_no hp1 (by rw [hb]; exact c)] at h; rw [rdP_no hp2 c]; exact h
    · rw [rdP_yes hp1 (by rw [hb]; exact c)] at h; rw [rdP_yes hp2 c]; exact h
    · rw [rdP_bad hp1 (by rw [hb]; exact c)] at h; cases h
    · rw [rdP_wide hp1 (by rw [hb]; exact c), hb] at h; rw [rdP_wide hp2 c]; exact numV_take hm h
    · rw [rdP_sgn hp1 (by rw [hb]; exact c), hb] at h; rw [rdP_sgn hp2 c]; exact sgnI_take hm h
    · rw [rdP_bad2 hp1 (by rw [hb]; exact c)] at h; cases h
    · rw [rdP_long hp1 (by rw [hb]; exact c), hb] at h; rw [rdP_long hp2 c]; exact longV_take hm h
    · rw [rdP_list2 hp1 (by rw [hb]; exact c), hb] at h; rw [rdP_list2 hp2 c]; exact rowV_take ih hm h
    · rw [rdP_map2 hp1 (by rw [hb]; exact c), hb] at h; rw [rdP_map2 hp2 c]; exact rowV_take ih hm h
theorem rdP_more {L : List UInt8} : ∀ f g p x, f ≤ g → rdP L f p = some x → rdP L g p = some x := by
  intro f
  induction f with
  | zero => intro g p x _ h; simp [rdP] at h
  | succ f ih =>
    intro g p x hg h
    obtain ⟨g, rfl⟩ : ∃ k, g = k + 1 := ⟨g - 1, by omega⟩
    have H : ∀ p x, rdP L f p = some x → rdP L g p = some x := fun p x h => ih g p x (by omega) h
    by_cases hp : L.length ≤ p
    · rw [rdP_end hp] at h; cases h
    have hp2 : p < L.length := by omega
    have hlt := byAt_lt L p
    rcases (show byAt L p < 128 ∨ (128 ≤ byAt L p ∧ byAt L p < 144) ∨ (144 ≤ byAt L p ∧ byAt L p < 160) ∨ (160 ≤ byAt L p ∧ byAt L p < 192) ∨ 224 ≤ byAt L p ∨ byAt L p = 192 ∨ byAt L p = 194 ∨ byAt L p = 195 ∨ (byAt L p = 193 ∨ (196 ≤ byAt L p ∧ byAt L p < 204)) ∨ (204 ≤ byAt L p ∧ byAt L p < 208) ∨ (208 ≤ byAt L p ∧ byAt L p < 212) ∨ (212 ≤ byAt L p ∧ byAt L p < 217) ∨ (217 ≤ byAt L p ∧ byAt L p < 220) ∨ (220 ≤ byAt L p ∧ byAt L p < 222) ∨ (222 ≤ byAt L p ∧ byAt L p < 224) by omega) with c | c | c | c | c | c | c | c | c | c | c | c | c | c | c
    · rw [rdP_num hp2 c] at h ⊢; exact h
    · rw [rdP_map hp2 c] at h ⊢; exact rowT_ext H h
    · rw [rdP_list hp2 c] at h ⊢; exact rowT_ext H h
    · rw [rdP_word hp2 c] at h ⊢; exact h
    · rw [rdP_neg hp2 c] at h ⊢; exact h
    · rw [rdP_null hp2 c] at h ⊢; exact h
    · rw [rdP_no hp2 c] at h ⊢; exact h
    · rw [rdP_yes hp2 c] at h ⊢; exact h
    · rw [rdP_bad hp2 c] at h; cases h
    · rw [rdP_wide hp2 c] at h ⊢; exact h
    · rw [rdP_sgn hp2 c] at h ⊢; exact h
    · rw [rdP_bad2 hp2 c] at h; cases h
    · rw [rdP_long hp2 c] at h ⊢; exact h
    · rw [rdP_list2 hp2 c] at h ⊢; exact rowV_ext H h
    · rw [rdP_map2 hp2 c] at h ⊢; exact rowV_ext H h
/-- A text cut short says nothing. -/
theorem pcut_none {L : List UInt8} {g m f : Nat} {t : VT} (h : rdP L g 0 = some (t, L.length)) (hm : m < L.length) (hok : L.length ≤ 4000) : rdP (L.take m) f 0 = none := by
  cases e : rdP (L.take m) f 0 with
  | none => rfl
  | some x =>
    obtain ⟨u, q⟩ := x
    exfalso
    have hl : (L.take m).length = m := by rw [List.length_take]; omega
    have h1 := (rdP_ok (L.take m) (by omega) f 0 u q e).2.1
    have h2 := rdP_more f (f + g) 0 _ (by omega) (rdP_take (by omega) f 0 _ e)
    have h3 := rdP_more g (f + g) 0 _ (by omega) h
    rw [h2] at h3
    simp only [Option.some.injEq, Prod.mk.injEq] at h3
    omega
end Go.Proofs.YtokhindolimchaaGreat

/-
  Plain: a value needs no byte behind it, and no more fuel than bytes.
-/
namespace Go.Proofs.YtokhindolimchaaGreat
open Go.RowKit
set_option linter.unusedSimpArgs false
set_option linter.unusedVariables false

theorem items_on {R : Nat → Option (VT × Nat)} (M : ∀ p t q, R p = some (t, q) → p < q) : ∀ {k p : Nat} {l : List VT} {r : Nat}, rdItems R k p = some (l, r) → p ≤ r := by
  intro k
  induction k with
  | zero => intro p l r h; simp [rdItems] at h; omega
  | succ k ih =>
    intro p l r h
    rw [rdItems] at h
    cases e : R p with
    | none => rw [e] at h; cases h
    | some x =>
      obtain ⟨t, q⟩ := x
      rw [e] at h
      dsimp only at h
      cases e2 : rdItems R k q with
      | none => rw [e2] at h; cases h
      | some z =>
        obtain ⟨l2, r2⟩ := z
        rw [e2] at h
        simp only [Option.some.injEq, Prod.mk.injEq] at h
        have := M p t q e
        have := ih e2
        omega
theorem pairs_on {R : Nat → Option (VT × Nat)} (M : ∀ p t q, R p = some (t, q) → p < q) : ∀ {k p : Nat} {ks : List ByteArray} {l : List VT} {r : Nat}, rdPairs R k p = some (ks, l, r) → p ≤ r := by
  intro k
  induction k with
  | zero => intro p ks l r h; simp [rdPairs] at h; omega
  | succ k ih =>
    intro p ks l r h
    rw [rdPairs] at h
    cases e : R p with
    | none => rw [e] at h; cases h
    | some x =>
      obtain ⟨t, q⟩ := x
      rw [e] at h
      dsimp only at h
      cases e1 : textOf t with
      | none => rw [e1] at h; cases h
      | some s =>
        rw [e1] at h
        dsimp only at h
        cases e2 : R q with
        | none => rw [e2] at h; cases h
        | some x2 =>
          obtain ⟨u, r2⟩ := x2
          rw [e2] at h
          dsimp only at h
          cases e3 : rdPairs R k r2 with
          | none => rw [e3] at h; cases h
          | some z =>
            obtain ⟨ks2, l2, r3⟩ := z
            rw [e3] at h
            simp only [Option.some.injEq, Prod.mk.injEq] at h
            have := M p t q e
            have := M q u r2 e2
            have := ih e3
            omega
theorem items_fit {R R' : Nat → Option (VT × Nat)} {lo hi : Nat} (M : ∀ p t q, R p = some (t, q) → p < q) (H : ∀ p t q, lo ≤ p → q ≤ hi → R p = some (t, q) → R' p = some (t, q)) : ∀ {k p : Nat} {l : List VT} {r : Nat}, lo ≤ p → r ≤ hi → rdItems R k p = some (l, r) → rdItems R' k p = some (l, r) := by
  intro k
  induction k with
  | zero => intro p l r _ _ h; exact h
  | succ k ih =>
    intro p l r hp hr h
    rw [rdItems] at h ⊢
    cases e : R p with
    | none => rw [e] at h; cases h
    | some x =>
      obtain ⟨t, q⟩ := x
      rw [e] at h
      dsimp only at h
      cases e2 : rdItems R k q with
      | none => rw [e2] at h; cases h
      | some z =>
        obtain ⟨l2, r2⟩ := z
        rw [e2] at h
        simp only [Option.some.injEq, Prod.mk.injEq] at h
        obtain ⟨rfl, rfl⟩ := h
        have h1 := M p t q e
        have h2 := items_on M e2
        rw [H p t q hp (by omega) e]
        dsimp only
        rw [ih (by omega) hr e2]
theorem pairs_fit {R R' : Nat → Option (VT × Nat)} {lo hi : Nat} (M : ∀ p t q, R p = some (t, q) → p < q) (H : ∀ p t q, lo ≤ p → q ≤ hi → R p = some (t, q) → R' p = some (t, q)) : ∀ {k p : Nat} {ks : List ByteArray} {l : List VT} {r : Nat}, lo ≤ p → r ≤ hi → rdPairs R k p = some (ks, l, r) → rdPairs R' k p = some (ks, l, r) := by
  intro k
  induction k with
  | zero => intro p ks l r _ _ h; exact h
  | succ k ih =>
    intro p ks l r hp hr h
    rw [rdPairs] at h ⊢
    cases e : R p with
    | none => rw [e] at h; cases h
    | some x =>
      obtain ⟨t, q⟩ := x
      rw [e] at h
      dsimp only at h
      cases e1 : textOf t with
      | none => rw [e1] at h; cases h
      | some s =>
        rw [e1] at h
        dsimp only at h
        cases e2 : R q with
        | none => rw [e2] at h; cases h
        | some x2 =>
          obtain ⟨u, r2⟩ := x2
          rw [e2] at h
          dsimp only at h
          cases e3 : rdPairs R k r2 with
          | none => rw [e3] at h; cases h
          | some z =>
            obtain ⟨ks2, l2, r3⟩ := z
            rw [e3] at h
            simp only [Option.some.injEq, Prod.mk.injEq] at h
            obtain ⟨rfl, rfl, rfl⟩ := h
            have h1 := M p t q e
            have h2 := M q u r2 e2
            have h3 := pairs_on M e3
            rw [H p t q hp (by omega) e]
            dsimp only
            rw [e1]
            dsimp only
            rw [H q u r2 (by omega) (by omega) e2]
            dsimp only
            rw [ih (by omega) hr e3]
theorem numI_fit {L : List UInt8} {m p w n q : Nat} (hm : m ≤ L.length) (hq : q ≤ m) (h : numI L p w = some (n, q)) : numI (L.take m) p w = some (n, q) := by
  have hl : (L.take m).length = m := by rw [List.length_take]; omega
  unfold numI at h ⊢
  split at h
  · rename_i g
    simp only [Option.some.injEq, Prod.mk.injEq] at h
    obtain ⟨rfl, rfl⟩ := h
    rw [bigN_take w hq, if_pos ⟨by omega, g.2⟩]
  · cases h
theorem headI_fit {L : List UInt8} {m p n q : Nat} (hm : m ≤ L.length) (hp : p < m) (hq : q ≤ m) (h : headI L p = some (n, q)) : headI (L.take m) p = some (n, q) := by
  unfold headI at h ⊢
  rw [byAt_take hp]
  split at h
  · rw [if_pos (by assumption)]; exact h
  · rw [if_neg (by assumption)]
    split at h
    · rw [if_pos (by assumption)]; exact numI_fit hm hq h
    · cases h
theorem wordI_fit {L : List UInt8} {m n q : Nat} {t : VT} {r : Nat} (hm : m ≤ L.length) (hr : r ≤ m) (h : wordI L n q = some (t, r)) : wordI (L.take m) n q = some (t, r) := by
  have hl : (L.take m).length = m := by rw [List.length_take]; omega
  unfold wordI at h ⊢
  split at h
  · simp only [Option.some.injEq, Prod.mk.injEq] at h
    obtain ⟨rfl, rfl⟩ := h
    have e : cutT (L.take m) q n = cutT L q n := by
      unfold cutT
      rw [List.drop_take, List.take_take, Nat.min_eq_left (by omega)]
    rw [e, if_pos (by omega)]
  · cases h
theorem head_on {L : List UInt8} {p n q : Nat} (h : headI L p = some (n, q)) : p < q := by
  unfold headI at h
  split at h
  · simp only [Option.some.injEq, Prod.mk.injEq] at h; omega
  · split at h
    · unfold numI at h
      split at h
      · simp only [Option.some.injEq, Prod.mk.injEq] at h; have := two_pos (byAt L p % 32 - 24); omega
      · cases h
    · cases h
theorem rowT_fit {R R' : Nat → Option (VT × Nat)} {lo hi : Nat} (M : ∀ p t q, R p = some (t, q) → p < q) (H : ∀ p t q, lo ≤ p → q ≤ hi → R p = some (t, q) → R' p = some (t, q)) {named : Bool} {many p : Nat} {t : VT} {q : Nat} (hp : lo ≤ p) (hq : q ≤ hi) (h : rowT R named many p = some (t, q)) : rowT R' named many p = some (t, q) ∧ p ≤ q := by
  unfold rowT at h ⊢
  cases named
  · rw [if_neg (by decide)] at h ⊢
    cases e : rdItems R many p with
    | none => rw [e] at h; cases h
    | some z =>
      obtain ⟨l, r⟩ := z
      rw [e] at h
      simp only [Option.some.injEq, Prod.mk.injEq] at h
      obtain ⟨rfl, rfl⟩ := h
      rw [items_fit M H hp hq e]
      exact ⟨rfl, items_on M e⟩
  · rw [if_pos rfl] at h ⊢
    cases e : rdPairs R many p with
    | none => rw [e] at h; cases h
    | some z =>
      obtain ⟨ks, l, r⟩ := z
      rw [e] at h
      simp only [Option.some.injEq, Prod.mk.injEq] at h
      obtain ⟨rfl, rfl⟩ := h
      rw [pairs_fit M H hp hq e]
      exact ⟨rfl, pairs_on M e⟩
theorem rdC_fit {L : List UInt8} {m : Nat} (hm : m ≤ L.length) (hL : L.length ≤ 4000) : ∀ f g p t q, rdC L f p = some (t, q) → q ≤ m → q ≤ p + g → rdC (L.take m) g p = some (t, q) := by
  have hl : (L.take m).length = m := by rw [List.length_take]; omega
  intro f
  induction f with
  | zero => intro g p t q h; simp [rdC] at h
  | succ f ih =>
    intro g p t q h hq hg
    have hpq := (rdC_ok L hL (f + 1) p t q h).1
    have M : ∀ p t q, rdC L f p = some (t, q) → p < q := fun p t q h => (rdC_ok L hL f p t q h).1
    obtain ⟨g, rfl⟩ : ∃ k, g = k + 1 := ⟨g - 1, by omega⟩
    have H : ∀ p' t' q', p + 1 ≤ p' → q' ≤ q → rdC L f p' = some (t', q') → rdC (L.take m) g p' = some (t', q') := fun p' t' q' h1 h2 h3 => ih g p' t' q' h3 (by omega) (by omega)
    rw [rdC] at h ⊢
    rw [hl, if_neg (by omega), byAt_take (by omega)]
    split at h
    · cases h
    split at h
    · rw [if_pos (by assumption)]; exact h
    rw [if_neg (by assumption)]
    split at h
    · rw [if_pos (by assumption)]; exact h
    rw [if_neg (by assumption)]
    split at h
    · rw [if_pos (by assumption)]; exact h
    rw [if_neg (by assumption)]
    cases e : headI L p with
    | none => rw [e] at h; cases h
    | some y =>
      obtain ⟨n, r⟩ := y
      rw [e] at h
      dsimp only at h
      have hpr := head_on e
      have hrq : kindI L (rdC L f) (byAt L p / 32) n r = some (t, q) → r ≤ q := fun hk => by
        unfold kindI at hk
        split at hk
        · simp only [Option.some.injEq, Prod.mk.injEq] at hk; omega
        split at hk
        · simp only [Option.some.injEq, Prod.mk.injEq] at hk; omega
        split at hk
        · unfold wordI at hk
          split at hk
          · simp only [Option.some.injEq, Prod.mk.injEq] at hk; omega
          · cases hk
        split at hk
        · exact (rowT_fit M H (by omega) (Nat.le_refl _) hk).2
        split at hk
        · exact (rowT_fit M H (by omega) (Nat.le_refl _) hk).2
        · cases hk
      have hr := hrq h
      rw [headI_fit hm (by omega) (by omega) e]
      dsimp only
      unfold kindI at h ⊢
      split at h
      · rw [if_pos (by assumption)]; exact h
      rw [if_neg (by assumption)]
      split at h
      · rw [if_pos (by assumption)]; exact h
      rw [if_neg (by assumption)]
      split at h
      · rw [if_pos (by assumption)]; exact wordI_fit hm hq h
      rw [if_neg (by assumption)]
      split at h
      · rw [if_pos (by assumption)]; exact (rowT_fit M H (by omega) (Nat.le_refl _) h).1
      rw [if_neg (by assumption)]
      split at h
      · rw [if_pos (by assumption)]; exact (rowT_fit M H (by omega) (Nat.le_refl _) h).1
      · cases h
end Go.Proofs.YtokhindolimchaaGreat
