/-
  Plain: what is read of a text's beginning is read of the text.
-/
import Derived.Test.YtokhindolimchaaGreatRdF
namespace Go.Proofs.YtokhindolimchaaGreat
open Go.RowKit
set_option linter.unusedSimpArgs false
set_option linter.unusedVariables false

theorem items_ext {R R' : Nat → Option (VT × Nat)} (H : ∀ p x, R' p = some x → R p = some x) : ∀ {k p : Nat} {y : List VT × Nat}, rdItems R' k p = some y → rdItems R k p = some y := by
  intro k
  induction k with
  | zero => intro p y h; exact h
  | succ k ih =>
    intro p y h
    rw [rdItems] at h ⊢
    cases e : R' p with
    | none => rw [e] at h; cases h
    | some x =>
      obtain ⟨t, q⟩ := x
      rw [e] at h
      rw [H p _ e]
      dsimp only at h ⊢
      cases e2 : rdItems R' k q with
      | none => rw [e2] at h; cases h
      | some z => rw [e2] at h; rw [ih e2]; exact h
theorem pairs_ext {R R' : Nat → Option (VT × Nat)} (H : ∀ p x, R' p = some x → R p = some x) : ∀ {k p : Nat} {y : List ByteArray × List VT × Nat}, rdPairs R' k p = some y → rdPairs R k p = some y := by
  intro k
  induction k with
  | zero => intro p y h; exact h
  | succ k ih =>
    intro p y h
    rw [rdPairs] at h ⊢
    cases e : R' p with
    | none => rw [e] at h; cases h
    | some x =>
      obtain ⟨t, q⟩ := x
      rw [e] at h
      rw [H p _ e]
      dsimp only at h ⊢
      cases e1 : textOf t with
      | none => rw [e1] at h; cases h
      | some s =>
        rw [e1] at h
        dsimp only at h ⊢
        cases e2 : R' q with
        | none => rw [e2] at h; cases h
        | some x2 =>
          obtain ⟨u, r⟩ := x2
          rw [e2] at h
          rw [H q _ e2]
          dsimp only at h ⊢
          cases e3 : rdPairs R' k r with
          | none => rw [e3] at h; cases h
          | some z => rw [e3] at h; rw [ih e3]; exact h
theorem byAt_take {L : List UInt8} {m p : Nat} (h : p < m) : byAt (L.take m) p = byAt L p := by
  unfold byAt
  rw [List.getD_eq_getElem?_getD, List.getD_eq_getElem?_getD, List.getElem?_take, if_pos h]
theorem bigN_take {L : List UInt8} {m p : Nat} : ∀ k, p + k ≤ m → bigN (L.take m) p k = bigN L p k := by
  intro k
  induction k with
  | zero => intro _; rfl
  | succ k ih => intro h; rw [bigN, bigN, ih (by omega), byAt_take (by omega)]
theorem numI_take {L : List UInt8} {m p w : Nat} {x : Nat × Nat} (hm : m ≤ L.length) (h : numI (L.take m) p w = some x) : numI L p w = some x := by
  have hl : (L.take m).length = m := by rw [List.length_take]; omega
  unfold numI at h ⊢
  rw [hl] at h
  split at h
  · rename_i g
    rw [bigN_take w g.1] at g h
    rw [if_pos ⟨by omega, g.2⟩]
    exact h
  · cases h
theorem headI_take {L : List UInt8} {m p : Nat} {x : Nat × Nat} (hm : m ≤ L.length) (hp : p < m) (h : headI (L.take m) p = some x) : headI L p = some x := by
  unfold headI at h ⊢
  rw [byAt_take hp] at h
  split at h
  · rw [if_pos (by assumption)]; exact h
  · rw [if_neg (by assumption)]
    split at h
    · rw [if_pos (by assumption)]; exact numI_take hm h
    · cases h
theorem wordI_take {L : List UInt8} {m n q : Nat} {x : VT × Nat} (hm : m ≤ L.length) (h : wordI (L.take m) n q = some x) : wordI L n q = some x := by
  have hl : (L.take m).length = m := by rw [List.length_take]; omega
  unfold wordI at h ⊢
  rw [hl] at h
  split at h
  · rename_i g
    have e : cutT (L.take m) q n = cutT L q n := by
      unfold cutT
      rw [List.drop_take, List.take_take, Nat.min_eq_left (by omega)]
    rw [e] at h
    rw [if_pos (by omega)]
    exact h
  · cases h
theorem rowT_ext {R R' : Nat → Option (VT × Nat)} (H : ∀ p x, R' p = some x → R p = some x) {named : Bool} {many p : Nat} {x : VT × Nat} (h : rowT R' named many p = some x) : rowT R named many p = some x := by
  unfold rowT at h ⊢
  cases named
  · rw [if_neg (by decide)] at h ⊢
    cases e : rdItems R' many p with
    | none => rw [e] at h; cases h
    | some z => rw [e] at h; rw [items_ext H e]; exact h
  · rw [if_pos rfl] at h ⊢
    cases e : rdPairs R' many p with
    | none => rw [e] at h; cases h
    | some z => rw [e] at h; rw [pairs_ext H e]; exact h
theorem rdC_take {L : List UInt8} {m : Nat} (hm : m ≤ L.length) : ∀ f p x, rdC (L.take m) f p = some x → rdC L f p = some x := by
  have hl : (L.take m).length = m := by rw [List.length_take]; omega
  intro f
  induction f with
  | zero => intro p x h; simp [rdC] at h
  | succ f ih =>
    intro p x h
    rw [rdC] at h ⊢
    rw [hl] at h
    split at h
    · cases h
    rename_i hp
    rw [if_neg (by omega)]
    rw [byAt_take (by omega)] at h
    split at h
    · rw [if_pos (by assumption)]; exact h
    rw [if_neg (by assumption)]
    split at h
    · rw [if_pos (by assumption)]; exact h
    rw [if_neg (by assumption)]
    split at h
    · rw [if_pos (by assumption)]; exact h
    rw [if_neg (by assumption)]
    cases e : headI (L.take m) p with
    | none => rw [e] at h; cases h
    | some y =>
      obtain ⟨n, q⟩ := y
      rw [e] at h
      rw [headI_take hm (by omega) e]
      dsimp only at h ⊢
      unfold kindI at h ⊢
      split at h
      · rw [if_pos (by assumption)]; exact h
      rw [if_neg (by assumption)]
      split at h
      · rw [if_pos (by assumption)]; exact h
      rw [if_neg (by assumption)]
      split at h
      · rw [if_pos (by assumption)]; exact wordI_take hm h
      rw [if_neg (by assumption)]
      split at h
      · rw [if_pos (by assumption)]; exact rowT_ext ih h
      rw [if_neg (by assumption)]
      split at h
      · rw [if_pos (by assumption)]; exact rowT_ext ih h
      · cases h
theorem rdC_more {L : List UInt8} : ∀ f g p x, f ≤ g → rdC L f p = some x → rdC L g p = some x := by
  intro f
  induction f with
  | zero => intro g p x _ h; simp [rdC] at h
  | succ f ih =>
    intro g p x hg h
    obtain ⟨g, rfl⟩ : ∃ k, g = k + 1 := ⟨g - 1, by omega⟩
    have H : ∀ p x, rdC L f p = some x → rdC L g p = some x := fun p x h => ih g p x (by omega) h
    rw [rdC] at h ⊢
    split at h
    · cases h
    rw [if_neg (by assumption)]
    split at h
    · rw [if_pos (by assumption)]; exact h
    rw [if_neg (by assumption)]
    split at h
    · rw [if_pos (by assumption)]; exact h
    rw [if_neg (by assumption)]
    split at h
    · rw [if_pos (by assumption)]; exact h
    rw [if_neg (by assumption)]
    cases e : headI L p with
    | none => rw [e] at h; cases h
    | some y =>
      obtain ⟨n, q⟩ := y
      rw [e] at h
      dsimp only at h ⊢
      unfold kindI at h ⊢
      split at h
      · rw [if_pos (by assumption)]; exact h
      rw [if_neg (by assumption)]
      split at h
      · rw [if_pos (by assumption)]; exact h
      rw [if_neg (by assumption)]
      split at h
      · rw [if_pos (by assumption)]; exact h
      rw [if_neg (by assumption)]
      split at h
      · rw [if_pos (by assumption)]; exact rowT_ext H h
      rw [if_neg (by assumption)]
      split at h
      · rw [if_pos (by assumption)]; exact rowT_ext H h
      · cases h
/-- A text cut short says nothing. -/
theorem cut_none {L : List UInt8} {g m f : Nat} {t : VT} (h : rdC L g 0 = some (t, L.length)) (hm : m < L.length) (hok : L.length ≤ 4000) : rdC (L.take m) f 0 = none := by
  cases e : rdC (L.take m) f 0 with
  | none => rfl
  | some x =>
    obtain ⟨u, q⟩ := x
    exfalso
    have hl : (L.take m).length = m := by rw [List.length_take]; omega
    have h1 := (rdC_ok (L.take m) (by omega) f 0 u q e).2.1
    have h2 := rdC_more f (f + g) 0 _ (by omega) (rdC_take (by omega) f 0 _ e)
    have h3 := rdC_more g (f + g) 0 _ (by omega) h
    rw [h2] at h3
    simp only [Option.some.injEq, Prod.mk.injEq] at h3
    omega
end Go.Proofs.YtokhindolimchaaGreat

/-
  Plain: a value needs no byte behind it, and no more fuel than bytes.
-/
namespace Go.Proofs.YtokhindolimchaaGreat
open Go.RowKit
set_option linter.unusedSimpArgs false
set_option linter.unusedVariables false

theorem items_on {R : Nat → Option (VT × Nat)} (M : ∀ p t q, R p = some (t, q) → p < q) : ∀ {k p : Nat} {l : List VT} {r : Nat}, rdItems R k p = some (l, r) → p ≤ r := by
  intro k
  induction k with
  | zero => intro p l r h; simp [rdItems] at h; omega
  | succ k ih =>
    intro p l r h
    rw [rdItems] at h
    cases e : R p with
    | none => rw [e] at h; cases h
    | some x =>
      obtain ⟨t, q⟩ := x
      rw [e] at h
      dsimp only at h
      cases e2 : rdItems R k q with
      | none => rw [e2] at h; cases h
      | some z =>
        obtain ⟨l2, r2⟩ := z
        rw [e2] at h
        simp only [Option.some.injEq, Prod.mk.injEq] at h
        have := M p t q e
        have := ih e2
        omega
theorem pairs_on {R : Nat → Option (VT × Nat)} (M : ∀ p t q, R p = some (t, q) → p < q) : ∀ {k p : Nat} {ks : List ByteArray} {l : List VT} {r : Nat}, rdPairs R k p = some (ks, l, r) → p ≤ r := by
  intro k
  induction k with
  | zero => intro p ks l r h; simp [rdPairs] at h; omega
  | succ k ih =>
    intro p ks l r h
    rw [rdPairs] at h
    cases e : R p with
    | none => rw [e] at h; cases h
    | some x =>
      obtain ⟨t, q⟩ := x
      rw [e] at h
      dsimp only at h
      cases e1 : textOf t with
      | none => rw [e1] at h; cases h
      | some s =>
        rw [e1] at h
        dsimp only at h
        cases e2 : R q with
        | none => rw [e2] at h; cases h
        | some x2 =>
          obtain ⟨u, r2⟩ := x2
          rw [e2] at h
          dsimp only at h
          cases e3 : rdPairs R k r2 with
          | none => rw [e3] at h; cases h
          | some z =>
            obtain ⟨ks2, l2, r3⟩ := z
            rw [e3] at h
            simp only [Option.some.injEq, Prod.mk.injEq] at h
            have := M p t q e
            have := M q u r2 e2
            have := ih e3
            omega
theorem items_fit {R R' : Nat → Option (VT × Nat)} {lo hi : Nat} (M : ∀ p t q, R p = some (t, q) → p < q) (H : ∀ p t q, lo ≤ p → q ≤ hi → R p = some (t, q) → R' p = some (t, q)) : ∀ {k p : Nat} {l : List VT} {r : Nat}, lo ≤ p → r ≤ hi → rdItems R k p = some (l, r) → rdItems R' k p = some (l, r) := by
  intro k
  induction k with
  | zero => intro p l r _ _ h; exact h
  | succ k ih =>
    intro p l r hp hr h
    rw [rdItems] at h ⊢
    cases e : R p with
    | none => rw [e] at h; cases h
    | some x =>
      obtain ⟨t, q⟩ := x
      rw [e] at h
      dsimp only at h
      cases e2 : rdItems R k q with
      | none => rw [e2] at h; cases h
      | some z =>
        obtain ⟨l2, r2⟩ := z
        rw [e2] at h
        simp only [Option.some.injEq, Prod.mk.injEq] at h
        obtain ⟨rfl, rfl⟩ := h
        have h1 := M p t q e
        have h2 := items_on M e2
        rw [H p t q hp (by omega) e]
        dsimp only
        rw [ih (by omega) hr e2]
theorem pairs_fit {R R' : Nat → Option (VT × Nat)} {lo hi : Nat} (M : ∀ p t q, R p = some (t, q) → p < q) (H : ∀ p t q, lo ≤ p → q ≤ hi → R p = some (t, q) → R' p = some (t, q)) : ∀ {k p : Nat} {ks : List ByteArray} {l : List VT} {r : Nat}, lo ≤ p → r ≤ hi → rdPairs R k p = some (ks, l, r) → rdPairs R' k p = some (ks, l, r) := by
  intro k
  induction k with
  | zero => intro p ks l r _ _ h; exact h
  | succ k ih =>
    intro p ks l r hp hr h
    rw [rdPairs] at h ⊢
    cases e : R p with
    | none => rw [e] at h; cases h
    | some x =>
      obtain ⟨t, q⟩ := x
      rw [e] at h
      dsimp only at h
      cases e1 : textOf t with
      | none => rw [e1] at h; cases h
      | some s =>
        rw [e1] at h
        dsimp only at h
        cases e2 : R q with
        | none => rw [e2] at h; cases h
        | some x2 =>
          obtain ⟨u, r2⟩ := x2
          rw [e2] at h
          dsimp only at h
          cases e3 : rdPairs R k r2 with
          | none => rw [e3] at h; cases h
          | some z =>
            obtain ⟨ks2, l2, r3⟩ := z
            rw [e3] at h
            simp only [Option.some.injEq, Prod.mk.injEq] at h
            obtain ⟨rfl, rfl, rfl⟩ := h
            have h1 := M p t q e
            have h2 := M q u r2 e2
            have h3 := pairs_on M e3
            rw [H p t q hp (by omega) e]
            dsimp only
            rw [e1]
            dsimp only
            rw [H q u r2 (by omega) (by omega) e2]
            dsimp only
            rw [ih (by omega) hr e3]
theorem numI_fit {L : List UInt8} {m p w n q : Nat} (hm : m ≤ L.length) (hq : q ≤ m) (h : numI L p w = some (n, q)) : numI (L.take m) p w = some (n, q) := by
  have hl : (L.take m).length = m := by rw [List.length_take]; omega
  unfold numI at h ⊢
  split at h
  · rename_i g
    simp only [Option.some.injEq, Prod.mk.injEq] at h
    obtain ⟨rfl, rfl⟩ := h
    rw [bigN_take w hq, if_pos ⟨by omega, g.2⟩]
  · cases h
theorem headI_fit {L : List UInt8} {m p n q : Nat} (hm : m ≤ L.length) (hp : p < m) (hq : q ≤ m) (h : headI L p = some (n, q)) : headI (L.take m) p = some (n, q) := by
  unfold headI at h ⊢
  rw [byAt_take hp]
  split at h
  · rw [if_pos (by assumption)]; exact h
  · rw [if_neg (by assumption)]
    split at h
    · rw [if_pos (by assumption)]; exact numI_fit hm hq h
    · cases h
theorem wordI_fit {L : List UInt8} {m n q : Nat} {t : VT} {r : Nat} (hm : m ≤ L.length) (hr : r ≤ m) (h : wordI L n q = some (t, r)) : wordI (L.take m) n q = some (t, r) := by
  have hl : (L.take m).length = m := by rw [List.length_take]; omega
  unfold wordI at h ⊢
  split at h
  · simp only [Option.some.injEq, Prod.mk.injEq] at h
    obtain ⟨rfl, rfl⟩ := h
    have e : cutT (L.take m) q n = cutT L q n := by
      unfold cutT
      rw [List.drop_take, List.take_take, Nat.min_eq_left (by omega)]
    rw [e, if_pos (by omega)]
  · cases h
theorem head_on {L : List UInt8} {p n q : Nat} (h : headI L p = some (n, q)) : p < q := by
  unfold headI at h
  split at h
  · simp only [Option.some.injEq, Prod.mk.injEq] at h; omega
  · split at h
    · unfold numI at h
      split at h
      · simp only [Option.some.injEq, Prod.mk.injEq] at h; have := two_pos (byAt L p % 32 - 24); omega
      · cases h
    · cases h
theorem rowT_fit {R R' : Nat → Option (VT × Nat)} {lo hi : Nat} (M : ∀ p t q, R p = some (t, q) → p < q) (H : ∀ p t q, lo ≤ p → q ≤ hi → R p = some (t, q) → R' p = some (t, q)) {named : Bool} {many p : Nat} {t : VT} {q : Nat} (hp : lo ≤ p) (hq : q ≤ hi) (h : rowT R named many p = some (t, q)) : rowT R' named many p = some (t, q) ∧ p ≤ q := by
  unfold rowT at h ⊢
  cases named
  · rw [if_neg (by decide)] at h ⊢
    cases e : rdItems R many p with
    | none => rw [e] at h; cases h
    | some z =>
      obtain ⟨l, r⟩ := z
      rw [e] at h
      simp only [Option.some.injEq, Prod.mk.injEq] at h
      obtain ⟨rfl, rfl⟩ := h
      rw [items_fit M H hp hq e]
      exact ⟨rfl, items_on M e⟩
  · rw [if_pos rfl] at h ⊢
    cases e : rdPairs R many p with
    | none => rw [e] at h; cases h
    | some z =>
      obtain ⟨ks, l, r⟩ := z
      rw [e] at h
      simp only [Option.some.injEq, Prod.mk.injEq] at h
      obtain ⟨rfl, rfl⟩ := h
      rw [pairs_fit M H hp hq e]
      exact ⟨rfl, pairs_on M e⟩
theorem rdC_fit {L : List UInt8} {m : Nat} (hm : m ≤ L.length) (hL : L.length ≤ 4000) : ∀ f g p t q, rdC L f p = some (t, q) → q ≤ m → q ≤ p + g → rdC (L.take m) g p = some (t, q) := by
  have hl : (L.take m).length = m := by rw [List.length_take]; omega
  intro f
  induction f with
  | zero => intro g p t q h; simp [rdC] at h
  | succ f ih =>
    intro g p t q h hq hg
    have hpq := (rdC_ok L hL (f + 1) p t q h).1
    have M : ∀ p t q, rdC L f p = some (t, q) → p < q := fun p t q h => (rdC_ok L hL f p t q h).1
    obtain ⟨g, rfl⟩ : ∃ k, g = k + 1 := ⟨g - 1, by omega⟩
    have H : ∀ p' t' q', p + 1 ≤ p' → q' ≤ q → rdC L f p' = some (t', q') → rdC (L.take m) g p' = some (t', q') := fun p' t' q' h1 h2 h3 => ih g p' t' q' h3 (by omega) (by omega)
    rw [rdC] at h ⊢
    rw [hl, if_neg (by omega), byAt_take (by omega)]
    split at h
    · cases h
    split at h
    · rw [if_pos (by assumption)]; exact h
    rw [if_neg (by assumption)]
    split at h
    · rw [if_pos (by assumption)]; exact h
    rw [if_neg (by assumption)]
    split at h
    · rw [if_pos (by assumption)]; exact h
    rw [if_neg (by assumption)]
    cases e : headI L p with
    | none => rw [e] at h; cases h
    | some y =>
      obtain ⟨n, r⟩ := y
      rw [e] at h
      dsimp only at h
      have hpr := head_on e
      have hrq : kindI L (rdC L f) (byAt L p / 32) n r = some (t, q) → r ≤ q := fun hk => by
        unfold kindI at hk
        split at hk
        · simp only [Option.some.injEq, Prod.mk.injEq] at hk; omega
        split at hk
        · simp only [Option.some.injEq, Prod.mk.injEq] at hk; omega
        split at hk
        · unfold wordI at hk
          split at hk
          · simp only [Option.some.injEq, Prod.mk.injEq] at hk; omega
          · cases hk
        split at hk
        · exact (rowT_fit M H (by omega) (Nat.le_refl _) hk).2
        split at hk
        · exact (rowT_fit M H (by omega) (Nat.le_refl _) hk).2
        · cases hk
      have hr := hrq h
      rw [headI_fit hm (by omega) (by omega) e]
      dsimp only
      unfold kindI at h ⊢
      split at h
      · rw [if_pos (by assumption)]; exact h
      rw [if_neg (by assumption)]
      split at h
      · rw [if_pos (by assumption)]; exact h
      rw [if_neg (by assumption)]
      split at h
      · rw [if_pos (by assumption)]; exact wordI_fit hm hq h
      rw [if_neg (by assumption)]
      split at h
      · rw [if_pos (by assumption)]; exact (rowT_fit M H (by omega) (Nat.le_refl _) h).1
      rw [if_neg (by assumption)]
      split at h
      · rw [if_pos (by assumption)]; exact (rowT_fit M H (by omega) (Nat.le_refl _) h).1
      · cases h
end Go.Proofs.YtokhindolimchaaGreat

/-
  Plain: what is read as CBOR, written again, is no longer.
-/
namespace Go.Proofs.YtokhindolimchaaGreat
open Go.RowKit
set_option linter.unusedSimpArgs false
set_option linter.unusedVariables false

theorem stepI_min {n j : Nat} (hj : j ≤ 3) (h : n < 256 ^ (2 ^ j)) : 2 ^ stepI (n : Int) ≤ 2 ^ j := by
  have : stepI (n : Int) ≤ j := by
    unfold stepI
    rcases (show j = 0 ∨ j = 1 ∨ j = 2 ∨ j = 3 by omega) with rfl | rfl | rfl | rfl
    · have h' : n < 256 := by simpa using h
      rw [if_pos (by omega)]; omega
    · have h' : n < 65536 := by simpa using h
      split <;> (try split) <;> omega
    · have h' : n < 4294967296 := by simpa using h
      split <;> (try split) <;> (try split) <;> omega
    · split <;> (try split) <;> (try split) <;> omega
  exact Nat.pow_le_pow_right (by omega) this
theorem head_short {L : List UInt8} {p n q : Nat} (k : Nat) (h : headI L p = some (n, q)) : (headC k (n : Int)).length ≤ q - p := by
  unfold headI at h
  by_cases hn : (n : Int) < 24
  · rw [headC_low hn]
    have := head_on (L := L) (p := p) (n := n) (q := q) (by unfold headI; exact h)
    simp
    omega
  · rw [headC_big hn rfl rfl, List.length_cons, bigB_len]
    split at h
    · simp only [Option.some.injEq, Prod.mk.injEq] at h; omega
    · split at h
      · unfold numI at h
        split at h
        · simp only [Option.some.injEq, Prod.mk.injEq] at h
          obtain ⟨rfl, rfl⟩ := h
          have h1 := stepI_min (j := byAt L p % 32 - 24) (by omega) (bigN_lt L (p + 1) (2 ^ (byAt L p % 32 - 24)))
          obtain ⟨A, hA⟩ : ∃ A, 2 ^ stepI ((bigN L (p + 1) (2 ^ (byAt L p % 32 - 24)) : Nat) : Int) = A := ⟨_, rfl⟩
          rw [hA] at h1 ⊢
          omega
        · cases h
      · cases h
/-- The lengths of so many texts. -/
def sumF (F : Nat → Nat) : List Nat → Nat
  | [] => 0
  | x :: l => F x + sumF F l
theorem sumF_perm {F : Nat → Nat} {a b : List Nat} (h : a.Perm b) : sumF F a = sumF F b := by
  induction h with
  | nil => rfl
  | cons x _ ih => simp only [sumF, ih]
  | swap x y l => simp only [sumF]; omega
  | trans _ _ h1 h2 => exact h1.trans h2
theorem sumF_map {F : Nat → Nat} {g : Nat → Nat} (l : List Nat) : sumF F (l.map g) = sumF (fun j => F (g j)) l := by
  induction l with
  | nil => rfl
  | cons x l ih => simp only [List.map_cons, sumF, ih]
theorem sumF_congr {F G : Nat → Nat} : ∀ {l : List Nat}, (∀ x ∈ l, F x = G x) → sumF F l = sumF G l := by
  intro l
  induction l with
  | nil => intro _; rfl
  | cons x l ih => intro h; simp only [sumF]; rw [h x (by simp), ih (fun y hy => h y (by simp [hy]))]
theorem sumF_app {F : Nat → Nat} (a b : List Nat) : sumF F (a ++ b) = sumF F a + sumF F b := by
  induction a with
  | nil => simp [sumF]
  | cons x a ih => simp only [List.cons_append, sumF, ih]; omega
theorem cborL_sum (F : VT → List UInt8) (kids : List VT) (k : Nat) : (cborL F kids k).length = sumF (fun j => (F (kidT kids j)).length) (List.range k) := by
  induction k with
  | zero => rfl
  | succ k ih => rw [cborL, List.length_append, ih, List.range_succ, sumF_app]; simp [sumF]
theorem entC_sum (F : VT → List UInt8) (keys : List ByteArray) (kids : List VT) (ps : List Nat) : (entC F keys kids ps).length = sumF (fun j => (cborW (keyAt keys j)).length + (F (kidT kids j)).length) ps := by
  induction ps with
  | nil => rfl
  | cons x ps ih =>
    have e : entC F keys kids (x :: ps) = cborW (keyAt keys x) ++ (F (kidT kids x) ++ entC F keys kids ps) := by unfold entC; rw [List.flatMap_cons, List.append_assoc]
    rw [e, List.length_append, List.length_append, ih, sumF]
    omega
theorem range_shift (F : Nat → Nat) (k : Nat) : sumF F (List.range (k + 1)) = F 0 + sumF (fun j => F (j + 1)) (List.range k) := by
  rw [List.range_succ_eq_map, sumF, sumF_map]
theorem items_short {R : Nat → Option (VT × Nat)} {F : VT → List UInt8} : ∀ {k p : Nat} {l : List VT} {r : Nat}, rdItems R k p = some (l, r) → (∀ i, i < k → ∀ p q, R p = some (kidT l i, q) → p ≤ q ∧ (F (kidT l i)).length ≤ q - p) → l.length = k ∧ p ≤ r ∧ sumF (fun j => (F (kidT l j)).length) (List.range k) ≤ r - p := by
  intro k
  induction k with
  | zero => intro p l r h _; simp [rdItems] at h; obtain ⟨rfl, rfl⟩ := h; exact ⟨rfl, Nat.le_refl _, by simp [sumF]⟩
  | succ k ih =>
    intro p l r h H
    rw [rdItems] at h
    cases e : R p with
    | none => rw [e] at h; cases h
    | some x =>
      obtain ⟨t, q⟩ := x
      rw [e] at h
      dsimp only at h
      cases e2 : rdItems R k q with
      | none => rw [e2] at h; cases h
      | some z =>
        obtain ⟨l2, r2⟩ := z
        rw [e2] at h
        simp only [Option.some.injEq, Prod.mk.injEq] at h
        obtain ⟨rfl, rfl⟩ := h
        obtain ⟨a1, a2, a3⟩ := ih e2 (fun i hi p q h => H (i + 1) (by omega) p q h)
        have b := H 0 (by omega) p q e
        refine ⟨by simp [a1], by omega, ?_⟩
        rw [range_shift]
        have e3 : sumF (fun j => (F (kidT (t :: l2) (j + 1))).length) (List.range k) = sumF (fun j => (F (kidT l2 j)).length) (List.range k) := rfl
        rw [e3]
        have e4 : (F (kidT (t :: l2) 0)).length ≤ q - p := b.2
        omega
theorem pairs_short {R : Nat → Option (VT × Nat)} {F : VT → List UInt8} : ∀ {k p : Nat} {ks : List ByteArray} {l : List VT} {r : Nat}, rdPairs R k p = some (ks, l, r) → (∀ i, i < k → ∀ p q, R p = some (kidT l i, q) → p ≤ q ∧ (F (kidT l i)).length ≤ q - p) → (∀ i, i < k → ∀ p t q, R p = some (t, q) → textOf t = some (keyAt ks i) → p ≤ q ∧ (cborW (keyAt ks i)).length ≤ q - p) → ks.length = k ∧ l.length = k ∧ p ≤ r ∧ sumF (fun j => (cborW (keyAt ks j)).length + (F (kidT l j)).length) (List.range k) ≤ r - p := by
  intro k
  induction k with
  | zero => intro p ks l r h _ _; simp [rdPairs] at h; obtain ⟨rfl, rfl, rfl⟩ := h; exact ⟨rfl, rfl, Nat.le_refl _, by simp [sumF]⟩
  | succ k ih =>
    intro p ks l r h H HW
    rw [rdPairs] at h
    cases e : R p with
    | none => rw [e] at h; cases h
    | some x =>
      obtain ⟨t, q⟩ := x
      rw [e] at h
      dsimp only at h
      cases e1 : textOf t with
      | none => rw [e1] at h; cases h
      | some s =>
        rw [e1] at h
        dsimp only at h
        cases e2 : R q with
        | none => rw [e2] at h; cases h
        | some x2 =>
          obtain ⟨u, r2⟩ := x2
          rw [e2] at h
          dsimp only at h
          cases e3 : rdPairs R k r2 with
          | none => rw [e3] at h; cases h
          | some z =>
            obtain ⟨ks2, l2, r3⟩ := z
            rw [e3] at h
            simp only [Option.some.injEq, Prod.mk.injEq] at h
            obtain ⟨rfl, rfl, rfl⟩ := h
            obtain ⟨a1, a2, a3, a4⟩ := ih e3 (fun i hi p q h => H (i + 1) (by omega) p q h) (fun i hi p t q h1 h2 => HW (i + 1) (by omega) p t q h1 h2)
            have b := H 0 (by omega) q r2 e2
            have c := HW 0 (by omega) p t q e e1
            refine ⟨by simp [a1], by simp [a2], by omega, ?_⟩
            rw [range_shift]
            have e4 : sumF (fun j => (cborW (keyAt (s :: ks2) (j + 1))).length + (F (kidT (u :: l2) (j + 1))).length) (List.range k) = sumF (fun j => (cborW (keyAt ks2 j)).length + (F (kidT l2 j)).length) (List.range k) := rfl
            rw [e4]
            have e5 : (F (kidT (u :: l2) 0)).length ≤ r2 - q := b.2
            have e6 : (cborW (keyAt (s :: ks2) 0)).length ≤ q - p := c.2
            omega
end Go.Proofs.YtokhindolimchaaGreat

/-
  Plain: what is read as CBOR, written again, is no longer: trees.
-/
namespace Go.Proofs.YtokhindolimchaaGreat
open Go.RowKit
set_option linter.unusedSimpArgs false
set_option linter.unusedVariables false

theorem wordI_short {L : List UInt8} {p n r : Nat} {t : VT} {q : Nat} (e : headI L p = some (n, r)) (h : wordI L n r = some (t, q)) : t = wordT (cutT L r n) ∧ (cborW (cutT L r n)).length ≤ q - p := by
  have h1 := head_short 3 e
  have h2 := head_on e
  unfold wordI at h
  split at h
  · rename_i g
    simp only [Option.some.injEq, Prod.mk.injEq] at h
    obtain ⟨rfl, rfl⟩ := h
    refine ⟨rfl, ?_⟩
    unfold cborW
    rw [List.length_append, len_is, cutT_size g]
    omega
  · cases h
theorem rowT_text {R : Nat → Option (VT × Nat)} {named : Bool} {many p : Nat} {t : VT} {q : Nat} (h : rowT R named many p = some (t, q)) : textOf t = none := by
  unfold rowT at h
  split at h
  · split at h
    · cases h
    · simp only [Option.some.injEq, Prod.mk.injEq] at h; rw [← h.1]; rfl
  · split at h
    · cases h
    · simp only [Option.some.injEq, Prod.mk.injEq] at h; rw [← h.1]; rfl
theorem word_short {L : List UInt8} {f p : Nat} {t : VT} {q : Nat} {z : ByteArray} (h : rdC L f p = some (t, q)) (ht : textOf t = some z) : (cborW z).length ≤ q - p := by
  cases f with
  | zero => simp [rdC] at h
  | succ f =>
    rw [rdC] at h
    split at h
    · cases h
    split at h
    · simp only [Option.some.injEq, Prod.mk.injEq] at h; rw [← h.1] at ht; cases ht
    split at h
    · simp only [Option.some.injEq, Prod.mk.injEq] at h; rw [← h.1] at ht; cases ht
    split at h
    · simp only [Option.some.injEq, Prod.mk.injEq] at h; rw [← h.1] at ht; cases ht
    cases e : headI L p with
    | none => rw [e] at h; cases h
    | some y =>
      obtain ⟨n, r⟩ := y
      rw [e] at h
      dsimp only at h
      unfold kindI at h
      split at h
      · simp only [Option.some.injEq, Prod.mk.injEq] at h; rw [← h.1] at ht; cases ht
      split at h
      · simp only [Option.some.injEq, Prod.mk.injEq] at h; rw [← h.1] at ht; cases ht
      split at h
      · obtain ⟨h1, h2⟩ := wordI_short e h
        rw [h1] at ht
        have : cutT L r n = z := by simpa [textOf, wordT] using ht
        rw [← this]
        exact h2
      split at h
      · rw [rowT_text h] at ht; cases ht
      split at h
      · rw [rowT_text h] at ht; cases ht
      · cases h
theorem rdC_short {L : List UInt8} (hL : L.length ≤ 4000) : ∀ f p t q, rdC L f p = some (t, q) → goodT f t → (cborT f t).length ≤ q - p := by
  intro f
  induction f with
  | zero => intro p t q h; simp [rdC] at h
  | succ f ih =>
    intro p t q h hg
    have hpq := (rdC_ok L hL (f + 1) p t q h).1
    have M : ∀ p t q, rdC L f p = some (t, q) → p < q := fun p t q h => (rdC_ok L hL f p t q h).1
    rw [rdC] at h
    split at h
    · cases h
    split at h
    · simp only [Option.some.injEq, Prod.mk.injEq] at h; obtain ⟨rfl, rfl⟩ := h; rw [nullT, (cborT_leaf f).1 rfl]; simp
    split at h
    · simp only [Option.some.injEq, Prod.mk.injEq] at h; obtain ⟨rfl, rfl⟩ := h; rw [boolT, (cborT_leaf f).2.1 rfl]; simp
    split at h
    · simp only [Option.some.injEq, Prod.mk.injEq] at h; obtain ⟨rfl, rfl⟩ := h; rw [boolT, (cborT_leaf f).2.1 rfl]; simp
    cases e : headI L p with
    | none => rw [e] at h; cases h
    | some y =>
      obtain ⟨n, r⟩ := y
      rw [e] at h
      dsimp only at h
      have hpr := head_on e
      unfold kindI at h
      split at h
      · simp only [Option.some.injEq, Prod.mk.injEq] at h
        obtain ⟨rfl, rfl⟩ := h
        rw [numT, (cborT_leaf f).2.2.1 rfl, cborN, if_neg (by omega)]
        exact head_short 0 e
      split at h
      · simp only [Option.some.injEq, Prod.mk.injEq] at h
        obtain ⟨rfl, rfl⟩ := h
        rw [numT, (cborT_leaf f).2.2.1 rfl, cborN, if_pos (by omega), show (-1 - (-1 - (n : Int))) = (n : Int) by omega]
        exact head_short 1 e
      split at h
      · obtain ⟨h1, h2⟩ := wordI_short e h
        rw [h1, wordT, (cborT_leaf f).2.2.2.1 rfl]
        exact h2
      split at h
      · unfold rowT at h
        rw [if_neg (by decide)] at h
        cases e2 : rdItems (rdC L f) n r with
        | none => rw [e2] at h; cases h
        | some z =>
          obtain ⟨l, q2⟩ := z
          rw [e2] at h
          simp only [Option.some.injEq, Prod.mk.injEq] at h
          obtain ⟨rfl, rfl⟩ := h
          have hll := items_len e2
          obtain ⟨a1, a2, a3⟩ := items_short (F := cborT f) e2 (fun i hi p q hr => ⟨Nat.le_of_lt (M _ _ _ hr), ih p _ q hr (hg.2 i (by rw [hll]; exact hi))⟩)
          rw [listT, (cborT_leaf f).2.2.2.2.1 rfl, List.length_append, cborL_sum, a1]
          have := head_short 4 e
          omega
      split at h
      · unfold rowT at h
        rw [if_pos rfl] at h
        cases e2 : rdPairs (rdC L f) n r with
        | none => rw [e2] at h; cases h
        | some z =>
          obtain ⟨ks, l, q2⟩ := z
          rw [e2] at h
          simp only [Option.some.injEq, Prod.mk.injEq] at h
          obtain ⟨rfl, rfl⟩ := h
          obtain ⟨g1, g2, _⟩ := mapT_good hg
          obtain ⟨b1, b2, _⟩ := pairs_full (rdC_full L f) e2
          obtain ⟨a1, a2, a3, a4⟩ := pairs_short (F := cborT f) e2 (fun i hi p q hr => ⟨Nat.le_of_lt (M _ _ _ hr), ih p _ q hr (g1 i (by omega))⟩) (fun i hi p t q hr ht => ⟨Nat.le_of_lt (M _ _ _ hr), word_short hr ht⟩)
          have hsl := srt_len ks
          have hkn : ∀ j, j < ks.length → (keyAt ((srt ks).map (keyAt ks)) j).size < 61 := fun j hj => by
            rw [keyAt_map (by omega)]
            have := g2 _ (srt_lt hj)
            unfold textB at this
            simp only [Bool.and_eq_true, decide_eq_true_eq] at this
            omega
          rw [mapT, (cborT_leaf f).2.2.2.2.2 rfl, List.length_append, entC_sum, List.length_map, hsl, a1]
          rw [sumF_perm (byLen_perm (fun j hj => hkn j (by omega)))]
          have e5 : sumF (fun j => (cborW (keyAt ((srt ks).map (keyAt ks)) j)).length + (cborT f (kidT ((srt ks).map (kidT l)) j)).length) (List.range n) = sumF (fun j => (cborW (keyAt ks j)).length + (cborT f (kidT l j)).length) (List.range n) := by
            rw [sumF_congr (G := fun j => (fun i => (cborW (keyAt ks i)).length + (cborT f (kidT l i)).length) ((srt ks).getD j 0)) (fun j hj => by
              have hj' := List.mem_range.1 hj
              rw [keyAt_map (by omega), kidAt_map (by omega)])]
            refine Eq.trans (sumF_map (F := fun i => (cborW (keyAt ks i)).length + (cborT f (kidT l i)).length) (g := fun j => (srt ks).getD j 0) (List.range n)).symm ?_
            rw [show n = (srt ks).length by omega, range_getD]
            have := srt_perm ks
            rw [← hsl] at this
            exact sumF_perm this
          rw [e5]
          have := head_short 5 e
          omega
      · cases h
end Go.Proofs.YtokhindolimchaaGreat
