/-
  Plain: trees whose nodes fit.
-/
import Derived.Test.YtagcgnhpdmhegaaRdT
import Derived.Test.YtagcgnhpdmhegaaCbR
import Derived.Test.YtagcgnhpdmhegaaJrV
namespace Go.Proofs.Ytagcgnhpdmhegaa
open Go.RowKit
set_option linter.unusedSimpArgs false
set_option linter.unusedVariables false

def FitT : Nat → VT → Prop
  | 0, _ => False
  | f + 1, .mk kind n s keys kids => (1 ≤ kind ∧ kind ≤ 6) ∧ (-9223372036854775808 ≤ n ∧ n ≤ 9223372036854775807) ∧ s.size ≤ 100000 ∧ keys.length ≤ 100000 ∧ (∀ i, i < keys.length → (keyAt keys i).size ≤ 100000) ∧ kids.length ≤ 100000 ∧ ∀ j, j < kids.length → FitT f (kidT kids j)
theorem FitT.full : ∀ {f : Nat} {t : VT}, FitT f t → FullT f t
  | 0, _, h => h.elim
  | f + 1, .mk _ _ _ _ _, h => fun j hj => (h.2.2.2.2.2.2 j hj).full
theorem ksT_get (f sh : Nat) {l : List VT} : ∀ {m j : Nat}, j < m → m ≤ l.length → intAt (ksT f sh l m) j = ((sh + (accT f sh l (j + 1)).length : Nat) : Int) - 1 := by
  intro m
  induction m with
  | zero => intro j h; omega
  | succ m ih =>
    intro j hj hm
    have hl := ksT_len f sh l (k := m) (by omega)
    rw [ksT_succ f sh (by omega)]
    by_cases e : j < m
    · have := ih e (by omega)
      unfold intAt at this ⊢
      rw [List.getD_eq_getElem?_getD, List.getElem?_append_left (by omega), ← List.getD_eq_getElem?_getD]
      exact this
    · obtain rfl : j = m := by omega
      unfold intAt
      rw [List.getD_eq_getElem?_getD, List.getElem?_append_right (by omega), hl, Nat.sub_self]
      rfl
theorem fits_lay : ∀ {f : Nat} {t : VT}, FitT f t → ∀ sh, sh + (layT f t sh).length ≤ 1000000 → ∀ j, j < (layT f t sh).length → Fits (nodeAt (layT f t sh) j) := by
  intro f
  induction f with
  | zero => intro t h; exact h.elim
  | succ f ih =>
    intro t h sh hn
    obtain ⟨kind, n, s, keys, kids⟩ := t
    obtain ⟨h1, h2, h3, h4, h5, h6, h7⟩ := h
    rw [layT_eq] at hn ⊢
    rw [List.length_append, List.length_cons, List.length_nil] at hn ⊢
    have ha := acc_nodes f sh kids Fits kids.length (Nat.le_refl _)
    have hall : ∀ j, j < (accT f sh kids kids.length).length → Fits (nodeAt (accT f sh kids kids.length) j) := ha.2 (fun i hi => by
      refine ih (h7 i hi) _ ?_
      have hle := accT_le f sh kids (i + 1)
      rw [accT_succ f sh hi, List.length_append] at hle
      omega)
    intro j hj
    by_cases e : j < (accT f sh kids kids.length).length
    · rw [nodeAt_left e]; exact hall j e
    · obtain rfl : j = (accT f sh kids kids.length).length := by omega
      rw [nodeAt_right (Nat.le_refl _), Nat.sub_self]
      have hkl := ksT_len f sh kids (Nat.le_refl _)
      refine ⟨by show keys.length ≤ _; omega, fun i hi => by have := h5 i hi; show (keyAt keys i).size ≤ _; omega, by show (ksT f sh kids kids.length).length ≤ _; omega, fun i hi => ?_, by show s.size ≤ _; omega, by show _ ≤ kind; omega, by show kind ≤ _; omega, by show _ ≤ n; omega, by show n ≤ _; omega⟩
      have hi' : i < kids.length := by have : i < (ksT f sh kids kids.length).length := hi; omega
      have := ksT_get f sh (l := kids) hi' (Nat.le_refl _)
      have hle := accT_le f sh kids (i + 1)
      show -9223372036854775808 ≤ intAt (ksT f sh kids kids.length) i ∧ intAt (ksT f sh kids kids.length) i ≤ 9223372036854775807
      rw [this]
      omega
end Go.Proofs.Ytagcgnhpdmhegaa

/-
  Plain: what is read has no more nodes than bytes, and each node fits.
-/
namespace Go.Proofs.Ytagcgnhpdmhegaa
open Go.RowKit
set_option linter.unusedSimpArgs false
set_option linter.unusedVariables false

/-- What a reading gives is bounded by the bytes that it takes. -/
def RdOk (f : Nat) (L : List UInt8) (R : Nat → Option (VT × Nat)) : Prop := ∀ p t q, R p = some (t, q) → p < q ∧ q ≤ L.length ∧ (layT f t 0).length ≤ q - p ∧ FitT f t ∧ ∀ z, textOf t = some z → z.size ≤ L.length
theorem items_ok {f : Nat} {L : List UInt8} {R : Nat → Option (VT × Nat)} (H : RdOk f L R) : ∀ {k p : Nat} {l : List VT} {q : Nat}, p ≤ L.length → rdItems R k p = some (l, q) → p + k ≤ q ∧ q ≤ L.length ∧ sumL (fun i => layT f (kidT l i) 0) k ≤ q - p ∧ ∀ i, i < k → FitT f (kidT l i) := by
  intro k
  induction k with
  | zero =>
    intro p l q hp h
    simp [rdItems] at h
    obtain ⟨rfl, rfl⟩ := h
    exact ⟨by omega, hp, by simp [sumL], fun i hi => by omega⟩
  | succ k ih =>
    intro p l q hp h
    rw [rdItems_eq] at h
    cases e : R p with
    | none => simp [e] at h
    | some x =>
      obtain ⟨t, z⟩ := x
      simp only [e] at h
      cases e2 : rdItems R k z with
      | none => simp [e2] at h
      | some y =>
        obtain ⟨m, z2⟩ := y
        simp only [e2, Option.some.injEq, Prod.mk.injEq] at h
        obtain ⟨rfl, rfl⟩ := h
        obtain ⟨a1, a2, a3, a4, _⟩ := H _ _ _ e
        obtain ⟨b1, b2, b3, b4⟩ := ih a2 e2
        have hs : sumL (fun i => layT f (kidT (t :: m) i) 0) (k + 1) = (layT f t 0).length + sumL (fun i => layT f (kidT m i) 0) k := sumL_cons _ _
        refine ⟨by omega, b2, by rw [hs]; omega, fun i hi => ?_⟩
        cases i with
        | zero => exact a4
        | succ i => exact b4 i (by omega)
theorem pairs_ok {f : Nat} {L : List UInt8} {R : Nat → Option (VT × Nat)} (H : RdOk f L R) : ∀ {k p : Nat} {ks : List ByteArray} {l : List VT} {q : Nat}, p ≤ L.length → rdPairs R k p = some (ks, l, q) → p + k ≤ q ∧ q ≤ L.length ∧ sumL (fun i => layT f (kidT l i) 0) k ≤ q - p ∧ (∀ i, i < k → FitT f (kidT l i)) ∧ ∀ i, i < k → (keyAt ks i).size ≤ L.length := by
  intro k
  induction k with
  | zero =>
    intro p ks l q hp h
    simp [rdPairs] at h
    obtain ⟨rfl, rfl, rfl⟩ := h
    exact ⟨by omega, hp, by simp [sumL], fun i hi => by omega, fun i hi => by omega⟩
  | succ k ih =>
    intro p ks l q hp h
    rw [rdPairs] at h
    cases e : R p with
    | none => simp [e] at h
    | some x =>
      obtain ⟨t1, q1⟩ := x
      simp only [e] at h
      cases e1 : textOf t1 with
      | none => simp [e1] at h
      | some s1 =>
        simp only [e1] at h
        cases e2 : R q1 with
        | none => simp [e2] at h
        | some y =>
          obtain ⟨u1, r1⟩ := y
          simp only [e2] at h
          cases e3 : rdPairs R k r1 with
          | none => simp [e3] at h
          | some y =>
            obtain ⟨k1, m, z2⟩ := y
            simp only [e3, Option.some.injEq, Prod.mk.injEq] at h
            obtain ⟨rfl, rfl, rfl⟩ := h
            obtain ⟨a1, a2, a3, a4, a5⟩ := H _ _ _ e
            obtain ⟨c1, c2, c3, c4, _⟩ := H _ _ _ e2
            obtain ⟨b1, b2, b3, b4, b5⟩ := ih c2 e3
            have hs : sumL (fun i => layT f (kidT (u1 :: m) i) 0) (k + 1) = (layT f u1 0).length + sumL (fun i => layT f (kidT m i) 0) k := sumL_cons _ _
            refine ⟨by omega, b2, by rw [hs]; omega, fun i hi => ?_, fun i hi => ?_⟩
            · cases i with
              | zero => exact c4
              | succ i => exact b4 i (by omega)
            · cases i with
              | zero => exact a5 _ e1
              | succ i => exact b5 i (by omega)
theorem row_ok {f : Nat} {L : List UInt8} {R : Nat → Option (VT × Nat)} (H : RdOk f L R) (hL : L.length ≤ 4000) {named : Bool} {n p : Nat} {t : VT} {q : Nat} (hp : p ≤ L.length) (h : rowT R named n p = some (t, q)) : p ≤ q ∧ q ≤ L.length ∧ (layT (f + 1) t 0).length ≤ q - p + 1 ∧ FitT (f + 1) t ∧ ∀ z, textOf t = some z → z.size ≤ L.length := by
  have ht := textOf_row h
  have htz : ∀ z, textOf t = some z → z.size ≤ L.length := fun z hz => by rw [ht] at hz; cases hz
  unfold rowT at h
  cases named
  · simp only [Bool.false_eq_true, if_false] at h
    cases e : rdItems R n p with
    | none => simp [e] at h
    | some x =>
      obtain ⟨l, z⟩ := x
      simp only [e, Option.some.injEq, Prod.mk.injEq] at h
      obtain ⟨rfl, rfl⟩ := h
      obtain ⟨b1, b2, b3, b4⟩ := items_ok H hp e
      have hl := items_len e
      refine ⟨by omega, b2, by rw [listT_size, hl]; omega, ⟨by decide, by decide, by decide, by simp, fun i hi => absurd hi (by simp), by omega, fun j hj => b4 j (by omega)⟩, htz⟩
  · simp only [if_true] at h
    cases e : rdPairs R n p with
    | none => simp [e] at h
    | some x =>
      obtain ⟨ks, l, z⟩ := x
      simp only [e, Option.some.injEq, Prod.mk.injEq] at h
      obtain ⟨rfl, rfl⟩ := h
      obtain ⟨b1, b2, b3, b4, b5⟩ := pairs_ok H hp e
      obtain ⟨hl1, hl2, _⟩ := pairs_full (fun p t q h => (H p t q h).2.2.2.1.full) e
      have hsl := srt_len ks
      refine ⟨by omega, b2, by rw [mapT_size, hl1]; omega, ⟨by decide, by decide, by decide, by rw [List.length_map, hsl]; omega, fun i hi => ?_, by rw [List.length_map, hsl]; omega, fun j hj => ?_⟩, htz⟩
      · rw [List.length_map, hsl] at hi
        have e9 : keyAt ((srt ks).map (keyAt ks)) i = keyAt ks ((srt ks).getD i 0) := by
          conv => lhs; unfold keyAt
          rw [List.getD_eq_getElem?_getD, List.getElem?_map, List.getElem?_eq_getElem (by omega), List.getD_eq_getElem?_getD (l := srt ks), List.getElem?_eq_getElem (show i < (srt ks).length by omega)]
          rfl
        rw [e9]
        have := b5 ((srt ks).getD i 0) (by have := srt_lt hi; omega)
        omega
      · rw [List.length_map, hsl] at hj
        rw [kid_srt hj]
        exact b4 _ (by have := srt_lt hj; omega)
theorem num_ok {L : List UInt8} {p w n q : Nat} (h : numI L p w = some (n, q)) : n ≤ maxI ∧ q = p + w ∧ q ≤ L.length := by
  unfold numI at h
  split at h
  · rename_i hx
    simp only [Option.some.injEq, Prod.mk.injEq] at h
    obtain ⟨rfl, rfl⟩ := h
    exact ⟨hx.2, rfl, hx.1⟩
  · cases h
theorem word_ok {L : List UInt8} (hL : L.length ≤ 4000) {n p : Nat} {t : VT} {q : Nat} (h : wordI L n p = some (t, q)) (f : Nat) : p ≤ q ∧ q ≤ L.length ∧ (layT (f + 1) t 0).length = 1 ∧ FitT (f + 1) t ∧ ∀ z, textOf t = some z → z.size ≤ L.length := by
  unfold wordI at h
  split at h
  · rename_i hx
    simp only [Option.some.injEq, Prod.mk.injEq] at h
    obtain ⟨rfl, rfl⟩ := h
    have hz := cutT_size hx
    refine ⟨by omega, hx, rfl, ⟨by decide, by decide, by omega, by simp, fun i hi => absurd hi (by simp), by simp, fun j hj => absurd hj (by simp)⟩, fun z e => ?_⟩
    simp [textOf, wordT] at e
    subst e
    omega
  · cases h
theorem leaf_ok {f : Nat} {k n : Int} (hk : 1 ≤ k ∧ k ≤ 6 ∧ k ≠ 4) (hn : -9223372036854775808 ≤ n ∧ n ≤ 9223372036854775807) : (layT (f + 1) (.mk k n ByteArray.empty [] []) 0).length = 1 ∧ FitT (f + 1) (.mk k n ByteArray.empty [] []) ∧ textOf (.mk k n ByteArray.empty [] []) = none :=
  ⟨rfl, ⟨⟨hk.1, hk.2.1⟩, hn, by decide, by simp, fun i hi => absurd hi (by simp), by simp, fun j hj => absurd hj (by simp)⟩, by simp [textOf, hk.2.2]⟩
theorem rdC_ok (L : List UInt8) (hL : L.length ≤ 4000) : ∀ f, RdOk f L (rdC L f) := by
  intro f
  induction f with
  | zero => intro p t q h; simp [rdC] at h
  | succ f ih =>
    intro p t q h
    have leaf : ∀ {k n : Int} {q' : Nat}, p < q' → q' ≤ L.length → (1 ≤ k ∧ k ≤ 6 ∧ k ≠ 4) → (-9223372036854775808 ≤ n ∧ n ≤ 9223372036854775807) → some ((VT.mk k n ByteArray.empty [] [] : VT), q') = some (t, q) → p < q ∧ q ≤ L.length ∧ (layT (f + 1) t 0).length ≤ q - p ∧ FitT (f + 1) t ∧ ∀ z, textOf t = some z → z.size ≤ L.length := fun {k n q'} h1 h2 hk hn h => by
      simp only [Option.some.injEq, Prod.mk.injEq] at h
      obtain ⟨rfl, rfl⟩ := h
      obtain ⟨l1, l2, l3⟩ := leaf_ok (f := f) hk hn
      exact ⟨h1, h2, by omega, l2, fun z hz => by rw [l3] at hz; cases hz⟩
    by_cases hp : p < L.length
    rotate_left
    · rw [rdC_end (by omega)] at h; cases h
    by_cases b0 : byAt L p = 246
    · rw [rdC_null hp b0] at h; exact leaf (by omega) (by omega) (by decide) (by decide) h
    by_cases b1 : byAt L p = 244
    · rw [rdC_no hp b1] at h; exact leaf (by omega) (by omega) (by decide) (by decide) h
    by_cases b2 : byAt L p = 245
    · rw [rdC_yes hp b2] at h; exact leaf (by omega) (by omega) (by decide) (by decide) h
    rw [rdC_head hp (by omega)] at h
    cases e : headI L p with
    | none => rw [e] at h; cases h
    | some x =>
      obtain ⟨n, z⟩ := x
      rw [e] at h
      simp only at h
      have hh : p < z ∧ z ≤ L.length ∧ n ≤ maxI := by
        unfold headI at e
        split at e
        · simp only [Option.some.injEq, Prod.mk.injEq] at e; unfold maxI; omega
        · split at e
          · obtain ⟨c1, c2, c3⟩ := num_ok e
            have := two_pos (byAt L p % 32 - 24)
            exact ⟨by rw [c2]; omega, c3, c1⟩
          · cases e
      obtain ⟨h1, h2, h3⟩ := hh
      unfold maxI at h3
      unfold kindI at h
      split at h
      · exact leaf h1 h2 (by decide) (by omega) h
      split at h
      · exact leaf h1 h2 (by decide) (by omega) h
      split at h
      · obtain ⟨c1, c2, c3, c4, c5⟩ := word_ok hL h f
        exact ⟨by omega, c2, by omega, c4, c5⟩
      split at h
      · obtain ⟨c1, c2, c3, c4, c5⟩ := row_ok ih hL h2 h
        exact ⟨by omega, c2, by omega, c4, c5⟩
      split at h
      · obtain ⟨c1, c2, c3, c4, c5⟩ := row_ok ih hL h2 h
        exact ⟨by omega, c2, by omega, c4, c5⟩
      · cases h
end Go.Proofs.Ytagcgnhpdmhegaa

/-
  Plain: what is read as JSON has no more nodes than bytes, and each node fits.
-/
namespace Go.Proofs.Ytagcgnhpdmhegaa
open Go.RowKit
set_option linter.unusedSimpArgs false
set_option linter.unusedVariables false

theorem itemsJ_ok {f : Nat} {L : List UInt8} {R : Nat → Option (VT × Nat)} (H : RdOk f L R) : ∀ {k p : Nat} {l : List VT} {q : Nat}, itemsJ L R k p = some (l, q) → p + l.length < q ∧ q ≤ L.length ∧ sumL (fun i => layT f (kidT l i) 0) l.length < q - p ∧ ∀ i, i < l.length → FitT f (kidT l i) := by
  intro k
  induction k with
  | zero => intro p l q h; cases h
  | succ k ih =>
    intro p l q h
    rw [itemsJ] at h
    cases e : R p with
    | none => simp [e] at h
    | some x =>
      obtain ⟨t, z⟩ := x
      simp only [e] at h
      obtain ⟨a1, a2, a3, a4, _⟩ := H _ _ _ e
      split at h
      · rename_i hend
        have hz := (isAt_yes.1 hend).1
        simp only [Option.some.injEq, Prod.mk.injEq] at h
        obtain ⟨rfl, rfl⟩ := h
        refine ⟨by simp; omega, by omega, ?_, fun i hi => ?_⟩
        · have hs : sumL (fun i => layT f (kidT [t] i) 0) (0 + 1) = (layT f t 0).length + sumL (fun i => layT f (kidT [] i) 0) 0 := sumL_cons _ _
          show sumL (fun i => layT f (kidT [t] i) 0) (0 + 1) < _
          rw [hs]; simp [sumL]; omega
        · obtain rfl : i = 0 := by simpa using hi
          exact a4
      · split at h
        · cases e2 : itemsJ L R k (z + 1) with
          | none => simp [e2] at h
          | some y =>
            obtain ⟨m, z2⟩ := y
            simp only [e2, Option.some.injEq, Prod.mk.injEq] at h
            obtain ⟨rfl, rfl⟩ := h
            obtain ⟨b1, b2, b3, b4⟩ := ih e2
            have hs : sumL (fun i => layT f (kidT (t :: m) i) 0) (m.length + 1) = (layT f t 0).length + sumL (fun i => layT f (kidT m i) 0) m.length := sumL_cons _ _
            refine ⟨by simp; omega, b2, by rw [List.length_cons, hs]; omega, fun i hi => ?_⟩
            cases i with
            | zero => exact a4
            | succ i => exact b4 i (by simpa using hi)
        · cases h
theorem keyR_ok {L : List UInt8} {p q : Nat} {s : ByteArray} (h : keyR L p = some (s, q)) : p < q ∧ q ≤ L.length ∧ s.size ≤ L.length := by
  unfold keyR at h
  split at h
  · cases e : txJ L (skipJ L p + 1) with
    | none => simp [e] at h
    | some x =>
      obtain ⟨l, z⟩ := x
      simp only [e] at h
      split at h
      · rename_i h58
        simp only [Option.some.injEq, Prod.mk.injEq] at h
        obtain ⟨rfl, rfl⟩ := h
        obtain ⟨x1, x2, x3, _⟩ := txJ_says _ _ _ _ (Nat.le_refl _) e
        have y1 := (isAt_yes.1 h58).1
        have y2 : p ≤ skipJ L p := runJ_ge _ _ _
        have y3 : z ≤ skipJ L z := runJ_ge _ _ _
        have hz : (txt l).size = l.length := txt_size l
        exact ⟨by omega, by omega, by omega⟩
      · cases h
  · cases h
theorem pairsJ_ok {f : Nat} {L : List UInt8} {R : Nat → Option (VT × Nat)} (H : RdOk f L R) : ∀ {k p : Nat} {ks : List ByteArray} {l : List VT} {q : Nat}, pairsJ L R k p = some (ks, l, q) → p + l.length < q ∧ q ≤ L.length ∧ sumL (fun i => layT f (kidT l i) 0) l.length < q - p ∧ (∀ i, i < l.length → FitT f (kidT l i)) ∧ ∀ i, i < l.length → (keyAt ks i).size ≤ L.length := by
  intro k
  induction k with
  | zero => intro p ks l q h; cases h
  | succ k ih =>
    intro p ks l q h
    rw [pairsJ] at h
    cases e0 : keyR L p with
    | none => simp [e0] at h
    | some x0 =>
      obtain ⟨s, q0⟩ := x0
      simp only [e0] at h
      obtain ⟨k1, k2, k3⟩ := keyR_ok e0
      cases e : R q0 with
      | none => simp [e] at h
      | some x =>
        obtain ⟨t, z⟩ := x
        simp only [e] at h
        obtain ⟨a1, a2, a3, a4, _⟩ := H _ _ _ e
        split at h
        · rename_i hend
          have hz := (isAt_yes.1 hend).1
          simp only [Option.some.injEq, Prod.mk.injEq] at h
          obtain ⟨rfl, rfl, rfl⟩ := h
          refine ⟨by simp; omega, by omega, ?_, fun i hi => ?_, fun i hi => ?_⟩
          · have hs : sumL (fun i => layT f (kidT [t] i) 0) (0 + 1) = (layT f t 0).length + sumL (fun i => layT f (kidT [] i) 0) 0 := sumL_cons _ _
            show sumL (fun i => layT f (kidT [t] i) 0) (0 + 1) < _
            rw [hs]; simp [sumL]; omega
          · obtain rfl : i = 0 := by simpa using hi
            exact a4
          · obtain rfl : i = 0 := by simpa using hi
            exact k3
        · split at h
          · cases e2 : pairsJ L R k (z + 1) with
            | none => simp [e2] at h
            | some y =>
              obtain ⟨km, m, z2⟩ := y
              simp only [e2, Option.some.injEq, Prod.mk.injEq] at h
              obtain ⟨rfl, rfl, rfl⟩ := h
              obtain ⟨b1, b2, b3, b4, b5⟩ := ih e2
              have hs : sumL (fun i => layT f (kidT (t :: m) i) 0) (m.length + 1) = (layT f t 0).length + sumL (fun i => layT f (kidT m i) 0) m.length := sumL_cons _ _
              refine ⟨by simp; omega, b2, by rw [List.length_cons, hs]; omega, fun i hi => ?_, fun i hi => ?_⟩
              · cases i with
                | zero => exact a4
                | succ i => exact b4 i (by simpa using hi)
              · cases i with
                | zero => exact k3
                | succ i => exact b5 i (by simpa using hi)
          · cases h
/-- What stands behind a sign, and the sign. -/
def OkJ (f : Nat) (L : List UInt8) (p : Nat) (t : VT) (q : Nat) : Prop := p < q ∧ q ≤ L.length ∧ (layT f t 0).length ≤ q - p ∧ FitT f t ∧ ∀ z, textOf t = some z → z.size ≤ L.length
theorem listJ_ok {f : Nat} {L : List UInt8} {R : Nat → Option (VT × Nat)} (H : RdOk f L R) (hL : L.length ≤ 4000) {p : Nat} {t : VT} {q : Nat} (h : listJ L R p = some (t, q)) : OkJ (f + 1) L p t q := by
  unfold listJ at h
  split at h
  · rename_i he
    have h1 := (isAt_yes.1 he).1
    have h2 : p ≤ skipJ L p := runJ_ge _ _ _
    simp only [Option.some.injEq, Prod.mk.injEq] at h
    obtain ⟨rfl, rfl⟩ := h
    refine ⟨by omega, by omega, by rw [listT_size]; simp [sumL]; omega, ⟨by decide, by decide, by decide, by simp, fun i hi => absurd hi (by simp), by simp, fun j hj => absurd hj (by simp)⟩, fun z hz => by simp [textOf, listT] at hz⟩
  · cases e : itemsJ L R (L.length + 1) p with
    | none => simp [e] at h
    | some x =>
      obtain ⟨l, z⟩ := x
      simp only [e, Option.some.injEq, Prod.mk.injEq] at h
      obtain ⟨rfl, rfl⟩ := h
      obtain ⟨b1, b2, b3, b4⟩ := itemsJ_ok H e
      have hl := (itemsJ_full (fun p t q h => (H p t q h).2.2.2.1.full) e).1
      refine ⟨by omega, b2, by rw [listT_size]; omega, ⟨by decide, by decide, by decide, by simp, fun i hi => absurd hi (by simp), by omega, fun j hj => b4 j hj⟩, fun z hz => by simp [textOf, listT] at hz⟩
theorem mapJ_ok {f : Nat} {L : List UInt8} {R : Nat → Option (VT × Nat)} (H : RdOk f L R) (hL : L.length ≤ 4000) {p : Nat} {t : VT} {q : Nat} (h : mapJ L R p = some (t, q)) : OkJ (f + 1) L p t q := by
  unfold mapJ at h
  split at h
  · rename_i he
    have h1 := (isAt_yes.1 he).1
    have h2 : p ≤ skipJ L p := runJ_ge _ _ _
    simp only [Option.some.injEq, Prod.mk.injEq] at h
    obtain ⟨rfl, rfl⟩ := h
    have h0 : mapT [] [] = .mk 6 0 ByteArray.empty [] [] := by
      have h0 : srt [] = [] := List.eq_nil_of_length_eq_zero (srt_len [])
      unfold mapT; rw [h0]; rfl
    rw [h0]
    refine ⟨by omega, by omega, ?_, (leaf_ok (f := f) (k := 6) (n := 0) (by decide) (by decide)).2.1, fun z hz => by simp [textOf] at hz⟩
    rw [(leaf_ok (f := f) (k := 6) (n := 0) (by decide) (by decide)).1]
    omega
  · cases e : pairsJ L R (L.length + 1) p with
    | none => simp [e] at h
    | some x =>
      obtain ⟨ks, l, z⟩ := x
      simp only [e, Option.some.injEq, Prod.mk.injEq] at h
      obtain ⟨rfl, rfl⟩ := h
      obtain ⟨b1, b2, b3, b4, b5⟩ := pairsJ_ok H e
      obtain ⟨hl1, hl2, _⟩ := pairsJ_full (fun p t q h => (H p t q h).2.2.2.1.full) e
      have hsl := srt_len ks
      refine ⟨by omega, b2, by rw [mapT_size, hl1]; omega, ⟨by decide, by decide, by decide, by rw [List.length_map, hsl]; omega, fun i hi => ?_, by rw [List.length_map, hsl]; omega, fun j hj => ?_⟩, fun z hz => by simp [textOf, mapT] at hz⟩
      · rw [List.length_map, hsl] at hi
        have e9 : keyAt ((srt ks).map (keyAt ks)) i = keyAt ks ((srt ks).getD i 0) := by
          conv => lhs; unfold keyAt
          rw [List.getD_eq_getElem?_getD, List.getElem?_map, List.getElem?_eq_getElem (by omega), List.getD_eq_getElem?_getD (l := srt ks), List.getElem?_eq_getElem (show i < (srt ks).length by omega)]
          rfl
        rw [e9]
        have := b5 ((srt ks).getD i 0) (by have := srt_lt hi; omega)
        omega
      · rw [List.length_map, hsl] at hj
        rw [kid_srt hj]
        exact b4 _ (by have := srt_lt hj; omega)
theorem numJ_past {L : List UInt8} {p : Nat} (h : L.length ≤ p) : numJ L p = none := by
  have e : numAt L p = p := by
    unfold numAt
    rw [if_neg (fun e => by have := (isAt_yes.1 e).1; omega)]
  unfold numJ
  rw [e, if_pos (.inl (runJ_past h))]
theorem readJ_ok {f : Nat} {L : List UInt8} {R : Nat → Option (VT × Nat)} (H : RdOk f L R) (hL : L.length ≤ 4000) {p : Nat} {t : VT} {q : Nat} (h : readJ L R p = some (t, q)) : OkJ (f + 1) L p t q := by
  have leaf : ∀ {k n : Int} {q' : Nat}, p < q' → q' ≤ L.length → (1 ≤ k ∧ k ≤ 6 ∧ k ≠ 4) → (-9223372036854775808 ≤ n ∧ n ≤ 9223372036854775807) → some ((VT.mk k n ByteArray.empty [] [] : VT), q') = some (t, q) → OkJ (f + 1) L p t q := fun {k n q'} h1 h2 hk hn h => by
    simp only [Option.some.injEq, Prod.mk.injEq] at h
    obtain ⟨rfl, rfl⟩ := h
    obtain ⟨l1, l2, l3⟩ := leaf_ok (f := f) hk hn
    exact ⟨h1, h2, by omega, l2, fun z hz => by rw [l3] at hz; cases hz⟩
  unfold readJ at h
  split at h
  · rename_i e
    have := wordAt_le e (by decide)
    exact leaf (by omega) (by simpa [nullW] using this) (by decide) (by decide) h
  split at h
  · rename_i e
    have := wordAt_le e (by decide)
    exact leaf (by omega) (by simpa [trueW] using this) (by decide) (by decide) h
  split at h
  · rename_i e
    have := wordAt_le e (by decide)
    exact leaf (by omega) (by simpa [falseW] using this) (by decide) (by decide) h
  split at h
  · cases e : txJ L (p + 1) with
    | none => simp [e] at h
    | some x =>
      obtain ⟨l, z⟩ := x
      simp only [e, Option.some.injEq, Prod.mk.injEq] at h
      obtain ⟨rfl, rfl⟩ := h
      obtain ⟨x1, x2, x3, _⟩ := txJ_says _ _ _ _ (Nat.le_refl _) e
      have hz : (txt l).size = l.length := txt_size l
      refine ⟨by omega, x2, by show 1 ≤ _; omega, ⟨by decide, by decide, by omega, by simp, fun i hi => absurd hi (by simp), by simp, fun j hj => absurd hj (by simp)⟩, fun z e => ?_⟩
      simp [textOf, wordT] at e
      subst e
      omega
  split at h
  · obtain ⟨a1, a2, a3, a4⟩ := listJ_ok H hL h
    exact ⟨by omega, a2, by omega, a4⟩
  split at h
  · obtain ⟨a1, a2, a3, a4⟩ := mapJ_ok H hL h
    exact ⟨by omega, a2, by omega, a4⟩
  · cases e : numJ L p with
    | none => simp [e] at h
    | some x =>
      obtain ⟨v, z⟩ := x
      simp only [e] at h
      obtain ⟨h1, h2, h3, h4⟩ := numJ_lt e
      by_cases hp : p ≤ L.length
      · exact leaf h1 (h2 hp) (by decide) (by omega) h
      · exfalso
        have := numJ_past (L := L) (p := p) (by omega)
        rw [this] at e
        cases e
theorem rdJ_ok (L : List UInt8) (hL : L.length ≤ 4000) : ∀ f, RdOk f L (rdJ L f) := by
  intro f
  induction f with
  | zero => intro p t q h; simp [rdJ] at h
  | succ f ih =>
    intro p t q h
    rw [rdJ] at h
    cases e : readJ L (rdJ L f) (skipJ L p) with
    | none => simp [e] at h
    | some x =>
      obtain ⟨t', z⟩ := x
      simp only [e, Option.some.injEq, Prod.mk.injEq] at h
      obtain ⟨rfl, rfl⟩ := h
      obtain ⟨a1, a2, a3, a4, a5⟩ := readJ_ok ih hL e
      have y1 : p ≤ skipJ L p := runJ_ge _ _ _
      have y2 : z ≤ skipJ L z := runJ_ge _ _ _
      exact ⟨by omega, runJ_le a2, by omega, a4, a5⟩
end Go.Proofs.Ytagcgnhpdmhegaa
