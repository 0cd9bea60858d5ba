/-
  Plain: a blank ahead of a text and a line's end behind it change nothing of the value that is read.
-/
import Derived.Test.YtagcgnhpdmhegaaGreatDoorJrR
import Derived.Test.YtagcgnhpdmhegaaGreatDoorRdFr
namespace Go.Proofs.YtagcgnhpdmhegaaGreatDoor
open Go.RowKit
set_option linter.unusedSimpArgs false
set_option linter.unusedVariables false

def arnd (L : List UInt8) : List UInt8 := 32 :: (L ++ [10])
theorem arnd_len (L : List UInt8) : (arnd L).length = L.length + 2 := by unfold arnd; simp
theorem arnd_at {L : List UInt8} {j : Nat} (h : j < L.length) : byAt (arnd L) (j + 1) = byAt L j := by
  unfold arnd byAt
  rw [List.getD_eq_getElem?_getD, List.getD_eq_getElem?_getD, List.getElem?_cons_succ, List.getElem?_append_left h]
theorem arnd_end (L : List UInt8) : byAt (arnd L) (L.length + 1) = 10 := by
  unfold arnd byAt
  rw [List.getD_eq_getElem?_getD, List.getElem?_cons_succ, List.getElem?_append_right (Nat.le_refl _), Nat.sub_self]; rfl
theorem arnd_is {L : List UInt8} {j c : Nat} (hc : c ≠ 10) : isAt (arnd L) (j + 1) c = isAt L j c := by
  unfold isAt
  rw [arnd_len]
  rcases Nat.lt_trichotomy j L.length with h | h | h
  · rw [arnd_at h]; simp [h]; omega
  · rw [h, arnd_end]; simp; omega
  · have e1 : ¬ j + 1 < L.length + 2 := by omega
    have e2 : ¬ j < L.length := by omega
    simp [e1, e2]
theorem arnd_drop {L : List UInt8} {p : Nat} (h : p ≤ L.length) : (arnd L).drop (p + 1) = L.drop p ++ [10] := by
  unfold arnd
  rw [List.drop_succ_cons, List.drop_append_of_le_length h]
theorem arnd_word {L w : List UInt8} {p : Nat} (h : p ≤ L.length) (hw : (10 : UInt8) ∉ w) : wordAt (arnd L) (p + 1) w = wordAt L p w := by
  unfold wordAt
  rw [arnd_drop h]
  by_cases hl : w.length ≤ (L.drop p).length
  · rw [List.take_append_of_le_length hl]
  · have e1 : ¬ (L.drop p).take w.length = w := fun e => by
      have := congrArg List.length e
      rw [List.length_take] at this
      omega
    have e2 : ¬ (L.drop p ++ [10]).take w.length = w := fun e => by
      rw [List.take_of_length_le (by rw [List.length_append, List.length_cons, List.length_nil]; omega)] at e
      exact hw (by rw [← e]; simp)
    simp [e1, e2]
theorem arnd_run {P : Nat → Bool} {L : List UInt8} : ∀ m p, L.length - p ≤ m → p ≤ L.length → runJ P (arnd L) (p + 1) = if runJ P L p < L.length then runJ P L p + 1 else runJ P (arnd L) (L.length + 1) := by
  intro m
  induction m with
  | zero =>
    intro p h1 h2
    obtain rfl : p = L.length := by omega
    rw [runJ_past (Nat.le_refl _), if_neg (by omega)]
  | succ m ih =>
    intro p h1 h2
    by_cases hp : p < L.length
    · by_cases hb : P (byAt L p) = true
      · rw [runJ_yes (L := arnd L) (by rw [arnd_len]; omega) (by rw [arnd_at hp]; exact hb), runJ_yes hp hb]
        exact ih (p + 1) (by omega) (by omega)
      · rw [runJ_no (L := arnd L) (fun e => by have := e.2; rw [arnd_at hp] at this; exact hb this), runJ_no (fun e => hb e.2), if_pos hp]
    · obtain rfl : p = L.length := by omega
      rw [runJ_past (Nat.le_refl _), if_neg (by omega)]
/-- Where a place behind blanks has gone. -/
def nxA (L : List UInt8) (q : Nat) : Nat := if q < L.length then q + 1 else L.length + 2
theorem arnd_skip {L : List UInt8} {p : Nat} (h : p ≤ L.length) : skipJ (arnd L) (p + 1) = nxA L (skipJ L p) := by
  have e : runJ blankC (arnd L) (L.length + 1) = L.length + 2 := by
    rw [runJ_yes (by rw [arnd_len]; omega) (by rw [arnd_end]; rfl), runJ_past (by rw [arnd_len]; omega)]
  have := arnd_run (P := blankC) (L := L) (L.length - p) p (Nat.le_refl _) h
  unfold nxA
  show runJ blankC (arnd L) (p + 1) = if runJ blankC L p < L.length then runJ blankC L p + 1 else L.length + 2
  rw [this, e]
theorem arnd_dig {L : List UInt8} {p : Nat} (h : p ≤ L.length) : dgJ (arnd L) (p + 1) = dgJ L p + 1 := by
  have e : runJ digC (arnd L) (L.length + 1) = L.length + 1 := runJ_no (by rw [arnd_end]; intro e; cases e.2)
  have := arnd_run (P := digC) (L := L) (L.length - p) p (Nat.le_refl _) h
  show runJ digC (arnd L) (p + 1) = runJ digC L p + 1
  rw [this, e]
  have hle : runJ digC L p ≤ L.length := runJ_le h
  split
  · rfl
  · omega
theorem arnd_val {L : List UInt8} {p : Nat} : ∀ {k : Nat}, p + k ≤ L.length → valF (arnd L) (p + 1) k = valF L p k := by
  intro k
  induction k with
  | zero => intro _; rfl
  | succ k ih => intro h; rw [valF, valF, ih (by omega), show p + 1 + k = p + k + 1 by omega, arnd_at (by omega)]
theorem arnd_num {L : List UInt8} {p q : Nat} {v : Int} (hp : p ≤ L.length) (h : numJ L p = some (v, q)) : numJ (arnd L) (p + 1) = some (v, q + 1) := by
  have hna : numAt (arnd L) (p + 1) = numAt L p + 1 := by unfold numAt; rw [arnd_is (by omega)]; split <;> rfl
  have hnl : numAt L p ≤ L.length := by
    unfold numAt
    split
    · rename_i e; have := (isAt_yes.1 e).1; omega
    · exact hp
  have hge : numAt L p ≤ dgJ L (numAt L p) := runJ_ge _ _ _
  have hle : dgJ L (numAt L p) ≤ L.length := runJ_le hnl
  unfold numJ at h ⊢
  rw [hna, arnd_dig hnl, arnd_is (by omega), show dgJ L (numAt L p) + 1 - (numAt L p + 1) = dgJ L (numAt L p) - numAt L p by omega, arnd_val (by omega)]
  split at h
  · cases h
  · rename_i hn
    simp only [Option.some.injEq, Prod.mk.injEq] at h
    obtain ⟨rfl, rfl⟩ := h
    rw [if_neg]
    rintro (e | ⟨e1, e2⟩ | e)
    · exact hn (.inl (by omega))
    · refine hn (.inr (.inl ⟨by omega, ?_⟩))
      rw [arnd_at (by omega)] at e2
      exact e2
    · exact hn (.inr (.inr e))
theorem arnd_hex {L : List UInt8} {p : Nat} : ∀ {k : Nat}, p + k ≤ L.length → hexF (arnd L) (p + 1) k = hexF L p k := by
  intro k
  induction k with
  | zero => intro _; rfl
  | succ k ih => intro h; rw [hexF, hexF, ih (by omega), show p + 1 + k = p + k + 1 by omega, arnd_at (by omega)]
theorem arnd_esc {L : List UInt8} {p b z : Nat} (h : escJ L p = some (b, z)) : escJ (arnd L) (p + 1) = some (b, z + 1) := by
  have hs := escJ_says h
  unfold escJ at h ⊢
  rw [if_neg (by omega)] at h
  rw [arnd_len, if_neg (by omega), arnd_at (by omega)]
  cases e : escC (byAt L p) with
  | some x =>
    simp only [e, Option.some.injEq, Prod.mk.injEq] at h ⊢
    obtain ⟨rfl, rfl⟩ := h
    exact ⟨rfl, rfl⟩
  | none =>
    simp only [e] at h ⊢
    split at h
    · rename_i h117
      rw [if_pos h117]
      unfold codeJ at h ⊢
      split at h
      · cases h
      · rename_i h4
        rw [arnd_len, if_neg (by omega), arnd_hex (by omega)]
        cases e2 : hexF L (p + 1) 4 with
        | none => simp [e2] at h
        | some v =>
          simp only [e2] at h ⊢
          split at h
          · cases h
          · rename_i hv
            rw [if_neg hv]
            simp only [Option.some.injEq, Prod.mk.injEq] at h ⊢
            obtain ⟨rfl, rfl⟩ := h
            exact ⟨rfl, by omega⟩
    · cases h
theorem arnd_tx {L : List UInt8} : ∀ m p l q, L.length - p ≤ m → txJ L p = some (l, q) → txJ (arnd L) (p + 1) = some (l, q + 1) := by
  intro m
  induction m with
  | zero => intro p l q h e; rw [txJ_past (by omega)] at e; cases e
  | succ m ih =>
    intro p l q h e
    by_cases hp : L.length ≤ p
    · rw [txJ_past hp] at e; cases e
    · rw [txJ_eq (by omega)] at e
      rw [txJ_eq (by rw [arnd_len]; omega), arnd_at (by omega)]
      split at e
      · rename_i h34
        rw [if_pos h34]
        simp only [Option.some.injEq, Prod.mk.injEq] at e
        obtain ⟨rfl, rfl⟩ := e
        rfl
      · rename_i h34
        rw [if_neg h34]
        split at e
        · rename_i h92
          rw [if_pos h92]
          cases e1 : escJ L (p + 1) with
          | none => simp [e1] at e
          | some x =>
            obtain ⟨b, z⟩ := x
            have hz := escJ_says e1
            simp only [e1] at e
            rw [arnd_esc e1]
            cases e2 : txJ L z with
            | none => simp [e2] at e
            | some y =>
              obtain ⟨l2, z2⟩ := y
              simp only [e2, Option.some.injEq, Prod.mk.injEq] at e
              obtain ⟨rfl, rfl⟩ := e
              simp only [ih z l2 z2 (by omega) e2]
        · rename_i h92
          rw [if_neg h92]
          split at e
          · cases e
          · rename_i hr
            rw [if_neg hr]
            cases e2 : txJ L (p + 1) with
            | none => simp [e2] at e
            | some y =>
              obtain ⟨l2, z2⟩ := y
              simp only [e2, Option.some.injEq, Prod.mk.injEq] at e
              obtain ⟨rfl, rfl⟩ := e
              simp only [ih (p + 1) l2 z2 (by omega) e2]
/-- What is read, is read so with the blanks around, from one place on. -/
def ArndR (L : List UInt8) (R R' : Nat → Option (VT × Nat)) : Prop := ∀ p t q, p ≤ L.length → R p = some (t, q) → q ≤ L.length ∧ R' (p + 1) = some (t, nxA L q)
theorem nxA_at {L : List UInt8} {q c : Nat} (h : isAt L q c = true) : nxA L q = q + 1 := by unfold nxA; rw [if_pos (isAt_yes.1 h).1]
theorem nxA_is {L : List UInt8} {q c : Nat} (hq : q ≤ L.length) (hc : c ≠ 10) : isAt (arnd L) (nxA L q) c = isAt L q c := by
  unfold nxA
  split
  · exact arnd_is hc
  · have e : q = L.length := by omega
    rw [e]
    unfold isAt
    rw [arnd_len]
    simp
theorem arnd_items {L : List UInt8} {R R' : Nat → Option (VT × Nat)} (H : ArndR L R R') : ∀ k k' p l q, k ≤ k' → p ≤ L.length → itemsJ L R k p = some (l, q) → q ≤ L.length ∧ itemsJ (arnd L) R' k' (p + 1) = some (l, q + 1) := by
  intro k
  induction k with
  | zero => intro k' p l q _ _ h; cases h
  | succ k ih =>
    intro k' p l q hk hp h
    obtain ⟨k', rfl⟩ : ∃ j, k' = j + 1 := ⟨k' - 1, by omega⟩
    rw [itemsJ] at h
    cases e : R p with
    | none => simp [e] at h
    | some x =>
      obtain ⟨t, z⟩ := x
      simp only [e] at h
      obtain ⟨hz, hR⟩ := H p t z hp e
      rw [itemsJ, hR]
      dsimp only
      rw [nxA_is hz (by omega), nxA_is hz (by omega)]
      split at h
      · rename_i h93
        rw [if_pos h93, nxA_at h93]
        have := (isAt_yes.1 h93).1
        simp only [Option.some.injEq, Prod.mk.injEq] at h ⊢
        obtain ⟨rfl, rfl⟩ := h
        exact ⟨by omega, rfl, rfl⟩
      · rename_i h93
        rw [if_neg h93]
        split at h
        · rename_i h44
          rw [if_pos h44, nxA_at h44]
          have := (isAt_yes.1 h44).1
          cases e2 : itemsJ L R k (z + 1) with
          | none => simp [e2] at h
          | some y =>
            obtain ⟨l2, z2⟩ := y
            simp only [e2, Option.some.injEq, Prod.mk.injEq] at h
            obtain ⟨rfl, rfl⟩ := h
            obtain ⟨a, b⟩ := ih k' (z + 1) l2 z2 (by omega) (by omega) e2
            exact ⟨a, by rw [b]⟩
        · cases h
theorem arnd_key {L : List UInt8} {p q : Nat} {s : ByteArray} (hp : p ≤ L.length) (h : keyR L p = some (s, q)) : q ≤ L.length ∧ keyR (arnd L) (p + 1) = some (s, q + 1) := by
  have hq := (keyR_ok h).2.1
  refine ⟨hq, ?_⟩
  unfold keyR at h ⊢
  split at h
  · rename_i h34
    have h1 : skipJ (arnd L) (p + 1) = skipJ L p + 1 := by rw [arnd_skip hp, nxA_at h34]
    rw [h1, arnd_is (by omega), if_pos h34]
    cases e : txJ L (skipJ L p + 1) with
    | none => simp [e] at h
    | some x =>
      obtain ⟨l, z⟩ := x
      simp only [e] at h
      have hz := txJ_says (L.length - (skipJ L p + 1)) _ _ _ (Nat.le_refl _) e
      rw [arnd_tx _ _ _ _ (Nat.le_refl _) e]
      dsimp only
      split at h
      · rename_i h58
        have h2 : skipJ (arnd L) (z + 1) = skipJ L z + 1 := by rw [arnd_skip hz.2.1, nxA_at h58]
        rw [h2, arnd_is (by omega), if_pos h58]
        simp only [Option.some.injEq, Prod.mk.injEq] at h ⊢
        obtain ⟨rfl, rfl⟩ := h
        exact ⟨rfl, rfl⟩
      · cases h
  · cases h
theorem arnd_pairs {L : List UInt8} {R R' : Nat → Option (VT × Nat)} (H : ArndR L R R') : ∀ k k' p ks l q, k ≤ k' → p ≤ L.length → pairsJ L R k p = some (ks, l, q) → q ≤ L.length ∧ pairsJ (arnd L) R' k' (p + 1) = some (ks, l, q + 1) := by
  intro k
  induction k with
  | zero => intro k' p ks l q _ _ h; cases h
  | succ k ih =>
    intro k' p ks l q hk hp h
    obtain ⟨k', rfl⟩ : ∃ j, k' = j + 1 := ⟨k' - 1, by omega⟩
    rw [pairsJ] at h
    cases e0 : keyR L p with
    | none => simp [e0] at h
    | some x0 =>
      obtain ⟨s, q0⟩ := x0
      simp only [e0] at h
      obtain ⟨hq0, hk0⟩ := arnd_key hp e0
      cases e : R q0 with
      | none => simp [e] at h
      | some x =>
        obtain ⟨t, z⟩ := x
        simp only [e] at h
        obtain ⟨hz, hR⟩ := H q0 t z hq0 e
        rw [pairsJ, hk0]
        dsimp only
        rw [hR]
        dsimp only
        rw [nxA_is hz (by omega), nxA_is hz (by omega)]
        split at h
        · rename_i h93
          rw [if_pos h93, nxA_at h93]
          have := (isAt_yes.1 h93).1
          simp only [Option.some.injEq, Prod.mk.injEq] at h ⊢
          obtain ⟨rfl, rfl, rfl⟩ := h
          exact ⟨by omega, rfl, rfl, rfl⟩
        · rename_i h93
          rw [if_neg h93]
          split at h
          · rename_i h44
            rw [if_pos h44, nxA_at h44]
            have := (isAt_yes.1 h44).1
            cases e2 : pairsJ L R k (z + 1) with
            | none => simp [e2] at h
            | some y =>
              obtain ⟨ks2, l2, z2⟩ := y
              simp only [e2, Option.some.injEq, Prod.mk.injEq] at h
              obtain ⟨rfl, rfl, rfl⟩ := h
              obtain ⟨a, b⟩ := ih k' (z + 1) ks2 l2 z2 (by omega) (by omega) e2
              exact ⟨a, by rw [b]⟩
          · cases h
theorem arnd_list {L : List UInt8} {R R' : Nat → Option (VT × Nat)} (H : ArndR L R R') {p q : Nat} {t : VT} (hp : p ≤ L.length) (h : listJ L R p = some (t, q)) : q ≤ L.length ∧ listJ (arnd L) R' (p + 1) = some (t, q + 1) := by
  unfold listJ at h ⊢
  have hsl : skipJ L p ≤ L.length := runJ_le hp
  rw [arnd_skip hp, nxA_is hsl (by omega)]
  split at h
  · rename_i h93
    rw [if_pos h93, nxA_at h93]
    have := (isAt_yes.1 h93).1
    simp only [Option.some.injEq, Prod.mk.injEq] at h ⊢
    obtain ⟨rfl, rfl⟩ := h
    exact ⟨by omega, rfl, rfl⟩
  · rename_i h93
    rw [if_neg h93, arnd_len]
    cases e : itemsJ L R (L.length + 1) p with
    | none => simp [e] at h
    | some x =>
      obtain ⟨l, z⟩ := x
      simp only [e, Option.some.injEq, Prod.mk.injEq] at h
      obtain ⟨rfl, rfl⟩ := h
      obtain ⟨a, b⟩ := arnd_items H _ (L.length + 2 + 1) p l z (by omega) hp e
      exact ⟨a, by rw [b]⟩
theorem arnd_map {L : List UInt8} {R R' : Nat → Option (VT × Nat)} (H : ArndR L R R') {p q : Nat} {t : VT} (hp : p ≤ L.length) (h : mapJ L R p = some (t, q)) : q ≤ L.length ∧ mapJ (arnd L) R' (p + 1) = some (t, q + 1) := by
  unfold mapJ at h ⊢
  have hsl : skipJ L p ≤ L.length := runJ_le hp
  rw [arnd_skip hp, nxA_is hsl (by omega)]
  split at h
  · rename_i h93
    rw [if_pos h93, nxA_at h93]
    have := (isAt_yes.1 h93).1
    simp only [Option.some.injEq, Prod.mk.injEq] at h ⊢
    obtain ⟨rfl, rfl⟩ := h
    exact ⟨by omega, rfl, rfl⟩
  · rename_i h93
    rw [if_neg h93, arnd_len]
    cases e : pairsJ L R (L.length + 1) p with
    | none => simp [e] at h
    | some x =>
      obtain ⟨ks, l, z⟩ := x
      simp only [e, Option.some.injEq, Prod.mk.injEq] at h
      obtain ⟨rfl, rfl⟩ := h
      obtain ⟨a, b⟩ := arnd_pairs H _ (L.length + 2 + 1) p ks l z (by omega) hp e
      exact ⟨a, by rw [b]⟩
theorem arnd_read {L : List UInt8} {R R' : Nat → Option (VT × Nat)} (H : ArndR L R R') {p q : Nat} {t : VT} (hp : p ≤ L.length) (h : readJ L R p = some (t, q)) : q ≤ L.length ∧ readJ (arnd L) R' (p + 1) = some (t, q + 1) := by
  unfold readJ at h ⊢
  have n1 : (10 : UInt8) ∉ nullW := by decide
  have n2 : (10 : UInt8) ∉ trueW := by decide
  have n3 : (10 : UInt8) ∉ falseW := by decide
  rw [arnd_word hp n1, arnd_word hp n2, arnd_word hp n3, arnd_is (by omega), arnd_is (by omega), arnd_is (by omega)]
  split at h
  · rename_i e
    have := wordAt_le e (by decide)
    rw [if_pos e]
    simp only [Option.some.injEq, Prod.mk.injEq] at h ⊢
    obtain ⟨rfl, rfl⟩ := h
    exact ⟨this, rfl, by omega⟩
  rename_i e1
  rw [if_neg e1]
  split at h
  · rename_i e
    have := wordAt_le e (by decide)
    rw [if_pos e]
    simp only [Option.some.injEq, Prod.mk.injEq] at h ⊢
    obtain ⟨rfl, rfl⟩ := h
    exact ⟨this, rfl, by omega⟩
  rename_i e2
  rw [if_neg e2]
  split at h
  · rename_i e
    have := wordAt_le e (by decide)
    rw [if_pos e]
    simp only [Option.some.injEq, Prod.mk.injEq] at h ⊢
    obtain ⟨rfl, rfl⟩ := h
    exact ⟨this, rfl, by omega⟩
  rename_i e3
  rw [if_neg e3]
  split at h
  · rename_i e
    rw [if_pos e]
    cases et : txJ L (p + 1) with
    | none => simp [et] at h
    | some x =>
      obtain ⟨l, z⟩ := x
      have hz := txJ_says (L.length - (p + 1)) _ _ _ (Nat.le_refl _) et
      simp only [et, Option.some.injEq, Prod.mk.injEq] at h
      obtain ⟨rfl, rfl⟩ := h
      rw [arnd_tx _ _ _ _ (Nat.le_refl _) et]
      exact ⟨hz.2.1, rfl⟩
  rename_i e4
  rw [if_neg e4]
  split at h
  · rename_i e
    rw [if_pos e]
    exact arnd_list H (by have := (isAt_yes.1 e).1; omega) h
  rename_i e5
  rw [if_neg e5]
  split at h
  · rename_i e
    rw [if_pos e]
    exact arnd_map H (by have := (isAt_yes.1 e).1; omega) h
  rename_i e6
  rw [if_neg e6]
  cases et : numJ L p with
  | none => simp [et] at h
  | some x =>
    obtain ⟨v, z⟩ := x
    simp only [et, Option.some.injEq, Prod.mk.injEq] at h
    obtain ⟨rfl, rfl⟩ := h
    rw [arnd_num hp et]
    exact ⟨(numJ_lt et).2.1 hp, rfl⟩
theorem readJ_in {L : List UInt8} {R R' : Nat → Option (VT × Nat)} (H : ArndR L R R') {p q : Nat} {t : VT} (hp : p ≤ L.length) (h : readJ L R p = some (t, q)) : p < L.length := by
  rcases Nat.lt_or_ge p L.length with h1 | h1
  · exact h1
  · exfalso
    have e : p = L.length := by omega
    have w0 : ∀ (c : UInt8) (w : List UInt8), ¬ wordAt L p (c :: w) = true := fun c w hw => by have := (isAt_yes.1 (wordAt_first hw)).1; omega
    have a0 : ∀ c, ¬ isAt L p c = true := fun c hc => by have := (isAt_yes.1 hc).1; omega
    unfold readJ at h
    have v1 : ¬ wordAt L p nullW = true := w0 _ _
    have v2 : ¬ wordAt L p trueW = true := w0 _ _
    have v3 : ¬ wordAt L p falseW = true := w0 _ _
    rw [if_neg v1, if_neg v2, if_neg v3, if_neg (a0 _), if_neg (a0 _), if_neg (a0 _), numJ_past (by omega)] at h
    cases h
theorem arnd_rd (L : List UInt8) : ∀ f f', f ≤ f' → ArndR L (rdJ L f) (rdJ (arnd L) f') := by
  intro f
  induction f with
  | zero => intro f' _ p t q _ h; cases h
  | succ f ih =>
    intro f' hf p t q hp h
    obtain ⟨f', rfl⟩ : ∃ j, f' = j + 1 := ⟨f' - 1, by omega⟩
    have H := ih f' (by omega)
    rw [rdJ] at h
    have hsl : skipJ L p ≤ L.length := runJ_le hp
    cases e : readJ L (rdJ L f) (skipJ L p) with
    | none => simp [e] at h
    | some x =>
      obtain ⟨t', z⟩ := x
      simp only [e, Option.some.injEq, Prod.mk.injEq] at h
      obtain ⟨rfl, rfl⟩ := h
      have hin := readJ_in H hsl e
      obtain ⟨hz, hR⟩ := arnd_read H hsl e
      refine ⟨runJ_le hz, ?_⟩
      have hsk : skipJ (arnd L) (p + 1) = skipJ L p + 1 := by rw [arnd_skip hp]; unfold nxA; rw [if_pos hin]
      rw [rdJ, hsk, hR]
      dsimp only
      rw [arnd_skip hz]
end Go.Proofs.YtagcgnhpdmhegaaGreatDoor
