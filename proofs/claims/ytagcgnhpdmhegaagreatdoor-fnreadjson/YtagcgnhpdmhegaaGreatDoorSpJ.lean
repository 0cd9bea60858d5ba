/-
  Plain: what the specification reads as JSON is small, counts its nodes, and goes on; how a row of parts is read one by one.
-/
import Derived.Test.YtagcgnhpdmhegaaGreatDoorCbY
import Derived.Test.YtagcgnhpdmhegaaGreatDoorRdFr
import Derived.Test.YtagcgnhpdmhegaaGreatDoorSpF
import Derived.Test.YtagcgnhpdmhegaaGreatDoorDrL
namespace Go.Proofs.YtagcgnhpdmhegaaGreatDoor
open Go.RowKit
set_option linter.unusedSimpArgs false
set_option linter.unusedVariables false

theorem rowAt_old {l : List (List VN)} {ns : List VN} {i : Nat} (hi : i < l.length) : rowAt (l ++ [ns]) i = rowAt l i := by
  show (l ++ [ns]).getD i [] = l.getD i []
  rw [List.getD_eq_getElem?_getD, List.getD_eq_getElem?_getD, List.getElem?_append_left hi]
theorem rowAt_new {l : List (List VN)} {ns : List VN} : rowAt (l ++ [ns]) l.length = ns := by
  show (l ++ [ns]).getD l.length [] = ns
  rw [List.getD_eq_getElem?_getD, List.getElem?_append_right (Nat.le_refl _), Nat.sub_self]; rfl
theorem sumL_eqJ {A B : Nat → List VN} : ∀ {k : Nat}, (∀ i, i < k → A i = B i) → sumL A k = sumL B k := by
  intro k
  induction k with
  | zero => intro _; rfl
  | succ k ih => intro h; rw [sumL, sumL, ih (fun i hi => h i (by omega)), h k (by omega)]
theorem sumL_snoc (l : List (List VN)) (ns : List VN) : sumL (rowAt (l ++ [ns])) (l ++ [ns]).length = sumL (rowAt l) l.length + ns.length := by
  rw [List.length_append, List.length_cons, List.length_nil, Nat.zero_add, sumL, rowAt_new, sumL_eqJ (A := rowAt (l ++ [ns])) (B := rowAt l) (fun i hi => rowAt_old hi)]
/-- Rows that are small, with their sum. -/
structure RowsOk (c : Nat) (l : List (List VN)) (d : Nat) : Prop where
  sum : d = c + sumL (rowAt l) l.length
  top : d ≤ 80
  sm : ∀ i, i < l.length → SmNs (rowAt l i)
theorem RowsOk.start {c : Nat} (hc : c ≤ 80) : RowsOk c [] c := ⟨rfl, hc, fun i hi => absurd hi (by simp)⟩
theorem RowsOk.snoc {c d e : Nat} {l : List (List VN)} {ns : List VN} (h : RowsOk c l d) (h1 : SmNs ns) (h2 : e = d + ns.length) (h3 : e ≤ 80) : RowsOk c (l ++ [ns]) e := by
  refine ⟨by rw [sumL_snoc, h2, h.sum]; omega, h3, fun i hi => ?_⟩
  rw [List.length_append, List.length_cons, List.length_nil] at hi
  by_cases e : i = l.length
  · rw [e, rowAt_new]; exact h1
  · rw [rowAt_old (by omega)]; exact h.sm i (by omega)
theorem RowsOk.few {c d : Nat} {l : List (List VN)} (h : RowsOk c l d) : l.length + c ≤ 80 := by
  have := sumL_many (L := rowAt l) (m := l.length) (fun i hi => (h.sm i hi).1)
  have := h.sum
  have := h.top
  omega

/-- So many parts of a list are read, l; the next one is to be read at q. -/
structure ItP (L : List UInt8) (S : Nat → Nat → Option (List VN × Nat × Nat)) (p c : Nat) (l : List (List VN)) (q d : Nat) : Prop where
  pre : ∀ k, spItemsJ L S (l.length + k) p c = (spItemsJ L S k q d).map (fun y => (l ++ y.1, y.2.1, y.2.2))
  ok : RowsOk c l d
  far : p + l.length ≤ q
theorem ItP.start {L : List UInt8} {S : Nat → Nat → Option (List VN × Nat × Nat)} {p c : Nat} (hS : ∀ p c, S (skipJ L p) c = S p c) (hc : c ≤ 80) : ItP L S p c [] (skipJ L p) c := by
  refine ⟨fun k => ?_, RowsOk.start hc, by simp; exact runJ_ge _ _ _⟩
  have e : spItemsJ L S k (skipJ L p) c = spItemsJ L S k p c := by cases k with
    | zero => rfl
    | succ k => rw [spItemsJ, spItemsJ, hS]
  rw [e, List.length_nil, Nat.zero_add]
  cases spItemsJ L S k p c <;> simp
theorem ItP.next {L : List UInt8} {S : Nat → Nat → Option (List VN × Nat × Nat)} {p c : Nat} {l : List (List VN)} {q d : Nat} (h : ItP L S p c l q d) (HS : SpOk S) {ns : List VN} {z e : Nat} (hs : S q d = some (ns, z, e)) (h1 : isAt L z 93 = false) (h2 : isAt L z 44 = true) : ItP L S p c (l ++ [ns]) (z + 1) e := by
  obtain ⟨a1, a2, a3, a4⟩ := HS _ _ _ _ _ h.ok.top hs
  refine ⟨fun k => ?_, h.ok.snoc a1 a2 a3, by have := h.far; rw [List.length_append, List.length_cons, List.length_nil]; omega⟩
  rw [List.length_append, List.length_cons, List.length_nil, show l.length + (0 + 1) + k = l.length + (k + 1) by omega, h.pre, spItemsJ, hs]
  simp only [h1, h2, Bool.false_eq_true, if_false, if_true]
  cases spItemsJ L S k (z + 1) e <;> simp
theorem ItP.last {L : List UInt8} {S : Nat → Nat → Option (List VN × Nat × Nat)} {p c : Nat} {l : List (List VN)} {q d : Nat} (h : ItP L S p c l q d) (hq : q ≤ L.length) {ns : List VN} {z e : Nat} (hs : S q d = some (ns, z, e)) (h1 : isAt L z 93 = true) : spItemsJ L S (L.length + 1) p c = some (l ++ [ns], z + 1, e) := by
  have hf := h.far
  obtain ⟨k, hk⟩ : ∃ k, L.length + 1 = l.length + (k + 1) := ⟨L.length - l.length, by omega⟩
  rw [hk, h.pre, spItemsJ, hs]
  simp [h1]
theorem ItP.stop {L : List UInt8} {S : Nat → Nat → Option (List VN × Nat × Nat)} {p c : Nat} {l : List (List VN)} {q d : Nat} (h : ItP L S p c l q d) (hq : q ≤ L.length) (hs : S q d = none ∨ ∃ ns z e, S q d = some (ns, z, e) ∧ isAt L z 93 = false ∧ isAt L z 44 = false) : spItemsJ L S (L.length + 1) p c = none := by
  have hf := h.far
  obtain ⟨k, hk⟩ : ∃ k, L.length + 1 = l.length + (k + 1) := ⟨L.length - l.length, by omega⟩
  rw [hk, h.pre, spItemsJ]
  rcases hs with hs | ⟨ns, z, e, hs, h1, h2⟩
  · rw [hs]; rfl
  · rw [hs]; simp [h1, h2]

/-- So many parts of a map are read. -/
structure PtP (L : List UInt8) (S : Nat → Nat → Option (List VN × Nat × Nat)) (p c : Nat) (ks : List ByteArray) (l : List (List VN)) (q d : Nat) : Prop where
  pre : ∀ k, spPairsJ L S (l.length + k) p c = (spPairsJ L S k q d).map (fun y => (ks ++ y.1, l ++ y.2.1, y.2.2.1, y.2.2.2))
  ok : RowsOk c l d
  far : p + l.length ≤ q
  same : ks.length = l.length
  size : ∀ i, i < ks.length → (keyAt ks i).size ≤ 60
theorem keyS_skip (L : List UInt8) (p : Nat) : keyS L (skipJ L p) = keyS L p := by
  have e : skipJ L (skipJ L p) = skipJ L p := runJ_idem _ _ _
  unfold keyS keyR
  rw [e]
theorem keyS_ok {L : List UInt8} {p q : Nat} {s : ByteArray} (h : keyS L p = some (s, q)) : p < q ∧ q ≤ L.length ∧ s.size ≤ 60 := by
  unfold keyS at h
  cases e : keyR L p with
  | none => simp [e] at h
  | some x =>
    obtain ⟨s', q'⟩ := x
    simp only [e] at h
    split at h
    · rename_i h60
      simp only [Option.some.injEq, Prod.mk.injEq] at h
      obtain ⟨rfl, rfl⟩ := h
      obtain ⟨a, b, _⟩ := keyR_ok e
      exact ⟨a, b, h60⟩
    · cases h
theorem PtP.start {L : List UInt8} {S : Nat → Nat → Option (List VN × Nat × Nat)} {p c : Nat} (hc : c ≤ 80) : PtP L S p c [] [] (skipJ L p) c := by
  refine ⟨fun k => ?_, RowsOk.start hc, by simp; exact runJ_ge _ _ _, rfl, fun i hi => absurd hi (by simp)⟩
  have e : spPairsJ L S k (skipJ L p) c = spPairsJ L S k p c := by cases k with
    | zero => rfl
    | succ k => rw [spPairsJ, spPairsJ, keyS_skip]
  rw [e, List.length_nil, Nat.zero_add]
  cases spPairsJ L S k p c <;> simp
theorem keyAt_push {ks : List ByteArray} {s : ByteArray} {i : Nat} (hi : i < (ks ++ [s]).length) : keyAt (ks ++ [s]) i = if i = ks.length then s else keyAt ks i := by
  unfold keyAt
  rw [List.getD_eq_getElem?_getD, List.getD_eq_getElem?_getD]
  rw [List.length_append, List.length_cons, List.length_nil] at hi
  split
  · rename_i e; rw [e, List.getElem?_append_right (Nat.le_refl _), Nat.sub_self]; rfl
  · rw [List.getElem?_append_left (by omega)]
theorem keys_size {ks : List ByteArray} {s : ByteArray} (h : ∀ i, i < ks.length → (keyAt ks i).size ≤ 60) (hs : s.size ≤ 60) : ∀ i, i < (ks ++ [s]).length → (keyAt (ks ++ [s]) i).size ≤ 60 := fun i hi => by
  rw [keyAt_push hi]
  split
  · exact hs
  · exact h i (by rw [List.length_append, List.length_cons, List.length_nil] at hi; omega)
theorem PtP.next {L : List UInt8} {S : Nat → Nat → Option (List VN × Nat × Nat)} {p c : Nat} {ks : List ByteArray} {l : List (List VN)} {q d : Nat} (h : PtP L S p c ks l q d) (HS : SpOk S) {s : ByteArray} {q0 : Nat} {ns : List VN} {z e : Nat} (hk : keyS L q = some (s, q0)) (hs : S q0 d = some (ns, z, e)) (h1 : isAt L z 125 = false) (h2 : isAt L z 44 = true) : PtP L S p c (ks ++ [s]) (l ++ [ns]) (z + 1) e := by
  obtain ⟨a1, a2, a3, a4⟩ := HS _ _ _ _ _ h.ok.top hs
  obtain ⟨b1, b2, b3⟩ := keyS_ok hk
  refine ⟨fun k => ?_, h.ok.snoc a1 a2 a3, by have := h.far; rw [List.length_append, List.length_cons, List.length_nil]; omega, by simp [h.same], keys_size h.size b3⟩
  rw [List.length_append, List.length_cons, List.length_nil, show l.length + (0 + 1) + k = l.length + (k + 1) by omega, h.pre, spPairsJ, hk]
  simp only [hs, h1, h2, Bool.false_eq_true, if_false, if_true]
  cases spPairsJ L S k (z + 1) e <;> simp
theorem PtP.last {L : List UInt8} {S : Nat → Nat → Option (List VN × Nat × Nat)} {p c : Nat} {ks : List ByteArray} {l : List (List VN)} {q d : Nat} (h : PtP L S p c ks l q d) (hq : q ≤ L.length) {s : ByteArray} {q0 : Nat} {ns : List VN} {z e : Nat} (hk : keyS L q = some (s, q0)) (hs : S q0 d = some (ns, z, e)) (h1 : isAt L z 125 = true) : spPairsJ L S (L.length + 1) p c = some (ks ++ [s], l ++ [ns], z + 1, e) := by
  have hf := h.far
  obtain ⟨k, hk2⟩ : ∃ k, L.length + 1 = l.length + (k + 1) := ⟨L.length - l.length, by omega⟩
  rw [hk2, h.pre, spPairsJ, hk]
  simp [hs, h1]
theorem PtP.stop {L : List UInt8} {S : Nat → Nat → Option (List VN × Nat × Nat)} {p c : Nat} {ks : List ByteArray} {l : List (List VN)} {q d : Nat} (h : PtP L S p c ks l q d) (hq : q ≤ L.length) (hs : keyS L q = none ∨ ∃ s q0, keyS L q = some (s, q0) ∧ (S q0 d = none ∨ ∃ ns z e, S q0 d = some (ns, z, e) ∧ isAt L z 125 = false ∧ isAt L z 44 = false)) : spPairsJ L S (L.length + 1) p c = none := by
  have hf := h.far
  obtain ⟨k, hk⟩ : ∃ k, L.length + 1 = l.length + (k + 1) := ⟨L.length - l.length, by omega⟩
  rw [hk, h.pre, spPairsJ]
  rcases hs with hs | ⟨s, q0, hs, h2⟩
  · rw [hs]; rfl
  · rw [hs]
    rcases h2 with h2 | ⟨ns, z, e, h2, h3, h4⟩
    · simp [h2]
    · simp [h2, h3, h4]

theorem items_fineJ {L : List UInt8} {S : Nat → Nat → Option (List VN × Nat × Nat)} (H : SpOk S) : ∀ {k p c : Nat} {l : List (List VN)} {q d : Nat}, c ≤ 80 → spItemsJ L S k p c = some (l, q, d) → d = c + sumL (rowAt l) l.length ∧ d ≤ 80 ∧ (∀ i, i < l.length → SmNs (rowAt l i)) ∧ p < q := by
  intro k
  induction k with
  | zero => intro p c l q d hc h; cases h
  | succ k ih =>
    intro p c l q d hc h
    rw [spItemsJ] at h
    cases e1 : S p c with
    | none => simp [e1] at h
    | some x =>
      obtain ⟨n1, q1, d1⟩ := x
      simp only [e1] at h
      obtain ⟨a1, a2, a3, a4⟩ := H _ _ _ _ _ hc e1
      split at h
      · simp only [Option.some.injEq, Prod.mk.injEq] at h
        obtain ⟨rfl, rfl, rfl⟩ := h
        refine ⟨by rw [List.length_cons, sumL_cons]; simp [sumL]; exact a2, a3, fun i hi => ?_, by omega⟩
        obtain rfl : i = 0 := by simpa using hi
        exact a1
      · split at h
        · cases e2 : spItemsJ L S k (q1 + 1) d1 with
          | none => simp [e2] at h
          | some y =>
            obtain ⟨m, z, d2⟩ := y
            simp only [e2, Option.some.injEq, Prod.mk.injEq] at h
            obtain ⟨rfl, rfl, rfl⟩ := h
            obtain ⟨b1, b2, b3, b4⟩ := ih a3 e2
            refine ⟨by rw [List.length_cons, sumL_cons, rowAt_cons]; show d2 = c + (n1.length + _); omega, b2, fun i hi => ?_, by omega⟩
            cases i with
            | zero => exact a1
            | succ i => exact b3 i (by simpa using hi)
        · cases h
theorem pairs_fineJ {L : List UInt8} {S : Nat → Nat → Option (List VN × Nat × Nat)} (H : SpOk S) : ∀ {k p c : Nat} {ks : List ByteArray} {l : List (List VN)} {q d : Nat}, c ≤ 80 → spPairsJ L S k p c = some (ks, l, q, d) → d = c + sumL (rowAt l) l.length ∧ d ≤ 80 ∧ (∀ i, i < l.length → SmNs (rowAt l i)) ∧ p < q ∧ ks.length = l.length ∧ (∀ i, i < ks.length → (keyAt ks i).size ≤ 60) := by
  intro k
  induction k with
  | zero => intro p c ks l q d hc h; cases h
  | succ k ih =>
    intro p c ks l q d hc h
    rw [spPairsJ] at h
    cases e0 : keyS L p with
    | none => simp [e0] at h
    | some x0 =>
      obtain ⟨s, q0⟩ := x0
      simp only [e0] at h
      obtain ⟨k1, k2, k3⟩ := keyS_ok e0
      cases e1 : S q0 c with
      | none => simp [e1] at h
      | some x =>
        obtain ⟨n1, q1, d1⟩ := x
        simp only [e1] at h
        obtain ⟨a1, a2, a3, a4⟩ := H _ _ _ _ _ hc e1
        split at h
        · simp only [Option.some.injEq, Prod.mk.injEq] at h
          obtain ⟨rfl, rfl, rfl, rfl⟩ := h
          refine ⟨by rw [List.length_cons, sumL_cons]; simp [sumL]; exact a2, a3, fun i hi => ?_, by omega, rfl, fun i hi => ?_⟩
          · obtain rfl : i = 0 := by simpa using hi
            exact a1
          · obtain rfl : i = 0 := by simpa using hi
            exact k3
        · split at h
          · cases e2 : spPairsJ L S k (q1 + 1) d1 with
            | none => simp [e2] at h
            | some y =>
              obtain ⟨ks2, m, z, d2⟩ := y
              simp only [e2, Option.some.injEq, Prod.mk.injEq] at h
              obtain ⟨rfl, rfl, rfl, rfl⟩ := h
              obtain ⟨b1, b2, b3, b4, b5, b6⟩ := ih a3 e2
              refine ⟨by rw [List.length_cons, sumL_cons, rowAt_cons]; show d2 = c + (n1.length + _); omega, b2, fun i hi => ?_, by omega, by simp [b5], fun i hi => ?_⟩
              · cases i with
                | zero => exact a1
                | succ i => exact b3 i (by simpa using hi)
              · cases i with
                | zero => exact k3
                | succ i => exact b6 i (by simpa using hi)
          · cases h
theorem lay_leafN (k n : Int) (s : ByteArray) : layT 1 (.mk k n s [] []) 0 = leafN k n s := rfl
theorem sm_none {kind : Int} (h0 : 0 ≤ kind) (h6 : kind ≤ 6) : SmNs (makeNs kind [] (fun _ => []) 0) ∧ (makeNs kind [] (fun _ => []) 0).length = 1 := by
  refine ⟨sm_make (fun i hi => by omega) (by simp [catNs]) h0 h6 (by simp) (fun i hi => absurd hi (by simp)), by rw [make_len]; rfl⟩
theorem spListJ_fine {L : List UInt8} {S : Nat → Nat → Option (List VN × Nat × Nat)} (H : SpOk S) {deep p c : Nat} {ns : List VN} {q d : Nat} (h1 : 1 ≤ c) (hc : c ≤ 80) (h : spListJ L S deep p c = some (ns, q, d)) : SmNs ns ∧ d + 1 = c + ns.length ∧ d ≤ 80 ∧ p ≤ q := by
  have hsk := runJ_ge blankC L p
  unfold spListJ at h
  split at h
  · simp only [Option.some.injEq, Prod.mk.injEq] at h
    obtain ⟨rfl, rfl, rfl⟩ := h
    obtain ⟨a, b⟩ := sm_none (kind := 5) (by omega) (by omega)
    exact ⟨a, by omega, hc, by show p ≤ runJ blankC L p + 1; omega⟩
  · split at h
    · cases h
    · cases e : spItemsJ L S (L.length + 1) p c with
      | none => simp [e] at h
      | some x =>
        obtain ⟨l, z, d1⟩ := x
        simp only [e, Option.some.injEq, Prod.mk.injEq] at h
        obtain ⟨rfl, rfl, rfl⟩ := h
        obtain ⟨b1, b2, b3, b4⟩ := items_fineJ H hc e
        exact ⟨sm_make b3 (by rw [cat_sum]; omega) (by omega) (by omega) (by simp) (fun i hi => absurd hi (by simp)), by rw [make_len, cat_sum]; omega, b2, by omega⟩
theorem spMapJ_fine {L : List UInt8} {S : Nat → Nat → Option (List VN × Nat × Nat)} (H : SpOk S) {deep p c : Nat} {ns : List VN} {q d : Nat} (h1 : 1 ≤ c) (hc : c ≤ 80) (h : spMapJ L S deep p c = some (ns, q, d)) : SmNs ns ∧ d + 1 = c + ns.length ∧ d ≤ 80 ∧ p ≤ q := by
  have hsk := runJ_ge blankC L p
  unfold spMapJ at h
  split at h
  · simp only [Option.some.injEq, Prod.mk.injEq] at h
    obtain ⟨rfl, rfl, rfl⟩ := h
    obtain ⟨a, b⟩ := sm_none (kind := 6) (by omega) (by omega)
    exact ⟨a, by omega, hc, by show p ≤ runJ blankC L p + 1; omega⟩
  · split at h
    · cases h
    · cases e : spPairsJ L S (L.length + 1) p c with
      | none => simp [e] at h
      | some x =>
        obtain ⟨ks, l, z, d1⟩ := x
        simp only [e] at h
        cases es : sortIn ks ks.length with
        | none => simp [es] at h
        | some y =>
          obtain ⟨nk, ps⟩ := y
          simp only [es, Option.some.injEq, Prod.mk.injEq] at h
          obtain ⟨rfl, rfl, rfl⟩ := h
          obtain ⟨b1, b2, b3, b4, b5, b6⟩ := pairs_fineJ H hc e
          have hm := sumL_many (L := rowAt l) (m := l.length) (fun i hi => (b3 i hi).1)
          obtain ⟨s1, s2, s3, s4, s5, s6⟩ := sorted_fine es (l := l) (by rw [b5]; exact b3) b6 (by omega)
          exact ⟨sm_make s4 (by rw [s6, b5]; omega) (by omega) (by omega) (by omega) s5, by rw [make_len, s6, b5]; omega, b2, by omega⟩
theorem ok_json (L : List UInt8) : ∀ f deep, SpOk (spJ L f deep) := by
  intro f
  induction f with
  | zero => intro deep p c ns q d hc h; cases h
  | succ f ih =>
    intro deep p c ns q d hc h
    rw [spJ] at h
    split at h
    · cases h
    · rename_i h80
      cases e : spReadJ L (spJ L f (deep + 1)) (deep + 1) (skipJ L p) (c + 1) with
      | none => simp [e] at h
      | some x =>
        obtain ⟨n1, q1, d1⟩ := x
        simp only [e, Option.some.injEq, Prod.mk.injEq] at h
        obtain ⟨rfl, rfl, rfl⟩ := h
        have g1 : p ≤ skipJ L p := runJ_ge _ _ _
        have g2 : q1 ≤ skipJ L q1 := runJ_ge _ _ _
        have key : SmNs n1 ∧ d1 + 1 = c + 1 + n1.length ∧ d1 ≤ 80 ∧ skipJ L p < q1 := by
          have leaf : ∀ (k n : Int) (s : ByteArray) (z : Nat), 0 ≤ k → k ≤ 6 → -9223372036854775808 ≤ n → n ≤ 9223372036854775807 → s.size ≤ 60 → skipJ L p < z → some (layT 1 (.mk k n s [] []) 0, z, c + 1) = some (n1, q1, d1) → SmNs n1 ∧ d1 + 1 = c + 1 + n1.length ∧ d1 ≤ 80 ∧ skipJ L p < q1 := fun k n s z k0 k6 n0 n1' hs hz he => by
            rw [lay_leafN] at he
            simp only [Option.some.injEq, Prod.mk.injEq] at he
            obtain ⟨rfl, rfl, rfl⟩ := he
            exact ⟨sm_leaf ⟨k0, k6⟩ ⟨n0, n1'⟩ hs, by simp [leafN], by omega, hz⟩
          have he0 : ByteArray.empty.size ≤ 60 := by decide
          unfold spReadJ at e
          split at e
          · exact leaf 1 0 ByteArray.empty _ (by omega) (by omega) (by omega) (by omega) he0 (by omega) e
          split at e
          · exact leaf 2 1 ByteArray.empty _ (by omega) (by omega) (by omega) (by omega) he0 (by omega) e
          split at e
          · exact leaf 2 0 ByteArray.empty _ (by omega) (by omega) (by omega) (by omega) he0 (by omega) e
          split at e
          · cases et : txJ L (skipJ L p + 1) with
            | none => simp [et] at e
            | some y =>
              obtain ⟨l, z⟩ := y
              simp only [et] at e
              have hz := txJ_says (L.length - (skipJ L p + 1)) _ _ _ (Nat.le_refl _) et
              split at e
              · rename_i hl
                exact leaf 4 0 (txt l) z (by omega) (by omega) (by omega) (by omega) (by rw [txt_size]; exact hl) (by omega) e
              · cases e
          split at e
          · obtain ⟨a1, a2, a3, a4⟩ := spListJ_fine (ih (deep + 1)) (by omega) (by omega) e
            exact ⟨a1, a2, a3, by omega⟩
          split at e
          · obtain ⟨a1, a2, a3, a4⟩ := spMapJ_fine (ih (deep + 1)) (by omega) (by omega) e
            exact ⟨a1, a2, a3, by omega⟩
          · cases et : numJ L (skipJ L p) with
            | none => simp [et] at e
            | some y =>
              obtain ⟨v, z⟩ := y
              simp only [et] at e
              obtain ⟨b1, b2, b3, b4⟩ := numJ_lt et
              exact leaf 3 v ByteArray.empty z (by omega) (by omega) (by omega) (by omega) he0 b1 e
        obtain ⟨k1, k2, k3, k4⟩ := key
        exact ⟨k1, by omega, k3, by omega⟩
end Go.Proofs.YtagcgnhpdmhegaaGreatDoor
