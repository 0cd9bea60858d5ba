/-
  Plain: rows read by the program and by the specification say the same, if the values in them do.
-/
import Derived.Test.YtagcgnhpdmhegaaGreatDoorRdB
namespace Go.Proofs.YtagcgnhpdmhegaaGreatDoor
open Go.RowKit
set_option linter.unusedSimpArgs false
set_option linter.unusedVariables false

/-- A node among these is wrong by itself. -/
def Wrong (ns : List VN) : Prop := ∃ j, j < ns.length ∧ nodeB (nodeAt ns j) = false
/-- No right value has this tree so deep, behind so many nodes. -/
def Doom (f c deep : Nat) (t : VT) : Prop := ¬ goodT f t ∨ 80 < c + (layT f t 0).length ∨ 8 < deep + hiT f t
structure RelV (f deep : Nat) (R : Nat → Option (VT × Nat)) (S : Nat → Nat → Option (List VN × Nat × Nat)) : Prop where
  full : ∀ p t q, R p = some (t, q) → FullT f t
  yes : ∀ p c ns q d, c ≤ 80 → S p c = some (ns, q, d) → d = c + ns.length ∧ d ≤ 80 ∧ 1 ≤ ns.length ∧ ((∃ t, R p = some (t, q) ∧ ns = layT f t 0) ∨ (R p = none ∧ Wrong ns))
  no : ∀ p c, c ≤ 80 → S p c = none → R p = none ∨ ∃ t q, R p = some (t, q) ∧ Doom f c deep t
structure RelW (R : Nat → Option (VT × Nat)) (W : Nat → Option (ByteArray × Nat)) : Prop where
  yes : ∀ p s q, W p = some (s, q) → ∃ t, R p = some (t, q) ∧ textOf t = some s
  no : ∀ p, W p = none → R p = none ∨ ∃ t q, R p = some (t, q) ∧ (textOf t = none ∨ ∃ s, textOf t = some s ∧ textB s = false)

theorem sumL_cons (L : Nat → List VN) (k : Nat) : sumL L (k + 1) = (L 0).length + sumL (fun i => L (i + 1)) k := by
  induction k with
  | zero => simp [sumL]
  | succ k ih => rw [sumL, ih, sumL]; omega
theorem rowAt_cons (ns : List VN) (l : List (List VN)) : (fun i => rowAt (ns :: l) (i + 1)) = rowAt l := by funext i; rfl
theorem kid_cons (t : VT) (l : List VT) (i : Nat) : kidT (t :: l) (i + 1) = kidT l i := rfl
theorem rdItems_eq (R : Nat → Option (VT × Nat)) (k p : Nat) : rdItems R (k + 1) p = match R p with | none => none | some (t, q) => match rdItems R k q with | none => none | some (l, r) => some (t :: l, r) := rfl

theorem items_full {f : Nat} {R : Nat → Option (VT × Nat)} (H : ∀ p t q, R p = some (t, q) → FullT f t) : ∀ {k p : Nat} {l : List VT} {q : Nat}, rdItems R k p = some (l, q) → ∀ i, i < k → FullT f (kidT l i) := by
  intro k
  induction k with
  | zero => intro p l q _ i hi; omega
  | succ k ih =>
    intro p l q h i hi
    rw [rdItems] at h
    cases e : R p with
    | none => simp [e] at h
    | some x =>
      obtain ⟨t, z⟩ := x
      simp only [e] at h
      cases e2 : rdItems R k z with
      | none => simp [e2] at h
      | some y =>
        simp only [e2, Option.some.injEq, Prod.mk.injEq] at h
        obtain ⟨rfl, rfl⟩ := h
        cases i with
        | zero => exact H _ _ _ e
        | succ i => exact ih e2 i (by omega)
theorem pairs_full {f : Nat} {R : Nat → Option (VT × Nat)} (H : ∀ p t q, R p = some (t, q) → FullT f t) : ∀ {k p : Nat} {ks : List ByteArray} {l : List VT} {q : Nat}, rdPairs R k p = some (ks, l, q) → ks.length = k ∧ l.length = k ∧ ∀ i, i < k → FullT f (kidT l i) := by
  intro k
  induction k with
  | zero => intro p ks l q h; simp [rdPairs] at h; obtain ⟨rfl, rfl, rfl⟩ := h; exact ⟨rfl, rfl, fun i hi => by omega⟩
  | succ k ih =>
    intro p ks l q h
    rw [rdPairs] at h
    cases e : R p with
    | none => simp [e] at h
    | some x =>
      obtain ⟨t1, q1⟩ := x
      simp only [e] at h
      cases e1 : textOf t1 with
      | none => simp [e1] at h
      | some s1 =>
        simp only [e1] at h
        cases e2 : R q1 with
        | none => simp [e2] at h
        | some y =>
          obtain ⟨u1, r1⟩ := y
          simp only [e2] at h
          cases e3 : rdPairs R k r1 with
          | none => simp [e3] at h
          | some y =>
            obtain ⟨k1, m, z2⟩ := y
            simp only [e3, Option.some.injEq, Prod.mk.injEq] at h
            obtain ⟨rfl, rfl, rfl⟩ := h
            obtain ⟨h1, h2, h3⟩ := ih e3
            refine ⟨by simp [h1], by simp [h2], fun i hi => ?_⟩
            cases i with
            | zero => exact H _ _ _ e2
            | succ i => exact h3 i (by omega)

theorem items_yes {f deep : Nat} {R : Nat → Option (VT × Nat)} {S : Nat → Nat → Option (List VN × Nat × Nat)} (H : RelV f deep R S) : ∀ {k p c : Nat} {l : List (List VN)} {q d : Nat}, c ≤ 80 → spItems S k p c = some (l, q, d) →
    d = c + sumL (rowAt l) k ∧ d ≤ 80 ∧ l.length = k ∧ (∀ i, i < k → 1 ≤ (rowAt l i).length) ∧ ((∃ ts, rdItems R k p = some (ts, q) ∧ ∀ i, i < k → rowAt l i = layT f (kidT ts i) 0) ∨ (rdItems R k p = none ∧ ∃ i, i < k ∧ Wrong (rowAt l i))) := by
  intro k
  induction k with
  | zero =>
    intro p c l q d hc h
    simp [spItems] at h
    obtain ⟨rfl, rfl, rfl⟩ := h
    exact ⟨rfl, hc, rfl, fun i hi => by omega, .inl ⟨[], rfl, fun i hi => by omega⟩⟩
  | succ k ih =>
    intro p c l q d hc h
    rw [spItems] at h
    cases e1 : S p c with
    | none => simp [e1] at h
    | some x =>
      obtain ⟨n1, q1, d1⟩ := x
      simp only [e1] at h
      cases e2 : spItems S k q1 d1 with
      | none => simp [e2] at h
      | some y =>
        obtain ⟨m, z, d2⟩ := y
        simp only [e2, Option.some.injEq, Prod.mk.injEq] at h
        obtain ⟨rfl, rfl, rfl⟩ := h
        obtain ⟨a1, a2, a3, a4⟩ := H.yes _ _ _ _ _ hc e1
        obtain ⟨b1, b2, b3, b4, b5⟩ := ih a2 e2
        refine ⟨?_, b2, by simp [b3], fun i hi => ?_, ?_⟩
        · rw [sumL_cons, rowAt_cons]; show d2 = c + (n1.length + _); omega
        · cases i with
          | zero => exact a3
          | succ i => exact b4 i (by omega)
        · rcases a4 with ⟨t, r1, r2⟩ | ⟨r1, j, r2, r3⟩
          · rcases b5 with ⟨ts, s1, s2⟩ | ⟨s1, i, s2, s3⟩
            · refine .inl ⟨t :: ts, by rw [rdItems_eq, r1]; simp only [s1], fun i hi => ?_⟩
              cases i with
              | zero => exact r2
              | succ i => exact s2 i (by omega)
            · exact .inr ⟨by rw [rdItems_eq, r1]; simp only [s1], i + 1, by omega, s3⟩
          · exact .inr ⟨by rw [rdItems_eq, r1], 0, by omega, j, r2, r3⟩

theorem items_no {f deep : Nat} {R : Nat → Option (VT × Nat)} {S : Nat → Nat → Option (List VN × Nat × Nat)} (H : RelV f deep R S) : ∀ {k p c : Nat}, c ≤ 80 → spItems S k p c = none →
    rdItems R k p = none ∨ ∃ ts q, rdItems R k p = some (ts, q) ∧ ((∃ i, i < k ∧ ¬ goodT f (kidT ts i)) ∨ 80 < c + sumL (fun i => layT f (kidT ts i) 0) k ∨ ∃ i, i < k ∧ 8 < deep + hiT f (kidT ts i)) := by
  intro k
  induction k with
  | zero => intro p c hc h; simp [spItems] at h
  | succ k ih =>
    intro p c hc h
    cases e0 : rdItems R (k + 1) p with
    | none => exact .inl rfl
    | some x0 =>
      obtain ⟨ts, q⟩ := x0
      refine .inr ⟨ts, q, rfl, ?_⟩
      rw [rdItems_eq] at e0
      cases r1 : R p with
      | none => simp [r1] at e0
      | some x1 =>
        obtain ⟨t, q1⟩ := x1
        simp only [r1] at e0
        cases r2 : rdItems R k q1 with
        | none => simp [r2] at e0
        | some x2 =>
          obtain ⟨l, z⟩ := x2
          simp only [r2, Option.some.injEq, Prod.mk.injEq] at e0
          obtain ⟨rfl, rfl⟩ := e0
          have hsum : sumL (fun i => layT f (kidT (t :: l) i) 0) (k + 1) = (layT f t 0).length + sumL (fun i => layT f (kidT l i) 0) k := sumL_cons _ _
          rw [hsum]
          rw [spItems] at h
          cases e1 : S p c with
          | none =>
            rcases H.no _ _ hc e1 with h1 | ⟨t', q', h1, h2⟩
            · rw [h1] at r1; cases r1
            · rw [r1] at h1
              simp only [Option.some.injEq, Prod.mk.injEq] at h1
              obtain ⟨rfl, rfl⟩ := h1
              rcases h2 with h2 | h2 | h2
              · exact .inl ⟨0, by omega, h2⟩
              · exact .inr (.inl (by omega))
              · exact .inr (.inr ⟨0, by omega, h2⟩)
          | some x =>
            obtain ⟨n1, q2, d1⟩ := x
            obtain ⟨a1, a2, a3, a4⟩ := H.yes _ _ _ _ _ hc e1
            rcases a4 with ⟨t', a4, a5⟩ | ⟨a4, _⟩
            · rw [r1] at a4
              simp only [Option.some.injEq, Prod.mk.injEq] at a4
              obtain ⟨rfl, rfl⟩ := a4
              simp only [e1] at h
              cases e2 : spItems S k q1 d1 with
              | some y => simp [e2] at h
              | none =>
                rcases ih a2 e2 with h3 | ⟨ts', q', h3, h4⟩
                · rw [h3] at r2; cases r2
                · rw [r2] at h3
                  simp only [Option.some.injEq, Prod.mk.injEq] at h3
                  obtain ⟨rfl, rfl⟩ := h3
                  rcases h4 with ⟨i, h4, h5⟩ | h4 | ⟨i, h4, h5⟩
                  · exact .inl ⟨i + 1, by omega, h5⟩
                  · refine .inr (.inl ?_)
                    rw [a5] at a1
                    omega
                  · exact .inr (.inr ⟨i + 1, by omega, h5⟩)
            · rw [a4] at r1; cases r1

theorem pairs_yes {f deep : Nat} {R : Nat → Option (VT × Nat)} {S : Nat → Nat → Option (List VN × Nat × Nat)} {W : Nat → Option (ByteArray × Nat)} (H : RelV f deep R S) (HW : RelW R W) : ∀ {k p c : Nat} {ks : List ByteArray} {l : List (List VN)} {q d : Nat}, c ≤ 80 → spPairs W S k p c = some (ks, l, q, d) →
    d = c + sumL (rowAt l) k ∧ d ≤ 80 ∧ ks.length = k ∧ l.length = k ∧ (∀ i, i < k → 1 ≤ (rowAt l i).length) ∧ ((∃ ts, rdPairs R k p = some (ks, ts, q) ∧ ∀ i, i < k → rowAt l i = layT f (kidT ts i) 0) ∨ (rdPairs R k p = none ∧ ∃ i, i < k ∧ Wrong (rowAt l i))) := by
  intro k
  induction k with
  | zero =>
    intro p c ks l q d hc h
    simp [spPairs] at h
    obtain ⟨rfl, rfl, rfl, rfl⟩ := h
    exact ⟨rfl, hc, rfl, rfl, fun i hi => by omega, .inl ⟨[], rfl, fun i hi => by omega⟩⟩
  | succ k ih =>
    intro p c ks l q d hc h
    rw [spPairs] at h
    cases e0 : W p with
    | none => simp [e0] at h
    | some x0 =>
      obtain ⟨s0, q0⟩ := x0
      simp only [e0] at h
      cases e1 : S q0 c with
      | none => simp [e1] at h
      | some x =>
        obtain ⟨n1, q1, d1⟩ := x
        simp only [e1] at h
        cases e2 : spPairs W S k q1 d1 with
        | none => simp [e2] at h
        | some y =>
          obtain ⟨k1, m, z, d2⟩ := y
          simp only [e2, Option.some.injEq, Prod.mk.injEq] at h
          obtain ⟨rfl, rfl, rfl, rfl⟩ := h
          obtain ⟨a1, a2, a3, a4⟩ := H.yes _ _ _ _ _ hc e1
          obtain ⟨b1, b2, b3, b3', b4, b5⟩ := ih a2 e2
          obtain ⟨t0, w1, w2⟩ := HW.yes _ _ _ e0
          refine ⟨?_, b2, by simp [b3], by simp [b3'], fun i hi => ?_, ?_⟩
          · rw [sumL_cons, rowAt_cons]; show d2 = c + (n1.length + _); omega
          · cases i with
            | zero => exact a3
            | succ i => exact b4 i (by omega)
          · rcases a4 with ⟨t, r1, r2⟩ | ⟨r1, j, r2, r3⟩
            · rcases b5 with ⟨ts, s1, s2⟩ | ⟨s1, i, s2, s3⟩
              · refine .inl ⟨t :: ts, by rw [rdPairs, w1]; simp only [w2, r1, s1], fun i hi => ?_⟩
                cases i with
                | zero => exact r2
                | succ i => exact s2 i (by omega)
              · exact .inr ⟨by rw [rdPairs, w1]; simp only [w2, r1, s1], i + 1, by omega, s3⟩
            · exact .inr ⟨by rw [rdPairs, w1]; simp only [w2, r1], 0, by omega, j, r2, r3⟩

theorem pairs_no {f deep : Nat} {R : Nat → Option (VT × Nat)} {S : Nat → Nat → Option (List VN × Nat × Nat)} {W : Nat → Option (ByteArray × Nat)} (H : RelV f deep R S) (HW : RelW R W) : ∀ {k p c : Nat}, c ≤ 80 → spPairs W S k p c = none →
    rdPairs R k p = none ∨ ∃ ks ts q, rdPairs R k p = some (ks, ts, q) ∧ ((∃ i, i < k ∧ textB (keyAt ks i) = false) ∨ (∃ i, i < k ∧ ¬ goodT f (kidT ts i)) ∨ 80 < c + sumL (fun i => layT f (kidT ts i) 0) k ∨ ∃ i, i < k ∧ 8 < deep + hiT f (kidT ts i)) := by
  intro k
  induction k with
  | zero => intro p c hc h; simp [spPairs] at h
  | succ k ih =>
    intro p c hc h
    cases e0 : rdPairs R (k + 1) p with
    | none => exact .inl rfl
    | some x0 =>
      obtain ⟨ks, ts, q⟩ := x0
      refine .inr ⟨ks, ts, q, rfl, ?_⟩
      rw [rdPairs] at e0
      cases r0 : R p with
      | none => simp [r0] at e0
      | some x0 =>
        obtain ⟨t0, q0⟩ := x0
        simp only [r0] at e0
        cases g0 : textOf t0 with
        | none => simp [g0] at e0
        | some s0 =>
          simp only [g0] at e0
          cases r1 : R q0 with
          | none => simp [r1] at e0
          | some x1 =>
            obtain ⟨t, q1⟩ := x1
            simp only [r1] at e0
            cases r2 : rdPairs R k q1 with
            | none => simp [r2] at e0
            | some x2 =>
              obtain ⟨k1, l, z⟩ := x2
              simp only [r2, Option.some.injEq, Prod.mk.injEq] at e0
              obtain ⟨rfl, rfl, rfl⟩ := e0
              have hsum : sumL (fun i => layT f (kidT (t :: l) i) 0) (k + 1) = (layT f t 0).length + sumL (fun i => layT f (kidT l i) 0) k := sumL_cons _ _
              rw [hsum]
              rw [spPairs] at h
              cases w0 : W p with
              | none =>
                rcases HW.no _ w0 with h1 | ⟨t', q', h1, h2⟩
                · rw [h1] at r0; cases r0
                · rw [r0] at h1
                  simp only [Option.some.injEq, Prod.mk.injEq] at h1
                  obtain ⟨rfl, rfl⟩ := h1
                  rcases h2 with h2 | ⟨s', h2, h3⟩
                  · rw [h2] at g0; cases g0
                  · rw [g0] at h2
                    simp only [Option.some.injEq] at h2
                    subst h2
                    exact .inl ⟨0, by omega, h3⟩
              | some x0 =>
                obtain ⟨s', q'⟩ := x0
                obtain ⟨t', h1, h2⟩ := HW.yes _ _ _ w0
                rw [r0] at h1
                simp only [Option.some.injEq, Prod.mk.injEq] at h1
                obtain ⟨rfl, rfl⟩ := h1
                simp only [w0] at h
                cases e1 : S q0 c with
                | none =>
                  rcases H.no _ _ hc e1 with h1 | ⟨t', q', h1, h2⟩
                  · rw [h1] at r1; cases r1
                  · rw [r1] at h1
                    simp only [Option.some.injEq, Prod.mk.injEq] at h1
                    obtain ⟨rfl, rfl⟩ := h1
                    rcases h2 with h2 | h2 | h2
                    · exact .inr (.inl ⟨0, by omega, h2⟩)
                    · exact .inr (.inr (.inl (by omega)))
                    · exact .inr (.inr (.inr ⟨0, by omega, h2⟩))
                | some x =>
                  obtain ⟨n1, q2, d1⟩ := x
                  obtain ⟨a1, a2, a3, a4⟩ := H.yes _ _ _ _ _ hc e1
                  rcases a4 with ⟨t', a4, a5⟩ | ⟨a4, _⟩
                  · rw [r1] at a4
                    simp only [Option.some.injEq, Prod.mk.injEq] at a4
                    obtain ⟨rfl, rfl⟩ := a4
                    simp only [e1] at h
                    cases e2 : spPairs W S k q1 d1 with
                    | some y => simp [e2] at h
                    | none =>
                      rcases ih a2 e2 with h3 | ⟨ks', ts', q', h3, h4⟩
                      · rw [h3] at r2; cases r2
                      · rw [r2] at h3
                        simp only [Option.some.injEq, Prod.mk.injEq] at h3
                        obtain ⟨rfl, rfl, rfl⟩ := h3
                        rcases h4 with ⟨i, h4, h5⟩ | ⟨i, h4, h5⟩ | h4 | ⟨i, h4, h5⟩
                        · exact .inl ⟨i + 1, by omega, h5⟩
                        · exact .inr (.inl ⟨i + 1, by omega, h5⟩)
                        · refine .inr (.inr (.inl ?_))
                          rw [a5] at a1
                          omega
                        · exact .inr (.inr (.inr ⟨i + 1, by omega, h5⟩))
                  · rw [a4] at r1; cases r1

/-- What the program makes of a row. -/
def rowT (R : Nat → Option (VT × Nat)) (named : Bool) (many p : Nat) : Option (VT × Nat) :=
  if named = true then match rdPairs R many p with
    | none => none
    | some (ks, l, q) => some (mapT ks l, q)
  else match rdItems R many p with
    | none => none
    | some (l, q) => some (listT l, q)
theorem rowT_full {f : Nat} {R : Nat → Option (VT × Nat)} (H : ∀ p t q, R p = some (t, q) → FullT f t) {named : Bool} {many p : Nat} {t : VT} {q : Nat} (h : rowT R named many p = some (t, q)) : FullT (f + 1) t := by
  unfold rowT at h
  cases named
  · simp only [Bool.false_eq_true, if_false] at h
    cases e : rdItems R many p with
    | none => simp [e] at h
    | some x =>
      simp only [e, Option.some.injEq, Prod.mk.injEq] at h
      obtain ⟨rfl, rfl⟩ := h
      have hl := items_len e
      exact fun j hj => items_full H e j (by omega)
  · simp only [if_true] at h
    cases e : rdPairs R many p with
    | none => simp [e] at h
    | some x =>
      obtain ⟨ks, l, z⟩ := x
      simp only [e, Option.some.injEq, Prod.mk.injEq] at h
      obtain ⟨rfl, rfl⟩ := h
      obtain ⟨h1, h2, h3⟩ := pairs_full H e
      exact mapT_full (fun i hi => h3 i (by omega))
theorem row_yes {f deep : Nat} {R : Nat → Option (VT × Nat)} {S : Nat → Nat → Option (List VN × Nat × Nat)} {W : Nat → Option (ByteArray × Nat)} (H : RelV f (deep + 1) R S) (HW : RelW R W) {named : Bool} {many p c : Nat} {ns : List VN} {q d : Nat} (hc : c + 1 ≤ 80) (h : spRow W S named many (deep + 1) p (c + 1) = some (ns, q, d)) :
    d = c + ns.length ∧ d ≤ 80 ∧ 1 ≤ ns.length ∧ ((∃ t, rowT R named many p = some (t, q) ∧ ns = layT (f + 1) t 0) ∨ (rowT R named many p = none ∧ Wrong ns)) := by
  unfold spRow at h
  split at h
  · cases h
  cases named
  · simp only [Bool.false_eq_true, if_false] at h
    cases e : spItems S many p (c + 1) with
    | none => simp [e] at h
    | some x =>
      obtain ⟨l, q1, d1⟩ := x
      simp only [e, Option.some.injEq, Prod.mk.injEq] at h
      obtain ⟨rfl, rfl, rfl⟩ := h
      obtain ⟨b1, b2, b3, b4, b5⟩ := items_yes H hc e
      refine ⟨by rw [make_len, cat_sum, b3]; omega, b2, by rw [make_len]; omega, ?_⟩
      rcases b5 with ⟨ts, r1, r2⟩ | ⟨r1, i, r2, j, r3, r4⟩
      · refine .inl ⟨listT ts, by simp [rowT, r1], ?_⟩
        unfold listT
        rw [lay_make, items_len r1, b3]
        exact makeNs_same r2 _ _
      · exact .inr ⟨by simp [rowT, r1], make_wrong (show i < l.length by omega) r3 r4⟩
  · simp only [if_true] at h
    cases e : spPairs W S many p (c + 1) with
    | none => simp [e] at h
    | some x =>
      obtain ⟨ks, l, q1, d1⟩ := x
      simp only [e] at h
      cases es : sortIn ks ks.length with
      | none => simp [es] at h
      | some y =>
        obtain ⟨nk, ps⟩ := y
        simp only [es, Option.some.injEq, Prod.mk.injEq] at h
        obtain ⟨rfl, rfl, rfl⟩ := h
        obtain ⟨b1, b2, b3, b3', b4, b5⟩ := pairs_yes H HW hc e
        obtain ⟨s1, s2⟩ := srt_sorted es
        have hsum : (catNs (fun j => rowAt l (ps.getD j 0)) ks.length).length = sumL (rowAt l) many := by
          rw [cat_sum, ← s1, sumL_perm (rowAt l) (srt_perm ks), b3]
        refine ⟨by rw [make_len, hsum]; omega, b2, by rw [make_len]; omega, ?_⟩
        rcases b5 with ⟨ts, r1, r2⟩ | ⟨r1, i, r2, j, r3, r4⟩
        · refine .inl ⟨mapT ks ts, by simp [rowT, r1], ?_⟩
          rw [mapT_lay, s1, ← s2]
          exact makeNs_same (fun i hi => by
            have := srt_lt hi
            rw [s1] at this
            exact r2 _ (by omega)) _ _
        · obtain ⟨j', h1, h2⟩ := srt_hit (ks := ks) (i := i) (by omega)
          rw [s1] at h2
          refine .inr ⟨by simp [rowT, r1], make_wrong h1 (j := j) ?_ ?_⟩
          · simp only [h2]; exact r3
          · simp only [h2]; exact r4
theorem row_no {f deep : Nat} {R : Nat → Option (VT × Nat)} {S : Nat → Nat → Option (List VN × Nat × Nat)} {W : Nat → Option (ByteArray × Nat)} (H : RelV f (deep + 1) R S) (HW : RelW R W) {named : Bool} {many p c : Nat} (hc : c + 1 ≤ 80) (h : spRow W S named many (deep + 1) p (c + 1) = none) :
    rowT R named many p = none ∨ ∃ t q, rowT R named many p = some (t, q) ∧ Doom (f + 1) c deep t := by
  unfold spRow at h
  cases named
  · simp only [Bool.false_eq_true, if_false] at h
    cases er : rdItems R many p with
    | none => exact .inl (by simp [rowT, er])
    | some x =>
      obtain ⟨ts, q⟩ := x
      refine .inr ⟨listT ts, q, by simp [rowT, er], ?_⟩
      have hlen := items_len er
      have hpos : ∀ i, i < many → 1 ≤ (layT f (kidT ts i) 0).length := fun i hi => layT_len (items_full H.full er i hi) 0
      have hsz := listT_size f ts
      rw [hlen] at hsz
      split at h
      · rename_i hbig
        rcases hbig with hb | hb
        · have := sumL_many hpos
          exact .inr (.inl (by rw [hsz]; omega))
        · refine .inr (.inr ?_)
          show 8 < deep + (hiK (hiT f) ts ts.length + 1)
          omega
      · cases e : spItems S many p (c + 1) with
        | some x => simp [e] at h
        | none =>
          rcases items_no H hc e with h1 | ⟨ts', q', h1, h2⟩
          · rw [h1] at er; cases er
          · rw [er] at h1
            simp only [Option.some.injEq, Prod.mk.injEq] at h1
            obtain ⟨rfl, rfl⟩ := h1
            rcases h2 with ⟨i, h2, h3⟩ | h2 | ⟨i, h2, h3⟩
            · exact .inl (fun hg => h3 (hg.2 i (by omega)))
            · exact .inr (.inl (by rw [hsz]; omega))
            · have := kid_hi (f := f) (kind := 5) (n := 0) (s := ByteArray.empty) (keys := []) (kids := ts) (j := i) (by omega)
              exact .inr (.inr (by show 8 < deep + hiT (f + 1) (.mk 5 0 ByteArray.empty [] ts); omega))
  · simp only [if_true] at h
    cases er : rdPairs R many p with
    | none => exact .inl (by simp [rowT, er])
    | some x =>
      obtain ⟨ks, ts, q⟩ := x
      refine .inr ⟨mapT ks ts, q, by simp [rowT, er], ?_⟩
      obtain ⟨hlk, hlt, hfull⟩ := pairs_full H.full er
      have hpos : ∀ i, i < many → 1 ≤ (layT f (kidT ts i) 0).length := fun i hi => layT_len (hfull i hi) 0
      have hsz := mapT_size f ks ts
      rw [hlk] at hsz
      split at h
      · rename_i hbig
        rcases hbig with hb | hb
        · have := sumL_many hpos
          exact .inr (.inl (by rw [hsz]; omega))
        · refine .inr (.inr ?_)
          show 8 < deep + (hiK (hiT f) _ _ + 1)
          omega
      · cases e : spPairs W S many p (c + 1) with
        | none =>
          rcases pairs_no H HW hc e with h1 | ⟨ks', ts', q', h1, h2⟩
          · rw [h1] at er; cases er
          · rw [er] at h1
            simp only [Option.some.injEq, Prod.mk.injEq] at h1
            obtain ⟨rfl, rfl, rfl⟩ := h1
            rcases h2 with ⟨i, h2, h3⟩ | ⟨i, h2, h3⟩ | h2 | ⟨i, h2, h3⟩
            · refine .inl (fun hg => ?_)
              have := (mapT_good hg).2.1 i (by omega)
              rw [this] at h3; cases h3
            · exact .inl (fun hg => h3 ((mapT_good hg).1 i (by omega)))
            · exact .inr (.inl (by rw [hsz]; omega))
            · have := mapT_hi (f := f) (ks := ks) (ts := ts) (i := i) (by omega)
              exact .inr (.inr (by omega))
        | some x =>
          obtain ⟨ks', l, q1, d1⟩ := x
          simp only [e] at h
          cases es : sortIn ks' ks'.length with
          | some y => simp [es] at h
          | none =>
            obtain ⟨b1, b2, b3, b3', b4, b5⟩ := pairs_yes H HW hc e
            rcases b5 with ⟨ts', r1, r2⟩ | ⟨r1, _⟩
            · rw [er] at r1
              simp only [Option.some.injEq, Prod.mk.injEq] at r1
              obtain ⟨rfl, rfl, rfl⟩ := r1
              refine .inl (fun hg => ?_)
              obtain ⟨_, _, ns', ps', hs⟩ := mapT_good hg
              rw [hs] at es; cases es
            · rw [r1] at er; cases er
end Go.Proofs.YtagcgnhpdmhegaaGreatDoor
