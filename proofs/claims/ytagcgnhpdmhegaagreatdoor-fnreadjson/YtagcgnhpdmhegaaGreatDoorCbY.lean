/-
  Plain: values read as JSON, by the program (trees, no bounds) and by the document's model (nodes, bounds), and that the two say the same.
-/
import Derived.Test.YtagcgnhpdmhegaaGreatDoorJbP
import Derived.Test.YtagcgnhpdmhegaaGreatDoorRdN
import Derived.Test.YtagcgnhpdmhegaaGreatDoorPure
import Derived.Test.YtagcgnhpdmhegaaGreatDoorStlF
import Derived.Test.YtagcgnhpdmhegaaGreatDoorRowB
import Derived.Test.YtagcgnhpdmhegaaGreatDoorSortQ
namespace Go.Proofs.YtagcgnhpdmhegaaGreatDoor
open Go.RowKit
set_option linter.unusedSimpArgs false
set_option linter.unusedVariables false

def itemsJ (L : List UInt8) (R : Nat → Option (VT × Nat)) : Nat → Nat → Option (List VT × Nat)
  | 0, _ => none
  | k + 1, p => match R p with
    | none => none
    | some (t, q) => if isAt L q 93 = true then some ([t], q + 1)
      else if isAt L q 44 = true then match itemsJ L R k (q + 1) with
        | none => none
        | some (l, z) => some (t :: l, z)
      else none
def listJ (L : List UInt8) (R : Nat → Option (VT × Nat)) (p : Nat) : Option (VT × Nat) :=
  if isAt L (skipJ L p) 93 = true then some (listT [], skipJ L p + 1) else match itemsJ L R (L.length + 1) p with
    | none => none
    | some (l, z) => some (listT l, z)
/-- A key with its colon. -/
def keyR (L : List UInt8) (p : Nat) : Option (ByteArray × Nat) :=
  if isAt L (skipJ L p) 34 = true then match txJ L (skipJ L p + 1) with
    | none => none
    | some (l, q) => if isAt L (skipJ L q) 58 = true then some (txt l, skipJ L q + 1) else none
  else none
def pairsJ (L : List UInt8) (R : Nat → Option (VT × Nat)) : Nat → Nat → Option (List ByteArray × List VT × Nat)
  | 0, _ => none
  | k + 1, p => match keyR L p with
    | none => none
    | some (s, q0) => match R q0 with
      | none => none
      | some (t, q) => if isAt L q 125 = true then some ([s], [t], q + 1)
        else if isAt L q 44 = true then match pairsJ L R k (q + 1) with
          | none => none
          | some (ks, l, z) => some (s :: ks, t :: l, z)
        else none
def mapJ (L : List UInt8) (R : Nat → Option (VT × Nat)) (p : Nat) : Option (VT × Nat) :=
  if isAt L (skipJ L p) 125 = true then some (mapT [] [], skipJ L p + 1) else match pairsJ L R (L.length + 1) p with
    | none => none
    | some (ks, l, z) => some (mapT ks l, z)
def readJ (L : List UInt8) (R : Nat → Option (VT × Nat)) (p : Nat) : Option (VT × Nat) :=
  if wordAt L p nullW = true then some (nullT, p + 4)
  else if wordAt L p trueW = true then some (boolT 1, p + 4)
  else if wordAt L p falseW = true then some (boolT 0, p + 5)
  else if isAt L p 34 = true then match txJ L (p + 1) with
    | none => none
    | some (l, q) => some (wordT (txt l), q)
  else if isAt L p 91 = true then listJ L R (p + 1)
  else if isAt L p 123 = true then mapJ L R (p + 1)
  else match numJ L p with
    | none => none
    | some (v, q) => some (numT v, q)
/-- A value with the blanks around it. -/
def rdJ (L : List UInt8) : Nat → Nat → Option (VT × Nat)
  | 0, _ => none
  | f + 1, p => match readJ L (rdJ L f) (skipJ L p) with
    | none => none
    | some (t, q) => some (t, skipJ L q)
theorem rdJ_skip (L : List UInt8) (f p : Nat) : rdJ L f (skipJ L p) = rdJ L f p := by
  cases f with
  | zero => rfl
  | succ f =>
    have e : skipJ L (skipJ L p) = skipJ L p := runJ_idem _ _ _
    rw [rdJ, rdJ, e]

def spItemsJ (L : List UInt8) (S : Nat → Nat → Option (List VN × Nat × Nat)) : Nat → Nat → Nat → Option (List (List VN) × Nat × Nat)
  | 0, _, _ => none
  | k + 1, p, c => match S p c with
    | none => none
    | some (ns, q, d) => if isAt L q 93 = true then some ([ns], q + 1, d)
      else if isAt L q 44 = true then match spItemsJ L S k (q + 1) d with
        | none => none
        | some (l, z, e) => some (ns :: l, z, e)
      else none
def keyS (L : List UInt8) (p : Nat) : Option (ByteArray × Nat) := match keyR L p with
  | none => none
  | some (s, q) => if s.size ≤ 60 then some (s, q) else none
def spPairsJ (L : List UInt8) (S : Nat → Nat → Option (List VN × Nat × Nat)) : Nat → Nat → Nat → Option (List ByteArray × List (List VN) × Nat × Nat)
  | 0, _, _ => none
  | k + 1, p, c => match keyS L p with
    | none => none
    | some (s, q0) => match S q0 c with
      | none => none
      | some (ns, q, d) => if isAt L q 125 = true then some ([s], [ns], q + 1, d)
        else if isAt L q 44 = true then match spPairsJ L S k (q + 1) d with
          | none => none
          | some (ks, l, z, e) => some (s :: ks, ns :: l, z, e)
        else none
def spListJ (L : List UInt8) (S : Nat → Nat → Option (List VN × Nat × Nat)) (deep p c : Nat) : Option (List VN × Nat × Nat) :=
  if isAt L (skipJ L p) 93 = true then some (makeNs 5 [] (fun _ => []) 0, skipJ L p + 1, c) else if 8 < deep then none else match spItemsJ L S (L.length + 1) p c with
    | none => none
    | some (l, z, d) => some (makeNs 5 [] (rowAt l) l.length, z, d)
def spMapJ (L : List UInt8) (S : Nat → Nat → Option (List VN × Nat × Nat)) (deep p c : Nat) : Option (List VN × Nat × Nat) :=
  if isAt L (skipJ L p) 125 = true then some (makeNs 6 [] (fun _ => []) 0, skipJ L p + 1, c) else if 8 < deep then none else match spPairsJ L S (L.length + 1) p c with
    | none => none
    | some (ks, l, z, d) => match sortIn ks ks.length with
      | none => none
      | some (nk, ps) => some (makeNs 6 nk (fun j => rowAt l (ps.getD j 0)) ks.length, z, d)
def spReadJ (L : List UInt8) (S : Nat → Nat → Option (List VN × Nat × Nat)) (deep p c : Nat) : Option (List VN × Nat × Nat) :=
  if wordAt L p nullW = true then some (layT 1 nullT 0, p + 4, c)
  else if wordAt L p trueW = true then some (layT 1 (boolT 1) 0, p + 4, c)
  else if wordAt L p falseW = true then some (layT 1 (boolT 0) 0, p + 5, c)
  else if isAt L p 34 = true then match txJ L (p + 1) with
    | none => none
    | some (l, q) => if l.length ≤ 60 then some (layT 1 (wordT (txt l)) 0, q, c) else none
  else if isAt L p 91 = true then spListJ L S deep (p + 1) c
  else if isAt L p 123 = true then spMapJ L S deep (p + 1) c
  else match numJ L p with
    | none => none
    | some (v, q) => some (layT 1 (numT v) 0, q, c)
def spJ (L : List UInt8) : Nat → Nat → Nat → Nat → Option (List VN × Nat × Nat)
  | 0, _, _, _ => none
  | f + 1, deep, p, c => if 80 ≤ c then none else match spReadJ L (spJ L f (deep + 1)) (deep + 1) (skipJ L p) (c + 1) with
    | none => none
    | some (ns, q, d) => some (ns, skipJ L q, d)
theorem spJ_skip (L : List UInt8) (f deep p c : Nat) : spJ L f deep (skipJ L p) c = spJ L f deep p c := by
  cases f with
  | zero => rfl
  | succ f =>
    have e : skipJ L (skipJ L p) = skipJ L p := runJ_idem _ _ _
    rw [spJ, spJ, e]

structure RelJ (f deep : Nat) (R : Nat → Option (VT × Nat)) (S : Nat → Nat → Option (List VN × Nat × Nat)) : Prop where
  full : ∀ p t q, R p = some (t, q) → FullT f t
  yes : ∀ p c ns q d, c ≤ 80 → S p c = some (ns, q, d) → d = c + ns.length ∧ d ≤ 80 ∧ 1 ≤ ns.length ∧ ∃ t, R p = some (t, q) ∧ ns = layT f t 0
  no : ∀ p c, c ≤ 80 → S p c = none → R p = none ∨ ∃ t q, R p = some (t, q) ∧ Doom f c deep t
theorem RelJ.rel {f deep : Nat} {R : Nat → Option (VT × Nat)} {S : Nat → Nat → Option (List VN × Nat × Nat)} (H : RelJ f deep R S) : RelV f deep R S :=
  ⟨H.full, fun p c ns q d hc h => by obtain ⟨a, b, c, t, e⟩ := H.yes p c ns q d hc h; exact ⟨a, b, c, .inl ⟨t, e⟩⟩, H.no⟩

theorem itemsJ_full {f : Nat} {L : List UInt8} {R : Nat → Option (VT × Nat)} (H : ∀ p t q, R p = some (t, q) → FullT f t) : ∀ {k p : Nat} {l : List VT} {q : Nat}, itemsJ L R k p = some (l, q) → 1 ≤ l.length ∧ ∀ i, i < l.length → FullT f (kidT l i) := by
  intro k
  induction k with
  | zero => intro p l q h; cases h
  | succ k ih =>
    intro p l q h
    rw [itemsJ] at h
    cases e : R p with
    | none => simp [e] at h
    | some x =>
      obtain ⟨t, z⟩ := x
      simp only [e] at h
      split at h
      · simp only [Option.some.injEq, Prod.mk.injEq] at h
        obtain ⟨rfl, rfl⟩ := h
        refine ⟨by simp, fun i hi => ?_⟩
        obtain rfl : i = 0 := by simpa using hi
        exact H _ _ _ e
      · split at h
        · cases e2 : itemsJ L R k (z + 1) with
          | none => simp [e2] at h
          | some y =>
            simp only [e2, Option.some.injEq, Prod.mk.injEq] at h
            obtain ⟨rfl, rfl⟩ := h
            obtain ⟨h1, h2⟩ := ih e2
            refine ⟨by simp, fun i hi => ?_⟩
            cases i with
            | zero => exact H _ _ _ e
            | succ i => exact h2 i (by simpa using hi)
        · cases h
theorem pairsJ_full {f : Nat} {L : List UInt8} {R : Nat → Option (VT × Nat)} (H : ∀ p t q, R p = some (t, q) → FullT f t) : ∀ {k p : Nat} {ks : List ByteArray} {l : List VT} {q : Nat}, pairsJ L R k p = some (ks, l, q) → ks.length = l.length ∧ 1 ≤ l.length ∧ ∀ i, i < l.length → FullT f (kidT l i) := by
  intro k
  induction k with
  | zero => intro p ks l q h; cases h
  | succ k ih =>
    intro p ks l q h
    rw [pairsJ] at h
    cases e0 : keyR L p with
    | none => simp [e0] at h
    | some x0 =>
      obtain ⟨s, q0⟩ := x0
      simp only [e0] at h
      cases e : R q0 with
      | none => simp [e] at h
      | some x =>
        obtain ⟨t, z⟩ := x
        simp only [e] at h
        split at h
        · simp only [Option.some.injEq, Prod.mk.injEq] at h
          obtain ⟨rfl, rfl, rfl⟩ := h
          refine ⟨rfl, by simp, fun i hi => ?_⟩
          obtain rfl : i = 0 := by simpa using hi
          exact H _ _ _ e
        · split at h
          · cases e2 : pairsJ L R k (z + 1) with
            | none => simp [e2] at h
            | some y =>
              obtain ⟨k2, l2, z2⟩ := y
              simp only [e2, Option.some.injEq, Prod.mk.injEq] at h
              obtain ⟨rfl, rfl, rfl⟩ := h
              obtain ⟨h0, h1, h2⟩ := ih e2
              refine ⟨by simp [h0], by simp, fun i hi => ?_⟩
              cases i with
              | zero => exact H _ _ _ e
              | succ i => exact h2 i (by simpa using hi)
          · cases h
theorem itemsJ_yes {f deep : Nat} {L : List UInt8} {R : Nat → Option (VT × Nat)} {S : Nat → Nat → Option (List VN × Nat × Nat)} (H : RelJ f deep R S) : ∀ {k p c : Nat} {l : List (List VN)} {q d : Nat}, c ≤ 80 → spItemsJ L S k p c = some (l, q, d) →
    d = c + sumL (rowAt l) l.length ∧ d ≤ 80 ∧ ∃ ts, itemsJ L R k p = some (ts, q) ∧ ts.length = l.length ∧ ∀ i, i < l.length → rowAt l i = layT f (kidT ts i) 0 := by
  intro k
  induction k with
  | zero => intro p c l q d hc h; cases h
  | succ k ih =>
    intro p c l q d hc h
    rw [spItemsJ] at h
    cases e1 : S p c with
    | none => simp [e1] at h
    | some x =>
      obtain ⟨n1, q1, d1⟩ := x
      simp only [e1] at h
      obtain ⟨a1, a2, a3, t, r1, r2⟩ := H.yes _ _ _ _ _ hc e1
      split at h
      · rename_i hend
        simp only [Option.some.injEq, Prod.mk.injEq] at h
        obtain ⟨rfl, rfl, rfl⟩ := h
        refine ⟨by rw [List.length_cons, sumL_cons]; simp [sumL]; exact a1, a2, [t], by rw [itemsJ, r1]; simp [hend], rfl, fun i hi => ?_⟩
        obtain rfl : i = 0 := by simpa using hi
        exact r2
      · rename_i hend
        split at h
        · rename_i hc2
          cases e2 : spItemsJ L S k (q1 + 1) d1 with
          | none => simp [e2] at h
          | some y =>
            obtain ⟨m, z, d2⟩ := y
            simp only [e2, Option.some.injEq, Prod.mk.injEq] at h
            obtain ⟨rfl, rfl, rfl⟩ := h
            obtain ⟨b1, b2, ts, s1, s2, s3⟩ := ih a2 e2
            refine ⟨?_, b2, t :: ts, by rw [itemsJ, r1]; simp [hend, hc2, s1], by simp [s2], fun i hi => ?_⟩
            · rw [List.length_cons, sumL_cons, rowAt_cons]; show d2 = c + (n1.length + _); omega
            · cases i with
              | zero => exact r2
              | succ i => exact s3 i (by simpa using hi)
        · cases h
theorem itemsJ_no {f deep : Nat} {L : List UInt8} {R : Nat → Option (VT × Nat)} {S : Nat → Nat → Option (List VN × Nat × Nat)} (H : RelJ f deep R S) : ∀ {k p c : Nat}, c ≤ 80 → spItemsJ L S k p c = none →
    itemsJ L R k p = none ∨ ∃ ts q, itemsJ L R k p = some (ts, q) ∧ ((∃ i, i < ts.length ∧ ¬ goodT f (kidT ts i)) ∨ 80 < c + sumL (fun i => layT f (kidT ts i) 0) ts.length ∨ ∃ i, i < ts.length ∧ 8 < deep + hiT f (kidT ts i)) := by
  intro k
  induction k with
  | zero => intro p c hc h; exact .inl rfl
  | succ k ih =>
    intro p c hc h
    cases e0 : itemsJ L R (k + 1) p with
    | none => exact .inl rfl
    | some x0 =>
      obtain ⟨ts, q⟩ := x0
      refine .inr ⟨ts, q, rfl, ?_⟩
      rw [itemsJ] at e0
      cases r1 : R p with
      | none => simp [r1] at e0
      | some x1 =>
        obtain ⟨t, q1⟩ := x1
        simp only [r1] at e0
        rw [spItemsJ] at h
        have hdoom : S p c = none → (¬ goodT f t ∨ 80 < c + (layT f t 0).length ∨ 8 < deep + hiT f t) := fun e1 => by
          rcases H.no p c hc e1 with h1 | ⟨t', q', h1, h2⟩
          · rw [r1] at h1; cases h1
          · rw [r1] at h1
            simp only [Option.some.injEq, Prod.mk.injEq] at h1
            obtain ⟨rfl, rfl⟩ := h1
            exact h2
        have hput : ∀ l : List VT, (¬ goodT f t ∨ 80 < c + (layT f t 0).length ∨ 8 < deep + hiT f t) → ((∃ i, i < (t :: l).length ∧ ¬ goodT f (kidT (t :: l) i)) ∨ 80 < c + sumL (fun i => layT f (kidT (t :: l) i) 0) (t :: l).length ∨ ∃ i, i < (t :: l).length ∧ 8 < deep + hiT f (kidT (t :: l) i)) := fun l hd => by
          rcases hd with h1 | h1 | h1
          · exact .inl ⟨0, by simp, h1⟩
          · refine .inr (.inl ?_)
            rw [List.length_cons, sumL_cons]
            show 80 < c + ((layT f t 0).length + _)
            omega
          · exact .inr (.inr ⟨0, by simp, h1⟩)
        split at e0
        · rename_i hend
          simp only [Option.some.injEq, Prod.mk.injEq] at e0
          obtain ⟨rfl, rfl⟩ := e0
          cases e1 : S p c with
          | none => exact hput [] (hdoom e1)
          | some x =>
            obtain ⟨n1, q2, d1⟩ := x
            obtain ⟨a1, a2, a3, t', r1', r2⟩ := H.yes _ _ _ _ _ hc e1
            rw [r1] at r1'
            simp only [Option.some.injEq, Prod.mk.injEq] at r1'
            obtain ⟨rfl, rfl⟩ := r1'
            simp [e1, hend] at h
        · rename_i hend
          split at e0
          · rename_i hc2
            cases r2 : itemsJ L R k (q1 + 1) with
            | none => simp [r2] at e0
            | some x2 =>
              obtain ⟨l, z⟩ := x2
              simp only [r2, Option.some.injEq, Prod.mk.injEq] at e0
              obtain ⟨rfl, rfl⟩ := e0
              cases e1 : S p c with
              | none => exact hput l (hdoom e1)
              | some x =>
                obtain ⟨n1, q2, d1⟩ := x
                obtain ⟨a1, a2, a3, t', r1', r3⟩ := H.yes _ _ _ _ _ hc e1
                rw [r1] at r1'
                simp only [Option.some.injEq, Prod.mk.injEq] at r1'
                obtain ⟨rfl, rfl⟩ := r1'
                simp only [e1, hend, hc2, if_true, Bool.false_eq_true, if_false] at h
                cases e2 : spItemsJ L S k (q1 + 1) d1 with
                | some y => simp [e2] at h
                | none =>
                  rcases ih a2 e2 with h1 | ⟨ts', q', h1, h2⟩
                  · rw [r2] at h1; cases h1
                  · rw [r2] at h1
                    simp only [Option.some.injEq, Prod.mk.injEq] at h1
                    obtain ⟨rfl, rfl⟩ := h1
                    rcases h2 with ⟨i, i1, i2⟩ | h2 | ⟨i, i1, i2⟩
                    · exact .inl ⟨i + 1, by simp; exact i1, i2⟩
                    · refine .inr (.inl ?_)
                      rw [List.length_cons, sumL_cons]
                      show 80 < c + ((layT f t 0).length + sumL (fun i => layT f (kidT l i) 0) l.length)
                      rw [r3] at a1
                      omega
                    · exact .inr (.inr ⟨i + 1, by simp; exact i1, i2⟩)
          · cases e0
end Go.Proofs.YtagcgnhpdmhegaaGreatDoor

/-
  Plain: MessagePack as the program reads it and as the specification does; that both say the same.
-/
namespace Go.Proofs.YtagcgnhpdmhegaaGreatDoor
open Go.RowKit
set_option linter.unusedSimpArgs false
set_option linter.unusedVariables false

/-- What both say of a whole text. -/
def okOf (f : Nat) (r : Option (VT × Nat)) : Option (List VN × Nat) := match r with
  | none => none
  | some (t, q) => if okB (layT f t 0) = true then some (layT f t 0, q) else none
theorem same_read {f : Nat} {R : Nat → Option (VT × Nat)} {S : Nat → Nat → Option (List VN × Nat × Nat)} (H : RelV f 0 R S) : (match S 0 0 with | none => none | some (ns, q, _) => if okB ns = true then some (ns, q) else none) = okOf f (R 0) := by
  cases e : S 0 0 with
  | none =>
    rcases H.no 0 0 (by omega) e with h | ⟨t, q, h1, h2⟩
    · rw [h]; rfl
    · rw [h1]
      have hf := H.full _ _ _ h1
      show none = (if okB (layT f t 0) = true then some (layT f t 0, q) else none)
      rw [if_neg]
      intro hok
      obtain ⟨a, b, c⟩ := (ok_lay hf).1 hok
      rcases h2 with h2 | h2 | h2
      · exact h2 b
      · omega
      · omega
  | some x =>
    obtain ⟨ns, q, d⟩ := x
    obtain ⟨_, _, _, h4⟩ := H.yes 0 0 ns q d (by omega) e
    rcases h4 with ⟨t, h1, h2⟩ | ⟨h1, j, h2, h3⟩
    · rw [h1, h2]; rfl
    · rw [h1]
      simp only [not_ok h2 h3, Bool.false_eq_true, if_false]
      rfl
end Go.Proofs.YtagcgnhpdmhegaaGreatDoor

/-
  Plain: CBOR as the program reads it and as the specification does; that both say the same.
-/
namespace Go.Proofs.YtagcgnhpdmhegaaGreatDoor
open Go.RowKit
set_option linter.unusedSimpArgs false
set_option linter.unusedVariables false

end Go.Proofs.YtagcgnhpdmhegaaGreatDoor

/-
  Plain: keys by their lengths, and CBOR's bytes of a tree.
-/
namespace Go.Proofs.YtagcgnhpdmhegaaGreatDoor
open Go.RowKit
set_option linter.unusedSimpArgs false
set_option linter.unusedVariables false

end Go.Proofs.YtagcgnhpdmhegaaGreatDoor

/-
  Plain: what is written as CBOR is read again.
-/
namespace Go.Proofs.YtagcgnhpdmhegaaGreatDoor
open Go.RowKit
set_option linter.unusedSimpArgs false
set_option linter.unusedVariables false

end Go.Proofs.YtagcgnhpdmhegaaGreatDoor

/-
  Plain: a tree that is written as CBOR is read again.
-/
namespace Go.Proofs.YtagcgnhpdmhegaaGreatDoor
open Go.RowKit
set_option linter.unusedSimpArgs false
set_option linter.unusedVariables false

theorem keyAt_map {keys : List ByteArray} {ps : List Nat} {j : Nat} (hj : j < ps.length) : keyAt (ps.map (keyAt keys)) j = keyAt keys (ps.getD j 0) := by
  conv => lhs; unfold keyAt
  rw [List.getD_eq_getElem?_getD, List.getElem?_map, List.getD_eq_getElem?_getD, List.getElem?_eq_getElem hj]
  rfl
theorem kidAt_map {kids : List VT} {ps : List Nat} {j : Nat} (hj : j < ps.length) : kidT (ps.map (kidT kids)) j = kidT kids (ps.getD j 0) := by
  conv => lhs; unfold kidT
  rw [List.getD_eq_getElem?_getD, List.getElem?_map, List.getD_eq_getElem?_getD, List.getElem?_eq_getElem hj]
  rfl
theorem range_getD (ps : List Nat) : (List.range ps.length).map (fun j => ps.getD j 0) = ps := by
  apply List.ext_getElem?
  intro i
  rw [List.getElem?_map]
  by_cases h : i < ps.length
  · rw [List.getElem?_range h, Option.map_some, List.getD_eq_getElem?_getD, List.getElem?_eq_getElem h]; rfl
  · rw [List.getElem?_eq_none (by simp; omega), List.getElem?_eq_none (by omega)]; rfl
/-- A map whose entries came in another order. -/
theorem map_back {keys : List ByteArray} {kids : List VT} (hl : keys.length = kids.length) (hr : riseB keys = true) {ps : List Nat} (hp : ps.Perm (List.range keys.length)) : mapT (ps.map (keyAt keys)) (ps.map (kidT kids)) = .mk 6 0 ByteArray.empty keys kids := by
  have hpl : ps.length = keys.length := by rw [hp.length_eq]; simp
  have hnd : ps.Nodup := hp.nodup_iff.2 List.nodup_range
  obtain ⟨ks, hks⟩ : ∃ ks, ps.map (keyAt keys) = ks := ⟨_, rfl⟩
  have hkl : ks.length = keys.length := by rw [← hks, List.length_map, hpl]
  have hka : ∀ j, j < keys.length → keyAt ks j = keyAt keys (ps.getD j 0) := fun j hj => by rw [← hks]; exact keyAt_map (by omega)
  have hin : ∀ j, j < keys.length → ps.getD j 0 < keys.length := fun j hj => by
    have : ps.getD j 0 ∈ ps := by rw [List.getD_eq_getElem?_getD, List.getElem?_eq_getElem (show j < ps.length by omega)]; exact List.getElem_mem _
    exact List.mem_range.1 (hp.mem_iff.1 this)
  have hsm : ∀ x ∈ srt ks, x < keys.length := fun x hx => by rw [← hkl]; exact srt_mem.1 hx
  have hA1 : ((srt ks).map fun j => ps.getD j 0).Perm (List.range keys.length) := by
    have h1 := (srt_perm ks).map (fun j => ps.getD j 0)
    rw [hkl, ← hpl, range_getD] at h1
    exact h1.trans hp
  have hA2 : ((srt ks).map fun j => ps.getD j 0).Pairwise (· < ·) := by
    rw [List.pairwise_map]
    refine List.Pairwise.imp_of_mem (fun {a b} ha hb hab => ?_) (srt_rises ks)
    have ha' := hsm a ha
    have hb' := hsm b hb
    rcases Nat.lt_trichotomy (ps.getD a 0) (ps.getD b 0) with h | h | h
    · exact h
    · exfalso
      have e : a = b := by
        rw [List.getD_eq_getElem?_getD, List.getD_eq_getElem?_getD, List.getElem?_eq_getElem (show a < ps.length by omega), List.getElem?_eq_getElem (show b < ps.length by omega)] at h
        rcases Nat.lt_trichotomy a b with l | l | l
        · exact absurd h (List.pairwise_iff_getElem.1 hnd a b _ _ l)
        · exact l
        · exact absurd h.symm (List.pairwise_iff_getElem.1 hnd b a _ _ l)
      subst e
      exact (rk_tot ks).asym _ _ hab hab
    · exfalso
      have h2 := keys_less hr (ps.getD a 0 - ps.getD b 0 - 1) (ps.getD b 0) (by have := hin a ha'; omega)
      rw [show ps.getD b 0 + (ps.getD a 0 - ps.getD b 0 - 1) + 1 = ps.getD a 0 by omega, ← hka a ha', ← hka b hb'] at h2
      exact (rk_tot ks).asym _ _ hab (cfK_less h2)
  have hA : ((srt ks).map fun j => ps.getD j 0) = List.range keys.length :=
    List.Perm.eq_of_pairwise (fun a b _ _ h1 h2 => by omega) hA2 List.pairwise_lt_range hA1
  have e1 : (srt ks).map (keyAt ks) = keys := by
    rw [← range_keys keys, ← hA, List.map_map]
    refine List.map_congr_left fun j hj => ?_
    exact hka j (hsm j hj)
  have e2 : (srt ks).map (kidT (ps.map (kidT kids))) = kids := by
    have : ∀ j ∈ srt ks, kidT (ps.map (kidT kids)) j = kidT kids (ps.getD j 0) := fun j hj => kidAt_map (by have := hsm j hj; omega)
    rw [List.map_congr_left this]
    have h3 : (srt ks).map (fun j => kidT kids (ps.getD j 0)) = ((srt ks).map fun j => ps.getD j 0).map (kidT kids) := by rw [List.map_map]; rfl
    rw [h3, hA, hl, range_kids]
  rw [mapT, hks, e1, e2]
end Go.Proofs.YtagcgnhpdmhegaaGreatDoor
