/-
  Plain: the program's and the document's reading of JSON say the same.
-/
import Derived.Test.YtagcgnhpdmhegaaGreatDoorCbY
import Derived.Test.YtagcgnhpdmhegaaGreatDoorJbP
import Derived.Test.YtagcgnhpdmhegaaGreatDoorUpP
namespace Go.Proofs.YtagcgnhpdmhegaaGreatDoor
open Go.RowKit
set_option linter.unusedSimpArgs false
set_option linter.unusedVariables false

theorem keyS_yes {L : List UInt8} {p : Nat} {s : ByteArray} {q : Nat} (h : keyS L p = some (s, q)) : keyR L p = some (s, q) ∧ s.size ≤ 60 := by
  unfold keyS at h
  cases e : keyR L p with
  | none => simp [e] at h
  | some x =>
    obtain ⟨s', q'⟩ := x
    simp only [e] at h
    split at h
    · simp only [Option.some.injEq, Prod.mk.injEq] at h
      obtain ⟨rfl, rfl⟩ := h
      exact ⟨rfl, by assumption⟩
    · cases h
theorem keyS_no {L : List UInt8} {p : Nat} {s : ByteArray} {q : Nat} (h : keyS L p = none) (hk : keyR L p = some (s, q)) : textB s = false := by
  unfold keyS at h
  simp only [hk] at h
  split at h
  · cases h
  · rename_i hs
    unfold textB
    simp; omega
theorem pairsJ_yes {f deep : Nat} {L : List UInt8} {R : Nat → Option (VT × Nat)} {S : Nat → Nat → Option (List VN × Nat × Nat)} (H : RelJ f deep R S) : ∀ {k p c : Nat} {ks : List ByteArray} {l : List (List VN)} {q d : Nat}, c ≤ 80 → spPairsJ L S k p c = some (ks, l, q, d) →
    d = c + sumL (rowAt l) l.length ∧ d ≤ 80 ∧ ks.length = l.length ∧ ∃ ts, pairsJ L R k p = some (ks, ts, q) ∧ ts.length = l.length ∧ ∀ i, i < l.length → rowAt l i = layT f (kidT ts i) 0 := by
  intro k
  induction k with
  | zero => intro p c ks l q d hc h; cases h
  | succ k ih =>
    intro p c ks l q d hc h
    rw [spPairsJ] at h
    cases e0 : keyS L p with
    | none => simp [e0] at h
    | some x0 =>
      obtain ⟨s, q0⟩ := x0
      simp only [e0] at h
      obtain ⟨k0, _⟩ := keyS_yes e0
      cases e1 : S q0 c with
      | none => simp [e1] at h
      | some x =>
        obtain ⟨n1, q1, d1⟩ := x
        simp only [e1] at h
        obtain ⟨a1, a2, a3, t, r1, r2⟩ := H.yes _ _ _ _ _ hc e1
        split at h
        · rename_i hend
          simp only [Option.some.injEq, Prod.mk.injEq] at h
          obtain ⟨rfl, rfl, rfl, rfl⟩ := h
          refine ⟨by rw [List.length_cons, sumL_cons]; simp [sumL]; exact a1, a2, rfl, [t], by rw [pairsJ, k0]; simp [r1, hend], rfl, fun i hi => ?_⟩
          obtain rfl : i = 0 := by simpa using hi
          exact r2
        · rename_i hend
          split at h
          · rename_i hc2
            cases e2 : spPairsJ L S k (q1 + 1) d1 with
            | none => simp [e2] at h
            | some y =>
              obtain ⟨km, m, z, d2⟩ := y
              simp only [e2, Option.some.injEq, Prod.mk.injEq] at h
              obtain ⟨rfl, rfl, rfl, rfl⟩ := h
              obtain ⟨b1, b2, b3, ts, s1, s2, s3⟩ := ih a2 e2
              refine ⟨?_, b2, by simp [b3], t :: ts, by rw [pairsJ, k0]; simp [r1, hend, hc2, s1], by simp [s2], fun i hi => ?_⟩
              · rw [List.length_cons, sumL_cons, rowAt_cons]; show d2 = c + (n1.length + _); omega
              · cases i with
                | zero => exact r2
                | succ i => exact s3 i (by simpa using hi)
          · cases h
theorem pairsJ_no {f deep : Nat} {L : List UInt8} {R : Nat → Option (VT × Nat)} {S : Nat → Nat → Option (List VN × Nat × Nat)} (H : RelJ f deep R S) : ∀ {k p c : Nat}, c ≤ 80 → spPairsJ L S k p c = none →
    pairsJ L R k p = none ∨ ∃ ks ts q, pairsJ L R k p = some (ks, ts, q) ∧ ((∃ i, i < ts.length ∧ (textB (keyAt ks i) = false ∨ ¬ goodT f (kidT ts i))) ∨ 80 < c + sumL (fun i => layT f (kidT ts i) 0) ts.length ∨ ∃ i, i < ts.length ∧ 8 < deep + hiT f (kidT ts i)) := by
  intro k
  induction k with
  | zero => intro p c hc h; exact .inl rfl
  | succ k ih =>
    intro p c hc h
    cases e0 : pairsJ L R (k + 1) p with
    | none => exact .inl rfl
    | some x0 =>
      obtain ⟨ks, ts, q⟩ := x0
      refine .inr ⟨ks, ts, q, rfl, ?_⟩
      rw [pairsJ] at e0
      cases ek : keyR L p with
      | none => simp [ek] at e0
      | some xk =>
      obtain ⟨s, q0⟩ := xk
      simp only [ek] at e0
      cases r1 : R q0 with
      | none => simp [r1] at e0
      | some x1 =>
        obtain ⟨t, q1⟩ := x1
        simp only [r1] at e0
        rw [spPairsJ] at h
        have hdoom : (keyS L p = none ∨ ∃ y, keyS L p = some y ∧ S y.2 c = none) → (textB s = false ∨ ¬ goodT f t) ∨ 80 < c + (layT f t 0).length ∨ 8 < deep + hiT f t := fun e1 => by
          rcases e1 with e1 | ⟨⟨s', q'⟩, e1, e2⟩
          · exact .inl (.inl (keyS_no e1 ek))
          · obtain ⟨k1, _⟩ := keyS_yes e1
            rw [ek] at k1
            simp only [Option.some.injEq, Prod.mk.injEq] at k1
            obtain ⟨rfl, rfl⟩ := k1
            rcases H.no q0 c hc e2 with h1 | ⟨t', q', h1, h2⟩
            · rw [r1] at h1; cases h1
            · rw [r1] at h1
              simp only [Option.some.injEq, Prod.mk.injEq] at h1
              obtain ⟨rfl, rfl⟩ := h1
              rcases h2 with h2 | h2 | h2
              · exact .inl (.inr h2)
              · exact .inr (.inl h2)
              · exact .inr (.inr h2)
        have hput : ∀ (km : List ByteArray) (l : List VT), (textB s = false ∨ ¬ goodT f t) ∨ 80 < c + (layT f t 0).length ∨ 8 < deep + hiT f t → ((∃ i, i < (t :: l).length ∧ (textB (keyAt (s :: km) i) = false ∨ ¬ goodT f (kidT (t :: l) i))) ∨ 80 < c + sumL (fun i => layT f (kidT (t :: l) i) 0) (t :: l).length ∨ ∃ i, i < (t :: l).length ∧ 8 < deep + hiT f (kidT (t :: l) i)) := fun km l hd => by
          rcases hd with h1 | h1 | h1
          · exact .inl ⟨0, by simp, h1⟩
          · refine .inr (.inl ?_)
            rw [List.length_cons, sumL_cons]
            show 80 < c + ((layT f t 0).length + _)
            omega
          · exact .inr (.inr ⟨0, by simp, h1⟩)
        cases ks0 : keyS L p with
        | none =>
          split at e0
          · simp only [Option.some.injEq, Prod.mk.injEq] at e0
            obtain ⟨rfl, rfl, rfl⟩ := e0
            exact hput [] [] (hdoom (.inl ks0))
          · split at e0
            · cases r2 : pairsJ L R k (q1 + 1) with
              | none => simp [r2] at e0
              | some x2 =>
                obtain ⟨km, l, z⟩ := x2
                simp only [r2, Option.some.injEq, Prod.mk.injEq] at e0
                obtain ⟨rfl, rfl, rfl⟩ := e0
                exact hput km l (hdoom (.inl ks0))
            · cases e0
        | some y0 =>
          obtain ⟨s', q'⟩ := y0
          obtain ⟨k1, _⟩ := keyS_yes ks0
          rw [ek] at k1
          simp only [Option.some.injEq, Prod.mk.injEq] at k1
          obtain ⟨rfl, rfl⟩ := k1
          simp only [ks0] at h
          split at e0
          · rename_i hend
            simp only [Option.some.injEq, Prod.mk.injEq] at e0
            obtain ⟨rfl, rfl, rfl⟩ := e0
            cases e1 : S q0 c with
            | none => exact hput [] [] (hdoom (.inr ⟨_, ks0, e1⟩))
            | some x =>
              obtain ⟨n1, q2, d1⟩ := x
              obtain ⟨a1, a2, a3, t', r1', r2⟩ := H.yes _ _ _ _ _ hc e1
              rw [r1] at r1'
              simp only [Option.some.injEq, Prod.mk.injEq] at r1'
              obtain ⟨rfl, rfl⟩ := r1'
              simp [e1, hend] at h
          · rename_i hend
            split at e0
            · rename_i hc2
              cases r2 : pairsJ L R k (q1 + 1) with
              | none => simp [r2] at e0
              | some x2 =>
                obtain ⟨km, l, z⟩ := x2
                simp only [r2, Option.some.injEq, Prod.mk.injEq] at e0
                obtain ⟨rfl, rfl, rfl⟩ := e0
                cases e1 : S q0 c with
                | none => exact hput km l (hdoom (.inr ⟨_, ks0, e1⟩))
                | some x =>
                  obtain ⟨n1, q2, d1⟩ := x
                  obtain ⟨a1, a2, a3, t', r1', r3⟩ := H.yes _ _ _ _ _ hc e1
                  rw [r1] at r1'
                  simp only [Option.some.injEq, Prod.mk.injEq] at r1'
                  obtain ⟨rfl, rfl⟩ := r1'
                  simp only [e1, hend, hc2, if_true, Bool.false_eq_true, if_false] at h
                  cases e2 : spPairsJ L S k (q1 + 1) d1 with
                  | some y => simp [e2] at h
                  | none =>
                    rcases ih a2 e2 with h1 | ⟨ks', ts', q', h1, h2⟩
                    · rw [r2] at h1; cases h1
                    · rw [r2] at h1
                      simp only [Option.some.injEq, Prod.mk.injEq] at h1
                      obtain ⟨rfl, rfl, rfl⟩ := h1
                      rcases h2 with ⟨i, i1, i2⟩ | h2 | ⟨i, i1, i2⟩
                      · exact .inl ⟨i + 1, by simp; exact i1, i2⟩
                      · refine .inr (.inl ?_)
                        rw [List.length_cons, sumL_cons]
                        show 80 < c + ((layT f t 0).length + sumL (fun i => layT f (kidT l i) 0) l.length)
                        rw [r3] at a1
                        omega
                      · exact .inr (.inr ⟨i + 1, by simp; exact i1, i2⟩)
            · cases e0
theorem leafJ_full (f : Nat) : FullT (f + 1) nullT ∧ (∀ n, FullT (f + 1) (boolT n)) ∧ (∀ n, FullT (f + 1) (numT n)) ∧ ∀ s, FullT (f + 1) (wordT s) :=
  ⟨fun j hj => absurd hj (by simp), fun n j hj => absurd hj (by simp), fun n j hj => absurd hj (by simp), fun s j hj => absurd hj (by simp)⟩
theorem leafJ_lay (f : Nat) (kind n : Int) (s : ByteArray) : layT (f + 1) (.mk kind n s [] []) 0 = layT 1 (.mk kind n s [] []) 0 := layT_more (f := 1) (t := .mk kind n s [] []) (show FullT 1 (.mk kind n s [] []) from fun j hj => absurd hj (by simp)) (by omega) 0
theorem leafJ_len (kind n : Int) (s : ByteArray) : (layT 1 (.mk kind n s [] []) 0).length = 1 := by rw [lay_sum]; rfl
theorem word_bad {f : Nat} {s : ByteArray} (h : 60 < s.size) : ¬ goodT f (wordT s) := by
  cases f with
  | zero => exact id
  | succ f =>
    intro hg
    have := hg.1
    rcases nodeT_says this with ⟨e2, _⟩ | ⟨e2, _⟩ | ⟨e2, _⟩ | ⟨_, _, e2, _⟩ | ⟨e2, _⟩ | ⟨e2, _⟩ <;> omega
theorem listT_hi (f : Nat) (ts : List VT) {i : Nat} (hi : i < ts.length) : hiT f (kidT ts i) + 1 ≤ hiT (f + 1) (listT ts) := kid_hi (f := f) (kind := 5) (n := 0) (s := ByteArray.empty) (keys := []) (kids := ts) (j := i) hi
theorem one_hi {f : Nat} {t : VT} (h : FullT f t) : 1 ≤ hiT f t := by
  cases f with
  | zero => exact h.elim
  | succ f => obtain ⟨kind, n, s, keys, kids⟩ := t; rw [hiT]; omega
theorem listJ_full {f : Nat} {L : List UInt8} {R : Nat → Option (VT × Nat)} (H : ∀ p t q, R p = some (t, q) → FullT f t) {p : Nat} {t : VT} {q : Nat} (h : listJ L R p = some (t, q)) : FullT (f + 1) t := by
  unfold listJ at h
  split at h
  · simp only [Option.some.injEq, Prod.mk.injEq] at h
    obtain ⟨rfl, rfl⟩ := h
    exact fun j hj => absurd hj (by simp)
  · cases e : itemsJ L R (L.length + 1) p with
    | none => simp [e] at h
    | some x =>
      simp only [e, Option.some.injEq, Prod.mk.injEq] at h
      obtain ⟨rfl, rfl⟩ := h
      exact fun j hj => (itemsJ_full H e).2 j hj
theorem mapJ_full {f : Nat} {L : List UInt8} {R : Nat → Option (VT × Nat)} (H : ∀ p t q, R p = some (t, q) → FullT f t) {p : Nat} {t : VT} {q : Nat} (h : mapJ L R p = some (t, q)) : FullT (f + 1) t := by
  unfold mapJ at h
  split at h
  · simp only [Option.some.injEq, Prod.mk.injEq] at h
    obtain ⟨rfl, rfl⟩ := h
    exact mapT_full (fun i hi => absurd hi (by simp))
  · cases e : pairsJ L R (L.length + 1) p with
    | none => simp [e] at h
    | some x =>
      obtain ⟨ks, l, z⟩ := x
      simp only [e, Option.some.injEq, Prod.mk.injEq] at h
      obtain ⟨rfl, rfl⟩ := h
      obtain ⟨h1, h2, h3⟩ := pairsJ_full H e
      exact mapT_full (fun i hi => h3 i (by omega))
theorem readJ_full {f : Nat} {L : List UInt8} {R : Nat → Option (VT × Nat)} (H : ∀ p t q, R p = some (t, q) → FullT f t) {p : Nat} {t : VT} {q : Nat} (h : readJ L R p = some (t, q)) : FullT (f + 1) t := by
  unfold readJ at h
  split at h
  · simp only [Option.some.injEq, Prod.mk.injEq] at h; obtain ⟨rfl, rfl⟩ := h; exact (leafJ_full f).1
  · split at h
    · simp only [Option.some.injEq, Prod.mk.injEq] at h; obtain ⟨rfl, rfl⟩ := h; exact (leafJ_full f).2.1 _
    · split at h
      · simp only [Option.some.injEq, Prod.mk.injEq] at h; obtain ⟨rfl, rfl⟩ := h; exact (leafJ_full f).2.1 _
      · split at h
        · cases e : txJ L (p + 1) with
          | none => simp [e] at h
          | some x => simp only [e, Option.some.injEq, Prod.mk.injEq] at h; obtain ⟨rfl, rfl⟩ := h; exact (leafJ_full f).2.2.2 _
        · split at h
          · exact listJ_full H h
          · split at h
            · exact mapJ_full H h
            · cases e : numJ L p with
              | none => simp [e] at h
              | some x => simp only [e, Option.some.injEq, Prod.mk.injEq] at h; obtain ⟨rfl, rfl⟩ := h; exact (leafJ_full f).2.2.1 _
theorem rdJ_full (L : List UInt8) : ∀ f p t q, rdJ L f p = some (t, q) → FullT f t := by
  intro f
  induction f with
  | zero => intro p t q h; cases h
  | succ f ih =>
    intro p t q h
    rw [rdJ] at h
    cases e : readJ L (rdJ L f) (skipJ L p) with
    | none => simp [e] at h
    | some x =>
      obtain ⟨t', q'⟩ := x
      simp only [e, Option.some.injEq, Prod.mk.injEq] at h
      obtain ⟨rfl, rfl⟩ := h
      exact readJ_full ih e
theorem make_zero (f : Nat) : layT (f + 1) (listT []) 0 = makeNs 5 [] (fun _ => []) 0 ∧ layT (f + 1) (mapT [] []) 0 = makeNs 6 [] (fun _ => []) 0 := by
  refine ⟨?_, ?_⟩
  · unfold listT; rw [lay_make]; rfl
  · have e : srt [] = [] := List.eq_nil_of_length_eq_zero (by rw [srt_len]; rfl)
    rw [mapT_lay, e]; rfl
theorem listJ_yes {f deep : Nat} {L : List UInt8} {R : Nat → Option (VT × Nat)} {S : Nat → Nat → Option (List VN × Nat × Nat)} (H : RelJ f (deep + 1) R S) {p c : Nat} {ns : List VN} {q d : Nat} (hc : c + 1 ≤ 80) (h : spListJ L S (deep + 1) p (c + 1) = some (ns, q, d)) :
    d = c + ns.length ∧ d ≤ 80 ∧ 1 ≤ ns.length ∧ ∃ t, listJ L R p = some (t, q) ∧ ns = layT (f + 1) t 0 := by
  unfold spListJ at h
  unfold listJ
  split at h
  · rename_i he
    simp only [Option.some.injEq, Prod.mk.injEq] at h
    obtain ⟨rfl, rfl, rfl⟩ := h
    refine ⟨by rw [make_len]; rfl, hc, by rw [make_len]; omega, listT [], by rw [if_pos he], (make_zero f).1.symm⟩
  · rename_i he
    split at h
    · cases h
    · cases e : spItemsJ L S (L.length + 1) p (c + 1) with
      | none => simp [e] at h
      | some x =>
        obtain ⟨l, z, d1⟩ := x
        simp only [e, Option.some.injEq, Prod.mk.injEq] at h
        obtain ⟨rfl, rfl, rfl⟩ := h
        obtain ⟨b1, b2, ts, r1, r2, r3⟩ := itemsJ_yes H hc e
        refine ⟨by rw [make_len, cat_sum]; omega, b2, by rw [make_len]; omega, listT ts, by rw [if_neg he, r1], ?_⟩
        unfold listT
        rw [lay_make, r2]
        exact makeNs_same r3 _ _
theorem listJ_no {f deep : Nat} {L : List UInt8} {R : Nat → Option (VT × Nat)} {S : Nat → Nat → Option (List VN × Nat × Nat)} (H : RelJ f (deep + 1) R S) {p c : Nat} (hc : c + 1 ≤ 80) (h : spListJ L S (deep + 1) p (c + 1) = none) :
    listJ L R p = none ∨ ∃ t q, listJ L R p = some (t, q) ∧ Doom (f + 1) c deep t := by
  unfold spListJ at h
  unfold listJ
  split at h
  · cases h
  · rename_i he
    rw [if_neg he]
    cases er : itemsJ L R (L.length + 1) p with
    | none => exact .inl rfl
    | some x =>
      obtain ⟨ts, q⟩ := x
      refine .inr ⟨listT ts, q, rfl, ?_⟩
      have hsz := listT_size f ts
      obtain ⟨h1, hfull⟩ := itemsJ_full H.full er
      split at h
      · have h2 := listT_hi f ts (i := 0) (by omega)
        have h3 := one_hi (hfull 0 (by omega))
        exact .inr (.inr (by omega))
      · cases e : spItemsJ L S (L.length + 1) p (c + 1) with
        | some x => simp [e] at h
        | none =>
          rcases itemsJ_no H hc e with h2 | ⟨ts', q', h2, h3⟩
          · rw [er] at h2; cases h2
          · rw [er] at h2
            simp only [Option.some.injEq, Prod.mk.injEq] at h2
            obtain ⟨rfl, rfl⟩ := h2
            rcases h3 with ⟨i, i1, i2⟩ | h3 | ⟨i, i1, i2⟩
            · exact .inl (fun hg => i2 (hg.2 i i1))
            · exact .inr (.inl (by rw [hsz]; omega))
            · have := listT_hi f ts i1
              exact .inr (.inr (by omega))
theorem mapJ_yes {f deep : Nat} {L : List UInt8} {R : Nat → Option (VT × Nat)} {S : Nat → Nat → Option (List VN × Nat × Nat)} (H : RelJ f (deep + 1) R S) {p c : Nat} {ns : List VN} {q d : Nat} (hc : c + 1 ≤ 80) (h : spMapJ L S (deep + 1) p (c + 1) = some (ns, q, d)) :
    d = c + ns.length ∧ d ≤ 80 ∧ 1 ≤ ns.length ∧ ∃ t, mapJ L R p = some (t, q) ∧ ns = layT (f + 1) t 0 := by
  unfold spMapJ at h
  unfold mapJ
  split at h
  · rename_i he
    simp only [Option.some.injEq, Prod.mk.injEq] at h
    obtain ⟨rfl, rfl, rfl⟩ := h
    refine ⟨by rw [make_len]; rfl, hc, by rw [make_len]; omega, mapT [] [], by rw [if_pos he], (make_zero f).2.symm⟩
  · rename_i he
    split at h
    · cases h
    · cases e : spPairsJ L S (L.length + 1) p (c + 1) with
      | none => simp [e] at h
      | some x =>
        obtain ⟨ks, l, z, d1⟩ := x
        simp only [e] at h
        cases es : sortIn ks ks.length with
        | none => simp [es] at h
        | some y =>
          obtain ⟨nk, ps⟩ := y
          simp only [es, Option.some.injEq, Prod.mk.injEq] at h
          obtain ⟨rfl, rfl, rfl⟩ := h
          obtain ⟨b1, b2, b3, ts, r1, r2, r3⟩ := pairsJ_yes H hc e
          obtain ⟨s1, s2⟩ := srt_sorted es
          have hsum : (catNs (fun j => rowAt l (ps.getD j 0)) ks.length).length = sumL (rowAt l) l.length := by
            rw [cat_sum, ← s1, sumL_perm (rowAt l) (srt_perm ks), b3]
          refine ⟨by rw [make_len, hsum]; omega, b2, by rw [make_len]; omega, mapT ks ts, by rw [if_neg he, r1], ?_⟩
          rw [mapT_lay, s1, ← s2]
          exact makeNs_same (fun i hi => by
            have := srt_lt hi
            rw [s1] at this
            exact r3 _ (by omega)) _ _
theorem mapJ_no {f deep : Nat} {L : List UInt8} {R : Nat → Option (VT × Nat)} {S : Nat → Nat → Option (List VN × Nat × Nat)} (H : RelJ f (deep + 1) R S) {p c : Nat} (hc : c + 1 ≤ 80) (h : spMapJ L S (deep + 1) p (c + 1) = none) :
    mapJ L R p = none ∨ ∃ t q, mapJ L R p = some (t, q) ∧ Doom (f + 1) c deep t := by
  unfold spMapJ at h
  unfold mapJ
  split at h
  · cases h
  · rename_i he
    rw [if_neg he]
    cases er : pairsJ L R (L.length + 1) p with
    | none => exact .inl rfl
    | some x =>
      obtain ⟨ks, ts, q⟩ := x
      refine .inr ⟨mapT ks ts, q, rfl, ?_⟩
      have hsz := mapT_size f ks ts
      obtain ⟨hkl, h1, hfull⟩ := pairsJ_full H.full er
      split at h
      · have h2 := mapT_hi (f := f) (ks := ks) (ts := ts) (i := 0) (by omega)
        have h3 := one_hi (hfull 0 (by omega))
        exact .inr (.inr (by omega))
      · cases e : spPairsJ L S (L.length + 1) p (c + 1) with
        | some x =>
          obtain ⟨ks2, l, z, d1⟩ := x
          obtain ⟨b1, b2, b3, ts2, r1, r2, r3⟩ := pairsJ_yes H hc e
          rw [er] at r1
          simp only [Option.some.injEq, Prod.mk.injEq] at r1
          obtain ⟨rfl, rfl, rfl⟩ := r1
          simp only [e] at h
          cases es : sortIn ks ks.length with
          | some y => simp [es] at h
          | none =>
            refine .inl (fun hg => ?_)
            obtain ⟨_, _, ns, ps, e3⟩ := mapT_good hg
            rw [es] at e3; cases e3
        | none =>
          rcases pairsJ_no H hc e with h2 | ⟨ks', ts', q', h2, h3⟩
          · rw [er] at h2; cases h2
          · rw [er] at h2
            simp only [Option.some.injEq, Prod.mk.injEq] at h2
            obtain ⟨rfl, rfl, rfl⟩ := h2
            rcases h3 with ⟨i, i1, i2⟩ | h3 | ⟨i, i1, i2⟩
            · refine .inl (fun hg => ?_)
              obtain ⟨g1, g2, _⟩ := mapT_good hg
              rcases i2 with i2 | i2
              · rw [g2 i (by omega)] at i2; cases i2
              · exact i2 (g1 i (by omega))
            · exact .inr (.inl (by rw [hsz, hkl]; omega))
            · have := mapT_hi (f := f) (ks := ks) (ts := ts) (i := i) (by omega)
              exact .inr (.inr (by omega))
/-- The two readings say the same, so deep. -/
theorem relJ (L : List UInt8) : ∀ f deep, RelJ f deep (rdJ L f) (spJ L f deep) := by
  intro f
  induction f with
  | zero => intro deep; exact ⟨fun p t q h => (by cases h), fun p c ns q d _ h => (by cases h), fun p c _ _ => .inl rfl⟩
  | succ f ih =>
    intro deep
    have H := ih (deep + 1)
    refine ⟨rdJ_full L (f + 1), fun p c ns q d hc h => ?_, fun p c hc h => ?_⟩
    · rw [spJ] at h
      split at h
      · cases h
      · rename_i h80
        cases e : spReadJ L (spJ L f (deep + 1)) (deep + 1) (skipJ L p) (c + 1) with
        | none => simp [e] at h
        | some x =>
          obtain ⟨n1, q1, d1⟩ := x
          simp only [e, Option.some.injEq, Prod.mk.injEq] at h
          obtain ⟨rfl, rfl, rfl⟩ := h
          have key : d1 = c + n1.length ∧ d1 ≤ 80 ∧ 1 ≤ n1.length ∧ ∃ t, readJ L (rdJ L f) (skipJ L p) = some (t, q1) ∧ n1 = layT (f + 1) t 0 := by
            unfold spReadJ at e
            unfold readJ
            split at e
            · simp only [Option.some.injEq, Prod.mk.injEq] at e
              obtain ⟨rfl, rfl, rfl⟩ := e
              rename_i e1
              exact ⟨by rw [nullT, leafJ_len], by omega, by rw [nullT, leafJ_len]; omega, _, by rw [if_pos e1]; rfl, (leafJ_lay f _ _ _).symm⟩
            · rename_i e1
              rw [if_neg e1]
              split at e
              · simp only [Option.some.injEq, Prod.mk.injEq] at e
                obtain ⟨rfl, rfl, rfl⟩ := e
                rename_i e2
                exact ⟨by rw [boolT, leafJ_len], by omega, by rw [boolT, leafJ_len]; omega, _, by rw [if_pos e2]; rfl, (leafJ_lay f _ _ _).symm⟩
              · rename_i e2
                rw [if_neg e2]
                split at e
                · simp only [Option.some.injEq, Prod.mk.injEq] at e
                  obtain ⟨rfl, rfl, rfl⟩ := e
                  rename_i e3
                  exact ⟨by rw [boolT, leafJ_len], by omega, by rw [boolT, leafJ_len]; omega, _, by rw [if_pos e3]; rfl, (leafJ_lay f _ _ _).symm⟩
                · rename_i e3
                  rw [if_neg e3]
                  split at e
                  · rename_i e4
                    rw [if_pos e4]
                    cases et : txJ L (skipJ L p + 1) with
                    | none => simp [et] at e
                    | some y =>
                      obtain ⟨l, z⟩ := y
                      simp only [et] at e
                      split at e
                      · simp only [Option.some.injEq, Prod.mk.injEq] at e
                        obtain ⟨rfl, rfl, rfl⟩ := e
                        exact ⟨by rw [wordT, leafJ_len], by omega, by rw [wordT, leafJ_len]; omega, _, rfl, (leafJ_lay f _ _ _).symm⟩
                      · cases e
                  · rename_i e4
                    rw [if_neg e4]
                    split at e
                    · rename_i e5
                      rw [if_pos e5]
                      exact listJ_yes H (by omega) e
                    · rename_i e5
                      rw [if_neg e5]
                      split at e
                      · rename_i e6
                        rw [if_pos e6]
                        exact mapJ_yes H (by omega) e
                      · rename_i e6
                        rw [if_neg e6]
                        cases et : numJ L (skipJ L p) with
                        | none => simp [et] at e
                        | some y =>
                          obtain ⟨v, z⟩ := y
                          simp only [et, Option.some.injEq, Prod.mk.injEq] at e
                          obtain ⟨rfl, rfl, rfl⟩ := e
                          exact ⟨by rw [numT, leafJ_len], by omega, by rw [numT, leafJ_len]; omega, _, rfl, (leafJ_lay f _ _ _).symm⟩
          obtain ⟨k1, k2, k3, t, k4, k5⟩ := key
          exact ⟨k1, k2, k3, t, by rw [rdJ, k4], k5⟩
    · cases er : rdJ L (f + 1) p with
      | none => exact .inl rfl
      | some x =>
        obtain ⟨t, q⟩ := x
        refine .inr ⟨t, q, rfl, ?_⟩
        have hfull := rdJ_full L (f + 1) _ _ _ er
        have hlen := layT_len hfull 0
        rw [spJ] at h
        split at h
        · exact .inr (.inl (by omega))
        · rename_i h80
          rw [rdJ] at er
          cases e2 : readJ L (rdJ L f) (skipJ L p) with
          | none => simp [e2] at er
          | some y =>
            obtain ⟨t1, q1⟩ := y
            simp only [e2, Option.some.injEq, Prod.mk.injEq] at er
            obtain ⟨rfl, rfl⟩ := er
            cases e : spReadJ L (spJ L f (deep + 1)) (deep + 1) (skipJ L p) (c + 1) with
            | some x => simp [e] at h
            | none =>
              unfold spReadJ at e
              unfold readJ at e2
              split at e
              · cases e
              · rename_i e1
                rw [if_neg e1] at e2
                split at e
                · cases e
                · rename_i e3
                  rw [if_neg e3] at e2
                  split at e
                  · cases e
                  · rename_i e4
                    rw [if_neg e4] at e2
                    split at e
                    · rename_i e5
                      rw [if_pos e5] at e2
                      cases et : txJ L (skipJ L p + 1) with
                      | none => simp [et] at e2
                      | some y =>
                        obtain ⟨l, z⟩ := y
                        simp only [et] at e
                        simp only [et, Option.some.injEq, Prod.mk.injEq] at e2
                        obtain ⟨rfl, rfl⟩ := e2
                        split at e
                        · cases e
                        · rename_i hl
                          refine .inl (word_bad ?_)
                          have : (txt l).size = l.length := by show l.toArray.size = l.length; simp
                          omega
                    · rename_i e5
                      rw [if_neg e5] at e2
                      split at e
                      · rename_i e6
                        rw [if_pos e6] at e2
                        rcases listJ_no H (by omega) e with h1 | ⟨t', q', h1, h2⟩
                        · rw [e2] at h1; cases h1
                        · rw [e2] at h1
                          simp only [Option.some.injEq, Prod.mk.injEq] at h1
                          obtain ⟨rfl, rfl⟩ := h1
                          exact h2
                      · rename_i e6
                        rw [if_neg e6] at e2
                        split at e
                        · rename_i e7
                          rw [if_pos e7] at e2
                          rcases mapJ_no H (by omega) e with h1 | ⟨t', q', h1, h2⟩
                          · rw [e2] at h1; cases h1
                          · rw [e2] at h1
                            simp only [Option.some.injEq, Prod.mk.injEq] at h1
                            obtain ⟨rfl, rfl⟩ := h1
                            exact h2
                        · rename_i e7
                          rw [if_neg e7] at e2
                          cases et : numJ L (skipJ L p) with
                          | none => simp [et] at e2
                          | some y => simp [et] at e
end Go.Proofs.YtagcgnhpdmhegaaGreatDoor
