/-
  The length of a value, on its nodes: plain mathematics.
-/
import Derived.Test.YtgmnihofkpjboaaGreatDoorStbA
import Derived.Test.YtgmnihofkpjboaaGreatDoorKi
import Derived.Test.YtgmnihofkpjboaaGreatDoorSPart
import Derived.Test.YtgmnihofkpjboaaGreatDoorTree
namespace Go.Proofs.YtgmnihofkpjboaaGreatDoor
open Go.RowKit
set_option linter.unusedSimpArgs false
set_option linter.unusedVariables false

/-- The length of a value with that root; none of a truth value. -/
def lenK (x : VN) : Option Int :=
  if x.kind = 1 then some 0
  else if x.kind = 3 then some (max x.n (-x.n))
  else if x.kind = 4 then some (x.s.size : Int)
  else if x.kind = 5 ∨ x.kind = 6 then some (x.kids.length : Int)
  else none

def rootN (vs : List VN) : VN := nodeAt vs (vs.length - 1)
def oneNs (o : Option Int) : List VN := match o with
  | some n => leafN 3 n ByteArray.empty
  | none => []
def kindC (o : Option Int) : Int := match o with
  | some _ => 0
  | none => 2
def lenNs (vs : List VN) : List VN := if okB vs = true then oneNs (lenK (rootN vs)) else []
def lenC (vs : List VN) : Int := if okB vs = true then kindC (lenK (rootN vs)) else 1

theorem leaf_few (n : Int) (h1 : -9223372036854775808 ≤ n) (h2 : n ≤ 9223372036854775807) : Few (leafN 3 n ByteArray.empty) ∧ ∀ i, i < (leafN 3 n ByteArray.empty).length → Fits (nodeAt (leafN 3 n ByteArray.empty) i) := by
  have h0 : ∀ i, i < (leafN 3 n ByteArray.empty).length → i = 0 := fun i hi => by simp [leafN] at hi; omega
  refine ⟨⟨by simp [leafN], fun i hi => ?_⟩, fun i hi => ?_⟩
  · obtain rfl := h0 i hi
    exact ⟨by simp [leafN, nodeAt], by simp [leafN, nodeAt]⟩
  · obtain rfl := h0 i hi
    refine ⟨by simp [leafN, nodeAt], fun i hi => absurd hi (by simp [leafN, nodeAt]), by simp [leafN, nodeAt], fun i hi => absurd hi (by simp [leafN, nodeAt]), by simp [leafN, nodeAt], by simp [leafN, nodeAt], by simp [leafN, nodeAt], by simpa [leafN, nodeAt] using h1, by simpa [leafN, nodeAt] using h2⟩

theorem none_few : Few ([] : List VN) ∧ ∀ i, i < ([] : List VN).length → Fits (nodeAt [] i) := ⟨⟨by simp, fun i hi => absurd hi (by simp)⟩, fun i hi => absurd hi (by simp)⟩

/-- What a right value's root is. -/
theorem root_says {vs : List VN} (hok : okB vs = true) : (rootN vs).kind = 1 ∨ (rootN vs).kind = 2 ∨ ((rootN vs).kind = 3 ∧ -1000000000000000 ≤ (rootN vs).n ∧ (rootN vs).n ≤ 1000000000000000) ∨ ((rootN vs).kind = 4 ∧ (rootN vs).s.size ≤ 60) ∨ ((rootN vs).kind = 5 ∧ (rootN vs).kids.length ≤ 80) ∨ ((rootN vs).kind = 6 ∧ (rootN vs).kids.length ≤ 80) := by
  obtain ⟨p1, p2, _, p4⟩ := okB_parts hok
  have hn := (p2 (vs.length - 1) (by omega)).1
  have hk := p4 (vs.length - 1) (by omega)
  have hk' : (rootN vs).kids.length ≤ 80 := by unfold rootN; omega
  change nodeB (rootN vs) = true at hn
  unfold nodeB namedB at hn
  simp only [Bool.and_eq_true] at hn
  have h2 := hn.2
  by_cases k1 : (rootN vs).kind = 1
  · exact Or.inl k1
  by_cases k2 : (rootN vs).kind = 2
  · exact Or.inr (Or.inl k2)
  by_cases k3 : (rootN vs).kind = 3
  · simp [k3] at h2; exact Or.inr (Or.inr (Or.inl ⟨k3, by omega, by omega⟩))
  by_cases k4 : (rootN vs).kind = 4
  · simp [k4, textB] at h2; exact Or.inr (Or.inr (Or.inr (Or.inl ⟨k4, h2.1⟩)))
  by_cases k5 : (rootN vs).kind = 5
  · exact Or.inr (Or.inr (Or.inr (Or.inr (Or.inl ⟨k5, hk'⟩))))
  by_cases k6 : (rootN vs).kind = 6
  · exact Or.inr (Or.inr (Or.inr (Or.inr (Or.inr ⟨k6, hk'⟩))))
  simp [k1, k2, k3, k4, k5, k6] at h2

theorem len_range {vs : List VN} (hok : okB vs = true) {n : Int} (h : lenK (rootN vs) = some n) : 0 ≤ n ∧ n ≤ 1000000000000000 := by
  unfold lenK at h
  rcases root_says hok with k | k | ⟨k, a, b⟩ | ⟨k, a⟩ | ⟨k, a⟩ | ⟨k, a⟩ <;> simp [k] at h <;> omega

theorem len_few (vs : List VN) : Few (lenNs vs) ∧ ∀ i, i < (lenNs vs).length → Fits (nodeAt (lenNs vs) i) := by
  unfold lenNs
  split
  · rename_i hok
    cases h : lenK (rootN vs) with
    | none => exact none_few
    | some n =>
      have := len_range hok h
      exact leaf_few n (by omega) (by omega)
  · exact none_few
end Go.Proofs.YtgmnihofkpjboaaGreatDoor

/-
  A part's nodes: plain mathematics.
-/
namespace Go.Proofs.YtgmnihofkpjboaaGreatDoor
open Go.RowKit
set_option linter.unusedSimpArgs false
set_option linter.unusedVariables false

/-- There is a part: the value is right, and n one of its nodes. -/
def partB (vs : List VN) (n : Int) : Bool := okB vs && inB n 0 ((vs.length : Int) - 1)

/-- The part's nodes. -/
def partOf (vs : List VN) (n : Nat) : List VN := run vs (-(trF (tr (kidsOf vs) n))) (trF (tr (kidsOf vs) n)).toNat (n + 1 - (trF (tr (kidsOf vs) n)).toNat)

theorem keys_few {vs : List VN} (h : okB vs = true) : ∀ k, k < vs.length → kidsIn vs k = true ∧ (nodeAt vs k).kids.length ≤ 80 ∧ (nodeAt vs k).keys.length ≤ 80 := by
  intro k hk
  obtain ⟨h1, h2, _, h4⟩ := okB_parts h
  have hn := h2 k hk
  have := h4 k hk
  refine ⟨hn.2, by omega, ?_⟩
  by_cases e : (nodeAt vs k).kind = 6
  · have hb := hn.1
    unfold nodeB namedB at hb
    simp [e] at hb
    omega
  · have hb := hn.1
    unfold nodeB unnamedB at hb
    simp [e] at hb
    have := hb.1.1.2
    simp [this]

theorem lay_part {vs : List VN} (hok : okB vs = true) {f m : Nat} (hf : m < f) (hm : m < vs.length) : layT f (treeOf vs f m) 0 = partOf vs m ∧ (partOf vs m).length ≤ 80 := by
  obtain ⟨p1, _, p3, _⟩ := okB_parts hok
  obtain ⟨⟨a0, h0⟩, htr⟩ := p3 m hm
  have e : partOf vs m = run vs (-(a0 : Int)) a0 (m + 1 - a0) := by rw [partOf, htr]; simp [trF]
  rw [← lay_tree, lay_run vs f m 0 a0 h0 hf htr, e]
  exact ⟨by simp, by rw [run_length]; omega⟩

/-- A part's nodes fit, and are few. -/
theorem part_fits {vs : List VN} (hok : okB vs = true) (hf : ∀ i, i < vs.length → Fits (nodeAt vs i)) {m : Nat} (hm : m < vs.length) : ∀ i, i < (partOf vs m).length → Fits (nodeAt (partOf vs m) i) ∧ (nodeAt (partOf vs m) i).keys.length ≤ 80 ∧ (nodeAt (partOf vs m) i).kids.length ≤ 80 := by
  obtain ⟨p1, p2, p3, p4⟩ := okB_parts hok
  obtain ⟨⟨a0, h0⟩, htr⟩ := p3 m hm
  have e : partOf vs m = run vs (-(a0 : Int)) a0 (m + 1 - a0) := by rw [partOf, htr]; simp [trF]
  rw [e]
  intro i hi
  rw [run_length] at hi
  have en : nodeAt (run vs (-(a0 : Int)) a0 (m + 1 - a0)) i = shiftN (-(a0 : Int)) (nodeAt vs (a0 + i)) := by
    unfold run
    conv => lhs; unfold nodeAt
    rw [List.getD_eq_getElem?_getD, List.getElem?_map, List.getElem?_range' (by omega)]
    simp [nodeAt]
  rw [en]
  have f := hf (a0 + i) (by omega)
  have kf := keys_few hok (a0 + i) (by omega)
  refine ⟨⟨f.keysN, f.keysS, by simpa [shiftN] using f.kidsN, fun j hj => ?_, f.size, f.klo, f.khi, f.nlo, f.nhi⟩, kf.2.2, by simpa [shiftN] using kf.2.1⟩
  have hj' : j < (nodeAt vs (a0 + i)).kids.length := by simpa [shiftN] using hj
  have hb := kidsIn_get kf.1 hj'
  have ei : intAt (shiftN (-(a0 : Int)) (nodeAt vs (a0 + i))).kids j = intAt (nodeAt vs (a0 + i)).kids j + -(a0 : Int) := by
    rw [intAt_get hj, intAt_get hj']; simp [shiftN]
  rw [ei]
  omega
end Go.Proofs.YtgmnihofkpjboaaGreatDoor

/-
  A part of a right value is right. Plain mathematics.
-/
namespace Go.Proofs.YtgmnihofkpjboaaGreatDoor
open Go.RowKit
set_option linter.unusedSimpArgs false
set_option linter.unusedVariables false

theorem fold_cover {K : Nat → List Int} : ∀ (l : List Int) (b h : Nat) (q : Nat × Nat), l.foldl (stepKid (tr K)) (some (b, h)) = some q → h ≤ q.2 ∧ q.1 ≤ b ∧ ∀ m, q.1 ≤ m → m < b → ∃ k p, tr K k = some p ∧ p.1 ≤ m ∧ m ≤ k ∧ q.1 ≤ p.1 ∧ p.2 ≤ q.2 ∧ k < b := by
  intro l
  induction l with
  | nil => intro b h q e; simp at e; subst e; exact ⟨Nat.le_refl _, Nat.le_refl _, fun m h1 h2 => absurd h1 (by simp only; omega)⟩
  | cons k l ih =>
    intro b h q e
    obtain ⟨p, h1, h2, h3, h4⟩ := fold_cons_some e
    have hp := tr_le h3
    obtain ⟨i1, i2, i3⟩ := ih _ _ _ h4
    refine ⟨by omega, by omega, fun m hm1 hm2 => ?_⟩
    by_cases c : m < p.1
    · obtain ⟨k', p', a1, a2, a3, a4, a5, a6⟩ := i3 m hm1 c
      exact ⟨k', p', a1, a2, a3, a4, a5, by omega⟩
    · exact ⟨b - 1, p, h3, by omega, by omega, i2, by omega, by omega⟩

theorem tr_fold {K : Nat → List Int} {n : Nat} {p : Nat × Nat} (h : tr K n = some p) : ∃ q, (K n).reverse.foldl (stepKid (tr K)) (some (n, 0)) = some q ∧ p = (q.1, q.2 + 1) := by
  rw [tr_eq] at h
  cases e : (K n).reverse.foldl (stepKid (tr K)) (some (n, 0)) with
  | none => simp [e] at h
  | some q => simp [e] at h; exact ⟨q, rfl, h.symm⟩

/-- Below a node: no tree begins ahead of its first one, none is higher. -/
theorem tr_sub {K : Nat → List Int} : ∀ (N n : Nat) (p : Nat × Nat), n < N → tr K n = some p → ∀ m, p.1 ≤ m → m ≤ n → ∃ r, tr K m = some r ∧ p.1 ≤ r.1 ∧ r.2 ≤ p.2 := by
  intro N
  induction N with
  | zero => intro n p h; omega
  | succ N ih =>
    intro n p hN h m h1 h2
    by_cases e : m = n
    · subst e; exact ⟨p, h, Nat.le_refl _, Nat.le_refl _⟩
    · obtain ⟨q, hq, rfl⟩ := tr_fold h
      obtain ⟨_, _, hc⟩ := fold_cover _ _ _ _ hq
      obtain ⟨k, r, a1, a2, a3, a4, a5, a6⟩ := hc m h1 (by omega)
      obtain ⟨r', b1, b2, b3⟩ := ih k r (by omega) a1 m a2 a3
      exact ⟨r', b1, by simp only at *; omega, by simp only at *; omega⟩

theorem fold_shift {T T' : Nat → Option (Nat × Nat)} {a N : Nat} (hT : ∀ m p, T m = some p → p.1 ≤ m) (he : ∀ m p, a ≤ m → m < N → T m = some p → a ≤ p.1 → T' (m - a) = some (p.1 - a, p.2)) : ∀ (l : List Int) (b h : Nat) (q : Nat × Nat), b ≤ N → l.foldl (stepKid T) (some (b, h)) = some q → a ≤ q.1 → (l.map (· + -(a : Int))).foldl (stepKid T') (some (b - a, h)) = some (q.1 - a, q.2) := by
  intro l
  induction l with
  | nil => intro b h q _ e _; simp at e; subst e; rfl
  | cons k l ih =>
    intro b h q hb e hq
    obtain ⟨p, h1, h2, h3, h4⟩ := fold_cons_some e
    have hp := hT _ _ h3
    have hl := fold_le hT _ _ _ _ h4
    have ht := he (b - 1) p (by omega) (by omega) h3 (by omega)
    rw [List.map_cons, List.foldl_cons]
    have hs : stepKid T' (some (b - a, h)) (k + -(a : Int)) = some (p.1 - a, max h p.2) := by
      simp only [stepKid]
      rw [if_pos ⟨by omega, by omega⟩, show b - a - 1 = b - 1 - a by omega, ht]
      rfl
    rw [hs]
    exact ih _ _ _ (by omega) h4 hq

theorem run_nodeAt {vs : List VN} {d : Int} {a n i : Nat} (h : i < n) : nodeAt (run vs d a n) i = shiftN d (nodeAt vs (a + i)) := by
  unfold run
  unfold nodeAt
  simp [h]

theorem nodeB_shift (d : Int) (x : VN) : nodeB (shiftN d x) = nodeB x := by
  unfold nodeB unnamedB namedB shiftN
  simp

theorem tr_shift {vs : List VN} {q a h : Nat} (ht : tr (kidsOf vs) q = some (a, h)) : ∀ (N i : Nat), i < N → a + i ≤ q → ∀ p, tr (kidsOf vs) (a + i) = some p → tr (kidsOf (run vs (-(a : Int)) a (q + 1 - a))) i = some (p.1 - a, p.2) := by
  intro N
  induction N with
  | zero => intro i h; omega
  | succ N ih =>
    intro i hN hi p hp
    have hap := tr_le ht
    simp only at hap
    obtain ⟨r, hr, h1, _⟩ := tr_sub _ _ _ (Nat.lt_succ_self _) ht (a + i) (by simp only; omega) hi
    rw [hp] at hr
    simp only [Option.some.injEq] at hr
    subst hr
    obtain ⟨w, hw, rfl⟩ := tr_fold hp
    have hk : kidsOf (run vs (-(a : Int)) a (q + 1 - a)) i = (kidsOf vs (a + i)).map (· + -(a : Int)) := by
      unfold kidsOf
      rw [run_nodeAt (by omega)]
      rfl
    rw [tr_eq, hk, ← List.map_reverse]
    have := fold_shift (T := tr (kidsOf vs)) (T' := tr (kidsOf (run vs (-(a : Int)) a (q + 1 - a)))) (a := a) (N := a + i) (fun m p h => tr_le h)
      (fun m p h1 h2 h3 h4 => by
        have := ih (m - a) (by omega) (by omega) p (by rw [show a + (m - a) = m by omega]; exact h3)
        exact this) _ _ _ _ (Nat.le_refl _) hw h1
    rw [show a + i - a = i by omega] at this
    rw [this]
    rfl

theorem part_okB {vs : List VN} (hok : okB vs = true) {m : Nat} (hm : m < vs.length) : okB (partOf vs m) = true := by
  obtain ⟨p1, p2, p3, p4⟩ := okB_parts hok
  obtain ⟨⟨a0, h0⟩, htr⟩ := p3 m hm
  have e : partOf vs m = run vs (-(a0 : Int)) a0 (m + 1 - a0) := by rw [partOf, htr]; simp [trF]
  have ha := tr_le htr
  simp only at ha
  have hroot : ∃ h, tr (kidsOf vs) (vs.length - 1) = some (0, h) ∧ h ≤ 8 := by
    unfold okB rootB at hok
    simp only [Bool.and_eq_true] at hok
    have h := hok.2
    cases e : tr (kidsOf vs) (vs.length - 1) with
    | none => simp [e] at h
    | some p => obtain ⟨a, b⟩ := p; simp [e] at h; obtain ⟨rfl, h8⟩ := h; exact ⟨b, rfl, h8⟩
  obtain ⟨hr, hr1, hr2⟩ := hroot
  obtain ⟨r, hr3, _, hr5⟩ := tr_sub _ _ _ (Nat.lt_succ_self _) hr1 m (Nat.zero_le _) (by omega)
  rw [htr] at hr3
  simp only [Option.some.injEq] at hr3
  subst hr3
  simp only at hr5
  have hlen : (partOf vs m).length = m + 1 - a0 := by rw [e, run_length]
  rw [← okB_eq]
  unfold tabB
  rw [hlen]
  have s1 : sizeB (partOf vs m) = true := by unfold sizeB; rw [hlen]; simp; omega
  have s2 : ((List.range (m + 1 - a0)).all fun i => nodeB (nodeAt (partOf vs m) i)) = true := by
    rw [List.all_eq_true]
    intro i hi
    have hi' := List.mem_range.1 hi
    rw [e, run_nodeAt hi', nodeB_shift]
    exact (p2 (a0 + i) (by omega)).1
  have s3 : ((List.range (m + 1 - a0)).all fun i => (tr (kidsOf (partOf vs m)) i).isSome) = true := by
    rw [List.all_eq_true]
    intro i hi
    have hi' := List.mem_range.1 hi
    obtain ⟨p, hp⟩ := p3 (a0 + i) (by omega)
    rw [e, tr_shift htr (i + 1) i (by omega) (by omega) p hp]
    rfl
  have s4 : rootB (partOf vs m) = true := by
    unfold rootB
    rw [hlen, e, tr_shift htr (m + 1) (m + 1 - a0 - 1) (by omega) (by omega) (a0, h0) (by rw [show a0 + (m + 1 - a0 - 1) = m by omega]; exact htr)]
    simp
    omega
  rw [s1, s2, s3, s4]
  rfl
end Go.Proofs.YtgmnihofkpjboaaGreatDoor
