/-
  Plain: when the nodes that are laid for a tree are a right value: by the tree alone.
-/
import Derived.Test.YtpakfgonemiebaaTree
import Derived.Test.YtpakfgonemiebaaListP
namespace Go.Proofs.Ytpakfgonemiebaa
open Go.RowKit
set_option linter.unusedSimpArgs false
set_option linter.unusedVariables false

/-- The tree ends within so many steps. -/
def FullT : Nat → VT → Prop
  | 0, _ => False
  | f + 1, .mk _ _ _ _ kids => ∀ j, j < kids.length → FullT f (kidT kids j)
/-- Every node is right by itself. -/
def nodeT (kind n : Int) (s : ByteArray) (keys : List ByteArray) (m : Nat) : Bool := nodeB ⟨kind, n, s, keys, List.replicate m 0⟩
def goodT : Nat → VT → Prop
  | 0, _ => False
  | f + 1, .mk kind n s keys kids => nodeT kind n s keys kids.length = true ∧ ∀ j, j < kids.length → goodT f (kidT kids j)
def hiK (F : VT → Nat) (kids : List VT) : Nat → Nat
  | 0 => 0
  | k + 1 => max (hiK F kids k) (F (kidT kids k))
/-- How deep a tree is. -/
def hiT : Nat → VT → Nat
  | 0, _ => 0
  | f + 1, .mk _ _ _ _ kids => hiK (hiT f) kids kids.length + 1
theorem goodT.full : ∀ {f : Nat} {t : VT}, goodT f t → FullT f t
  | 0, _, h => h.elim
  | f + 1, .mk _ _ _ _ _, h => fun j hj => (h.2 j hj).full
theorem nodeT_eq (x : VN) : nodeB x = nodeT x.kind x.n x.s x.keys x.kids.length := by
  unfold nodeT nodeB unnamedB namedB
  simp
theorem FullT.more : ∀ {f g : Nat} {t : VT}, f ≤ g → FullT f t → FullT g t
  | 0, _, _, _, h => h.elim
  | f + 1, 0, _, hg, _ => by omega
  | f + 1, g + 1, .mk _ _ _ _ _, hg, h => fun j hj => (h j hj).more (by omega)

theorem accT_pre (f sh : Nat) (kids : List VT) {k m : Nat} (h : k ≤ m) (hm : m ≤ kids.length) : ∃ t, accT f sh kids m = accT f sh kids k ++ t := by
  induction m with
  | zero => obtain rfl : k = 0 := by omega
            exact ⟨[], by simp⟩
  | succ m ih =>
    by_cases e : k = m + 1
    · subst e; exact ⟨[], by simp⟩
    · obtain ⟨t, ht⟩ := ih (by omega) (by omega)
      exact ⟨t ++ _, by rw [accT_succ f sh (by omega), ht, List.append_assoc]⟩
theorem layT_len {f : Nat} {t : VT} (h : FullT f t) (sh : Nat) : 1 ≤ (layT f t sh).length := by
  cases f with
  | zero => exact h.elim
  | succ f => obtain ⟨kind, n, s, keys, kids⟩ := t; rw [layT_eq]; simp

theorem tr_lay : ∀ {f : Nat} {t : VT}, FullT f t → ∀ (vs : List VN) (sh : Nat), (∀ j, j < (layT f t sh).length → kidsOf vs (sh + j) = (nodeAt (layT f t sh) j).kids) → tr (kidsOf vs) (sh + (layT f t sh).length - 1) = some (sh, hiT f t) := by
  intro f
  induction f with
  | zero => intro t h; exact h.elim
  | succ f ih =>
    intro t h vs sh hk
    obtain ⟨kind, n, s, keys, kids⟩ := t
    rw [layT_eq] at hk ⊢
    rw [List.length_append, List.length_cons, List.length_nil] at hk ⊢
    have hroot := hk (accT f sh kids kids.length).length (by omega)
    rw [nodeAt_right (Nat.le_refl _), Nat.sub_self] at hroot
    have hroot' : kidsOf vs (sh + (accT f sh kids kids.length).length) = ksT f sh kids kids.length := hroot
    rw [show sh + ((accT f sh kids kids.length).length + (0 + 1)) - 1 = sh + (accT f sh kids kids.length).length by omega, tr_eq, hroot']
    have hf : ∀ k, k ≤ kids.length → ∀ h0, (ksT f sh kids k).reverse.foldl (stepKid (tr (kidsOf vs))) (some (sh + (accT f sh kids k).length, h0)) = some (sh, max h0 (hiK (hiT f) kids k)) := by
      intro k
      induction k with
      | zero => intro _ h0; rw [ksT_zero, accT_zero]; simp [hiK]
      | succ k ihk =>
        intro hkl h0
        rw [ksT_succ f sh (by omega), List.reverse_append, List.reverse_cons, List.reverse_nil, List.nil_append, List.cons_append, List.nil_append, List.foldl_cons]
        have hlen : (accT f sh kids (k + 1)).length = (accT f sh kids k).length + (layT f (kidT kids k) (sh + (accT f sh kids k).length)).length := by rw [accT_succ f sh (by omega), List.length_append]
        have hpos := layT_len (h k (by omega)) (sh + (accT f sh kids k).length)
        have htr := ih (h k (by omega)) vs (sh + (accT f sh kids k).length) (fun j hj => by
          obtain ⟨t1, ht1⟩ := accT_pre f sh kids (show k + 1 ≤ kids.length by omega) (Nat.le_refl _)
          have hl1 := congrArg List.length ht1
          rw [List.length_append] at hl1
          have := hk ((accT f sh kids k).length + j) (by omega)
          rw [nodeAt_left (by omega), ht1, nodeAt_left (by omega), accT_succ f sh (by omega), nodeAt_right (by omega)] at this
          rw [Nat.add_assoc, this, Nat.add_sub_cancel_left])
        have hst : stepKid (tr (kidsOf vs)) (some (sh + (accT f sh kids (k + 1)).length, h0)) (((sh + (accT f sh kids (k + 1)).length : Nat) : Int) - 1) = some (sh + (accT f sh kids k).length, max h0 (hiT f (kidT kids k))) := by
          unfold stepKid
          simp only
          rw [if_pos ⟨by omega, trivial⟩]
          rw [show sh + (accT f sh kids (k + 1)).length - 1 = sh + (accT f sh kids k).length + (layT f (kidT kids k) (sh + (accT f sh kids k).length)).length - 1 by omega, htr]
          rfl
        rw [hst, ihk (by omega), hiK]
        congr 2
        omega
    rw [hf _ (Nat.le_refl _) 0]
    simp [hiT]

theorem acc_nodes (f sh : Nat) (kids : List VT) (P : VN → Prop) : ∀ k, k ≤ kids.length → ((∀ j, j < (accT f sh kids k).length → P (nodeAt (accT f sh kids k) j)) ↔ ∀ i, i < k → ∀ j, j < (layT f (kidT kids i) (sh + (accT f sh kids i).length)).length → P (nodeAt (layT f (kidT kids i) (sh + (accT f sh kids i).length)) j)) := by
  intro k
  induction k with
  | zero => intro _; rw [accT_zero]; simp
  | succ k ih =>
    intro hk
    have ih' := ih (by omega)
    rw [accT_succ f sh (by omega), List.length_append]
    constructor
    · intro h i hi j hj
      by_cases e : i = k
      · subst e
        have := h ((accT f sh kids i).length + j) (by omega)
        rw [nodeAt_right (by omega), Nat.add_sub_cancel_left] at this
        exact this
      · exact ih'.1 (fun j hj => by have := h j (by omega); rw [nodeAt_left hj] at this; exact this) i (by omega) j hj
    · intro h j hj
      by_cases e : j < (accT f sh kids k).length
      · rw [nodeAt_left e]
        exact ih'.2 (fun i hi => h i (by omega)) j e
      · rw [nodeAt_right (by omega)]
        exact h k (by omega) _ (by omega)
theorem nodes_lay : ∀ {f : Nat} {t : VT}, FullT f t → ∀ sh, ((∀ j, j < (layT f t sh).length → nodeB (nodeAt (layT f t sh) j) = true) ↔ goodT f t) := by
  intro f
  induction f with
  | zero => intro t h; exact h.elim
  | succ f ih =>
    intro t h sh
    obtain ⟨kind, n, s, keys, kids⟩ := t
    rw [layT_eq, List.length_append, List.length_cons, List.length_nil]
    have hr : nodeB (nodeAt (accT f sh kids kids.length ++ [{ kind := kind, n := n, s := s, keys := keys, kids := ksT f sh kids kids.length }]) (accT f sh kids kids.length).length) = nodeT kind n s keys kids.length := by
      rw [nodeAt_right (Nat.le_refl _), Nat.sub_self]
      have := nodeT_eq { kind := kind, n := n, s := s, keys := keys, kids := ksT f sh kids kids.length }
      rw [ksT_len f sh kids (Nat.le_refl _)] at this
      exact this
    have ha := acc_nodes f sh kids (fun x => nodeB x = true) kids.length (Nat.le_refl _)
    constructor
    · intro hj
      refine ⟨by rw [← hr]; exact hj _ (by omega), fun i hi => ?_⟩
      refine (ih (h i hi) (sh + (accT f sh kids i).length)).1 ?_
      exact ha.1 (fun j hj' => by have := hj j (by omega); rw [nodeAt_left hj'] at this; exact this) i hi
    · rintro ⟨g1, g2⟩ j hj
      by_cases e : j < (accT f sh kids kids.length).length
      · rw [nodeAt_left e]
        exact ha.2 (fun i hi => (ih (h i hi) _).2 (g2 i hi)) j e
      · obtain rfl : j = (accT f sh kids kids.length).length := by omega
        rw [hr]; exact g1
/-- The nodes of a tree are right just where the tree is. -/
theorem ok_lay {f : Nat} {t : VT} (h : FullT f t) : okB (layT f t 0) = true ↔ (layT f t 0).length ≤ 80 ∧ goodT f t ∧ hiT f t ≤ 8 := by
  have hpos := layT_len h 0
  have htr := tr_lay h (layT f t 0) 0 (fun j hj => by rw [Nat.zero_add]; rfl)
  rw [Nat.zero_add] at htr
  have hn := nodes_lay h 0
  rw [← okB_eq]
  unfold tabB
  have hall : ((List.range (layT f t 0).length).all fun i => (tr (kidsOf (layT f t 0)) i).isSome) = true := by
    simp only [List.all_eq_true, List.mem_range]
    intro i hi
    obtain ⟨q, hq⟩ := tr_span _ _ htr i (by simp) (by omega)
    rw [hq]; rfl
  rw [hall]
  unfold rootB sizeB
  rw [htr]
  simp only [Bool.and_eq_true, decide_eq_true_eq, List.all_eq_true, List.mem_range, true_and]
  rw [hn]
  constructor
  · rintro ⟨⟨⟨_, a⟩, b⟩, c⟩; exact ⟨a, b, c⟩
  · rintro ⟨a, b, c⟩; exact ⟨⟨⟨hpos, a⟩, b⟩, c⟩
end Go.Proofs.Ytpakfgonemiebaa

/-
  A part of a right value is right. Plain mathematics.
-/
namespace Go.Proofs.Ytpakfgonemiebaa
open Go.RowKit
set_option linter.unusedSimpArgs false
set_option linter.unusedVariables false

theorem fold_cover {K : Nat → List Int} : ∀ (l : List Int) (b h : Nat) (q : Nat × Nat), l.foldl (stepKid (tr K)) (some (b, h)) = some q → h ≤ q.2 ∧ q.1 ≤ b ∧ ∀ m, q.1 ≤ m → m < b → ∃ k p, tr K k = some p ∧ p.1 ≤ m ∧ m ≤ k ∧ q.1 ≤ p.1 ∧ p.2 ≤ q.2 ∧ k < b := by
  intro l
  induction l with
  | nil => intro b h q e; simp at e; subst e; exact ⟨Nat.le_refl _, Nat.le_refl _, fun m h1 h2 => absurd h1 (by simp only; omega)⟩
  | cons k l ih =>
    intro b h q e
    obtain ⟨p, h1, h2, h3, h4⟩ := fold_cons_some e
    have hp := tr_le h3
    obtain ⟨i1, i2, i3⟩ := ih _ _ _ h4
    refine ⟨by omega, by omega, fun m hm1 hm2 => ?_⟩
    by_cases c : m < p.1
    · obtain ⟨k', p', a1, a2, a3, a4, a5, a6⟩ := i3 m hm1 c
      exact ⟨k', p', a1, a2, a3, a4, a5, by omega⟩
    · exact ⟨b - 1, p, h3, by omega, by omega, i2, by omega, by omega⟩

theorem tr_fold {K : Nat → List Int} {n : Nat} {p : Nat × Nat} (h : tr K n = some p) : ∃ q, (K n).reverse.foldl (stepKid (tr K)) (some (n, 0)) = some q ∧ p = (q.1, q.2 + 1) := by
  rw [tr_eq] at h
  cases e : (K n).reverse.foldl (stepKid (tr K)) (some (n, 0)) with
  | none => simp [e] at h
  | some q => simp [e] at h; exact ⟨q, rfl, h.symm⟩

/-- Below a node: no tree begins ahead of its first one, none is higher. -/
theorem tr_sub {K : Nat → List Int} : ∀ (N n : Nat) (p : Nat × Nat), n < N → tr K n = some p → ∀ m, p.1 ≤ m → m ≤ n → ∃ r, tr K m = some r ∧ p.1 ≤ r.1 ∧ r.2 ≤ p.2 := by
  intro N
  induction N with
  | zero => intro n p h; omega
  | succ N ih =>
    intro n p hN h m h1 h2
    by_cases e : m = n
    · subst e; exact ⟨p, h, Nat.le_refl _, Nat.le_refl _⟩
    · obtain ⟨q, hq, rfl⟩ := tr_fold h
      obtain ⟨_, _, hc⟩ := fold_cover _ _ _ _ hq
      obtain ⟨k, r, a1, a2, a3, a4, a5, a6⟩ := hc m h1 (by omega)
      obtain ⟨r', b1, b2, b3⟩ := ih k r (by omega) a1 m a2 a3
      exact ⟨r', b1, by simp only at *; omega, by simp only at *; omega⟩

theorem fold_shift {T T' : Nat → Option (Nat × Nat)} {a N : Nat} (hT : ∀ m p, T m = some p → p.1 ≤ m) (he : ∀ m p, a ≤ m → m < N → T m = some p → a ≤ p.1 → T' (m - a) = some (p.1 - a, p.2)) : ∀ (l : List Int) (b h : Nat) (q : Nat × Nat), b ≤ N → l.foldl (stepKid T) (some (b, h)) = some q → a ≤ q.1 → (l.map (· + -(a : Int))).foldl (stepKid T') (some (b - a, h)) = some (q.1 - a, q.2) := by
  intro l
  induction l with
  | nil => intro b h q _ e _; simp at e; subst e; rfl
  | cons k l ih =>
    intro b h q hb e hq
    obtain ⟨p, h1, h2, h3, h4⟩ := fold_cons_some e
    have hp := hT _ _ h3
    have hl := fold_le hT _ _ _ _ h4
    have ht := he (b - 1) p (by omega) (by omega) h3 (by omega)
    rw [List.map_cons, List.foldl_cons]
    have hs : stepKid T' (some (b - a, h)) (k + -(a : Int)) = some (p.1 - a, max h p.2) := by
      simp only [stepKid]
      rw [if_pos ⟨by omega, by omega⟩, show b - a - 1 = b - 1 - a by omega, ht]
      rfl
    rw [hs]
    exact ih _ _ _ (by omega) h4 hq

theorem run_nodeAt {vs : List VN} {d : Int} {a n i : Nat} (h : i < n) : nodeAt (run vs d a n) i = shiftN d (nodeAt vs (a + i)) := by
  unfold run
  unfold nodeAt
  simp [h]

theorem nodeB_shift (d : Int) (x : VN) : nodeB (shiftN d x) = nodeB x := by
  unfold nodeB unnamedB namedB shiftN
  simp

theorem tr_shift {vs : List VN} {q a h : Nat} (ht : tr (kidsOf vs) q = some (a, h)) : ∀ (N i : Nat), i < N → a + i ≤ q → ∀ p, tr (kidsOf vs) (a + i) = some p → tr (kidsOf (run vs (-(a : Int)) a (q + 1 - a))) i = some (p.1 - a, p.2) := by
  intro N
  induction N with
  | zero => intro i h; omega
  | succ N ih =>
    intro i hN hi p hp
    have hap := tr_le ht
    simp only at hap
    obtain ⟨r, hr, h1, _⟩ := tr_sub _ _ _ (Nat.lt_succ_self _) ht (a + i) (by simp only; omega) hi
    rw [hp] at hr
    simp only [Option.some.injEq] at hr
    subst hr
    obtain ⟨w, hw, rfl⟩ := tr_fold hp
    have hk : kidsOf (run vs (-(a : Int)) a (q + 1 - a)) i = (kidsOf vs (a + i)).map (· + -(a : Int)) := by
      unfold kidsOf
      rw [run_nodeAt (by omega)]
      rfl
    rw [tr_eq, hk, ← List.map_reverse]
    have := fold_shift (T := tr (kidsOf vs)) (T' := tr (kidsOf (run vs (-(a : Int)) a (q + 1 - a)))) (a := a) (N := a + i) (fun m p h => tr_le h)
      (fun m p h1 h2 h3 h4 => by
        have := ih (m - a) (by omega) (by omega) p (by rw [show a + (m - a) = m by omega]; exact h3)
        exact this) _ _ _ _ (Nat.le_refl _) hw h1
    rw [show a + i - a = i by omega] at this
    rw [this]
    rfl

theorem part_okB {vs : List VN} (hok : okB vs = true) {m : Nat} (hm : m < vs.length) : okB (partOf vs m) = true := by
  obtain ⟨p1, p2, p3, p4⟩ := okB_parts hok
  obtain ⟨⟨a0, h0⟩, htr⟩ := p3 m hm
  have e : partOf vs m = run vs (-(a0 : Int)) a0 (m + 1 - a0) := by rw [partOf, htr]; simp [trF]
  have ha := tr_le htr
  simp only at ha
  have hroot : ∃ h, tr (kidsOf vs) (vs.length - 1) = some (0, h) ∧ h ≤ 8 := by
    unfold okB rootB at hok
    simp only [Bool.and_eq_true] at hok
    have h := hok.2
    cases e : tr (kidsOf vs) (vs.length - 1) with
    | none => simp [e] at h
    | some p => obtain ⟨a, b⟩ := p; simp [e] at h; obtain ⟨rfl, h8⟩ := h; exact ⟨b, rfl, h8⟩
  obtain ⟨hr, hr1, hr2⟩ := hroot
  obtain ⟨r, hr3, _, hr5⟩ := tr_sub _ _ _ (Nat.lt_succ_self _) hr1 m (Nat.zero_le _) (by omega)
  rw [htr] at hr3
  simp only [Option.some.injEq] at hr3
  subst hr3
  simp only at hr5
  have hlen : (partOf vs m).length = m + 1 - a0 := by rw [e, run_length]
  rw [← okB_eq]
  unfold tabB
  rw [hlen]
  have s1 : sizeB (partOf vs m) = true := by unfold sizeB; rw [hlen]; simp; omega
  have s2 : ((List.range (m + 1 - a0)).all fun i => nodeB (nodeAt (partOf vs m) i)) = true := by
    rw [List.all_eq_true]
    intro i hi
    have hi' := List.mem_range.1 hi
    rw [e, run_nodeAt hi', nodeB_shift]
    exact (p2 (a0 + i) (by omega)).1
  have s3 : ((List.range (m + 1 - a0)).all fun i => (tr (kidsOf (partOf vs m)) i).isSome) = true := by
    rw [List.all_eq_true]
    intro i hi
    have hi' := List.mem_range.1 hi
    obtain ⟨p, hp⟩ := p3 (a0 + i) (by omega)
    rw [e, tr_shift htr (i + 1) i (by omega) (by omega) p hp]
    rfl
  have s4 : rootB (partOf vs m) = true := by
    unfold rootB
    rw [hlen, e, tr_shift htr (m + 1) (m + 1 - a0 - 1) (by omega) (by omega) (a0, h0) (by rw [show a0 + (m + 1 - a0 - 1) = m by omega]; exact htr)]
    simp
    omega
  rw [s1, s2, s3, s4]
  rfl
end Go.Proofs.Ytpakfgonemiebaa
