/-
  Plain: MessagePack's bytes of a tree.
-/
import Derived.Test.YtnnofahlmlikcaaCbP
import Derived.Test.YtnnofahlmlikcaaTree
import Derived.Test.YtnnofahlmlikcaaPartP
namespace Go.Proofs.Ytnnofahlmlikcaa
open Go.RowKit
set_option linter.unusedSimpArgs false
set_option linter.unusedVariables false

/-- The bytes of the first 'k' kids, each behind its key if 'named'. -/
def packL (F : VT → List UInt8) (named : Bool) (keys : List ByteArray) (kids : List VT) : Nat → List UInt8
  | 0 => []
  | k + 1 => packL F named keys kids k ++ (if named = true then packW (keyAt keys k) else []) ++ F (kidT kids k)
def packT : Nat → VT → List UInt8
  | 0, _ => []
  | f + 1, .mk kind n s keys kids =>
    if kind = 1 then [192] else if kind = 2 then [byI (194 + n)] else if kind = 3 then packI n else if kind = 4 then packW s
    else if kind = 5 then packC 144 220 kids.length ++ packL (packT f) false keys kids kids.length
    else packC 128 222 kids.length ++ packL (packT f) true keys kids kids.length
theorem packT_leaf (f : Nat) {kind n : Int} {s : ByteArray} {keys : List ByteArray} {kids : List VT} :
    (kind = 1 → packT (f + 1) (.mk kind n s keys kids) = [192]) ∧ (kind = 2 → packT (f + 1) (.mk kind n s keys kids) = [byI (194 + n)]) ∧ (kind = 3 → packT (f + 1) (.mk kind n s keys kids) = packI n) ∧ (kind = 4 → packT (f + 1) (.mk kind n s keys kids) = packW s) ∧
    (kind = 5 → packT (f + 1) (.mk kind n s keys kids) = packC 144 220 kids.length ++ packL (packT f) false keys kids kids.length) ∧ (kind = 6 → packT (f + 1) (.mk kind n s keys kids) = packC 128 222 kids.length ++ packL (packT f) true keys kids kids.length) := by
  refine ⟨?_, ?_, ?_, ?_, ?_, ?_⟩ <;> (intro h; subst h; rw [packT]; simp)
/-- What a right node says. -/
theorem node_says {vs : List VN} (hok : okB vs = true) {i : Nat} (hi : i < vs.length) :
    (nodeAt vs i).kind = 1 ∨ ((nodeAt vs i).kind = 2 ∧ 0 ≤ (nodeAt vs i).n ∧ (nodeAt vs i).n ≤ 1) ∨ ((nodeAt vs i).kind = 3 ∧ -1000000000000000 ≤ (nodeAt vs i).n ∧ (nodeAt vs i).n ≤ 1000000000000000) ∨ ((nodeAt vs i).kind = 4 ∧ (nodeAt vs i).s.size ≤ 60) ∨
    ((nodeAt vs i).kind = 5) ∨ ((nodeAt vs i).kind = 6 ∧ (nodeAt vs i).keys.length = (nodeAt vs i).kids.length ∧ ∀ j, j < (nodeAt vs i).keys.length → (keyAt (nodeAt vs i).keys j).size ≤ 60) := by
  obtain ⟨p1, p2, _, p4⟩ := okB_parts hok
  have hn := (p2 i hi).1
  unfold nodeB namedB at hn
  simp only [Bool.and_eq_true] at hn
  have h2 := hn.2
  by_cases k1 : (nodeAt vs i).kind = 1
  · exact Or.inl k1
  by_cases k2 : (nodeAt vs i).kind = 2
  · simp [k2] at h2; exact Or.inr (Or.inl ⟨k2, by omega, by omega⟩)
  by_cases k3 : (nodeAt vs i).kind = 3
  · simp [k3] at h2; exact Or.inr (Or.inr (Or.inl ⟨k3, by omega, by omega⟩))
  by_cases k4 : (nodeAt vs i).kind = 4
  · simp [k4, textB] at h2; exact Or.inr (Or.inr (Or.inr (Or.inl ⟨k4, h2.1⟩)))
  by_cases k5 : (nodeAt vs i).kind = 5
  · exact Or.inr (Or.inr (Or.inr (Or.inr (Or.inl k5))))
  by_cases k6 : (nodeAt vs i).kind = 6
  · simp [k6] at h2
    refine Or.inr (Or.inr (Or.inr (Or.inr (Or.inr ⟨k6, h2.1, fun j hj => ?_⟩))))
    have := List.all_eq_true.1 h2.2 j (List.mem_range.2 hj)
    unfold riseAt at this
    simp [textB] at this
    exact this.1.1
  simp [k1, k2, k3, k4, k5, k6] at h2
theorem packT_pos {vs : List VN} (hok : okB vs = true) (f : Nat) {i : Nat} (hi : i < vs.length) : 1 ≤ (packT (f + 1) (treeOf vs (f + 1) i)).length := by
  rw [treeOf]
  have hl := packT_leaf f (kind := (nodeAt vs i).kind) (n := (nodeAt vs i).n) (s := (nodeAt vs i).s) (keys := (nodeAt vs i).keys) (kids := (nodeAt vs i).kids.map fun k => treeOf vs f k.toNat)
  rcases node_says hok hi with k | ⟨k, _⟩ | ⟨k, _⟩ | ⟨k, _⟩ | k | ⟨k, _⟩
  · rw [hl.1 k]; simp
  · rw [hl.2.1 k]; simp
  · rw [hl.2.2.1 k]; exact (packI_len _).1
  · rw [hl.2.2.2.1 k]; exact (packW_len _).1
  · rw [hl.2.2.2.2.1 k, List.length_append]; have := (packC_len 144 220 ((nodeAt vs i).kids.map fun k => treeOf vs f k.toNat).length).1; omega
  · rw [hl.2.2.2.2.2 k, List.length_append]; have := (packC_len 128 222 ((nodeAt vs i).kids.map fun k => treeOf vs f k.toNat).length).1; omega
/-- No more than so many bytes a node. -/
theorem packT_le {vs : List VN} (hok : okB vs = true) : ∀ (f i : Nat) (sh : Nat), i < vs.length → i < f → (packT f (treeOf vs f i)).length + 70 ≤ 200 * (layT f (treeOf vs f i) sh).length := by
  intro f
  induction f with
  | zero => intro i sh hi hf; omega
  | succ f ih =>
    intro i sh hi hf
    rw [treeOf]
    have hl := packT_leaf f (kind := (nodeAt vs i).kind) (n := (nodeAt vs i).n) (s := (nodeAt vs i).s) (keys := (nodeAt vs i).keys) (kids := (nodeAt vs i).kids.map fun k => treeOf vs f k.toNat)
    rw [layT_eq]
    have hkid : ∀ (named : Bool), (named = true → ∀ j, j < (nodeAt vs i).kids.length → (keyAt (nodeAt vs i).keys j).size ≤ 60) → ∀ k, k ≤ (nodeAt vs i).kids.length →
        (packL (packT f) named (nodeAt vs i).keys ((nodeAt vs i).kids.map fun k => treeOf vs f k.toNat) k).length ≤ 200 * (accT f sh ((nodeAt vs i).kids.map fun k => treeOf vs f k.toNat) k).length := by
      intro named hkey k
      induction k with
      | zero => intro _; simp [packL]
      | succ k ihk =>
        intro hk
        have h1 := ihk (by omega)
        rw [packL, accT_succ f sh (by rw [List.length_map]; omega), List.length_append, List.length_append, List.length_append, kidT_map (by omega)]
        obtain ⟨_, p2, _, _⟩ := okB_parts hok
        have hki := kidsIn_get (p2 i hi).2 (j := k) (by omega)
        have h2 := ih (intAt (nodeAt vs i).kids k).toNat (sh + (accT f sh ((nodeAt vs i).kids.map fun k => treeOf vs f k.toNat) k).length) (by omega) (by omega)
        have h3 : (if named = true then packW (keyAt (nodeAt vs i).keys k) else []).length ≤ 62 := by
          cases named
          · simp
          · have := (packW_len (keyAt (nodeAt vs i).keys k)).2
            have := hkey rfl k (by omega)
            simp; omega
        omega
    simp only [List.length_append, List.length_cons, List.length_nil, List.length_map]
    rcases node_says hok hi with k | ⟨k, _⟩ | ⟨k, _⟩ | ⟨k, hs⟩ | k | ⟨k, hkk, hks⟩
    · rw [hl.1 k]; simp; omega
    · rw [hl.2.1 k]; simp; omega
    · rw [hl.2.2.1 k]; have := (packI_len (nodeAt vs i).n).2; omega
    · rw [hl.2.2.2.1 k]; have := (packW_len (nodeAt vs i).s).2; omega
    · rw [hl.2.2.2.2.1 k, List.length_append]
      have h1 := (packC_len 144 220 ((nodeAt vs i).kids.map fun k => treeOf vs f k.toNat).length).2
      have h2 := hkid false (by simp) _ (Nat.le_refl _)
      simp only [List.length_map] at h1 h2 ⊢
      omega
    · rw [hl.2.2.2.2.2 k, List.length_append]
      have h1 := (packC_len 128 222 ((nodeAt vs i).kids.map fun k => treeOf vs f k.toNat).length).2
      have h2 := hkid true (fun _ j hj => hks j (by omega)) _ (Nat.le_refl _)
      simp only [List.length_map] at h1 h2 ⊢
      omega
theorem packT_16k {vs : List VN} (hok : okB vs = true) {f i : Nat} (hi : i < vs.length) (hf : i < f) : (packT f (treeOf vs f i)).length ≤ 16000 := by
  have h1 := packT_le hok f i 0 hi hf
  have h2 := lay_part hok hf hi
  rw [h2.1] at h1
  have := h2.2
  omega
theorem packL_mono (F : VT → List UInt8) (named : Bool) (keys : List ByteArray) (kids : List VT) {j k : Nat} (h : j ≤ k) : (packL F named keys kids j).length ≤ (packL F named keys kids k).length := by
  induction k with
  | zero => obtain rfl : j = 0 := by omega
            exact Nat.le_refl _
  | succ k ih =>
    by_cases e : j = k + 1
    · subst e; exact Nat.le_refl _
    · have := ih (by omega)
      rw [packL, List.length_append, List.length_append]; omega
end Go.Proofs.Ytnnofahlmlikcaa

/-
  A part of a right value is right. Plain mathematics.
-/
namespace Go.Proofs.Ytnnofahlmlikcaa
open Go.RowKit
set_option linter.unusedSimpArgs false
set_option linter.unusedVariables false

theorem fold_cover {K : Nat → List Int} : ∀ (l : List Int) (b h : Nat) (q : Nat × Nat), l.foldl (stepKid (tr K)) (some (b, h)) = some q → h ≤ q.2 ∧ q.1 ≤ b ∧ ∀ m, q.1 ≤ m → m < b → ∃ k p, tr K k = some p ∧ p.1 ≤ m ∧ m ≤ k ∧ q.1 ≤ p.1 ∧ p.2 ≤ q.2 ∧ k < b := by
  intro l
  induction l with
  | nil => intro b h q e; simp at e; subst e; exact ⟨Nat.le_refl _, Nat.le_refl _, fun m h1 h2 => absurd h1 (by simp only; omega)⟩
  | cons k l ih =>
    intro b h q e
    obtain ⟨p, h1, h2, h3, h4⟩ := fold_cons_some e
    have hp := tr_le h3
    obtain ⟨i1, i2, i3⟩ := ih _ _ _ h4
    refine ⟨by omega, by omega, fun m hm1 hm2 => ?_⟩
    by_cases c : m < p.1
    · obtain ⟨k', p', a1, a2, a3, a4, a5, a6⟩ := i3 m hm1 c
      exact ⟨k', p', a1, a2, a3, a4, a5, by omega⟩
    · exact ⟨b - 1, p, h3, by omega, by omega, i2, by omega, by omega⟩

theorem tr_fold {K : Nat → List Int} {n : Nat} {p : Nat × Nat} (h : tr K n = some p) : ∃ q, (K n).reverse.foldl (stepKid (tr K)) (some (n, 0)) = some q ∧ p = (q.1, q.2 + 1) := by
  rw [tr_eq] at h
  cases e : (K n).reverse.foldl (stepKid (tr K)) (some (n, 0)) with
  | none => simp [e] at h
  | some q => simp [e] at h; exact ⟨q, rfl, h.symm⟩

/-- Below a node: no tree begins ahead of its first one, none is higher. -/
theorem tr_sub {K : Nat → List Int} : ∀ (N n : Nat) (p : Nat × Nat), n < N → tr K n = some p → ∀ m, p.1 ≤ m → m ≤ n → ∃ r, tr K m = some r ∧ p.1 ≤ r.1 ∧ r.2 ≤ p.2 := by
  intro N
  induction N with
  | zero => intro n p h; omega
  | succ N ih =>
    intro n p hN h m h1 h2
    by_cases e : m = n
    · subst e; exact ⟨p, h, Nat.le_refl _, Nat.le_refl _⟩
    · obtain ⟨q, hq, rfl⟩ := tr_fold h
      obtain ⟨_, _, hc⟩ := fold_cover _ _ _ _ hq
      obtain ⟨k, r, a1, a2, a3, a4, a5, a6⟩ := hc m h1 (by omega)
      obtain ⟨r', b1, b2, b3⟩ := ih k r (by omega) a1 m a2 a3
      exact ⟨r', b1, by simp only at *; omega, by simp only at *; omega⟩

theorem fold_shift {T T' : Nat → Option (Nat × Nat)} {a N : Nat} (hT : ∀ m p, T m = some p → p.1 ≤ m) (he : ∀ m p, a ≤ m → m < N → T m = some p → a ≤ p.1 → T' (m - a) = some (p.1 - a, p.2)) : ∀ (l : List Int) (b h : Nat) (q : Nat × Nat), b ≤ N → l.foldl (stepKid T) (some (b, h)) = some q → a ≤ q.1 → (l.map (· + -(a : Int))).foldl (stepKid T') (some (b - a, h)) = some (q.1 - a, q.2) := by
  intro l
  induction l with
  | nil => intro b h q _ e _; simp at e; subst e; rfl
  | cons k l ih =>
    intro b h q hb e hq
    obtain ⟨p, h1, h2, h3, h4⟩ := fold_cons_some e
    have hp := hT _ _ h3
    have hl := fold_le hT _ _ _ _ h4
    have ht := he (b - 1) p (by omega) (by omega) h3 (by omega)
    rw [List.map_cons, List.foldl_cons]
    have hs : stepKid T' (some (b - a, h)) (k + -(a : Int)) = some (p.1 - a, max h p.2) := by
      simp only [stepKid]
      rw [if_pos ⟨by omega, by omega⟩, show b - a - 1 = b - 1 - a by omega, ht]
      rfl
    rw [hs]
    exact ih _ _ _ (by omega) h4 hq

theorem run_nodeAt {vs : List VN} {d : Int} {a n i : Nat} (h : i < n) : nodeAt (run vs d a n) i = shiftN d (nodeAt vs (a + i)) := by
  unfold run
  unfold nodeAt
  simp [h]

theorem nodeB_shift (d : Int) (x : VN) : nodeB (shiftN d x) = nodeB x := by
  unfold nodeB unnamedB namedB shiftN
  simp

theorem tr_shift {vs : List VN} {q a h : Nat} (ht : tr (kidsOf vs) q = some (a, h)) : ∀ (N i : Nat), i < N → a + i ≤ q → ∀ p, tr (kidsOf vs) (a + i) = some p → tr (kidsOf (run vs (-(a : Int)) a (q + 1 - a))) i = some (p.1 - a, p.2) := by
  intro N
  induction N with
  | zero => intro i h; omega
  | succ N ih =>
    intro i hN hi p hp
    have hap := tr_le ht
    simp only at hap
    obtain ⟨r, hr, h1, _⟩ := tr_sub _ _ _ (Nat.lt_succ_self _) ht (a + i) (by simp only; omega) hi
    rw [hp] at hr
    simp only [Option.some.injEq] at hr
    subst hr
    obtain ⟨w, hw, rfl⟩ := tr_fold hp
    have hk : kidsOf (run vs (-(a : Int)) a (q + 1 - a)) i = (kidsOf vs (a + i)).map (· + -(a : Int)) := by
      unfold kidsOf
      rw [run_nodeAt (by omega)]
      rfl
    rw [tr_eq, hk, ← List.map_reverse]
    have := fold_shift (T := tr (kidsOf vs)) (T' := tr (kidsOf (run vs (-(a : Int)) a (q + 1 - a)))) (a := a) (N := a + i) (fun m p h => tr_le h)
      (fun m p h1 h2 h3 h4 => by
        have := ih (m - a) (by omega) (by omega) p (by rw [show a + (m - a) = m by omega]; exact h3)
        exact this) _ _ _ _ (Nat.le_refl _) hw h1
    rw [show a + i - a = i by omega] at this
    rw [this]
    rfl

theorem part_okB {vs : List VN} (hok : okB vs = true) {m : Nat} (hm : m < vs.length) : okB (partOf vs m) = true := by
  obtain ⟨p1, p2, p3, p4⟩ := okB_parts hok
  obtain ⟨⟨a0, h0⟩, htr⟩ := p3 m hm
  have e : partOf vs m = run vs (-(a0 : Int)) a0 (m + 1 - a0) := by rw [partOf, htr]; simp [trF]
  have ha := tr_le htr
  simp only at ha
  have hroot : ∃ h, tr (kidsOf vs) (vs.length - 1) = some (0, h) ∧ h ≤ 8 := by
    unfold okB rootB at hok
    simp only [Bool.and_eq_true] at hok
    have h := hok.2
    cases e : tr (kidsOf vs) (vs.length - 1) with
    | none => simp [e] at h
    | some p => obtain ⟨a, b⟩ := p; simp [e] at h; obtain ⟨rfl, h8⟩ := h; exact ⟨b, rfl, h8⟩
  obtain ⟨hr, hr1, hr2⟩ := hroot
  obtain ⟨r, hr3, _, hr5⟩ := tr_sub _ _ _ (Nat.lt_succ_self _) hr1 m (Nat.zero_le _) (by omega)
  rw [htr] at hr3
  simp only [Option.some.injEq] at hr3
  subst hr3
  simp only at hr5
  have hlen : (partOf vs m).length = m + 1 - a0 := by rw [e, run_length]
  rw [← okB_eq]
  unfold tabB
  rw [hlen]
  have s1 : sizeB (partOf vs m) = true := by unfold sizeB; rw [hlen]; simp; omega
  have s2 : ((List.range (m + 1 - a0)).all fun i => nodeB (nodeAt (partOf vs m) i)) = true := by
    rw [List.all_eq_true]
    intro i hi
    have hi' := List.mem_range.1 hi
    rw [e, run_nodeAt hi', nodeB_shift]
    exact (p2 (a0 + i) (by omega)).1
  have s3 : ((List.range (m + 1 - a0)).all fun i => (tr (kidsOf (partOf vs m)) i).isSome) = true := by
    rw [List.all_eq_true]
    intro i hi
    have hi' := List.mem_range.1 hi
    obtain ⟨p, hp⟩ := p3 (a0 + i) (by omega)
    rw [e, tr_shift htr (i + 1) i (by omega) (by omega) p hp]
    rfl
  have s4 : rootB (partOf vs m) = true := by
    unfold rootB
    rw [hlen, e, tr_shift htr (m + 1) (m + 1 - a0 - 1) (by omega) (by omega) (a0, h0) (by rw [show a0 + (m + 1 - a0 - 1) = m by omega]; exact htr)]
    simp
    omega
  rw [s1, s2, s3, s4]
  rfl
end Go.Proofs.Ytnnofahlmlikcaa
