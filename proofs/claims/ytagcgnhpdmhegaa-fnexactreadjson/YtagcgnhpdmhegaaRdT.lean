/-
  Plain: when the nodes that are laid for a tree are a right value: by the tree alone.
-/
import Derived.Test.YtagcgnhpdmhegaaGotP
import Derived.Test.YtagcgnhpdmhegaaMapP
namespace Go.Proofs.Ytagcgnhpdmhegaa
open Go.RowKit
set_option linter.unusedSimpArgs false
set_option linter.unusedVariables false

/-- The tree ends within so many steps. -/
def FullT : Nat → VT → Prop
  | 0, _ => False
  | f + 1, .mk _ _ _ _ kids => ∀ j, j < kids.length → FullT f (kidT kids j)
/-- Every node is right by itself. -/
def nodeT (kind n : Int) (s : ByteArray) (keys : List ByteArray) (m : Nat) : Bool := nodeB ⟨kind, n, s, keys, List.replicate m 0⟩
def goodT : Nat → VT → Prop
  | 0, _ => False
  | f + 1, .mk kind n s keys kids => nodeT kind n s keys kids.length = true ∧ ∀ j, j < kids.length → goodT f (kidT kids j)
def hiK (F : VT → Nat) (kids : List VT) : Nat → Nat
  | 0 => 0
  | k + 1 => max (hiK F kids k) (F (kidT kids k))
/-- How deep a tree is. -/
def hiT : Nat → VT → Nat
  | 0, _ => 0
  | f + 1, .mk _ _ _ _ kids => hiK (hiT f) kids kids.length + 1
theorem goodT.full : ∀ {f : Nat} {t : VT}, goodT f t → FullT f t
  | 0, _, h => h.elim
  | f + 1, .mk _ _ _ _ _, h => fun j hj => (h.2 j hj).full
theorem nodeT_eq (x : VN) : nodeB x = nodeT x.kind x.n x.s x.keys x.kids.length := by
  unfold nodeT nodeB unnamedB namedB
  simp
theorem FullT.more : ∀ {f g : Nat} {t : VT}, f ≤ g → FullT f t → FullT g t
  | 0, _, _, _, h => h.elim
  | f + 1, 0, _, hg, _ => by omega
  | f + 1, g + 1, .mk _ _ _ _ _, hg, h => fun j hj => (h j hj).more (by omega)

theorem accT_pre (f sh : Nat) (kids : List VT) {k m : Nat} (h : k ≤ m) (hm : m ≤ kids.length) : ∃ t, accT f sh kids m = accT f sh kids k ++ t := by
  induction m with
  | zero => obtain rfl : k = 0 := by omega
            exact ⟨[], by simp⟩
  | succ m ih =>
    by_cases e : k = m + 1
    · subst e; exact ⟨[], by simp⟩
    · obtain ⟨t, ht⟩ := ih (by omega) (by omega)
      exact ⟨t ++ _, by rw [accT_succ f sh (by omega), ht, List.append_assoc]⟩
theorem layT_len {f : Nat} {t : VT} (h : FullT f t) (sh : Nat) : 1 ≤ (layT f t sh).length := by
  cases f with
  | zero => exact h.elim
  | succ f => obtain ⟨kind, n, s, keys, kids⟩ := t; rw [layT_eq]; simp

theorem tr_lay : ∀ {f : Nat} {t : VT}, FullT f t → ∀ (vs : List VN) (sh : Nat), (∀ j, j < (layT f t sh).length → kidsOf vs (sh + j) = (nodeAt (layT f t sh) j).kids) → tr (kidsOf vs) (sh + (layT f t sh).length - 1) = some (sh, hiT f t) := by
  intro f
  induction f with
  | zero => intro t h; exact h.elim
  | succ f ih =>
    intro t h vs sh hk
    obtain ⟨kind, n, s, keys, kids⟩ := t
    rw [layT_eq] at hk ⊢
    rw [List.length_append, List.length_cons, List.length_nil] at hk ⊢
    have hroot := hk (accT f sh kids kids.length).length (by omega)
    rw [nodeAt_right (Nat.le_refl _), Nat.sub_self] at hroot
    have hroot' : kidsOf vs (sh + (accT f sh kids kids.length).length) = ksT f sh kids kids.length := hroot
    rw [show sh + ((accT f sh kids kids.length).length + (0 + 1)) - 1 = sh + (accT f sh kids kids.length).length by omega, tr_eq, hroot']
    have hf : ∀ k, k ≤ kids.length → ∀ h0, (ksT f sh kids k).reverse.foldl (stepKid (tr (kidsOf vs))) (some (sh + (accT f sh kids k).length, h0)) = some (sh, max h0 (hiK (hiT f) kids k)) := by
      intro k
      induction k with
      | zero => intro _ h0; rw [ksT_zero, accT_zero]; simp [hiK]
      | succ k ihk =>
        intro hkl h0
        rw [ksT_succ f sh (by omega), List.reverse_append, List.reverse_cons, List.reverse_nil, List.nil_append, List.cons_append, List.nil_append, List.foldl_cons]
        have hlen : (accT f sh kids (k + 1)).length = (accT f sh kids k).length + (layT f (kidT kids k) (sh + (accT f sh kids k).length)).length := by rw [accT_succ f sh (by omega), List.length_append]
        have hpos := layT_len (h k (by omega)) (sh + (accT f sh kids k).length)
        have htr := ih (h k (by omega)) vs (sh + (accT f sh kids k).length) (fun j hj => by
          obtain ⟨t1, ht1⟩ := accT_pre f sh kids (show k + 1 ≤ kids.length by omega) (Nat.le_refl _)
          have hl1 := congrArg List.length ht1
          rw [List.length_append] at hl1
          have := hk ((accT f sh kids k).length + j) (by omega)
          rw [nodeAt_left (by omega), ht1, nodeAt_left (by omega), accT_succ f sh (by omega), nodeAt_right (by omega)] at this
          rw [Nat.add_assoc, this, Nat.add_sub_cancel_left])
        have hst : stepKid (tr (kidsOf vs)) (some (sh + (accT f sh kids (k + 1)).length, h0)) (((sh + (accT f sh kids (k + 1)).length : Nat) : Int) - 1) = some (sh + (accT f sh kids k).length, max h0 (hiT f (kidT kids k))) := by
          unfold stepKid
          simp only
          rw [if_pos ⟨by omega, trivial⟩]
          rw [show sh + (accT f sh kids (k + 1)).length - 1 = sh + (accT f sh kids k).length + (layT f (kidT kids k) (sh + (accT f sh kids k).length)).length - 1 by omega, htr]
          rfl
        rw [hst, ihk (by omega), hiK]
        congr 2
        omega
    rw [hf _ (Nat.le_refl _) 0]
    simp [hiT]

theorem acc_nodes (f sh : Nat) (kids : List VT) (P : VN → Prop) : ∀ k, k ≤ kids.length → ((∀ j, j < (accT f sh kids k).length → P (nodeAt (accT f sh kids k) j)) ↔ ∀ i, i < k → ∀ j, j < (layT f (kidT kids i) (sh + (accT f sh kids i).length)).length → P (nodeAt (layT f (kidT kids i) (sh + (accT f sh kids i).length)) j)) := by
  intro k
  induction k with
  | zero => intro _; rw [accT_zero]; simp
  | succ k ih =>
    intro hk
    have ih' := ih (by omega)
    rw [accT_succ f sh (by omega), List.length_append]
    constructor
    · intro h i hi j hj
      by_cases e : i = k
      · subst e
        have := h ((accT f sh kids i).length + j) (by omega)
        rw [nodeAt_right (by omega), Nat.add_sub_cancel_left] at this
        exact this
      · exact ih'.1 (fun j hj => by have := h j (by omega); rw [nodeAt_left hj] at this; exact this) i (by omega) j hj
    · intro h j hj
      by_cases e : j < (accT f sh kids k).length
      · rw [nodeAt_left e]
        exact ih'.2 (fun i hi => h i (by omega)) j e
      · rw [nodeAt_right (by omega)]
        exact h k (by omega) _ (by omega)
theorem nodes_lay : ∀ {f : Nat} {t : VT}, FullT f t → ∀ sh, ((∀ j, j < (layT f t sh).length → nodeB (nodeAt (layT f t sh) j) = true) ↔ goodT f t) := by
  intro f
  induction f with
  | zero => intro t h; exact h.elim
  | succ f ih =>
    intro t h sh
    obtain ⟨kind, n, s, keys, kids⟩ := t
    rw [layT_eq, List.length_append, List.length_cons, List.length_nil]
    have hr : nodeB (nodeAt (accT f sh kids kids.length ++ [{ kind := kind, n := n, s := s, keys := keys, kids := ksT f sh kids kids.length }]) (accT f sh kids kids.length).length) = nodeT kind n s keys kids.length := by
      rw [nodeAt_right (Nat.le_refl _), Nat.sub_self]
      have := nodeT_eq { kind := kind, n := n, s := s, keys := keys, kids := ksT f sh kids kids.length }
      rw [ksT_len f sh kids (Nat.le_refl _)] at this
      exact this
    have ha := acc_nodes f sh kids (fun x => nodeB x = true) kids.length (Nat.le_refl _)
    constructor
    · intro hj
      refine ⟨by rw [← hr]; exact hj _ (by omega), fun i hi => ?_⟩
      refine (ih (h i hi) (sh + (accT f sh kids i).length)).1 ?_
      exact ha.1 (fun j hj' => by have := hj j (by omega); rw [nodeAt_left hj'] at this; exact this) i hi
    · rintro ⟨g1, g2⟩ j hj
      by_cases e : j < (accT f sh kids kids.length).length
      · rw [nodeAt_left e]
        exact ha.2 (fun i hi => (ih (h i hi) _).2 (g2 i hi)) j e
      · obtain rfl : j = (accT f sh kids kids.length).length := by omega
        rw [hr]; exact g1
/-- The nodes of a tree are right just where the tree is. -/
theorem ok_lay {f : Nat} {t : VT} (h : FullT f t) : okB (layT f t 0) = true ↔ (layT f t 0).length ≤ 80 ∧ goodT f t ∧ hiT f t ≤ 8 := by
  have hpos := layT_len h 0
  have htr := tr_lay h (layT f t 0) 0 (fun j hj => by rw [Nat.zero_add]; rfl)
  rw [Nat.zero_add] at htr
  have hn := nodes_lay h 0
  rw [← okB_eq]
  unfold tabB
  have hall : ((List.range (layT f t 0).length).all fun i => (tr (kidsOf (layT f t 0)) i).isSome) = true := by
    simp only [List.all_eq_true, List.mem_range]
    intro i hi
    obtain ⟨q, hq⟩ := tr_span _ _ htr i (by simp) (by omega)
    rw [hq]; rfl
  rw [hall]
  unfold rootB sizeB
  rw [htr]
  simp only [Bool.and_eq_true, decide_eq_true_eq, List.all_eq_true, List.mem_range, true_and]
  rw [hn]
  constructor
  · rintro ⟨⟨⟨_, a⟩, b⟩, c⟩; exact ⟨a, b, c⟩
  · rintro ⟨a, b, c⟩; exact ⟨⟨⟨hpos, a⟩, b⟩, c⟩
end Go.Proofs.Ytagcgnhpdmhegaa

/-
  Plain: the nodes of a list and of a map out of those of their parts; what is wrong in a part is wrong in the whole.
-/
namespace Go.Proofs.Ytagcgnhpdmhegaa
open Go.RowKit
set_option linter.unusedSimpArgs false
set_option linter.unusedVariables false

theorem shift_add (a b : Int) (x : VN) : shiftN a (shiftN b x) = shiftN (a + b) x := by
  unfold shiftN
  simp only [List.map_map]
  congr 1
  apply List.map_congr_left
  intro y _
  simp only [Function.comp]
  omega
theorem shift_zero (x : VN) : shiftN 0 x = x := by
  unfold shiftN
  cases x
  simp
/-- Laid further on: shifted. -/
theorem layT_shift : ∀ (f : Nat) (t : VT) (sh : Nat), layT f t sh = (layT f t 0).map (shiftN (sh : Int)) := by
  intro f
  induction f with
  | zero => intro t sh; rfl
  | succ f ih =>
    intro t sh
    obtain ⟨kind, n, s, keys, kids⟩ := t
    have hk : ∀ k, k ≤ kids.length → accT f sh kids k = (accT f 0 kids k).map (shiftN (sh : Int)) ∧ ksT f sh kids k = (ksT f 0 kids k).map (· + (sh : Int)) := by
      intro k
      induction k with
      | zero => intro _; rw [accT_zero, accT_zero, ksT_zero, ksT_zero]; exact ⟨rfl, rfl⟩
      | succ k ihk =>
        intro hk
        obtain ⟨h1, h2⟩ := ihk (by omega)
        have hl : (accT f sh kids k).length = (accT f 0 kids k).length := by rw [h1, List.length_map]
        have ha : accT f sh kids (k + 1) = (accT f 0 kids (k + 1)).map (shiftN (sh : Int)) := by
          rw [accT_succ f sh (by omega), accT_succ f 0 (by omega), List.map_append, h1, List.length_map, ih _ (sh + (accT f 0 kids k).length), ih _ (0 + (accT f 0 kids k).length), List.map_map]
          congr 1
          apply List.map_congr_left
          intro x _
          simp only [Function.comp, shift_add]
          congr 1
          omega
        refine ⟨ha, ?_⟩
        rw [ksT_succ f sh (by omega), ksT_succ f 0 (by omega), List.map_append, h2, ha, List.length_map]
        congr 1
        simp only [List.map_cons, List.map_nil, List.cons.injEq, and_true]
        omega
    obtain ⟨h1, h2⟩ := hk _ (Nat.le_refl _)
    rw [layT_eq, layT_eq, List.map_append, h1, h2]
    rfl
theorem acc_cat (f : Nat) (kids : List VT) : ∀ k, k ≤ kids.length → accT f 0 kids k = catNs (fun i => layT f (kidT kids i) 0) k ∧ ksT f 0 kids k = catKs (fun i => layT f (kidT kids i) 0) k := by
  intro k
  induction k with
  | zero => intro _; exact ⟨accT_zero _ _ _, ksT_zero _ _ _⟩
  | succ k ih =>
    intro hk
    obtain ⟨h1, h2⟩ := ih (by omega)
    have ha : accT f 0 kids (k + 1) = catNs (fun i => layT f (kidT kids i) 0) (k + 1) := by
      rw [accT_succ f 0 (by omega), catNs, h1, Nat.zero_add, layT_shift f _ (catNs _ k).length]
    refine ⟨ha, ?_⟩
    rw [ksT_succ f 0 (by omega), catKs, h2, ha, Nat.zero_add]
/-- The nodes of a list or a map of trees. -/
theorem lay_make (f : Nat) (kind : Int) (keys : List ByteArray) (kids : List VT) : layT (f + 1) (.mk kind 0 ByteArray.empty keys kids) 0 = makeNs kind keys (fun i => layT f (kidT kids i) 0) kids.length := by
  obtain ⟨h1, h2⟩ := acc_cat f kids _ (Nat.le_refl _)
  rw [layT_eq, h1, h2]
  rfl
theorem layT_more : ∀ {f g : Nat} {t : VT}, FullT f t → f ≤ g → ∀ sh, layT g t sh = layT f t sh := by
  intro f
  induction f with
  | zero => intro g t h; exact h.elim
  | succ f ih =>
    intro g t h hfg sh
    obtain ⟨g, rfl⟩ : ∃ g', g = g' + 1 := ⟨g - 1, by omega⟩
    obtain ⟨kind, n, s, keys, kids⟩ := t
    have hk : ∀ k, k ≤ kids.length → accT g sh kids k = accT f sh kids k ∧ ksT g sh kids k = ksT f sh kids k := by
      intro k
      induction k with
      | zero => intro _; rw [accT_zero, accT_zero, ksT_zero, ksT_zero]; exact ⟨rfl, rfl⟩
      | succ k ihk =>
        intro hk
        obtain ⟨h1, h2⟩ := ihk (by omega)
        have ha : accT g sh kids (k + 1) = accT f sh kids (k + 1) := by rw [accT_succ g sh (by omega), accT_succ f sh (by omega), h1, ih (h k (by omega)) (by omega)]
        exact ⟨ha, by rw [ksT_succ g sh (by omega), ksT_succ f sh (by omega), h2, ha]⟩
    obtain ⟨h1, h2⟩ := hk _ (Nat.le_refl _)
    rw [layT_eq, layT_eq, h1, h2]
theorem hiK_le {F : VT → Nat} {kids : List VT} : ∀ {m j : Nat}, j < m → F (kidT kids j) ≤ hiK F kids m := by
  intro m
  induction m with
  | zero => intro j h; omega
  | succ m ih =>
    intro j h
    rw [hiK]
    by_cases e : j = m
    · subst e; omega
    · have := ih (j := j) (by omega); omega
theorem hiK_bound {F : VT → Nat} {kids : List VT} {h : Nat} : ∀ {m : Nat}, (∀ j, j < m → F (kidT kids j) ≤ h) → hiK F kids m ≤ h := by
  intro m
  induction m with
  | zero => intro _; simp [hiK]
  | succ m ih =>
    intro hj
    rw [hiK]
    have := ih (fun j h => hj j (by omega))
    have := hj m (by omega)
    omega
/-- A part is no deeper, and has no more nodes. -/
theorem kid_hi {f : Nat} {kind n : Int} {s : ByteArray} {keys : List ByteArray} {kids : List VT} {j : Nat} (hj : j < kids.length) : hiT f (kidT kids j) + 1 ≤ hiT (f + 1) (.mk kind n s keys kids) := by
  rw [hiT]
  have := hiK_le (F := hiT f) (kids := kids) hj
  omega
theorem cat_part (L : Nat → List VN) {i m : Nat} (h : i < m) : (L i).length ≤ (catNs L m).length := by
  have h1 := catNs_mono L (show i + 1 ≤ m by omega)
  rw [catNs_len] at h1
  omega
/-- A wrong node of a part is one of the whole. -/
theorem cat_wrong {L : Nat → List VN} {i m j : Nat} (h : i < m) (hj : j < (L i).length) (hb : nodeB (nodeAt (L i) j) = false) : ∃ q, q < (catNs L m).length ∧ nodeB (nodeAt (catNs L m) q) = false := by
  induction m with
  | zero => omega
  | succ m ih =>
    by_cases e : i = m
    · subst e
      refine ⟨(catNs L i).length + j, by rw [catNs_len]; omega, ?_⟩
      rw [catNs, nodeAt_right (by omega), Nat.add_sub_cancel_left, nodeAt_map hj, nodeB_shift]
      exact hb
    · obtain ⟨q, h1, h2⟩ := ih (by omega)
      exact ⟨q, by rw [catNs_len]; omega, by rw [catNs, nodeAt_left h1]; exact h2⟩
theorem make_wrong {kind : Int} {keys : List ByteArray} {L : Nat → List VN} {i m j : Nat} (h : i < m) (hj : j < (L i).length) (hb : nodeB (nodeAt (L i) j) = false) : ∃ q, q < (makeNs kind keys L m).length ∧ nodeB (nodeAt (makeNs kind keys L m) q) = false := by
  obtain ⟨q, h1, h2⟩ := cat_wrong h hj hb
  exact ⟨q, by unfold makeNs; rw [List.length_append]; omega, by unfold makeNs; rw [nodeAt_left h1]; exact h2⟩
theorem not_ok {ns : List VN} {j : Nat} (hj : j < ns.length) (hb : nodeB (nodeAt ns j) = false) : okB ns = false := by
  cases h : okB ns
  · rfl
  · unfold okB at h
    simp only [Bool.and_eq_true, List.all_eq_true, List.mem_range] at h
    rw [(h.1.2 j hj).1] at hb
    cases hb
theorem make_len (kind : Int) (keys : List ByteArray) (L : Nat → List VN) (m : Nat) : (makeNs kind keys L m).length = (catNs L m).length + 1 := by unfold makeNs; simp
end Go.Proofs.Ytagcgnhpdmhegaa
