/-
  Plain: the nodes of a list and of a map out of those of their parts; what is wrong in a part is wrong in the whole.
-/
import Derived.Test.YtpakfgonemiebaaPartOk
import Derived.Test.YtpakfgonemiebaaListP
import Derived.Test.YtpakfgonemiebaaPhase
namespace Go.Proofs.Ytpakfgonemiebaa
open Go.RowKit
set_option linter.unusedSimpArgs false
set_option linter.unusedVariables false

theorem shift_add (a b : Int) (x : VN) : shiftN a (shiftN b x) = shiftN (a + b) x := by
  unfold shiftN
  simp only [List.map_map]
  congr 1
  apply List.map_congr_left
  intro y _
  simp only [Function.comp]
  omega
theorem shift_zero (x : VN) : shiftN 0 x = x := by
  unfold shiftN
  cases x
  simp
/-- Laid further on: shifted. -/
theorem layT_shift : ∀ (f : Nat) (t : VT) (sh : Nat), layT f t sh = (layT f t 0).map (shiftN (sh : Int)) := by
  intro f
  induction f with
  | zero => intro t sh; rfl
  | succ f ih =>
    intro t sh
    obtain ⟨kind, n, s, keys, kids⟩ := t
    have hk : ∀ k, k ≤ kids.length → accT f sh kids k = (accT f 0 kids k).map (shiftN (sh : Int)) ∧ ksT f sh kids k = (ksT f 0 kids k).map (· + (sh : Int)) := by
      intro k
      induction k with
      | zero => intro _; rw [accT_zero, accT_zero, ksT_zero, ksT_zero]; exact ⟨rfl, rfl⟩
      | succ k ihk =>
        intro hk
        obtain ⟨h1, h2⟩ := ihk (by omega)
        have hl : (accT f sh kids k).length = (accT f 0 kids k).length := by rw [h1, List.length_map]
        have ha : accT f sh kids (k + 1) = (accT f 0 kids (k + 1)).map (shiftN (sh : Int)) := by
          rw [accT_succ f sh (by omega), accT_succ f 0 (by omega), List.map_append, h1, List.length_map, ih _ (sh + (accT f 0 kids k).length), ih _ (0 + (accT f 0 kids k).length), List.map_map]
          congr 1
          apply List.map_congr_left
          intro x _
          simp only [Function.comp, shift_add]
          congr 1
          omega
        refine ⟨ha, ?_⟩
        rw [ksT_succ f sh (by omega), ksT_succ f 0 (by omega), List.map_append, h2, ha, List.length_map]
        congr 1
        simp only [List.map_cons, List.map_nil, List.cons.injEq, and_true]
        omega
    obtain ⟨h1, h2⟩ := hk _ (Nat.le_refl _)
    rw [layT_eq, layT_eq, List.map_append, h1, h2]
    rfl
theorem acc_cat (f : Nat) (kids : List VT) : ∀ k, k ≤ kids.length → accT f 0 kids k = catNs (fun i => layT f (kidT kids i) 0) k ∧ ksT f 0 kids k = catKs (fun i => layT f (kidT kids i) 0) k := by
  intro k
  induction k with
  | zero => intro _; exact ⟨accT_zero _ _ _, ksT_zero _ _ _⟩
  | succ k ih =>
    intro hk
    obtain ⟨h1, h2⟩ := ih (by omega)
    have ha : accT f 0 kids (k + 1) = catNs (fun i => layT f (kidT kids i) 0) (k + 1) := by
      rw [accT_succ f 0 (by omega), catNs, h1, Nat.zero_add, layT_shift f _ (catNs _ k).length]
    refine ⟨ha, ?_⟩
    rw [ksT_succ f 0 (by omega), catKs, h2, ha, Nat.zero_add]
/-- The nodes of a list or a map of trees. -/
theorem lay_make (f : Nat) (kind : Int) (keys : List ByteArray) (kids : List VT) : layT (f + 1) (.mk kind 0 ByteArray.empty keys kids) 0 = makeNs kind keys (fun i => layT f (kidT kids i) 0) kids.length := by
  obtain ⟨h1, h2⟩ := acc_cat f kids _ (Nat.le_refl _)
  rw [layT_eq, h1, h2]
  rfl
theorem layT_more : ∀ {f g : Nat} {t : VT}, FullT f t → f ≤ g → ∀ sh, layT g t sh = layT f t sh := by
  intro f
  induction f with
  | zero => intro g t h; exact h.elim
  | succ f ih =>
    intro g t h hfg sh
    obtain ⟨g, rfl⟩ : ∃ g', g = g' + 1 := ⟨g - 1, by omega⟩
    obtain ⟨kind, n, s, keys, kids⟩ := t
    have hk : ∀ k, k ≤ kids.length → accT g sh kids k = accT f sh kids k ∧ ksT g sh kids k = ksT f sh kids k := by
      intro k
      induction k with
      | zero => intro _; rw [accT_zero, accT_zero, ksT_zero, ksT_zero]; exact ⟨rfl, rfl⟩
      | succ k ihk =>
        intro hk
        obtain ⟨h1, h2⟩ := ihk (by omega)
        have ha : accT g sh kids (k + 1) = accT f sh kids (k + 1) := by rw [accT_succ g sh (by omega), accT_succ f sh (by omega), h1, ih (h k (by omega)) (by omega)]
        exact ⟨ha, by rw [ksT_succ g sh (by omega), ksT_succ f sh (by omega), h2, ha]⟩
    obtain ⟨h1, h2⟩ := hk _ (Nat.le_refl _)
    rw [layT_eq, layT_eq, h1, h2]
theorem hiK_le {F : VT → Nat} {kids : List VT} : ∀ {m j : Nat}, j < m → F (kidT kids j) ≤ hiK F kids m := by
  intro m
  induction m with
  | zero => intro j h; omega
  | succ m ih =>
    intro j h
    rw [hiK]
    by_cases e : j = m
    · subst e; omega
    · have := ih (j := j) (by omega); omega
theorem hiK_bound {F : VT → Nat} {kids : List VT} {h : Nat} : ∀ {m : Nat}, (∀ j, j < m → F (kidT kids j) ≤ h) → hiK F kids m ≤ h := by
  intro m
  induction m with
  | zero => intro _; simp [hiK]
  | succ m ih =>
    intro hj
    rw [hiK]
    have := ih (fun j h => hj j (by omega))
    have := hj m (by omega)
    omega
/-- A part is no deeper, and has no more nodes. -/
theorem kid_hi {f : Nat} {kind n : Int} {s : ByteArray} {keys : List ByteArray} {kids : List VT} {j : Nat} (hj : j < kids.length) : hiT f (kidT kids j) + 1 ≤ hiT (f + 1) (.mk kind n s keys kids) := by
  rw [hiT]
  have := hiK_le (F := hiT f) (kids := kids) hj
  omega
theorem cat_part (L : Nat → List VN) {i m : Nat} (h : i < m) : (L i).length ≤ (catNs L m).length := by
  have h1 := catNs_mono L (show i + 1 ≤ m by omega)
  rw [catNs_len] at h1
  omega
/-- A wrong node of a part is one of the whole. -/
theorem cat_wrong {L : Nat → List VN} {i m j : Nat} (h : i < m) (hj : j < (L i).length) (hb : nodeB (nodeAt (L i) j) = false) : ∃ q, q < (catNs L m).length ∧ nodeB (nodeAt (catNs L m) q) = false := by
  induction m with
  | zero => omega
  | succ m ih =>
    by_cases e : i = m
    · subst e
      refine ⟨(catNs L i).length + j, by rw [catNs_len]; omega, ?_⟩
      rw [catNs, nodeAt_right (by omega), Nat.add_sub_cancel_left, nodeAt_map hj, nodeB_shift]
      exact hb
    · obtain ⟨q, h1, h2⟩ := ih (by omega)
      exact ⟨q, by rw [catNs_len]; omega, by rw [catNs, nodeAt_left h1]; exact h2⟩
theorem make_wrong {kind : Int} {keys : List ByteArray} {L : Nat → List VN} {i m j : Nat} (h : i < m) (hj : j < (L i).length) (hb : nodeB (nodeAt (L i) j) = false) : ∃ q, q < (makeNs kind keys L m).length ∧ nodeB (nodeAt (makeNs kind keys L m) q) = false := by
  obtain ⟨q, h1, h2⟩ := cat_wrong h hj hb
  exact ⟨q, by unfold makeNs; rw [List.length_append]; omega, by unfold makeNs; rw [nodeAt_left h1]; exact h2⟩
theorem not_ok {ns : List VN} {j : Nat} (hj : j < ns.length) (hb : nodeB (nodeAt ns j) = false) : okB ns = false := by
  cases h : okB ns
  · rfl
  · unfold okB at h
    simp only [Bool.and_eq_true, List.all_eq_true, List.mem_range] at h
    rw [(h.1.2 j hj).1] at hb
    cases hb
theorem make_len (kind : Int) (keys : List ByteArray) (L : Nat → List VN) (m : Nat) : (makeNs kind keys L m).length = (catNs L m).length + 1 := by unfold makeNs; simp
end Go.Proofs.Ytpakfgonemiebaa

/-
  Plain: the tree of right nodes is good; the nodes that are laid for a tree, and its tree again.
-/
namespace Go.Proofs.Ytpakfgonemiebaa
open Go.RowKit
set_option linter.unusedSimpArgs false
set_option linter.unusedVariables false

theorem good_tree {vs : List VN} (hok : okB vs = true) : ∀ f i, i < vs.length → i < f → goodT f (treeOf vs f i) := by
  intro f
  induction f with
  | zero => intro i _ h; omega
  | succ f ih =>
    intro i hi hf
    obtain ⟨_, p2, _, _⟩ := okB_parts hok
    rw [treeOf]
    refine ⟨?_, fun j hj => ?_⟩
    · have := (p2 i hi).1
      rw [nodeT_eq] at this
      rw [List.length_map]
      exact this
    · rw [List.length_map] at hj
      have hki := kidsIn_get (p2 i hi).2 hj
      rw [kidT_map hj]
      exact ih _ (by omega) (by omega)
theorem whole_len {vs : List VN} (hok : okB vs = true) : (layT vs.length (treeOf vs vs.length (vs.length - 1)) 0).length = vs.length := by
  obtain ⟨p1, _⟩ := okB_parts hok
  obtain ⟨h, htr⟩ := root_first hok
  rw [← lay_tree, lay_run vs vs.length (vs.length - 1) 0 0 h (by omega) htr]
  unfold run
  rw [List.length_map, List.length_range']
  omega
theorem whole_lay {vs : List VN} (hok : okB vs = true) : layT vs.length (treeOf vs vs.length (vs.length - 1)) 0 = vs := by
  obtain ⟨p1, _⟩ := okB_parts hok
  obtain ⟨h, htr⟩ := root_first hok
  rw [← lay_tree, lay_run vs vs.length (vs.length - 1) 0 0 h (by omega) htr]
  rw [show vs.length - 1 + 1 - 0 = vs.length by omega, show (((0 : Nat) : Int) - ((0 : Nat) : Int)) = 0 by omega, run_all]
  have : (shiftN 0) = id := by funext x; exact shift_zero x
  rw [this, List.map_id]
theorem acc_at {f sh : Nat} {kids : List VT} {vs : List VN} {x : VN} (hk : ∀ j, j < (accT f sh kids kids.length ++ [x]).length → nodeAt vs (sh + j) = nodeAt (accT f sh kids kids.length ++ [x]) j) {k : Nat} (hkl : k < kids.length) :
    ∀ j, j < (layT f (kidT kids k) (sh + (accT f sh kids k).length)).length → nodeAt vs (sh + (accT f sh kids k).length + j) = nodeAt (layT f (kidT kids k) (sh + (accT f sh kids k).length)) j := by
  intro j hj
  have hlen : (accT f sh kids (k + 1)).length = (accT f sh kids k).length + (layT f (kidT kids k) (sh + (accT f sh kids k).length)).length := by rw [accT_succ f sh hkl, List.length_append]
  obtain ⟨t1, ht1⟩ := accT_pre f sh kids (show k + 1 ≤ kids.length by omega) (Nat.le_refl _)
  have hl1 := congrArg List.length ht1
  rw [List.length_append] at hl1
  have := hk ((accT f sh kids k).length + j) (by rw [List.length_append]; omega)
  rw [nodeAt_left (by omega), ht1, nodeAt_left (by omega), accT_succ f sh hkl, nodeAt_right (by omega)] at this
  rw [Nat.add_assoc, this, Nat.add_sub_cancel_left]
theorem tree_back : ∀ {f : Nat} {t : VT}, FullT f t → ∀ (vs : List VN) (sh g : Nat), f ≤ g → (∀ j, j < (layT f t sh).length → nodeAt vs (sh + j) = nodeAt (layT f t sh) j) → treeOf vs g (sh + (layT f t sh).length - 1) = t := by
  intro f
  induction f with
  | zero => intro t h; exact h.elim
  | succ f ih =>
    intro t h vs sh g hg hk
    obtain ⟨g, rfl⟩ : ∃ k, g = k + 1 := ⟨g - 1, by omega⟩
    obtain ⟨kind, n, s, keys, kids⟩ := t
    rw [layT_eq] at hk ⊢
    have hroot := hk (accT f sh kids kids.length).length (by rw [List.length_append, List.length_cons]; omega)
    rw [nodeAt_right (Nat.le_refl _), Nat.sub_self] at hroot
    have hroot' : nodeAt vs (sh + (accT f sh kids kids.length).length) = { kind := kind, n := n, s := s, keys := keys, kids := ksT f sh kids kids.length } := hroot
    rw [List.length_append, List.length_cons, List.length_nil, show sh + ((accT f sh kids kids.length).length + (0 + 1)) - 1 = sh + (accT f sh kids kids.length).length by omega, treeOf, hroot']
    have hf : ∀ k, k ≤ kids.length → (ksT f sh kids k).map (fun x => treeOf vs g x.toNat) = kids.take k := by
      intro k
      induction k with
      | zero => intro _; rw [ksT_zero]; rfl
      | succ k ihk =>
        intro hkl
        have hlen : (accT f sh kids (k + 1)).length = (accT f sh kids k).length + (layT f (kidT kids k) (sh + (accT f sh kids k).length)).length := by rw [accT_succ f sh (by omega), List.length_append]
        rw [ksT_succ f sh (by omega), List.map_append, ihk (by omega), take_kid (by omega)]
        have e := ih (h k (by omega)) vs (sh + (accT f sh kids k).length) g (by omega) (acc_at hk (by omega))
        congr 1
        rw [List.map_cons, List.map_nil, show (((sh + (accT f sh kids (k + 1)).length : Nat) : Int) - 1).toNat = sh + (accT f sh kids k).length + (layT f (kidT kids k) (sh + (accT f sh kids k).length)).length - 1 by omega, e]
    dsimp only
    rw [hf _ (Nat.le_refl _), List.take_length]
theorem full_len : ∀ {f : Nat} {t : VT}, FullT f t → ∀ sh, FullT (layT f t sh).length t := by
  intro f
  induction f with
  | zero => intro t h; exact h.elim
  | succ f ih =>
    intro t h sh
    obtain ⟨kind, n, s, keys, kids⟩ := t
    rw [layT_eq, List.length_append, List.length_cons, List.length_nil]
    intro j hj
    have hlen : (accT f sh kids (j + 1)).length = (accT f sh kids j).length + (layT f (kidT kids j) (sh + (accT f sh kids j).length)).length := by rw [accT_succ f sh hj, List.length_append]
    obtain ⟨t1, ht1⟩ := accT_pre f sh kids (show j + 1 ≤ kids.length by omega) (Nat.le_refl _)
    have hl1 := congrArg List.length ht1
    rw [List.length_append] at hl1
    exact (ih (h j hj) (sh + (accT f sh kids j).length)).more (by omega)
end Go.Proofs.Ytpakfgonemiebaa

/-
  Paths into nodes: where a step leads, said by the place of a key among keys that rise. Plain mathematics.
-/
namespace Go.Proofs.Ytpakfgonemiebaa
open Go.RowKit
set_option linter.unusedSimpArgs false
set_option linter.unusedVariables false

theorem bytes_lt (x : List UInt8) : ∀ y : List UInt8, Op.bytesLess x y = true ↔ x < y := by
  induction x with
  | nil => intro y; cases y <;> simp [Op.bytesLess]
  | cons a x ih =>
    intro y
    cases y with
    | nil => simp [Op.bytesLess]
    | cons b y =>
      have h := ih y
      rw [List.cons_lt_cons_iff, ← h]
      by_cases h1 : a < b <;> by_cases h2 : a = b <;> simp [Op.bytesLess, h1, h2]

theorem less_iff (a b : ByteArray) : lessB a b = true ↔ a.toList < b.toList := bytes_lt _ _

theorem less_trans {a b c : ByteArray} (h1 : lessB a b = true) (h2 : lessB b c = true) : lessB a c = true := by
  rw [less_iff] at *; exact List.lt_trans h1 h2
theorem less_irr (a : ByteArray) : lessB a a = false := by
  cases h : lessB a a
  · rfl
  · rw [less_iff] at h; exact absurd h (List.lt_irrefl _)
theorem less_total {a b : ByteArray} (h1 : lessB a b = false) (h2 : a.toList ≠ b.toList) : lessB b a = true := by
  have h3 : ¬ a.toList < b.toList := fun h => by rw [← less_iff] at h; rw [h1] at h; cases h
  rw [less_iff]
  by_cases h : b.toList < a.toList
  · exact h
  · exact absurd (List.le_antisymm (List.not_lt.1 h) (List.not_lt.1 h3)) h2

/-- Keys rise: each is ahead of the next one. -/
def Rise (l : List ByteArray) : Prop := ∀ i j, i < j → j < l.length → lessB (keyAt l i) (keyAt l j) = true

theorem riseB_rise {l : List ByteArray} (h : riseB l = true) : Rise l := by
  unfold riseB at h
  rw [List.all_eq_true] at h
  have h1 : ∀ j, j < l.length → 0 < j → lessB (keyAt l (j - 1)) (keyAt l j) = true := by
    intro j hj h0
    have := h j (List.mem_range.2 hj)
    unfold riseAt at this
    simp only [Bool.and_eq_true, Bool.or_eq_true, decide_eq_true_eq] at this
    rcases this.2 with e | e
    · omega
    · exact e
  intro i j hij hj
  induction j with
  | zero => omega
  | succ j ih =>
    have h2 := h1 (j + 1) hj (by omega)
    rw [Nat.add_sub_cancel] at h2
    by_cases e : i = j
    · subst e; exact h2
    · exact less_trans (ih (by omega) (by omega)) h2

/-- How many keys are ahead. -/
def posK (l : List ByteArray) (key : ByteArray) : Nat := (l.takeWhile fun k => lessB k key).length
/-- Is the key there? -/
def hasK (l : List ByteArray) (key : ByteArray) : Bool := decide (posK l key < l.length) && decide ((keyAt l (posK l key)).toList = key.toList)

theorem take_len {p : ByteArray → Bool} : ∀ {l : List ByteArray} {i : Nat}, i ≤ l.length → (∀ j, j < i → p (keyAt l j) = true) → (i < l.length → p (keyAt l i) = false) → (l.takeWhile p).length = i := by
  intro l
  induction l with
  | nil => intro i hi _ _; simp at hi; subst hi; rfl
  | cons a l ih =>
    intro i hi h1 h2
    cases i with
    | zero =>
      have := h2 (by simp)
      simp [keyAt] at this
      simp [List.takeWhile_cons, this]
    | succ i =>
      have ha := h1 0 (by omega)
      simp [keyAt] at ha
      rw [List.takeWhile_cons, if_pos ha, List.length_cons]
      rw [ih (i := i) (by simp at hi; omega) (fun j hj => by have := h1 (j + 1) (by omega); simpa [keyAt] using this) (fun hl => by have := h2 (by simp; omega); simpa [keyAt] using this)]

theorem posK_eq {l : List ByteArray} {key : ByteArray} {i : Nat} (hi : i ≤ l.length) (h1 : ∀ j, j < i → lessB (keyAt l j) key = true) (h2 : i < l.length → lessB (keyAt l i) key = false) : posK l key = i := take_len hi h1 h2

theorem posK_spec {l : List ByteArray} (key : ByteArray) : posK l key ≤ l.length ∧ (∀ j, j < posK l key → lessB (keyAt l j) key = true) ∧ (posK l key < l.length → lessB (keyAt l (posK l key)) key = false) := by
  unfold posK
  induction l with
  | nil => exact ⟨by simp, fun j hj => absurd hj (by simp), fun h => absurd h (by simp)⟩
  | cons a l ih =>
    cases h : lessB a key
    · rw [List.takeWhile_cons, h]
      refine ⟨by simp, fun j hj => absurd hj (by simp), fun _ => ?_⟩
      simpa [keyAt] using h
    · rw [List.takeWhile_cons, h]
      simp only [if_true, List.length_cons]
      refine ⟨by omega, fun j hj => ?_, fun hl => ?_⟩
      · cases j with
        | zero => simpa [keyAt] using h
        | succ j => have := ih.2.1 j (by omega); simpa [keyAt] using this
      · have := ih.2.2 (by omega); simpa [keyAt] using this

/-- Keys behind the place are not ahead of the key, but for the first they are behind it. -/
theorem Rise.behind {l : List ByteArray} (h : Rise l) {key : ByteArray} {i : Nat} (hi : i < l.length) (h1 : lessB (keyAt l i) key = false) {j : Nat} (hij : i < j) (hj : j < l.length) : lessB (keyAt l j) key = false ∧ (keyAt l j).toList ≠ key.toList := by
  have h2 := h i j hij hj
  have key1 : lessB key (keyAt l j) = true := by
    by_cases e : (keyAt l i).toList = key.toList
    · rw [less_iff] at h2 ⊢; rw [← e]; exact h2
    · exact less_trans (less_total h1 e) h2
  rw [less_iff] at key1
  refine ⟨?_, fun e => ?_⟩
  · cases h3 : lessB (keyAt l j) key
    · rfl
    · rw [less_iff] at h3; exact absurd (List.lt_trans h3 key1) (List.lt_irrefl _)
  · rw [e] at key1; exact absurd key1 (List.lt_irrefl _)

theorem less_ne {a b : ByteArray} (h : lessB a b = true) : a.toList ≠ b.toList := fun e => by
  rw [less_iff, e] at h; exact absurd h (List.lt_irrefl _)

/-- The place to which a step leads, of a value of that kind with those keys and so many parts. -/
def stepTo (kind : Int) (keys : List ByteArray) (n : Nat) (x : PS) : Option Nat :=
  if x.named = true then (if kind = 6 ∧ hasK keys x.key = true then some (posK keys x.key) else none)
  else if kind = 5 ∧ x.pl < (n : Int) then some x.pl.toNat else none

def stepN (x : VN) (s : PS) : Option Nat := stepTo x.kind x.keys x.kids.length s

/-- The first place of the key. -/
theorem hasK_first {l : List ByteArray} (h : Rise l) {key : ByteArray} {i : Nat} (hi : i < l.length) (he : (keyAt l i).toList = key.toList) (hf : ∀ j, j < i → (keyAt l j).toList ≠ key.toList) : hasK l key = true ∧ posK l key = i := by
  have hp : posK l key = i := posK_eq (by omega) (fun j hj => by
      have := h j i hj hi
      rw [less_iff] at this ⊢
      rw [← he]; exact this) (fun _ => by
      cases h3 : lessB (keyAt l i) key
      · rfl
      · exact absurd he (less_ne h3))
  refine ⟨?_, hp⟩
  unfold hasK
  rw [hp]
  simp [hi, he]

theorem hasK_none {l : List ByteArray} {key : ByteArray} (hf : ∀ j, j < l.length → (keyAt l j).toList ≠ key.toList) : hasK l key = false := by
  unfold hasK
  by_cases h : posK l key < l.length
  · simp [h, hf _ h]
  · simp [h]

/-- Following steps, node by node. -/
def gotN (vs : List VN) : Nat → List PS → Option Nat
  | i, [] => some i
  | i, s :: r => match stepN (nodeAt vs i) s with
    | none => none
    | some k => gotN vs (intAt (nodeAt vs i).kids k).toNat r

theorem stepN_lt {vs : List VN} {i k : Nat} {s : PS} (hs : s.named = true ∨ 0 ≤ s.pl) (hk : (nodeAt vs i).kind = 6 → (nodeAt vs i).keys.length = (nodeAt vs i).kids.length) (h : stepN (nodeAt vs i) s = some k) : k < (nodeAt vs i).kids.length := by
  unfold stepN stepTo at h
  split at h
  · split at h
    · rename_i h1 h2
      simp only [Option.some.injEq] at h
      subst h
      have := h2.2
      unfold hasK at this
      simp at this
      rw [← hk h2.1]
      exact this.1
    · cases h
  · split at h
    · rename_i h1 h2
      simp only [Option.some.injEq] at h
      subst h
      rcases hs with e | e
      · rw [e] at h1; exact absurd rfl h1
      · omega
    · cases h

theorem gotN_append (vs : List VN) : ∀ (p : List PS) (i : Nat) (s : PS), gotN vs i (p ++ [s]) = (gotN vs i p).bind fun j => match stepN (nodeAt vs j) s with | none => none | some k => some (intAt (nodeAt vs j).kids k).toNat := by
  intro p
  induction p with
  | nil =>
    intro i s
    simp only [List.nil_append, gotN, Option.bind_some]
  | cons a p ih =>
    intro i s
    simp only [List.cons_append, gotN]
    cases stepN (nodeAt vs i) a with
    | none => rfl
    | some k => exact ih _ s

theorem take_step {ps : List PS} {k : Nat} (h : k < ps.length) : ps.take (k + 1) = ps.take k ++ [stepAt ps k] := by
  rw [List.take_add_one, List.getElem?_eq_getElem h]
  simp [stepAt, h]

theorem gotN_none (vs : List VN) (i : Nat) {ps : List PS} {k : Nat} (h : gotN vs i (ps.take k) = none) : gotN vs i ps = none := by
  have e : ps = ps.take k ++ ps.drop k := by simp
  rw [e]
  generalize ps.drop k = r
  generalize ps.take k = q at h
  clear e
  induction q generalizing i with
  | nil => simp [gotN] at h
  | cons a q ih =>
    simp only [gotN, List.cons_append] at h ⊢
    cases hs : stepN (nodeAt vs i) a with
    | none => rfl
    | some k => rw [hs] at h; exact ih _ h
end Go.Proofs.Ytpakfgonemiebaa

/-
  Plain: what a right node says by its kind.
-/
namespace Go.Proofs.Ytpakfgonemiebaa
open Go.RowKit
set_option linter.unusedSimpArgs false
set_option linter.unusedVariables false

theorem rise_at {keys : List ByteArray} (hr : riseB keys = true) {j : Nat} (hj : j < keys.length) : textB (keyAt keys j) = true ∧ (0 < j → lessB (keyAt keys (j - 1)) (keyAt keys j) = true) := by
  have := List.all_eq_true.1 hr j (List.mem_range.2 hj)
  unfold riseAt at this
  simp only [Bool.and_eq_true, Bool.or_eq_true, decide_eq_true_eq] at this
  exact ⟨this.1, fun h => this.2.resolve_left (by omega)⟩
theorem keys_less {keys : List ByteArray} (hr : riseB keys = true) : ∀ d a, a + d + 1 < keys.length → lessB (keyAt keys a) (keyAt keys (a + d + 1)) = true := by
  intro d
  induction d with
  | zero => intro a h; have := (rise_at hr h).2 (by omega); rwa [show a + 0 + 1 - 1 = a by omega] at this
  | succ d ih =>
    intro a h
    have h1 := ih a (by omega)
    have h2 := (rise_at hr h).2 (by omega)
    rw [show a + (d + 1) + 1 - 1 = a + d + 1 by omega] at h2
    exact less_trans h1 h2
theorem range_keys (keys : List ByteArray) : (List.range keys.length).map (keyAt keys) = keys := by
  apply List.ext_getElem?
  intro i
  rw [List.getElem?_map]
  by_cases h : i < keys.length
  · rw [List.getElem?_range h, Option.map_some]
    unfold keyAt
    rw [List.getD_eq_getElem?_getD, List.getElem?_eq_getElem h]; rfl
  · rw [List.getElem?_eq_none (by simp; omega), List.getElem?_eq_none (by omega)]; rfl
theorem range_kids (kids : List VT) : (List.range kids.length).map (kidT kids) = kids := by
  apply List.ext_getElem?
  intro i
  rw [List.getElem?_map]
  by_cases h : i < kids.length
  · rw [List.getElem?_range h, Option.map_some]
    unfold kidT
    rw [List.getD_eq_getElem?_getD, List.getElem?_eq_getElem h]; rfl
  · rw [List.getElem?_eq_none (by simp; omega), List.getElem?_eq_none (by omega)]; rfl
theorem empty_is {s : ByteArray} (h : s.toList = []) : s = ByteArray.empty := by
  exact str_eq (by rw [h, ByteArray.toList_eq]; rfl)
theorem nodeT_says {kind n : Int} {s : ByteArray} {keys : List ByteArray} {m : Nat} (h : nodeT kind n s keys m = true) :
    (kind = 1 ∧ n = 0 ∧ s = ByteArray.empty ∧ keys = [] ∧ m = 0) ∨ (kind = 2 ∧ (n = 0 ∨ n = 1) ∧ s = ByteArray.empty ∧ keys = [] ∧ m = 0) ∨ (kind = 3 ∧ (-1000000000000000 ≤ n ∧ n ≤ 1000000000000000) ∧ s = ByteArray.empty ∧ keys = [] ∧ m = 0) ∨
    (kind = 4 ∧ n = 0 ∧ s.size ≤ 60 ∧ keys = [] ∧ m = 0) ∨ (kind = 5 ∧ n = 0 ∧ s = ByteArray.empty ∧ keys = []) ∨ (kind = 6 ∧ n = 0 ∧ s = ByteArray.empty ∧ keys.length = m ∧ riseB keys = true) := by
  unfold nodeT nodeB unnamedB namedB at h
  simp only [Bool.and_eq_true, List.length_replicate] at h
  obtain ⟨⟨⟨⟨u1, u2⟩, u3⟩, u4⟩, v⟩ := h
  by_cases k1 : kind = 1
  · subst k1; simp at u1 u2 u3 u4; exact .inl ⟨rfl, u1, empty_is u2, u3, u4⟩
  by_cases k2 : kind = 2
  · subst k2; simp at u2 u3 u4 v; exact .inr (.inl ⟨rfl, v, empty_is u2, u3, u4⟩)
  by_cases k3 : kind = 3
  · subst k3; simp at u2 u3 u4 v; exact .inr (.inr (.inl ⟨rfl, v, empty_is u2, u3, u4⟩))
  by_cases k4 : kind = 4
  · subst k4; simp [textB] at u1 u3 u4 v; exact .inr (.inr (.inr (.inl ⟨rfl, u1, v.1, u3, u4⟩)))
  by_cases k5 : kind = 5
  · subst k5; simp at u1 u2 u3; exact .inr (.inr (.inr (.inr (.inl ⟨rfl, u1, empty_is u2, u3⟩))))
  by_cases k6 : kind = 6
  · subst k6; simp at u1 u2 v; exact .inr (.inr (.inr (.inr (.inr ⟨rfl, u1, empty_is u2, v.1, v.2⟩))))
  simp [k1, k2, k3, k4, k5, k6] at v
end Go.Proofs.Ytpakfgonemiebaa
