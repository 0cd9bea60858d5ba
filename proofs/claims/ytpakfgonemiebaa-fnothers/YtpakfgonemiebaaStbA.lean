/-
  Plain: the nodes of a list and of a map out of those of their parts; what is wrong in a part is wrong in the whole.
-/
import Derived.Test.YtpakfgonemiebaaPartOk
import Derived.Test.YtpakfgonemiebaaStb
import Derived.Test.YtpakfgonemiebaaSS
import Derived.Test.YtpakfgonemiebaaMarkN
import Derived.Test.YtpakfgonemiebaaProg
import Derived.BigQuiet
import Derived.BigRegion
import Derived.Test.YtpakfgonemiebaaStbQ
import Derived.Deep.QuietTactic
namespace Go.Proofs.Ytpakfgonemiebaa
open Go.RowKit
set_option linter.unusedSimpArgs false
set_option linter.unusedVariables false

theorem shift_add (a b : Int) (x : VN) : shiftN a (shiftN b x) = shiftN (a + b) x := by
  unfold shiftN
  simp only [List.map_map]
  congr 1
  apply List.map_congr_left
  intro y _
  simp only [Function.comp]
  omega
theorem shift_zero (x : VN) : shiftN 0 x = x := by
  unfold shiftN
  cases x
  simp
/-- Laid further on: shifted. -/
theorem layT_shift : ∀ (f : Nat) (t : VT) (sh : Nat), layT f t sh = (layT f t 0).map (shiftN (sh : Int)) := by
  intro f
  induction f with
  | zero => intro t sh; rfl
  | succ f ih =>
    intro t sh
    obtain ⟨kind, n, s, keys, kids⟩ := t
    have hk : ∀ k, k ≤ kids.length → accT f sh kids k = (accT f 0 kids k).map (shiftN (sh : Int)) ∧ ksT f sh kids k = (ksT f 0 kids k).map (· + (sh : Int)) := by
      intro k
      induction k with
      | zero => intro _; rw [accT_zero, accT_zero, ksT_zero, ksT_zero]; exact ⟨rfl, rfl⟩
      | succ k ihk =>
        intro hk
        obtain ⟨h1, h2⟩ := ihk (by omega)
        have hl : (accT f sh kids k).length = (accT f 0 kids k).length := by rw [h1, List.length_map]
        have ha : accT f sh kids (k + 1) = (accT f 0 kids (k + 1)).map (shiftN (sh : Int)) := by
          rw [accT_succ f sh (by omega), accT_succ f 0 (by omega), List.map_append, h1, List.length_map, ih _ (sh + (accT f 0 kids k).length), ih _ (0 + (accT f 0 kids k).length), List.map_map]
          congr 1
          apply List.map_congr_left
          intro x _
          simp only [Function.comp, shift_add]
          congr 1
          omega
        refine ⟨ha, ?_⟩
        rw [ksT_succ f sh (by omega), ksT_succ f 0 (by omega), List.map_append, h2, ha, List.length_map]
        congr 1
        simp only [List.map_cons, List.map_nil, List.cons.injEq, and_true]
        omega
    obtain ⟨h1, h2⟩ := hk _ (Nat.le_refl _)
    rw [layT_eq, layT_eq, List.map_append, h1, h2]
    rfl
theorem acc_cat (f : Nat) (kids : List VT) : ∀ k, k ≤ kids.length → accT f 0 kids k = catNs (fun i => layT f (kidT kids i) 0) k ∧ ksT f 0 kids k = catKs (fun i => layT f (kidT kids i) 0) k := by
  intro k
  induction k with
  | zero => intro _; exact ⟨accT_zero _ _ _, ksT_zero _ _ _⟩
  | succ k ih =>
    intro hk
    obtain ⟨h1, h2⟩ := ih (by omega)
    have ha : accT f 0 kids (k + 1) = catNs (fun i => layT f (kidT kids i) 0) (k + 1) := by
      rw [accT_succ f 0 (by omega), catNs, h1, Nat.zero_add, layT_shift f _ (catNs _ k).length]
    refine ⟨ha, ?_⟩
    rw [ksT_succ f 0 (by omega), catKs, h2, ha, Nat.zero_add]
/-- The nodes of a list or a map of trees. -/
theorem lay_make (f : Nat) (kind : Int) (keys : List ByteArray) (kids : List VT) : layT (f + 1) (.mk kind 0 ByteArray.empty keys kids) 0 = makeNs kind keys (fun i => layT f (kidT kids i) 0) kids.length := by
  obtain ⟨h1, h2⟩ := acc_cat f kids _ (Nat.le_refl _)
  rw [layT_eq, h1, h2]
  rfl
theorem layT_more : ∀ {f g : Nat} {t : VT}, FullT f t → f ≤ g → ∀ sh, layT g t sh = layT f t sh := by
  intro f
  induction f with
  | zero => intro g t h; exact h.elim
  | succ f ih =>
    intro g t h hfg sh
    obtain ⟨g, rfl⟩ : ∃ g', g = g' + 1 := ⟨g - 1, by omega⟩
    obtain ⟨kind, n, s, keys, kids⟩ := t
    have hk : ∀ k, k ≤ kids.length → accT g sh kids k = accT f sh kids k ∧ ksT g sh kids k = ksT f sh kids k := by
      intro k
      induction k with
      | zero => intro _; rw [accT_zero, accT_zero, ksT_zero, ksT_zero]; exact ⟨rfl, rfl⟩
      | succ k ihk =>
        intro hk
        obtain ⟨h1, h2⟩ := ihk (by omega)
        have ha : accT g sh kids (k + 1) = accT f sh kids (k + 1) := by rw [accT_succ g sh (by omega), accT_succ f sh (by omega), h1, ih (h k (by omega)) (by omega)]
        exact ⟨ha, by rw [ksT_succ g sh (by omega), ksT_succ f sh (by omega), h2, ha]⟩
    obtain ⟨h1, h2⟩ := hk _ (Nat.le_refl _)
    rw [layT_eq, layT_eq, h1, h2]
theorem hiK_le {F : VT → Nat} {kids : List VT} : ∀ {m j : Nat}, j < m → F (kidT kids j) ≤ hiK F kids m := by
  intro m
  induction m with
  | zero => intro j h; omega
  | succ m ih =>
    intro j h
    rw [hiK]
    by_cases e : j = m
    · subst e; omega
    · have := ih (j := j) (by omega); omega
theorem hiK_bound {F : VT → Nat} {kids : List VT} {h : Nat} : ∀ {m : Nat}, (∀ j, j < m → F (kidT kids j) ≤ h) → hiK F kids m ≤ h := by
  intro m
  induction m with
  | zero => intro _; simp [hiK]
  | succ m ih =>
    intro hj
    rw [hiK]
    have := ih (fun j h => hj j (by omega))
    have := hj m (by omega)
    omega
/-- A part is no deeper, and has no more nodes. -/
theorem kid_hi {f : Nat} {kind n : Int} {s : ByteArray} {keys : List ByteArray} {kids : List VT} {j : Nat} (hj : j < kids.length) : hiT f (kidT kids j) + 1 ≤ hiT (f + 1) (.mk kind n s keys kids) := by
  rw [hiT]
  have := hiK_le (F := hiT f) (kids := kids) hj
  omega
theorem cat_part (L : Nat → List VN) {i m : Nat} (h : i < m) : (L i).length ≤ (catNs L m).length := by
  have h1 := catNs_mono L (show i + 1 ≤ m by omega)
  rw [catNs_len] at h1
  omega
/-- A wrong node of a part is one of the whole. -/
theorem cat_wrong {L : Nat → List VN} {i m j : Nat} (h : i < m) (hj : j < (L i).length) (hb : nodeB (nodeAt (L i) j) = false) : ∃ q, q < (catNs L m).length ∧ nodeB (nodeAt (catNs L m) q) = false := by
  induction m with
  | zero => omega
  | succ m ih =>
    by_cases e : i = m
    · subst e
      refine ⟨(catNs L i).length + j, by rw [catNs_len]; omega, ?_⟩
      rw [catNs, nodeAt_right (by omega), Nat.add_sub_cancel_left, nodeAt_map hj, nodeB_shift]
      exact hb
    · obtain ⟨q, h1, h2⟩ := ih (by omega)
      exact ⟨q, by rw [catNs_len]; omega, by rw [catNs, nodeAt_left h1]; exact h2⟩
theorem make_wrong {kind : Int} {keys : List ByteArray} {L : Nat → List VN} {i m j : Nat} (h : i < m) (hj : j < (L i).length) (hb : nodeB (nodeAt (L i) j) = false) : ∃ q, q < (makeNs kind keys L m).length ∧ nodeB (nodeAt (makeNs kind keys L m) q) = false := by
  obtain ⟨q, h1, h2⟩ := cat_wrong h hj hb
  exact ⟨q, by unfold makeNs; rw [List.length_append]; omega, by unfold makeNs; rw [nodeAt_left h1]; exact h2⟩
theorem not_ok {ns : List VN} {j : Nat} (hj : j < ns.length) (hb : nodeB (nodeAt ns j) = false) : okB ns = false := by
  cases h : okB ns
  · rfl
  · unfold okB at h
    simp only [Bool.and_eq_true, List.all_eq_true, List.mem_range] at h
    rw [(h.1.2 j hj).1] at hb
    cases hb
theorem make_len (kind : Int) (keys : List ByteArray) (L : Nat → List VN) (m : Nat) : (makeNs kind keys L m).length = (catNs L m).length + 1 := by unfold makeNs; simp
end Go.Proofs.Ytpakfgonemiebaa

/-
  Plain: the tree of right nodes is good; the nodes that are laid for a tree, and its tree again.
-/
namespace Go.Proofs.Ytpakfgonemiebaa
open Go.RowKit
set_option linter.unusedSimpArgs false
set_option linter.unusedVariables false

theorem good_tree {vs : List VN} (hok : okB vs = true) : ∀ f i, i < vs.length → i < f → goodT f (treeOf vs f i) := by
  intro f
  induction f with
  | zero => intro i _ h; omega
  | succ f ih =>
    intro i hi hf
    obtain ⟨_, p2, _, _⟩ := okB_parts hok
    rw [treeOf]
    refine ⟨?_, fun j hj => ?_⟩
    · have := (p2 i hi).1
      rw [nodeT_eq] at this
      rw [List.length_map]
      exact this
    · rw [List.length_map] at hj
      have hki := kidsIn_get (p2 i hi).2 hj
      rw [kidT_map hj]
      exact ih _ (by omega) (by omega)
theorem whole_len {vs : List VN} (hok : okB vs = true) : (layT vs.length (treeOf vs vs.length (vs.length - 1)) 0).length = vs.length := by
  obtain ⟨p1, _⟩ := okB_parts hok
  obtain ⟨h, htr⟩ := root_first hok
  rw [← lay_tree, lay_run vs vs.length (vs.length - 1) 0 0 h (by omega) htr]
  unfold run
  rw [List.length_map, List.length_range']
  omega
theorem whole_lay {vs : List VN} (hok : okB vs = true) : layT vs.length (treeOf vs vs.length (vs.length - 1)) 0 = vs := by
  obtain ⟨p1, _⟩ := okB_parts hok
  obtain ⟨h, htr⟩ := root_first hok
  rw [← lay_tree, lay_run vs vs.length (vs.length - 1) 0 0 h (by omega) htr]
  rw [show vs.length - 1 + 1 - 0 = vs.length by omega, show (((0 : Nat) : Int) - ((0 : Nat) : Int)) = 0 by omega, run_all]
  have : (shiftN 0) = id := by funext x; exact shift_zero x
  rw [this, List.map_id]
theorem acc_at {f sh : Nat} {kids : List VT} {vs : List VN} {x : VN} (hk : ∀ j, j < (accT f sh kids kids.length ++ [x]).length → nodeAt vs (sh + j) = nodeAt (accT f sh kids kids.length ++ [x]) j) {k : Nat} (hkl : k < kids.length) :
    ∀ j, j < (layT f (kidT kids k) (sh + (accT f sh kids k).length)).length → nodeAt vs (sh + (accT f sh kids k).length + j) = nodeAt (layT f (kidT kids k) (sh + (accT f sh kids k).length)) j := by
  intro j hj
  have hlen : (accT f sh kids (k + 1)).length = (accT f sh kids k).length + (layT f (kidT kids k) (sh + (accT f sh kids k).length)).length := by rw [accT_succ f sh hkl, List.length_append]
  obtain ⟨t1, ht1⟩ := accT_pre f sh kids (show k + 1 ≤ kids.length by omega) (Nat.le_refl _)
  have hl1 := congrArg List.length ht1
  rw [List.length_append] at hl1
  have := hk ((accT f sh kids k).length + j) (by rw [List.length_append]; omega)
  rw [nodeAt_left (by omega), ht1, nodeAt_left (by omega), accT_succ f sh hkl, nodeAt_right (by omega)] at this
  rw [Nat.add_assoc, this, Nat.add_sub_cancel_left]
theorem tree_back : ∀ {f : Nat} {t : VT}, FullT f t → ∀ (vs : List VN) (sh g : Nat), f ≤ g → (∀ j, j < (layT f t sh).length → nodeAt vs (sh + j) = nodeAt (layT f t sh) j) → treeOf vs g (sh + (layT f t sh).length - 1) = t := by
  intro f
  induction f with
  | zero => intro t h; exact h.elim
  | succ f ih =>
    intro t h vs sh g hg hk
    obtain ⟨g, rfl⟩ : ∃ k, g = k + 1 := ⟨g - 1, by omega⟩
    obtain ⟨kind, n, s, keys, kids⟩ := t
    rw [layT_eq] at hk ⊢
    have hroot := hk (accT f sh kids kids.length).length (by rw [List.length_append, List.length_cons]; omega)
    rw [nodeAt_right (Nat.le_refl _), Nat.sub_self] at hroot
    have hroot' : nodeAt vs (sh + (accT f sh kids kids.length).length) = { kind := kind, n := n, s := s, keys := keys, kids := ksT f sh kids kids.length } := hroot
    rw [List.length_append, List.length_cons, List.length_nil, show sh + ((accT f sh kids kids.length).length + (0 + 1)) - 1 = sh + (accT f sh kids kids.length).length by omega, treeOf, hroot']
    have hf : ∀ k, k ≤ kids.length → (ksT f sh kids k).map (fun x => treeOf vs g x.toNat) = kids.take k := by
      intro k
      induction k with
      | zero => intro _; rw [ksT_zero]; rfl
      | succ k ihk =>
        intro hkl
        have hlen : (accT f sh kids (k + 1)).length = (accT f sh kids k).length + (layT f (kidT kids k) (sh + (accT f sh kids k).length)).length := by rw [accT_succ f sh (by omega), List.length_append]
        rw [ksT_succ f sh (by omega), List.map_append, ihk (by omega), take_kid (by omega)]
        have e := ih (h k (by omega)) vs (sh + (accT f sh kids k).length) g (by omega) (acc_at hk (by omega))
        congr 1
        rw [List.map_cons, List.map_nil, show (((sh + (accT f sh kids (k + 1)).length : Nat) : Int) - 1).toNat = sh + (accT f sh kids k).length + (layT f (kidT kids k) (sh + (accT f sh kids k).length)).length - 1 by omega, e]
    dsimp only
    rw [hf _ (Nat.le_refl _), List.take_length]
theorem full_len : ∀ {f : Nat} {t : VT}, FullT f t → ∀ sh, FullT (layT f t sh).length t := by
  intro f
  induction f with
  | zero => intro t h; exact h.elim
  | succ f ih =>
    intro t h sh
    obtain ⟨kind, n, s, keys, kids⟩ := t
    rw [layT_eq, List.length_append, List.length_cons, List.length_nil]
    intro j hj
    have hlen : (accT f sh kids (j + 1)).length = (accT f sh kids j).length + (layT f (kidT kids j) (sh + (accT f sh kids j).length)).length := by rw [accT_succ f sh hj, List.length_append]
    obtain ⟨t1, ht1⟩ := accT_pre f sh kids (show j + 1 ≤ kids.length by omega) (Nat.le_refl _)
    have hl1 := congrArg List.length ht1
    rw [List.length_append] at hl1
    exact (ih (h j hj) (sh + (accT f sh kids j).length)).more (by omega)
end Go.Proofs.Ytpakfgonemiebaa

/-
  Paths into nodes: where a step leads, said by the place of a key among keys that rise. Plain mathematics.
-/
namespace Go.Proofs.Ytpakfgonemiebaa
open Go.RowKit
set_option linter.unusedSimpArgs false
set_option linter.unusedVariables false

theorem bytes_lt (x : List UInt8) : ∀ y : List UInt8, Op.bytesLess x y = true ↔ x < y := by
  induction x with
  | nil => intro y; cases y <;> simp [Op.bytesLess]
  | cons a x ih =>
    intro y
    cases y with
    | nil => simp [Op.bytesLess]
    | cons b y =>
      have h := ih y
      rw [List.cons_lt_cons_iff, ← h]
      by_cases h1 : a < b <;> by_cases h2 : a = b <;> simp [Op.bytesLess, h1, h2]

theorem less_iff (a b : ByteArray) : lessB a b = true ↔ a.toList < b.toList := bytes_lt _ _

theorem less_trans {a b c : ByteArray} (h1 : lessB a b = true) (h2 : lessB b c = true) : lessB a c = true := by
  rw [less_iff] at *; exact List.lt_trans h1 h2
theorem less_irr (a : ByteArray) : lessB a a = false := by
  cases h : lessB a a
  · rfl
  · rw [less_iff] at h; exact absurd h (List.lt_irrefl _)
theorem less_total {a b : ByteArray} (h1 : lessB a b = false) (h2 : a.toList ≠ b.toList) : lessB b a = true := by
  have h3 : ¬ a.toList < b.toList := fun h => by rw [← less_iff] at h; rw [h1] at h; cases h
  rw [less_iff]
  by_cases h : b.toList < a.toList
  · exact h
  · exact absurd (List.le_antisymm (List.not_lt.1 h) (List.not_lt.1 h3)) h2

/-- Keys rise: each is ahead of the next one. -/
def Rise (l : List ByteArray) : Prop := ∀ i j, i < j → j < l.length → lessB (keyAt l i) (keyAt l j) = true

theorem riseB_rise {l : List ByteArray} (h : riseB l = true) : Rise l := by
  unfold riseB at h
  rw [List.all_eq_true] at h
  have h1 : ∀ j, j < l.length → 0 < j → lessB (keyAt l (j - 1)) (keyAt l j) = true := by
    intro j hj h0
    have := h j (List.mem_range.2 hj)
    unfold riseAt at this
    simp only [Bool.and_eq_true, Bool.or_eq_true, decide_eq_true_eq] at this
    rcases this.2 with e | e
    · omega
    · exact e
  intro i j hij hj
  induction j with
  | zero => omega
  | succ j ih =>
    have h2 := h1 (j + 1) hj (by omega)
    rw [Nat.add_sub_cancel] at h2
    by_cases e : i = j
    · subst e; exact h2
    · exact less_trans (ih (by omega) (by omega)) h2

/-- How many keys are ahead. -/
def posK (l : List ByteArray) (key : ByteArray) : Nat := (l.takeWhile fun k => lessB k key).length
/-- Is the key there? -/
def hasK (l : List ByteArray) (key : ByteArray) : Bool := decide (posK l key < l.length) && decide ((keyAt l (posK l key)).toList = key.toList)

theorem take_len {p : ByteArray → Bool} : ∀ {l : List ByteArray} {i : Nat}, i ≤ l.length → (∀ j, j < i → p (keyAt l j) = true) → (i < l.length → p (keyAt l i) = false) → (l.takeWhile p).length = i := by
  intro l
  induction l with
  | nil => intro i hi _ _; simp at hi; subst hi; rfl
  | cons a l ih =>
    intro i hi h1 h2
    cases i with
    | zero =>
      have := h2 (by simp)
      simp [keyAt] at this
      simp [List.takeWhile_cons, this]
    | succ i =>
      have ha := h1 0 (by omega)
      simp [keyAt] at ha
      rw [List.takeWhile_cons, if_pos ha, List.length_cons]
      rw [ih (i := i) (by simp at hi; omega) (fun j hj => by have := h1 (j + 1) (by omega); simpa [keyAt] using this) (fun hl => by have := h2 (by simp; omega); simpa [keyAt] using this)]

theorem posK_eq {l : List ByteArray} {key : ByteArray} {i : Nat} (hi : i ≤ l.length) (h1 : ∀ j, j < i → lessB (keyAt l j) key = true) (h2 : i < l.length → lessB (keyAt l i) key = false) : posK l key = i := take_len hi h1 h2

theorem posK_spec {l : List ByteArray} (key : ByteArray) : posK l key ≤ l.length ∧ (∀ j, j < posK l key → lessB (keyAt l j) key = true) ∧ (posK l key < l.length → lessB (keyAt l (posK l key)) key = false) := by
  unfold posK
  induction l with
  | nil => exact ⟨by simp, fun j hj => absurd hj (by simp), fun h => absurd h (by simp)⟩
  | cons a l ih =>
    cases h : lessB a key
    · rw [List.takeWhile_cons, h]
      refine ⟨by simp, fun j hj => absurd hj (by simp), fun _ => ?_⟩
      simpa [keyAt] using h
    · rw [List.takeWhile_cons, h]
      simp only [if_true, List.length_cons]
      refine ⟨by omega, fun j hj => ?_, fun hl => ?_⟩
      · cases j with
        | zero => simpa [keyAt] using h
        | succ j => have := ih.2.1 j (by omega); simpa [keyAt] using this
      · have := ih.2.2 (by omega); simpa [keyAt] using this

/-- Keys behind the place are not ahead of the key, but for the first they are behind it. -/
theorem Rise.behind {l : List ByteArray} (h : Rise l) {key : ByteArray} {i : Nat} (hi : i < l.length) (h1 : lessB (keyAt l i) key = false) {j : Nat} (hij : i < j) (hj : j < l.length) : lessB (keyAt l j) key = false ∧ (keyAt l j).toList ≠ key.toList := by
  have h2 := h i j hij hj
  have key1 : lessB key (keyAt l j) = true := by
    by_cases e : (keyAt l i).toList = key.toList
    · rw [less_iff] at h2 ⊢; rw [← e]; exact h2
    · exact less_trans (less_total h1 e) h2
  rw [less_iff] at key1
  refine ⟨?_, fun e => ?_⟩
  · cases h3 : lessB (keyAt l j) key
    · rfl
    · rw [less_iff] at h3; exact absurd (List.lt_trans h3 key1) (List.lt_irrefl _)
  · rw [e] at key1; exact absurd key1 (List.lt_irrefl _)

theorem less_ne {a b : ByteArray} (h : lessB a b = true) : a.toList ≠ b.toList := fun e => by
  rw [less_iff, e] at h; exact absurd h (List.lt_irrefl _)

/-- The place to which a step leads, of a value of that kind with those keys and so many parts. -/
def stepTo (kind : Int) (keys : List ByteArray) (n : Nat) (x : PS) : Option Nat :=
  if x.named = true then (if kind = 6 ∧ hasK keys x.key = true then some (posK keys x.key) else none)
  else if kind = 5 ∧ x.pl < (n : Int) then some x.pl.toNat else none

def stepN (x : VN) (s : PS) : Option Nat := stepTo x.kind x.keys x.kids.length s

/-- The first place of the key. -/
theorem hasK_first {l : List ByteArray} (h : Rise l) {key : ByteArray} {i : Nat} (hi : i < l.length) (he : (keyAt l i).toList = key.toList) (hf : ∀ j, j < i → (keyAt l j).toList ≠ key.toList) : hasK l key = true ∧ posK l key = i := by
  have hp : posK l key = i := posK_eq (by omega) (fun j hj => by
      have := h j i hj hi
      rw [less_iff] at this ⊢
      rw [← he]; exact this) (fun _ => by
      cases h3 : lessB (keyAt l i) key
      · rfl
      · exact absurd he (less_ne h3))
  refine ⟨?_, hp⟩
  unfold hasK
  rw [hp]
  simp [hi, he]

theorem hasK_none {l : List ByteArray} {key : ByteArray} (hf : ∀ j, j < l.length → (keyAt l j).toList ≠ key.toList) : hasK l key = false := by
  unfold hasK
  by_cases h : posK l key < l.length
  · simp [h, hf _ h]
  · simp [h]

/-- Following steps, node by node. -/
def gotN (vs : List VN) : Nat → List PS → Option Nat
  | i, [] => some i
  | i, s :: r => match stepN (nodeAt vs i) s with
    | none => none
    | some k => gotN vs (intAt (nodeAt vs i).kids k).toNat r

theorem stepN_lt {vs : List VN} {i k : Nat} {s : PS} (hs : s.named = true ∨ 0 ≤ s.pl) (hk : (nodeAt vs i).kind = 6 → (nodeAt vs i).keys.length = (nodeAt vs i).kids.length) (h : stepN (nodeAt vs i) s = some k) : k < (nodeAt vs i).kids.length := by
  unfold stepN stepTo at h
  split at h
  · split at h
    · rename_i h1 h2
      simp only [Option.some.injEq] at h
      subst h
      have := h2.2
      unfold hasK at this
      simp at this
      rw [← hk h2.1]
      exact this.1
    · cases h
  · split at h
    · rename_i h1 h2
      simp only [Option.some.injEq] at h
      subst h
      rcases hs with e | e
      · rw [e] at h1; exact absurd rfl h1
      · omega
    · cases h

theorem gotN_append (vs : List VN) : ∀ (p : List PS) (i : Nat) (s : PS), gotN vs i (p ++ [s]) = (gotN vs i p).bind fun j => match stepN (nodeAt vs j) s with | none => none | some k => some (intAt (nodeAt vs j).kids k).toNat := by
  intro p
  induction p with
  | nil =>
    intro i s
    simp only [List.nil_append, gotN, Option.bind_some]
  | cons a p ih =>
    intro i s
    simp only [List.cons_append, gotN]
    cases stepN (nodeAt vs i) a with
    | none => rfl
    | some k => exact ih _ s

theorem take_step {ps : List PS} {k : Nat} (h : k < ps.length) : ps.take (k + 1) = ps.take k ++ [stepAt ps k] := by
  rw [List.take_add_one, List.getElem?_eq_getElem h]
  simp [stepAt, h]

theorem gotN_none (vs : List VN) (i : Nat) {ps : List PS} {k : Nat} (h : gotN vs i (ps.take k) = none) : gotN vs i ps = none := by
  have e : ps = ps.take k ++ ps.drop k := by simp
  rw [e]
  generalize ps.drop k = r
  generalize ps.take k = q at h
  clear e
  induction q generalizing i with
  | nil => simp [gotN] at h
  | cons a q ih =>
    simp only [gotN, List.cons_append] at h ⊢
    cases hs : stepN (nodeAt vs i) a with
    | none => rfl
    | some k => rw [hs] at h; exact ih _ h
end Go.Proofs.Ytpakfgonemiebaa

/-
  Keys with their places put in order, one behind the other. Plain mathematics, and slices of a row.
-/
namespace Go.Proofs.Ytpakfgonemiebaa
open Go.RowKit
set_option linter.unusedSimpArgs false
set_option linter.unusedVariables false

/-- The first i keys in order with their places; none: two are the same. -/
def sortIn (ks : List ByteArray) : Nat → Option (List ByteArray × List Nat)
  | 0 => some ([], [])
  | i + 1 => match sortIn ks i with
    | none => none
    | some (ns, ps) => if hasK ns (keyAt ks i) = true then none else some (ns.take (posK ns (keyAt ks i)) ++ [keyAt ks i] ++ ns.drop (posK ns (keyAt ks i)), ps.take (posK ns (keyAt ks i)) ++ [i] ++ ps.drop (posK ns (keyAt ks i)))

theorem sortIn_len {ks : List ByteArray} : ∀ {i : Nat} {ns : List ByteArray} {ps : List Nat}, sortIn ks i = some (ns, ps) → ns.length = i ∧ ps.length = i := by
  intro i
  induction i with
  | zero => intro ns ps h; simp [sortIn] at h; obtain ⟨rfl, rfl⟩ := h; exact ⟨rfl, rfl⟩
  | succ i ih =>
    intro ns ps h
    rw [sortIn] at h
    split at h
    · cases h
    · rename_i ns0 ps0 h0
      obtain ⟨h1, h2⟩ := ih h0
      split at h
      · cases h
      · injection h with h
        injection h with e1 e2
        subst e1 e2
        have := (posK_spec (l := ns0) (keyAt ks i)).1
        simp
        omega

theorem sortIn_mem {ks : List ByteArray} : ∀ {i : Nat} {ns : List ByteArray} {ps : List Nat}, sortIn ks i = some (ns, ps) → ∀ x ∈ ps, x < i := by
  intro i
  induction i with
  | zero => intro ns ps h; simp [sortIn] at h; obtain ⟨rfl, rfl⟩ := h; simp
  | succ i ih =>
    intro ns ps h
    rw [sortIn] at h
    split at h
    · cases h
    · rename_i ns0 ps0 h0
      split at h
      · cases h
      · injection h with h
        injection h with e1 e2
        subst e1 e2
        intro x hx
        simp only [List.mem_append, List.mem_singleton] at hx
        rcases hx with (hx | hx) | hx
        · have := ih h0 x (List.mem_of_mem_take hx); omega
        · omega
        · have := ih h0 x (List.mem_of_mem_drop hx); omega

theorem sortIn_none {ks : List ByteArray} {i j : Nat} (h : sortIn ks i = none) (hij : i ≤ j) : sortIn ks j = none := by
  obtain ⟨d, rfl⟩ : ∃ d, j = i + d := ⟨j - i, by omega⟩
  clear hij
  induction d with
  | zero => exact h
  | succ d ih => rw [← Nat.add_assoc, sortIn, ih]

theorem sortIn_put {ks : List ByteArray} {i j : Nat} {ns : List ByteArray} {ps : List Nat} (h : sortIn ks i = some (ns, ps)) (hj : posK ns (keyAt ks i) = j) (hn : hasK ns (keyAt ks i) = false) : sortIn ks (i + 1) = some (ns.take j ++ [keyAt ks i] ++ ns.drop j, ps.take j ++ [i] ++ ps.drop j) := by
  rw [sortIn, h]
  simp only [hn, hj]
  rfl

theorem sortIn_twice {ks : List ByteArray} {i : Nat} {ns : List ByteArray} {ps : List Nat} (h : sortIn ks i = some (ns, ps)) (hn : hasK ns (keyAt ks i) = true) : sortIn ks (i + 1) = none := by
  rw [sortIn, h]
  simp only [hn]
  rfl

theorem hasK_at {l : List ByteArray} {key : ByteArray} {j : Nat} (hj : posK l key = j) : hasK l key = (decide (j < l.length) && decide ((keyAt l j).toList = key.toList)) := by unfold hasK; rw [hj]

theorem keyAt_mapGet {l : List ByteArray} {j : Nat} (hj : j < l.length) : (l.map Value.string)[j]? = some (.string (keyAt l j)) := by
  rw [List.getElem?_map, List.getElem?_eq_getElem hj]
  simp [keyAt, hj]

/-- A row of rows, by its cells alone. -/
def CellsAt (B : Nat) (w : World) (v : Value) (m : Nat) (cs : Nat → Value) : Prop :=
  ∃ a cap, v = .slice a m cap ∧ (∀ i, i < m → ∃ a n c, cs i = .slice a n c) ∧ (0 < m → ∃ b o, a = some ⟨b, o, none⟩ ∧ b < B ∧ ∀ i, i < m → w.cell? ⟨b, o + i, none⟩ = some (cs i))

theorem own_some {w : World} {base e s n x : Nat} {v : Value} {xs : List Value} (h : w.ownsRow base e s v n xs) (hx : v.ownBlock = some x) : ∃ cap, v = .slice (some ⟨x, 0, none⟩) n cap ∧ n ≤ cap := by
  rcases h.2 with ⟨rfl, _⟩ | ⟨g, cap, cur, rfl, _, _, hnc, _⟩
  · simp [Value.ownBlock] at hx
  · simp [Value.ownBlock] at hx
    subst hx
    exact ⟨cap, rfl, hnc⟩

theorem elemStr : Try.prog.elem 75 = 9 := by kernel_rfl
theorem elemRow : Try.prog.elem 40 = 24 := by kernel_rfl
theorem sizeStr (w : World) : (sizeOf 9).run Try.prog w = .ok 1 w := by
  obtain ⟨i, hi, hz, hs, hy⟩ := info_parts infoStr
  simp [sizeOf, typeInfo, hi, hs]
theorem infoRowV : (Try.prog.info? 24).map (fun i => (i.zero, i.size, i.bytes)) = some (some (.slice none 0 0), 1, 24) := by kernel_rfl
theorem sizeRow (w : World) : (sizeOf 24).run Try.prog w = .ok 1 w := by
  obtain ⟨i, hi, hz, hs, hy⟩ := info_parts infoRowV
  simp [sizeOf, typeInfo, hi, hs]

theorem sliced_to (g j cap : Nat) : sliced (some ⟨g, 0, none⟩) 0 j cap 1 = .slice (some ⟨g, 0, none⟩) j cap := by
  unfold sliced
  split
  · rename_i h; subst h; simp
  · simp [Addr.add]
theorem sliced_from (g j n cap : Nat) : ∃ ad, sliced (some ⟨g, 0, none⟩) j n cap 1 = .slice (some ad) (n - j) (cap - j) ∧ (j < n → n ≤ cap → ad = ⟨g, j, none⟩) := by
  unfold sliced
  split
  · rename_i h; subst h; exact ⟨_, rfl, fun h1 h2 => by omega⟩
  · exact ⟨_, rfl, fun _ _ => by simp [Addr.add]; intro h; exact h.symm⟩

theorem strs_to (g n cap j : Nat) (hj : j ≤ cap) (w : World) : (Instr.slice 75 (.slice (some ⟨g, 0, none⟩) n cap) none (some (.int .i64 (j : Int))) none).run Try.prog w = .ok (.slice (some ⟨g, 0, none⟩) j cap) w := by
  rw [run_slice_h (P := Try.prog) (w := w) 75 (some ⟨g, 0, none⟩) n cap (by rw [elemStr]; exact Try.underlying75) .i64 j (by omega) (by omega), elemStr, sizeStr]
  simp only [Result.andThen, Int.toNat_natCast, sliced_to]
theorem rows_to (g n cap j : Nat) (hj : j ≤ cap) (w : World) : (Instr.slice 40 (.slice (some ⟨g, 0, none⟩) n cap) none (some (.int .i64 (j : Int))) none).run Try.prog w = .ok (.slice (some ⟨g, 0, none⟩) j cap) w := by
  rw [run_slice_h (P := Try.prog) (w := w) 40 (some ⟨g, 0, none⟩) n cap (by rw [elemRow]; exact Try.underlying40) .i64 j (by omega) (by omega), elemRow, sizeRow]
  simp only [Result.andThen, Int.toNat_natCast, sliced_to]
theorem strs_from (g n cap j : Nat) (hj : j ≤ n) : ∃ ad, (∀ w, (Instr.slice 75 (.slice (some ⟨g, 0, none⟩) n cap) (some (.int .i64 (j : Int))) none none).run Try.prog w = .ok (.slice (some ad) (n - j) (cap - j)) w) ∧ (j < n → n ≤ cap → ad = ⟨g, j, none⟩) := by
  obtain ⟨ad, h1, h2⟩ := sliced_from g j n cap
  refine ⟨ad, fun w => ?_, h2⟩
  rw [run_slice_l (P := Try.prog) (w := w) 75 (some ⟨g, 0, none⟩) n cap (by rw [elemStr]; exact Try.underlying75) .i64 j (by omega) (by omega), elemStr, sizeStr]
  simp only [Result.andThen, Int.toNat_natCast, h1]
theorem rows_from (g n cap j : Nat) (hj : j ≤ n) : ∃ ad, (∀ w, (Instr.slice 40 (.slice (some ⟨g, 0, none⟩) n cap) (some (.int .i64 (j : Int))) none none).run Try.prog w = .ok (.slice (some ad) (n - j) (cap - j)) w) ∧ (j < n → n ≤ cap → ad = ⟨g, j, none⟩) := by
  obtain ⟨ad, h1, h2⟩ := sliced_from g j n cap
  refine ⟨ad, fun w => ?_, h2⟩
  rw [run_slice_l (P := Try.prog) (w := w) 40 (some ⟨g, 0, none⟩) n cap (by rw [elemRow]; exact Try.underlying40) .i64 j (by omega) (by omega), elemRow, sizeRow]
  simp only [Result.andThen, Int.toNat_natCast, h1]
end Go.Proofs.Ytpakfgonemiebaa

/-
  slices' swapRange and rotate at rows of numbers: what stands where behind them.
-/
namespace Go.Proofs.Ytpakfgonemiebaa
open Go.RowKit
set_option linter.unusedSimpArgs false
set_option linter.unusedVariables false

def nums (f : Nat → Int) (j : Nat) : Value := .int .i64 (f j)

theorem nums_set2 {w : World} {g t N : Nat} {f : Nat → Int} (h : w.rowIs g t N (nums f)) (x y : Nat) (u v : Int) : ((w.setCell ⟨g, x, none⟩ (.int .i64 u)).setCell ⟨g, y, none⟩ (.int .i64 v)).rowIs g t N (nums (fun p => if p = y then v else if p = x then u else f p)) := by
  refine ((h.set x _).set y _).congr fun p _ => ?_
  unfold nums
  by_cases e1 : p = y
  · simp [e1]
  · by_cases e2 : p = x
    · subst e2; simp [e1]
    · simp [e1, e2]

/-- Nothing but block g has turned; there may be more blocks. -/
def Sw (g : Nat) (w w' : World) : Prop := w'.os = w.os ∧ w'.tape = w.tape ∧ w'.output = w.output ∧ Only (· = g) w w'

theorem Sw.refl (g : Nat) (w : World) : Sw g w w := ⟨rfl, rfl, rfl, Only.refl _ _⟩
theorem Sw.trans {g : Nat} {a b c : World} (h : Sw g a b) (k : Sw g b c) : Sw g a c := ⟨k.1.trans h.1, k.2.1.trans h.2.1, k.2.2.1.trans h.2.2.1, h.2.2.2.trans k.2.2.2⟩
theorem Sw.set {g : Nat} {a b : World} (h : Sw g a b) (o : Nat) (v : Value) : Sw g a (b.setCell ⟨g, o, none⟩ v) := by
  have hb : Below g b (b.setCell ⟨g, o, none⟩ v) := (Below.refl _ _).setCell (p := ⟨g, o, none⟩) (Nat.le_refl _) v
  exact h.trans ⟨hb.os, hb.tape, hb.output, Only.set (P := (· = g)) b rfl v⟩
theorem Sw.drew {g : Nat} {a b : World} (h : Sw g a b) : Sw g a b.drew := ⟨h.1, h.2.1, h.2.2.1, h.2.2.2⟩
theorem Sw.drewN {g : Nat} {a b : World} (h : Sw g a b) (n : Nat) : Sw g a (b.drewN n) := ⟨h.1, h.2.1, h.2.2.1, h.2.2.2⟩
theorem Sw.below {g B : Nat} {a b : World} (h : Sw g a b) (hB : B ≤ g) (hs : B ≤ a.heap.size) : Below B a b := ⟨h.1, h.2.1, h.2.2.1, h.2.2.2.1, fun k hk => h.2.2.2.2 k (by omega) (by omega)⟩

end Go.Proofs.Ytpakfgonemiebaa

/-
  slices' symMerge at rows of numbers, with the closure of sortedPlaces: two rows that rise become one.
-/
namespace Go.Proofs.Ytpakfgonemiebaa
open Go.RowKit
set_option linter.unusedSimpArgs false
set_option linter.unusedVariables false

def NumsIn (f : Nat → Int) (N : Nat) : Prop := ∀ p, p < N → 0 ≤ f p ∧ f p < N

theorem Merged.vals {R : Int → Int → Prop} {f f' : Nat → Int} {a b N : Nat} (h : Merged R f f' a b) (hv : NumsIn f N) (hb : b ≤ N) : NumsIn f' N := fun p hp => by
  by_cases c : a ≤ p ∧ p < b
  · obtain ⟨q, q1, q2, q3⟩ := h.inn p c.1 c.2
    rw [q3]; exact hv q (by omega)
  · rw [h.out p (by omega)]; exact hv p hp

theorem rot_vals {s m e N : Nat} {f : Nat → Int} (hv : NumsIn f N) (h1 : s ≤ m) (h2 : m ≤ e) (h3 : e ≤ N) : NumsIn (rot s m e f) N := fun p hp => by
  obtain ⟨q, q1, q2, q3⟩ := rot_inn (f := f) h1 h2 (Nat.zero_le s) h3 p (Nat.zero_le _) hp
  rw [q3]; exact hv q q2

end Go.Proofs.Ytpakfgonemiebaa

/-
  slices' symMerge where the second row is of one cell.
-/
namespace Go.Proofs.Ytpakfgonemiebaa
open Go.RowKit
set_option linter.unusedSimpArgs false
set_option linter.unusedVariables false

end Go.Proofs.Ytpakfgonemiebaa

/-
  slices' symMerge: two rows that rise become one that rises.
-/
namespace Go.Proofs.Ytpakfgonemiebaa
open Go.RowKit
set_option linter.unusedSimpArgs false
set_option linter.unusedVariables false

end Go.Proofs.Ytpakfgonemiebaa

/-
  slices' insertionSort at rows of numbers, with the closure of sortedPlaces.
-/
namespace Go.Proofs.Ytpakfgonemiebaa
open Go.RowKit
set_option linter.unusedSimpArgs false
set_option linter.unusedVariables false

/-- One more has been put into its place. -/
theorem ins_step {R : Int → Int → Prop} (hR : Tot R) {f fk : Nat → Int} {a i j : Nat} (h1 : a ≤ j) (h2 : j ≤ i) (hm : Merged R f fk a i) (hfi : ∀ p, i ≤ p → fk p = f p)
    (hbig : ∀ p, j ≤ p → p < i → R (f i) (fk p)) (hlow : a < j → R (fk (j - 1)) (f i)) : Merged R f (rot j i (i + 1) fk) a (i + 1) := by
  have hl : ∀ p, a ≤ p → p < j → R (fk p) (f i) := fun p hp hpj => by
    have := hlow (by omega)
    by_cases e : p = j - 1
    · rw [e]; exact this
    · exact hR.tr _ _ _ (hm.ris p (j - 1) hp (by omega) (by omega)) this
  have m2 : Merged R fk (rot j i (i + 1) fk) a (i + 1) := merged_2 h1 h2 (by omega) hm.ris (fun p q h1 h2 h3 => by omega) (fun p q h3 h4 h5 h6 => by
      obtain rfl : q = i := by omega
      rw [hfi q (Nat.le_refl _)]; exact hl p h3 h4) (fun p q h3 h4 h5 h6 => by
      obtain rfl : q = i := by omega
      rw [hfi q (Nat.le_refl _)]; exact hbig p h3 h4)
  refine ⟨fun p hp => ?_, fun p h3 h4 => ?_, m2.ris⟩
  · rw [m2.out p hp]
    rcases hp with c | c
    · exact hm.out p (Or.inl c)
    · exact hfi p (by omega)
  · obtain ⟨q, q1, q2, q3⟩ := m2.inn p h3 h4
    by_cases c : q < i
    · obtain ⟨r, r1, r2, r3⟩ := hm.inn q q1 c
      exact ⟨r, r1, by omega, by rw [q3, r3]⟩
    · exact ⟨q, q1, q2, by rw [q3, hfi q (by omega)]⟩

end Go.Proofs.Ytpakfgonemiebaa

/-
  slices' stable sort at rows of numbers that rise, with the closure of sortedPlaces.
-/
namespace Go.Proofs.Ytpakfgonemiebaa
open Go.RowKit
set_option linter.unusedSimpArgs false
set_option linter.unusedVariables false

/-- Between two blocks: ahead of a all blocks are done, from a on nothing is. -/
theorem ins_block {R : Int → Int → Prop} {f fk fk' : Nat → Int} {a b : Nat} (he : ∀ p, a ≤ p → fk p = f p) (hm : Merged R fk fk' a b) : Blk R f fk' a b := by
  refine ⟨fun p h1 h2 => ?_, hm.ris⟩
  obtain ⟨q, q1, q2, q3⟩ := hm.inn p h1 h2
  exact ⟨q, q1, q2, by rw [q3, he q q1]⟩

theorem vals_of {R : Int → Int → Prop} {f fk : Nat → Int} {N : Nat} (hv : NumsIn f N) (h : ∀ p, p < N → ∃ q, q < N ∧ fk p = f q) : NumsIn fk N := fun p hp => by
  obtain ⟨q, q1, q2⟩ := h p hp
  rw [q2]; exact hv q q1

end Go.Proofs.Ytpakfgonemiebaa
