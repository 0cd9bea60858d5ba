/-
  Plain: what a right node says by its kind.
-/
import Derived.Test.YtagcgnhpdmhegaaRdT
import Derived.Test.YtagcgnhpdmhegaaStb
import Derived.Test.YtagcgnhpdmhegaaGotP
import Derived.Test.YtagcgnhpdmhegaaMapP
namespace Go.Proofs.Ytagcgnhpdmhegaa
open Go.RowKit
set_option linter.unusedSimpArgs false
set_option linter.unusedVariables false

theorem rise_at {keys : List ByteArray} (hr : riseB keys = true) {j : Nat} (hj : j < keys.length) : textB (keyAt keys j) = true ∧ (0 < j → lessB (keyAt keys (j - 1)) (keyAt keys j) = true) := by
  have := List.all_eq_true.1 hr j (List.mem_range.2 hj)
  unfold riseAt at this
  simp only [Bool.and_eq_true, Bool.or_eq_true, decide_eq_true_eq] at this
  exact ⟨this.1, fun h => this.2.resolve_left (by omega)⟩
theorem keys_less {keys : List ByteArray} (hr : riseB keys = true) : ∀ d a, a + d + 1 < keys.length → lessB (keyAt keys a) (keyAt keys (a + d + 1)) = true := by
  intro d
  induction d with
  | zero => intro a h; have := (rise_at hr h).2 (by omega); rwa [show a + 0 + 1 - 1 = a by omega] at this
  | succ d ih =>
    intro a h
    have h1 := ih a (by omega)
    have h2 := (rise_at hr h).2 (by omega)
    rw [show a + (d + 1) + 1 - 1 = a + d + 1 by omega] at h2
    exact less_trans h1 h2
theorem range_keys (keys : List ByteArray) : (List.range keys.length).map (keyAt keys) = keys := by
  apply List.ext_getElem?
  intro i
  rw [List.getElem?_map]
  by_cases h : i < keys.length
  · rw [List.getElem?_range h, Option.map_some]
    unfold keyAt
    rw [List.getD_eq_getElem?_getD, List.getElem?_eq_getElem h]; rfl
  · rw [List.getElem?_eq_none (by simp; omega), List.getElem?_eq_none (by omega)]; rfl
theorem range_kids (kids : List VT) : (List.range kids.length).map (kidT kids) = kids := by
  apply List.ext_getElem?
  intro i
  rw [List.getElem?_map]
  by_cases h : i < kids.length
  · rw [List.getElem?_range h, Option.map_some]
    unfold kidT
    rw [List.getD_eq_getElem?_getD, List.getElem?_eq_getElem h]; rfl
  · rw [List.getElem?_eq_none (by simp; omega), List.getElem?_eq_none (by omega)]; rfl
theorem empty_is {s : ByteArray} (h : s.toList = []) : s = ByteArray.empty := by
  exact str_eq (by rw [h, ByteArray.toList_eq]; rfl)
theorem nodeT_says {kind n : Int} {s : ByteArray} {keys : List ByteArray} {m : Nat} (h : nodeT kind n s keys m = true) :
    (kind = 1 ∧ n = 0 ∧ s = ByteArray.empty ∧ keys = [] ∧ m = 0) ∨ (kind = 2 ∧ (n = 0 ∨ n = 1) ∧ s = ByteArray.empty ∧ keys = [] ∧ m = 0) ∨ (kind = 3 ∧ (-1000000000000000 ≤ n ∧ n ≤ 1000000000000000) ∧ s = ByteArray.empty ∧ keys = [] ∧ m = 0) ∨
    (kind = 4 ∧ n = 0 ∧ s.size ≤ 60 ∧ keys = [] ∧ m = 0) ∨ (kind = 5 ∧ n = 0 ∧ s = ByteArray.empty ∧ keys = []) ∨ (kind = 6 ∧ n = 0 ∧ s = ByteArray.empty ∧ keys.length = m ∧ riseB keys = true) := by
  unfold nodeT nodeB unnamedB namedB at h
  simp only [Bool.and_eq_true, List.length_replicate] at h
  obtain ⟨⟨⟨⟨u1, u2⟩, u3⟩, u4⟩, v⟩ := h
  by_cases k1 : kind = 1
  · subst k1; simp at u1 u2 u3 u4; exact .inl ⟨rfl, u1, empty_is u2, u3, u4⟩
  by_cases k2 : kind = 2
  · subst k2; simp at u2 u3 u4 v; exact .inr (.inl ⟨rfl, v, empty_is u2, u3, u4⟩)
  by_cases k3 : kind = 3
  · subst k3; simp at u2 u3 u4 v; exact .inr (.inr (.inl ⟨rfl, v, empty_is u2, u3, u4⟩))
  by_cases k4 : kind = 4
  · subst k4; simp [textB] at u1 u3 u4 v; exact .inr (.inr (.inr (.inl ⟨rfl, u1, v.1, u3, u4⟩)))
  by_cases k5 : kind = 5
  · subst k5; simp at u1 u2 u3; exact .inr (.inr (.inr (.inr (.inl ⟨rfl, u1, empty_is u2, u3⟩))))
  by_cases k6 : kind = 6
  · subst k6; simp at u1 u2 v; exact .inr (.inr (.inr (.inr (.inr ⟨rfl, u1, empty_is u2, v.1, v.2⟩))))
  simp [k1, k2, k3, k4, k5, k6] at v
end Go.Proofs.Ytagcgnhpdmhegaa

/-
  Plain: the tree of right nodes is good; the nodes that are laid for a tree, and its tree again.
-/
namespace Go.Proofs.Ytagcgnhpdmhegaa
open Go.RowKit
set_option linter.unusedSimpArgs false
set_option linter.unusedVariables false

theorem good_tree {vs : List VN} (hok : okB vs = true) : ∀ f i, i < vs.length → i < f → goodT f (treeOf vs f i) := by
  intro f
  induction f with
  | zero => intro i _ h; omega
  | succ f ih =>
    intro i hi hf
    obtain ⟨_, p2, _, _⟩ := okB_parts hok
    rw [treeOf]
    refine ⟨?_, fun j hj => ?_⟩
    · have := (p2 i hi).1
      rw [nodeT_eq] at this
      rw [List.length_map]
      exact this
    · rw [List.length_map] at hj
      have hki := kidsIn_get (p2 i hi).2 hj
      rw [kidT_map hj]
      exact ih _ (by omega) (by omega)
theorem whole_len {vs : List VN} (hok : okB vs = true) : (layT vs.length (treeOf vs vs.length (vs.length - 1)) 0).length = vs.length := by
  obtain ⟨p1, _⟩ := okB_parts hok
  obtain ⟨h, htr⟩ := root_first hok
  rw [← lay_tree, lay_run vs vs.length (vs.length - 1) 0 0 h (by omega) htr]
  unfold run
  rw [List.length_map, List.length_range']
  omega
theorem whole_lay {vs : List VN} (hok : okB vs = true) : layT vs.length (treeOf vs vs.length (vs.length - 1)) 0 = vs := by
  obtain ⟨p1, _⟩ := okB_parts hok
  obtain ⟨h, htr⟩ := root_first hok
  rw [← lay_tree, lay_run vs vs.length (vs.length - 1) 0 0 h (by omega) htr]
  rw [show vs.length - 1 + 1 - 0 = vs.length by omega, show (((0 : Nat) : Int) - ((0 : Nat) : Int)) = 0 by omega, run_all]
  have : (shiftN 0) = id := by funext x; exact shift_zero x
  rw [this, List.map_id]
theorem acc_at {f sh : Nat} {kids : List VT} {vs : List VN} {x : VN} (hk : ∀ j, j < (accT f sh kids kids.length ++ [x]).length → nodeAt vs (sh + j) = nodeAt (accT f sh kids kids.length ++ [x]) j) {k : Nat} (hkl : k < kids.length) :
    ∀ j, j < (layT f (kidT kids k) (sh + (accT f sh kids k).length)).length → nodeAt vs (sh + (accT f sh kids k).length + j) = nodeAt (layT f (kidT kids k) (sh + (accT f sh kids k).length)) j := by
  intro j hj
  have hlen : (accT f sh kids (k + 1)).length = (accT f sh kids k).length + (layT f (kidT kids k) (sh + (accT f sh kids k).length)).length := by rw [accT_succ f sh hkl, List.length_append]
  obtain ⟨t1, ht1⟩ := accT_pre f sh kids (show k + 1 ≤ kids.length by omega) (Nat.le_refl _)
  have hl1 := congrArg List.length ht1
  rw [List.length_append] at hl1
  have := hk ((accT f sh kids k).length + j) (by rw [List.length_append]; omega)
  rw [nodeAt_left (by omega), ht1, nodeAt_left (by omega), accT_succ f sh hkl, nodeAt_right (by omega)] at this
  rw [Nat.add_assoc, this, Nat.add_sub_cancel_left]
theorem tree_back : ∀ {f : Nat} {t : VT}, FullT f t → ∀ (vs : List VN) (sh g : Nat), f ≤ g → (∀ j, j < (layT f t sh).length → nodeAt vs (sh + j) = nodeAt (layT f t sh) j) → treeOf vs g (sh + (layT f t sh).length - 1) = t := by
  intro f
  induction f with
  | zero => intro t h; exact h.elim
  | succ f ih =>
    intro t h vs sh g hg hk
    obtain ⟨g, rfl⟩ : ∃ k, g = k + 1 := ⟨g - 1, by omega⟩
    obtain ⟨kind, n, s, keys, kids⟩ := t
    rw [layT_eq] at hk ⊢
    have hroot := hk (accT f sh kids kids.length).length (by rw [List.length_append, List.length_cons]; omega)
    rw [nodeAt_right (Nat.le_refl _), Nat.sub_self] at hroot
    have hroot' : nodeAt vs (sh + (accT f sh kids kids.length).length) = { kind := kind, n := n, s := s, keys := keys, kids := ksT f sh kids kids.length } := hroot
    rw [List.length_append, List.length_cons, List.length_nil, show sh + ((accT f sh kids kids.length).length + (0 + 1)) - 1 = sh + (accT f sh kids kids.length).length by omega, treeOf, hroot']
    have hf : ∀ k, k ≤ kids.length → (ksT f sh kids k).map (fun x => treeOf vs g x.toNat) = kids.take k := by
      intro k
      induction k with
      | zero => intro _; rw [ksT_zero]; rfl
      | succ k ihk =>
        intro hkl
        have hlen : (accT f sh kids (k + 1)).length = (accT f sh kids k).length + (layT f (kidT kids k) (sh + (accT f sh kids k).length)).length := by rw [accT_succ f sh (by omega), List.length_append]
        rw [ksT_succ f sh (by omega), List.map_append, ihk (by omega), take_kid (by omega)]
        have e := ih (h k (by omega)) vs (sh + (accT f sh kids k).length) g (by omega) (acc_at hk (by omega))
        congr 1
        rw [List.map_cons, List.map_nil, show (((sh + (accT f sh kids (k + 1)).length : Nat) : Int) - 1).toNat = sh + (accT f sh kids k).length + (layT f (kidT kids k) (sh + (accT f sh kids k).length)).length - 1 by omega, e]
    dsimp only
    rw [hf _ (Nat.le_refl _), List.take_length]
theorem full_len : ∀ {f : Nat} {t : VT}, FullT f t → ∀ sh, FullT (layT f t sh).length t := by
  intro f
  induction f with
  | zero => intro t h; exact h.elim
  | succ f ih =>
    intro t h sh
    obtain ⟨kind, n, s, keys, kids⟩ := t
    rw [layT_eq, List.length_append, List.length_cons, List.length_nil]
    intro j hj
    have hlen : (accT f sh kids (j + 1)).length = (accT f sh kids j).length + (layT f (kidT kids j) (sh + (accT f sh kids j).length)).length := by rw [accT_succ f sh hj, List.length_append]
    obtain ⟨t1, ht1⟩ := accT_pre f sh kids (show j + 1 ≤ kids.length by omega) (Nat.le_refl _)
    have hl1 := congrArg List.length ht1
    rw [List.length_append] at hl1
    exact (ih (h j hj) (sh + (accT f sh kids j).length)).more (by omega)
end Go.Proofs.Ytagcgnhpdmhegaa

/-
  Plain: trees changed at the end of a path: a part taken or laid there, the rest as it was.
-/
namespace Go.Proofs.Ytagcgnhpdmhegaa
open Go.RowKit
set_option linter.unusedSimpArgs false
set_option linter.unusedVariables false

def kidsT : VT → List VT
  | .mk _ _ _ _ kids => kids
def stepT : VT → PS → Option Nat
  | .mk kind _ _ keys kids, x => stepTo kind keys kids.length x
def putKid (k : Nat) (u : VT) : VT → VT
  | .mk kind n s keys kids => .mk kind n s keys (kids.set k u)
def takeKid (k : Nat) : VT → VT
  | .mk kind n s keys kids => .mk kind n s (keys.eraseIdx k) (kids.eraseIdx k)
def takeG (t : VT) (x : PS) : Option VT := match stepT t x with
  | none => none
  | some k => some (takeKid k t)
/-- The part to which steps lead. -/
def folT : List PS → VT → Option VT
  | [], t => some t
  | x :: ps, t => match stepT t x with
    | none => none
    | some k => folT ps (kidT (kidsT t) k)
/-- The tree with another part there. -/
def plugT : List PS → VT → VT → VT
  | [], _, u => u
  | x :: ps, t, u => match stepT t x with
    | none => t
    | some k => putKid k (plugT ps (kidT (kidsT t) k) u) t
def updT (g : VT → PS → Option VT) : List PS → VT → Option VT
  | [], _ => none
  | [x], t => g t x
  | x :: y :: ps, t => match stepT t x with
    | none => none
    | some k => match updT g (y :: ps) (kidT (kidsT t) k) with
      | none => none
      | some u => some (putKid k u t)
theorem updT_snoc (g : VT → PS → Option VT) : ∀ (ps : List PS) (t : VT) (x : PS), updT g (ps ++ [x]) t = match folT ps t with | none => none | some s => match g s x with | none => none | some u => some (plugT ps t u) := by
  intro ps
  induction ps with
  | nil =>
    intro t x
    show g t x = _
    rw [folT]
    dsimp only
    cases g t x <;> rfl
  | cons y ps ih =>
    intro t x
    rw [folT]
    cases ps with
    | nil =>
      show (match stepT t y with | none => none | some k => match updT g [x] (kidT (kidsT t) k) with | none => none | some u => some (putKid k u t)) = _
      cases e : stepT t y with
      | none => rfl
      | some k =>
        dsimp only [updT, folT]
        cases e2 : g (kidT (kidsT t) k) x with
        | none => rfl
        | some u => simp only [plugT, e]
    | cons z ps =>
      show (match stepT t y with | none => none | some k => match updT g (z :: ps ++ [x]) (kidT (kidsT t) k) with | none => none | some u => some (putKid k u t)) = _
      cases e : stepT t y with
      | none => rfl
      | some k =>
        dsimp only
        rw [ih (kidT (kidsT t) k) x]
        cases e1 : folT (z :: ps) (kidT (kidsT t) k) with
        | none => rfl
        | some s =>
          dsimp only
          cases e2 : g s x with
          | none => rfl
          | some u =>
            dsimp only
            conv => rhs; rw [plugT, e]
/-! ### How many nodes, how deep -/
theorem cat_sumT (f : Nat) (kids : List VT) : ∀ k, k ≤ kids.length → (catNs (fun i => layT f (kidT kids i) 0) k).length = ((kids.take k).map fun t => (layT f t 0).length).sum := by
  intro k
  induction k with
  | zero => intro _; rfl
  | succ k ih =>
    intro hk
    rw [catNs_len, ih (by omega), take_kid (by omega), List.map_append, List.sum_append]
    simp
theorem lay_sum (f : Nat) (kind n : Int) (s : ByteArray) (keys : List ByteArray) (kids : List VT) : (layT (f + 1) (.mk kind n s keys kids) 0).length = (kids.map fun t => (layT f t 0).length).sum + 1 := by
  rw [layT_eq, (acc_cat f kids _ (Nat.le_refl _)).1, List.length_append, cat_sumT f kids _ (Nat.le_refl _), List.take_length]
  rfl
theorem sum_erase {F : VT → Nat} : ∀ {l : List VT} {k : Nat}, ((l.eraseIdx k).map F).sum ≤ (l.map F).sum := by
  intro l
  induction l with
  | nil => intro k; simp
  | cons x l ih =>
    intro k
    cases k with
    | zero => simp
    | succ k => have := @ih k; simp; omega
theorem sum_set {F : VT → Nat} : ∀ {l : List VT} {k : Nat} {u : VT}, F u ≤ F (kidT l k) → ((l.set k u).map F).sum ≤ (l.map F).sum := by
  intro l
  induction l with
  | nil => intro k u _; simp
  | cons x l ih =>
    intro k u h
    cases k with
    | zero => have h' : F u ≤ F x := h; rw [List.set_cons_zero, List.map_cons, List.map_cons, List.sum_cons, List.sum_cons]; omega
    | succ k => have := @ih k u h; rw [List.set_cons_succ, List.map_cons, List.map_cons, List.sum_cons, List.sum_cons]; omega
theorem kid_erase {l : List VT} {k j : Nat} : kidT (l.eraseIdx k) j = kidT l (if j < k then j else j + 1) := by
  unfold kidT
  rw [List.getD_eq_getElem?_getD, List.getD_eq_getElem?_getD, List.getElem?_eraseIdx]
  split <;> rfl
theorem key_erase {l : List ByteArray} {k j : Nat} : keyAt (l.eraseIdx k) j = keyAt l (if j < k then j else j + 1) := by
  unfold keyAt
  rw [List.getD_eq_getElem?_getD, List.getD_eq_getElem?_getD, List.getElem?_eraseIdx]
  split <;> rfl
theorem kid_set {l : List VT} {k j : Nat} {u : VT} (hk : k < l.length) : kidT (l.set k u) j = if j = k then u else kidT l j := by
  unfold kidT
  rw [List.getD_eq_getElem?_getD, List.getD_eq_getElem?_getD, List.getElem?_set]
  by_cases e : j = k
  · subst e; simp [hk]
  · rw [if_neg e, if_neg (fun h => e h.symm)]
/-- No more nodes, no deeper, and right if the other one is. -/
def NoMore (f : Nat) (u t : VT) : Prop := (layT f u 0).length ≤ (layT f t 0).length ∧ hiT f u ≤ hiT f t ∧ goodT f u
theorem erase_rise {keys : List ByteArray} (hr : riseB keys = true) (k : Nat) : riseB (keys.eraseIdx k) = true := by
  unfold riseB
  rw [List.all_eq_true]
  intro j hj
  have hj' := List.mem_range.1 hj
  have hl : (keys.eraseIdx k).length ≤ keys.length := by rw [List.length_eraseIdx]; split <;> omega
  have hin : (if j < k then j else j + 1) < keys.length := by
    rw [List.length_eraseIdx] at hj'
    split at hj' <;> (split <;> omega)
  unfold riseAt
  rw [key_erase, key_erase, (rise_at hr hin).1]
  simp only [Bool.true_and, Bool.or_eq_true, decide_eq_true_eq]
  by_cases e : j = 0
  · exact .inl e
  · right
    obtain ⟨a, b, hab, ea, eb⟩ : ∃ a b, a < b ∧ (if j - 1 < k then j - 1 else j - 1 + 1) = a ∧ (if j < k then j else j + 1) = b := ⟨_, _, by split <;> (split <;> omega), rfl, rfl⟩
    rw [ea, eb]
    rw [eb] at hin
    have := keys_less hr (b - a - 1) a (by omega)
    rwa [show a + (b - a - 1) + 1 = b by omega] at this
theorem node5 (m : Nat) : nodeT 5 0 ByteArray.empty [] m = true := by
  unfold nodeT nodeB unnamedB namedB
  simp
theorem node6T {keys : List ByteArray} {m : Nat} (hl : keys.length = m) (hr : riseB keys = true) : nodeT 6 0 ByteArray.empty keys m = true := by
  unfold nodeT nodeB unnamedB namedB
  simp [hl, hr]
theorem take_nomore {f : Nat} {t : VT} {k : Nat} (h : goodT (f + 1) t) (hk : k < (kidsT t).length) : NoMore (f + 1) (takeKid k t) t := by
  obtain ⟨kind, n, s, keys, kids⟩ := t
  have hk' : k < kids.length := hk
  obtain ⟨h1, h2⟩ := h
  have hel : (kids.eraseIdx k).length = kids.length - 1 := by rw [List.length_eraseIdx, if_pos hk']
  have hin : ∀ j, j < kids.length - 1 → (if j < k then j else j + 1) < kids.length := fun j hj => by split <;> omega
  refine ⟨?_, ?_, ?_, ?_⟩
  · show (layT (f + 1) (.mk kind n s (keys.eraseIdx k) (kids.eraseIdx k)) 0).length ≤ _
    rw [lay_sum, lay_sum]
    have := sum_erase (F := fun t => (layT f t 0).length) (l := kids) (k := k)
    omega
  · show hiT (f + 1) (.mk kind n s (keys.eraseIdx k) (kids.eraseIdx k)) ≤ _
    rw [hiT, hiT]
    have : hiK (hiT f) (kids.eraseIdx k) (kids.eraseIdx k).length ≤ hiK (hiT f) kids kids.length := hiK_bound (fun j hj => by rw [kid_erase]; exact hiK_le (hin j (by omega)))
    omega
  · show nodeT kind n s (keys.eraseIdx k) (kids.eraseIdx k).length = true
    rw [hel]
    rcases nodeT_says h1 with ⟨_, _, _, _, hm⟩ | ⟨_, _, _, _, hm⟩ | ⟨_, _, _, _, hm⟩ | ⟨_, _, _, _, hm⟩ | ⟨rfl, rfl, rfl, rfl⟩ | ⟨rfl, rfl, rfl, hm, hr⟩
    · omega
    · omega
    · omega
    · omega
    · exact node5 _
    · exact node6T (by rw [List.length_eraseIdx, if_pos (by omega), hm]) (erase_rise hr k)
  · intro j hj
    have hj' : j < (kids.eraseIdx k).length := hj
    show goodT f (kidT (kids.eraseIdx k) j)
    rw [kid_erase]
    exact h2 _ (hin j (by omega))
theorem put_nomore {f : Nat} {t u : VT} {k : Nat} (h : goodT (f + 1) t) (hk : k < (kidsT t).length) (hu : NoMore f u (kidT (kidsT t) k)) : NoMore (f + 1) (putKid k u t) t := by
  obtain ⟨kind, n, s, keys, kids⟩ := t
  have hk' : k < kids.length := hk
  obtain ⟨h1, h2⟩ := h
  obtain ⟨u1, u2, u3⟩ := hu
  refine ⟨?_, ?_, ?_, ?_⟩
  · show (layT (f + 1) (.mk kind n s keys (kids.set k u)) 0).length ≤ _
    rw [lay_sum, lay_sum]
    have := sum_set (F := fun t => (layT f t 0).length) (l := kids) (k := k) (u := u) u1
    omega
  · show hiT (f + 1) (.mk kind n s keys (kids.set k u)) ≤ _
    rw [hiT, hiT]
    have : hiK (hiT f) (kids.set k u) (kids.set k u).length ≤ hiK (hiT f) kids kids.length := hiK_bound (fun j hj => by
      rw [List.length_set] at hj
      rw [kid_set hk']
      split
      · rename_i e; subst e; exact Nat.le_trans u2 (hiK_le hk')
      · exact hiK_le hj)
    omega
  · show nodeT kind n s keys (kids.set k u).length = true
    rw [List.length_set]; exact h1
  · intro j hj
    have hj' : j < (kids.set k u).length := hj
    rw [List.length_set] at hj'
    show goodT f (kidT (kids.set k u) j)
    rw [kid_set hk']
    split
    · exact u3
    · exact h2 j hj'
theorem stepTo_lt {kind : Int} {keys : List ByteArray} {n : Nat} {x : PS} {k : Nat} (h0 : x.named = true ∨ 0 ≤ x.pl) (h6 : kind = 6 → keys.length = n) (h : stepTo kind keys n x = some k) : k < n := by
  unfold stepTo at h
  split at h
  · split at h
    · rename_i hh
      simp only [Option.some.injEq] at h
      have := hh.2
      unfold hasK at this
      simp only [Bool.and_eq_true, decide_eq_true_eq] at this
      have := h6 hh.1
      omega
    · cases h
  · split at h
    · simp only [Option.some.injEq] at h
      rename_i hn hh
      rcases h0 with h0 | h0
      · exact absurd h0 hn
      · omega
    · cases h
theorem stepT_lt {f : Nat} {t : VT} {x : PS} {k : Nat} (hg : goodT f t) (h0 : x.named = true ∨ 0 ≤ x.pl) (h : stepT t x = some k) : k < (kidsT t).length := by
  cases f with
  | zero => exact hg.elim
  | succ f =>
    obtain ⟨kind, n, s, keys, kids⟩ := t
    refine stepTo_lt h0 (fun e => ?_) h
    rcases nodeT_says hg.1 with ⟨e2, _⟩ | ⟨e2, _⟩ | ⟨e2, _⟩ | ⟨e2, _⟩ | ⟨e2, _⟩ | ⟨_, _, _, hm, _⟩
    · omega
    · omega
    · omega
    · omega
    · omega
    · exact hm
theorem good_kid {f : Nat} {t : VT} {k : Nat} (hg : goodT (f + 1) t) (hk : k < (kidsT t).length) : goodT f (kidT (kidsT t) k) := by
  obtain ⟨kind, n, s, keys, kids⟩ := t
  exact hg.2 k hk
/-- What is taken makes no more of it. -/
theorem taken_nomore : ∀ (ps : List PS) (f : Nat) (t u : VT), goodT f t → (∀ x ∈ ps, x.named = true ∨ 0 ≤ x.pl) → updT takeG ps t = some u → NoMore f u t
  | [], _, _, _, _, _, h => by cases h
  | [x], f, t, u, hg, h0, h => by
    have h' : takeG t x = some u := h
    unfold takeG at h'
    cases e : stepT t x with
    | none => rw [e] at h'; cases h'
    | some k =>
      rw [e] at h'
      simp only [Option.some.injEq] at h'
      subst h'
      have hk := stepT_lt hg (h0 x (by simp)) e
      cases f with
      | zero => exact hg.elim
      | succ f => exact take_nomore hg hk
  | x :: y :: ps, f, t, u, hg, h0, h => by
    rw [updT] at h
    cases e : stepT t x with
    | none => rw [e] at h; cases h
    | some k =>
      rw [e] at h
      dsimp only at h
      have hk := stepT_lt hg (h0 x (by simp)) e
      cases f with
      | zero => exact hg.elim
      | succ f =>
        cases e2 : updT takeG (y :: ps) (kidT (kidsT t) k) with
        | none => rw [e2] at h; cases h
        | some v =>
          rw [e2] at h
          simp only [Option.some.injEq] at h
          subst h
          exact put_nomore hg hk (taken_nomore (y :: ps) f _ v (good_kid hg hk) (fun z hz => h0 z (by simp at hz ⊢; exact .inr hz)) e2)
end Go.Proofs.Ytagcgnhpdmhegaa
