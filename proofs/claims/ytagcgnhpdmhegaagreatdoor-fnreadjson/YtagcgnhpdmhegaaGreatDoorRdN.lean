/-
  Plain: when the nodes that are laid for a tree are a right value: by the tree alone.
-/
import Derived.Test.YtagcgnhpdmhegaaGreatDoorMarkM
import Derived.Test.YtagcgnhpdmhegaaGreatDoorMapP
import Derived.Test.YtagcgnhpdmhegaaGreatDoorSMake
import Derived.Test.YtagcgnhpdmhegaaGreatDoorRd4
import Derived.Test.YtagcgnhpdmhegaaGreatDoorSortQ
import Derived.Test.YtagcgnhpdmhegaaGreatDoorPure
import Derived.Test.YtagcgnhpdmhegaaGreatDoorDrL
namespace Go.Proofs.YtagcgnhpdmhegaaGreatDoor
open Go.RowKit
set_option linter.unusedSimpArgs false
set_option linter.unusedVariables false

/-- The tree ends within so many steps. -/
def FullT : Nat → VT → Prop
  | 0, _ => False
  | f + 1, .mk _ _ _ _ kids => ∀ j, j < kids.length → FullT f (kidT kids j)
/-- Every node is right by itself. -/
def nodeT (kind n : Int) (s : ByteArray) (keys : List ByteArray) (m : Nat) : Bool := nodeB ⟨kind, n, s, keys, List.replicate m 0⟩
def goodT : Nat → VT → Prop
  | 0, _ => False
  | f + 1, .mk kind n s keys kids => nodeT kind n s keys kids.length = true ∧ ∀ j, j < kids.length → goodT f (kidT kids j)
def hiK (F : VT → Nat) (kids : List VT) : Nat → Nat
  | 0 => 0
  | k + 1 => max (hiK F kids k) (F (kidT kids k))
/-- How deep a tree is. -/
def hiT : Nat → VT → Nat
  | 0, _ => 0
  | f + 1, .mk _ _ _ _ kids => hiK (hiT f) kids kids.length + 1
theorem goodT.full : ∀ {f : Nat} {t : VT}, goodT f t → FullT f t
  | 0, _, h => h.elim
  | f + 1, .mk _ _ _ _ _, h => fun j hj => (h.2 j hj).full
theorem nodeT_eq (x : VN) : nodeB x = nodeT x.kind x.n x.s x.keys x.kids.length := by
  unfold nodeT nodeB unnamedB namedB
  simp
theorem FullT.more : ∀ {f g : Nat} {t : VT}, f ≤ g → FullT f t → FullT g t
  | 0, _, _, _, h => h.elim
  | f + 1, 0, _, hg, _ => by omega
  | f + 1, g + 1, .mk _ _ _ _ _, hg, h => fun j hj => (h j hj).more (by omega)

theorem accT_pre (f sh : Nat) (kids : List VT) {k m : Nat} (h : k ≤ m) (hm : m ≤ kids.length) : ∃ t, accT f sh kids m = accT f sh kids k ++ t := by
  induction m with
  | zero => obtain rfl : k = 0 := by omega
            exact ⟨[], by simp⟩
  | succ m ih =>
    by_cases e : k = m + 1
    · subst e; exact ⟨[], by simp⟩
    · obtain ⟨t, ht⟩ := ih (by omega) (by omega)
      exact ⟨t ++ _, by rw [accT_succ f sh (by omega), ht, List.append_assoc]⟩
theorem layT_len {f : Nat} {t : VT} (h : FullT f t) (sh : Nat) : 1 ≤ (layT f t sh).length := by
  cases f with
  | zero => exact h.elim
  | succ f => obtain ⟨kind, n, s, keys, kids⟩ := t; rw [layT_eq]; simp

theorem tr_lay : ∀ {f : Nat} {t : VT}, FullT f t → ∀ (vs : List VN) (sh : Nat), (∀ j, j < (layT f t sh).length → kidsOf vs (sh + j) = (nodeAt (layT f t sh) j).kids) → tr (kidsOf vs) (sh + (layT f t sh).length - 1) = some (sh, hiT f t) := by
  intro f
  induction f with
  | zero => intro t h; exact h.elim
  | succ f ih =>
    intro t h vs sh hk
    obtain ⟨kind, n, s, keys, kids⟩ := t
    rw [layT_eq] at hk ⊢
    rw [List.length_append, List.length_cons, List.length_nil] at hk ⊢
    have hroot := hk (accT f sh kids kids.length).length (by omega)
    rw [nodeAt_right (Nat.le_refl _), Nat.sub_self] at hroot
    have hroot' : kidsOf vs (sh + (accT f sh kids kids.length).length) = ksT f sh kids kids.length := hroot
    rw [show sh + ((accT f sh kids kids.length).length + (0 + 1)) - 1 = sh + (accT f sh kids kids.length).length by omega, tr_eq, hroot']
    have hf : ∀ k, k ≤ kids.length → ∀ h0, (ksT f sh kids k).reverse.foldl (stepKid (tr (kidsOf vs))) (some (sh + (accT f sh kids k).length, h0)) = some (sh, max h0 (hiK (hiT f) kids k)) := by
      intro k
      induction k with
      | zero => intro _ h0; rw [ksT_zero, accT_zero]; simp [hiK]
      | succ k ihk =>
        intro hkl h0
        rw [ksT_succ f sh (by omega), List.reverse_append, List.reverse_cons, List.reverse_nil, List.nil_append, List.cons_append, List.nil_append, List.foldl_cons]
        have hlen : (accT f sh kids (k + 1)).length = (accT f sh kids k).length + (layT f (kidT kids k) (sh + (accT f sh kids k).length)).length := by rw [accT_succ f sh (by omega), List.length_append]
        have hpos := layT_len (h k (by omega)) (sh + (accT f sh kids k).length)
        have htr := ih (h k (by omega)) vs (sh + (accT f sh kids k).length) (fun j hj => by
          obtain ⟨t1, ht1⟩ := accT_pre f sh kids (show k + 1 ≤ kids.length by omega) (Nat.le_refl _)
          have hl1 := congrArg List.length ht1
          rw [List.length_append] at hl1
          have := hk ((accT f sh kids k).length + j) (by omega)
          rw [nodeAt_left (by omega), ht1, nodeAt_left (by omega), accT_succ f sh (by omega), nodeAt_right (by omega)] at this
          rw [Nat.add_assoc, this, Nat.add_sub_cancel_left])
        have hst : stepKid (tr (kidsOf vs)) (some (sh + (accT f sh kids (k + 1)).length, h0)) (((sh + (accT f sh kids (k + 1)).length : Nat) : Int) - 1) = some (sh + (accT f sh kids k).length, max h0 (hiT f (kidT kids k))) := by
          unfold stepKid
          simp only
          rw [if_pos ⟨by omega, trivial⟩]
          rw [show sh + (accT f sh kids (k + 1)).length - 1 = sh + (accT f sh kids k).length + (layT f (kidT kids k) (sh + (accT f sh kids k).length)).length - 1 by omega, htr]
          rfl
        rw [hst, ihk (by omega), hiK]
        congr 2
        omega
    rw [hf _ (Nat.le_refl _) 0]
    simp [hiT]

theorem acc_nodes (f sh : Nat) (kids : List VT) (P : VN → Prop) : ∀ k, k ≤ kids.length → ((∀ j, j < (accT f sh kids k).length → P (nodeAt (accT f sh kids k) j)) ↔ ∀ i, i < k → ∀ j, j < (layT f (kidT kids i) (sh + (accT f sh kids i).length)).length → P (nodeAt (layT f (kidT kids i) (sh + (accT f sh kids i).length)) j)) := by
  intro k
  induction k with
  | zero => intro _; rw [accT_zero]; simp
  | succ k ih =>
    intro hk
    have ih' := ih (by omega)
    rw [accT_succ f sh (by omega), List.length_append]
    constructor
    · intro h i hi j hj
      by_cases e : i = k
      · subst e
        have := h ((accT f sh kids i).length + j) (by omega)
        rw [nodeAt_right (by omega), Nat.add_sub_cancel_left] at this
        exact this
      · exact ih'.1 (fun j hj => by have := h j (by omega); rw [nodeAt_left hj] at this; exact this) i (by omega) j hj
    · intro h j hj
      by_cases e : j < (accT f sh kids k).length
      · rw [nodeAt_left e]
        exact ih'.2 (fun i hi => h i (by omega)) j e
      · rw [nodeAt_right (by omega)]
        exact h k (by omega) _ (by omega)
theorem nodes_lay : ∀ {f : Nat} {t : VT}, FullT f t → ∀ sh, ((∀ j, j < (layT f t sh).length → nodeB (nodeAt (layT f t sh) j) = true) ↔ goodT f t) := by
  intro f
  induction f with
  | zero => intro t h; exact h.elim
  | succ f ih =>
    intro t h sh
    obtain ⟨kind, n, s, keys, kids⟩ := t
    rw [layT_eq, List.length_append, List.length_cons, List.length_nil]
    have hr : nodeB (nodeAt (accT f sh kids kids.length ++ [{ kind := kind, n := n, s := s, keys := keys, kids := ksT f sh kids kids.length }]) (accT f sh kids kids.length).length) = nodeT kind n s keys kids.length := by
      rw [nodeAt_right (Nat.le_refl _), Nat.sub_self]
      have := nodeT_eq { kind := kind, n := n, s := s, keys := keys, kids := ksT f sh kids kids.length }
      rw [ksT_len f sh kids (Nat.le_refl _)] at this
      exact this
    have ha := acc_nodes f sh kids (fun x => nodeB x = true) kids.length (Nat.le_refl _)
    constructor
    · intro hj
      refine ⟨by rw [← hr]; exact hj _ (by omega), fun i hi => ?_⟩
      refine (ih (h i hi) (sh + (accT f sh kids i).length)).1 ?_
      exact ha.1 (fun j hj' => by have := hj j (by omega); rw [nodeAt_left hj'] at this; exact this) i hi
    · rintro ⟨g1, g2⟩ j hj
      by_cases e : j < (accT f sh kids kids.length).length
      · rw [nodeAt_left e]
        exact ha.2 (fun i hi => (ih (h i hi) _).2 (g2 i hi)) j e
      · obtain rfl : j = (accT f sh kids kids.length).length := by omega
        rw [hr]; exact g1
/-- The nodes of a tree are right just where the tree is. -/
theorem ok_lay {f : Nat} {t : VT} (h : FullT f t) : okB (layT f t 0) = true ↔ (layT f t 0).length ≤ 80 ∧ goodT f t ∧ hiT f t ≤ 8 := by
  have hpos := layT_len h 0
  have htr := tr_lay h (layT f t 0) 0 (fun j hj => by rw [Nat.zero_add]; rfl)
  rw [Nat.zero_add] at htr
  have hn := nodes_lay h 0
  rw [← okB_eq]
  unfold tabB
  have hall : ((List.range (layT f t 0).length).all fun i => (tr (kidsOf (layT f t 0)) i).isSome) = true := by
    simp only [List.all_eq_true, List.mem_range]
    intro i hi
    obtain ⟨q, hq⟩ := tr_span _ _ htr i (by simp) (by omega)
    rw [hq]; rfl
  rw [hall]
  unfold rootB sizeB
  rw [htr]
  simp only [Bool.and_eq_true, decide_eq_true_eq, List.all_eq_true, List.mem_range, true_and]
  rw [hn]
  constructor
  · rintro ⟨⟨⟨_, a⟩, b⟩, c⟩; exact ⟨a, b, c⟩
  · rintro ⟨a, b, c⟩; exact ⟨⟨⟨hpos, a⟩, b⟩, c⟩
end Go.Proofs.YtagcgnhpdmhegaaGreatDoor

/-
  Plain: the nodes of a list and of a map out of those of their parts; what is wrong in a part is wrong in the whole.
-/
namespace Go.Proofs.YtagcgnhpdmhegaaGreatDoor
open Go.RowKit
set_option linter.unusedSimpArgs false
set_option linter.unusedVariables false

theorem shift_add (a b : Int) (x : VN) : shiftN a (shiftN b x) = shiftN (a + b) x := by
  unfold shiftN
  simp only [List.map_map]
  congr 1
  apply List.map_congr_left
  intro y _
  simp only [Function.comp]
  omega
theorem shift_zero (x : VN) : shiftN 0 x = x := by
  unfold shiftN
  cases x
  simp
/-- Laid further on: shifted. -/
theorem layT_shift : ∀ (f : Nat) (t : VT) (sh : Nat), layT f t sh = (layT f t 0).map (shiftN (sh : Int)) := by
  intro f
  induction f with
  | zero => intro t sh; rfl
  | succ f ih =>
    intro t sh
    obtain ⟨kind, n, s, keys, kids⟩ := t
    have hk : ∀ k, k ≤ kids.length → accT f sh kids k = (accT f 0 kids k).map (shiftN (sh : Int)) ∧ ksT f sh kids k = (ksT f 0 kids k).map (· + (sh : Int)) := by
      intro k
      induction k with
      | zero => intro _; rw [accT_zero, accT_zero, ksT_zero, ksT_zero]; exact ⟨rfl, rfl⟩
      | succ k ihk =>
        intro hk
        obtain ⟨h1, h2⟩ := ihk (by omega)
        have hl : (accT f sh kids k).length = (accT f 0 kids k).length := by rw [h1, List.length_map]
        have ha : accT f sh kids (k + 1) = (accT f 0 kids (k + 1)).map (shiftN (sh : Int)) := by
          rw [accT_succ f sh (by omega), accT_succ f 0 (by omega), List.map_append, h1, List.length_map, ih _ (sh + (accT f 0 kids k).length), ih _ (0 + (accT f 0 kids k).length), List.map_map]
          congr 1
          apply List.map_congr_left
          intro x _
          simp only [Function.comp, shift_add]
          congr 1
          omega
        refine ⟨ha, ?_⟩
        rw [ksT_succ f sh (by omega), ksT_succ f 0 (by omega), List.map_append, h2, ha, List.length_map]
        congr 1
        simp only [List.map_cons, List.map_nil, List.cons.injEq, and_true]
        omega
    obtain ⟨h1, h2⟩ := hk _ (Nat.le_refl _)
    rw [layT_eq, layT_eq, List.map_append, h1, h2]
    rfl
theorem acc_cat (f : Nat) (kids : List VT) : ∀ k, k ≤ kids.length → accT f 0 kids k = catNs (fun i => layT f (kidT kids i) 0) k ∧ ksT f 0 kids k = catKs (fun i => layT f (kidT kids i) 0) k := by
  intro k
  induction k with
  | zero => intro _; exact ⟨accT_zero _ _ _, ksT_zero _ _ _⟩
  | succ k ih =>
    intro hk
    obtain ⟨h1, h2⟩ := ih (by omega)
    have ha : accT f 0 kids (k + 1) = catNs (fun i => layT f (kidT kids i) 0) (k + 1) := by
      rw [accT_succ f 0 (by omega), catNs, h1, Nat.zero_add, layT_shift f _ (catNs _ k).length]
    refine ⟨ha, ?_⟩
    rw [ksT_succ f 0 (by omega), catKs, h2, ha, Nat.zero_add]
/-- The nodes of a list or a map of trees. -/
theorem lay_make (f : Nat) (kind : Int) (keys : List ByteArray) (kids : List VT) : layT (f + 1) (.mk kind 0 ByteArray.empty keys kids) 0 = makeNs kind keys (fun i => layT f (kidT kids i) 0) kids.length := by
  obtain ⟨h1, h2⟩ := acc_cat f kids _ (Nat.le_refl _)
  rw [layT_eq, h1, h2]
  rfl
theorem layT_more : ∀ {f g : Nat} {t : VT}, FullT f t → f ≤ g → ∀ sh, layT g t sh = layT f t sh := by
  intro f
  induction f with
  | zero => intro g t h; exact h.elim
  | succ f ih =>
    intro g t h hfg sh
    obtain ⟨g, rfl⟩ : ∃ g', g = g' + 1 := ⟨g - 1, by omega⟩
    obtain ⟨kind, n, s, keys, kids⟩ := t
    have hk : ∀ k, k ≤ kids.length → accT g sh kids k = accT f sh kids k ∧ ksT g sh kids k = ksT f sh kids k := by
      intro k
      induction k with
      | zero => intro _; rw [accT_zero, accT_zero, ksT_zero, ksT_zero]; exact ⟨rfl, rfl⟩
      | succ k ihk =>
        intro hk
        obtain ⟨h1, h2⟩ := ihk (by omega)
        have ha : accT g sh kids (k + 1) = accT f sh kids (k + 1) := by rw [accT_succ g sh (by omega), accT_succ f sh (by omega), h1, ih (h k (by omega)) (by omega)]
        exact ⟨ha, by rw [ksT_succ g sh (by omega), ksT_succ f sh (by omega), h2, ha]⟩
    obtain ⟨h1, h2⟩ := hk _ (Nat.le_refl _)
    rw [layT_eq, layT_eq, h1, h2]
theorem hiK_le {F : VT → Nat} {kids : List VT} : ∀ {m j : Nat}, j < m → F (kidT kids j) ≤ hiK F kids m := by
  intro m
  induction m with
  | zero => intro j h; omega
  | succ m ih =>
    intro j h
    rw [hiK]
    by_cases e : j = m
    · subst e; omega
    · have := ih (j := j) (by omega); omega
/-- A part is no deeper, and has no more nodes. -/
theorem kid_hi {f : Nat} {kind n : Int} {s : ByteArray} {keys : List ByteArray} {kids : List VT} {j : Nat} (hj : j < kids.length) : hiT f (kidT kids j) + 1 ≤ hiT (f + 1) (.mk kind n s keys kids) := by
  rw [hiT]
  have := hiK_le (F := hiT f) (kids := kids) hj
  omega
theorem not_ok {ns : List VN} {j : Nat} (hj : j < ns.length) (hb : nodeB (nodeAt ns j) = false) : okB ns = false := by
  cases h : okB ns
  · rfl
  · unfold okB at h
    simp only [Bool.and_eq_true, List.all_eq_true, List.mem_range] at h
    rw [(h.1.2 j hj).1] at hb
    cases hb
theorem make_len (kind : Int) (keys : List ByteArray) (L : Nat → List VN) (m : Nat) : (makeNs kind keys L m).length = (catNs L m).length + 1 := by unfold makeNs; simp
end Go.Proofs.YtagcgnhpdmhegaaGreatDoor

/-
  Plain: the places of texts in their order; a map of keys and trees as the program makes it.
-/
namespace Go.Proofs.YtagcgnhpdmhegaaGreatDoor
open Go.RowKit
set_option linter.unusedSimpArgs false
set_option linter.unusedVariables false

instance (l : List ByteArray) (x y : Int) : Decidable (RK l x y) := by unfold RK; infer_instance
def leK (l : List ByteArray) (a b : Nat) : Bool := decide (RK l a b) || decide (a = b)
/-- The places of the texts, by their order. -/
def srt (l : List ByteArray) : List Nat := (List.range l.length).mergeSort (leK l)
theorem srt_perm (l : List ByteArray) : (srt l).Perm (List.range l.length) := List.mergeSort_perm _ _
theorem srt_len (l : List ByteArray) : (srt l).length = l.length := by rw [(srt_perm l).length_eq]; simp
theorem srt_mem {l : List ByteArray} {x : Nat} : x ∈ srt l ↔ x < l.length := by rw [(srt_perm l).mem_iff]; simp
theorem srt_rises (l : List ByteArray) : (srt l).Pairwise fun (a b : Nat) => RK l (a : Int) (b : Int) := by
  have h1 : (srt l).Pairwise fun a b => leK l a b = true := List.pairwise_mergeSort (le := leK l) (fun a b c => by
    unfold leK
    simp only [Bool.or_eq_true, decide_eq_true_eq]
    rintro (h | rfl) (k | rfl)
    · exact .inl ((rk_tot l).tr _ _ _ h k)
    · exact .inl h
    · exact .inl k
    · exact .inr rfl) (fun a b => by
    unfold leK
    simp only [Bool.or_eq_true, decide_eq_true_eq]
    by_cases e : a = b
    · exact .inl (.inr e)
    · rcases (rk_tot l).to (a : Int) (b : Int) (by omega) with h | h
      · exact .inl (.inl h)
      · exact .inr (.inl h)) _
  have h2 : (srt l).Nodup := (srt_perm l).nodup_iff.2 List.nodup_range
  refine (h1.and h2).imp ?_
  rintro a b ⟨h, hne⟩
  unfold leK at h
  simp only [Bool.or_eq_true, decide_eq_true_eq] at h
  exact h.resolve_right hne
theorem srt_blk (l : List ByteArray) : Blk (RK l) (fun p => (p : Int)) (fun j => (((srt l).getD j 0 : Nat) : Int)) 0 l.length := by
  have hl := srt_len l
  refine ⟨fun p _ hp => ⟨(srt l).getD p 0, Nat.zero_le _, ?_, rfl⟩, fun p q _ hpq hq => ?_⟩
  · exact srt_mem.1 (by rw [List.getD_eq_getElem?_getD, List.getElem?_eq_getElem (by omega)]; exact List.getElem_mem _)
  · have := List.pairwise_iff_getElem.1 (srt_rises l) p q (by omega) (by omega) hpq
    simp only [List.getD_eq_getElem?_getD, List.getElem?_eq_getElem (show p < (srt l).length by omega), List.getElem?_eq_getElem (show q < (srt l).length by omega), Option.getD_some]
    exact this
theorem blk_list {l : List ByteArray} {f : Nat → Int} (hf : Blk (RK l) (fun p => (p : Int)) f 0 l.length) : (List.range l.length).map f = (srt l).map fun n : Nat => (n : Int) := by
  refine one_order (rk_tot l) (N := l.length) (rises_list hf.2) ?_ (by simp) (by rw [List.length_map, srt_len]) ?_ ?_
  · rw [List.pairwise_map]; exact srt_rises l
  · intro x hx
    obtain ⟨j, hj, rfl⟩ := List.mem_map.1 hx
    obtain ⟨q, q1, q2, q3⟩ := hf.1 j (Nat.zero_le _) (List.mem_range.1 hj)
    simp only at q3
    omega
  · intro x hx
    obtain ⟨n, hn, rfl⟩ := List.mem_map.1 hx
    have := srt_mem.1 hn
    omega
/-- The program's places are those. -/
theorem blk_at {l : List ByteArray} {f : Nat → Int} (hf : Blk (RK l) (fun p => (p : Int)) f 0 l.length) {j : Nat} (hj : j < l.length) : f j = (((srt l).getD j 0 : Nat) : Int) := by
  have h := congrArg (·[j]?) (blk_list hf)
  simp only [List.getElem?_map, List.getElem?_range hj, Option.map_some] at h
  rw [List.getElem?_eq_getElem (by rw [srt_len]; exact hj)] at h
  rw [List.getD_eq_getElem?_getD, List.getElem?_eq_getElem (by rw [srt_len]; exact hj)]
  simpa using h
theorem srt_sorted {l ns : List ByteArray} {ps : List Nat} (h : sortIn l l.length = some (ns, ps)) : srt l = ps ∧ ns = ps.map (keyAt l) := by
  refine ⟨?_, sortIn_map h⟩
  have h1 := places_are h (srt_blk l)
  have h2 := blk_list (srt_blk l)
  rw [h2] at h1
  exact List.map_inj_right (f := fun n : Nat => (n : Int)) (fun a b e => by omega) |>.1 h1

/-- The map of keys and trees that the program makes. -/
def mapT (ks : List ByteArray) (ts : List VT) : VT := .mk 6 0 ByteArray.empty ((srt ks).map (keyAt ks)) ((srt ks).map (kidT ts))
theorem kid_srt {ks : List ByteArray} {ts : List VT} {j : Nat} (hj : j < ks.length) : kidT ((srt ks).map (kidT ts)) j = kidT ts ((srt ks).getD j 0) := by
  have hl := srt_len ks
  unfold kidT
  rw [List.getD_eq_getElem?_getD, List.getElem?_map, List.getElem?_eq_getElem (by omega), List.getD_eq_getElem?_getD (l := srt ks), List.getElem?_eq_getElem (show j < (srt ks).length by omega)]
  rfl
theorem srt_lt {ks : List ByteArray} {j : Nat} (hj : j < ks.length) : (srt ks).getD j 0 < ks.length := by
  have hl := srt_len ks
  rw [List.getD_eq_getElem?_getD, List.getElem?_eq_getElem (show j < (srt ks).length by omega)]
  exact srt_mem.1 (List.getElem_mem _)
/-- Where a key went. -/
theorem srt_hit {ks : List ByteArray} {i : Nat} (hi : i < ks.length) : ∃ j, j < ks.length ∧ (srt ks).getD j 0 = i := by
  obtain ⟨j, hj, e⟩ := List.getElem_of_mem (srt_mem.2 hi)
  exact ⟨j, by rw [← srt_len ks]; exact hj, by rw [List.getD_eq_getElem?_getD, List.getElem?_eq_getElem hj]; exact e⟩
theorem mapT_full {f : Nat} {ks : List ByteArray} {ts : List VT} (h : ∀ i, i < ks.length → FullT f (kidT ts i)) : FullT (f + 1) (mapT ks ts) := by
  intro j hj
  rw [List.length_map, srt_len] at hj
  rw [kid_srt hj]
  exact h _ (srt_lt hj)
theorem mapT_lay (f : Nat) (ks : List ByteArray) (ts : List VT) : layT (f + 1) (mapT ks ts) 0 = makeNs 6 ((srt ks).map (keyAt ks)) (fun j => layT f (kidT ts ((srt ks).getD j 0)) 0) ks.length := by
  unfold mapT
  rw [lay_make, List.length_map, srt_len]
  exact makeNs_same (fun i hi => by rw [kid_srt hi]) _ _
theorem mapT_good {f : Nat} {ks : List ByteArray} {ts : List VT} (h : goodT (f + 1) (mapT ks ts)) : (∀ i, i < ks.length → goodT f (kidT ts i)) ∧ (∀ i, i < ks.length → textB (keyAt ks i) = true) ∧ ∃ ns ps, sortIn ks ks.length = some (ns, ps) := by
  obtain ⟨h1, h2⟩ := h
  have hl := srt_len ks
  have hk : ∀ j, j < ks.length → riseAt ((srt ks).map (keyAt ks)) j = true := fun j hj => by
    unfold nodeT nodeB namedB at h1
    simp only [Bool.and_eq_true] at h1
    have h3 := h1.2
    simp at h3
    unfold riseB at h3
    exact List.all_eq_true.1 h3 j (List.mem_range.2 (by rw [List.length_map, hl]; exact hj))
  have hat : ∀ j, j < ks.length → keyAt ((srt ks).map (keyAt ks)) j = keyAt ks ((srt ks).getD j 0) := fun j hj => by
    conv => lhs; unfold keyAt
    rw [List.getD_eq_getElem?_getD, List.getElem?_map, List.getElem?_eq_getElem (by omega), List.getD_eq_getElem?_getD (l := srt ks), List.getElem?_eq_getElem (show j < (srt ks).length by omega)]
    rfl
  refine ⟨fun i hi => ?_, fun i hi => ?_, ?_⟩
  · obtain ⟨j, hj, e⟩ := srt_hit hi
    have := h2 j (by rw [List.length_map, hl]; exact hj)
    rw [kid_srt hj, e] at this
    exact this
  · obtain ⟨j, hj, e⟩ := srt_hit hi
    have := hk j hj
    unfold riseAt at this
    simp only [Bool.and_eq_true] at this
    rw [hat j hj, e] at this
    exact this.1
  · refine places_rise (srt_blk ks) (fun p hp => ?_)
    have := hk (p + 1) hp
    unfold riseAt at this
    simp only [Bool.and_eq_true, Bool.or_eq_true, decide_eq_true_eq] at this
    have h4 := this.2.resolve_left (by omega)
    rw [Nat.add_sub_cancel, hat p (by omega), hat (p + 1) hp] at h4
    exact h4
theorem mapT_hi {f : Nat} {ks : List ByteArray} {ts : List VT} {i : Nat} (hi : i < ks.length) : hiT f (kidT ts i) + 1 ≤ hiT (f + 1) (mapT ks ts) := by
  obtain ⟨j, hj, e⟩ := srt_hit hi
  have := kid_hi (f := f) (kind := 6) (n := 0) (s := ByteArray.empty) (keys := (srt ks).map (keyAt ks)) (kids := (srt ks).map (kidT ts)) (j := j) (by rw [List.length_map, srt_len]; exact hj)
  rw [kid_srt hj, e] at this
  exact this
/-- How many nodes so many rows have. -/
def sumL (L : Nat → List VN) : Nat → Nat
  | 0 => 0
  | k + 1 => sumL L k + (L k).length
theorem cat_sum (L : Nat → List VN) (m : Nat) : (catNs L m).length = sumL L m := by
  induction m with
  | zero => rfl
  | succ m ih => rw [catNs_len, ih, sumL]
theorem sumL_list (L : Nat → List VN) (m : Nat) : sumL L m = ((List.range m).map fun i => (L i).length).sum := by
  induction m with
  | zero => rfl
  | succ m ih => rw [sumL, ih, List.range_succ, List.map_append, List.sum_append]; simp
theorem sumL_perm (L : Nat → List VN) {m : Nat} {ps : List Nat} (h : ps.Perm (List.range m)) : sumL (fun j => L (ps.getD j 0)) m = sumL L m := by
  have hl : ps.length = m := by rw [h.length_eq]; simp
  rw [sumL_list, sumL_list]
  have e : ((List.range m).map fun j => (L (ps.getD j 0)).length) = ps.map fun i => (L i).length := by
    apply List.ext_getElem?
    intro j
    rw [List.getElem?_map, List.getElem?_map]
    by_cases hj : j < m
    · rw [List.getElem?_range hj, Option.map_some, List.getD_eq_getElem?_getD, List.getElem?_eq_getElem (by omega)]; rfl
    · rw [List.getElem?_eq_none (by simp; omega), List.getElem?_eq_none (by omega)]; rfl
  rw [e]
  exact (h.map _).sum_nat
theorem sumL_many {L : Nat → List VN} {m : Nat} (h : ∀ i, i < m → 1 ≤ (L i).length) : m ≤ sumL L m := by
  induction m with
  | zero => exact Nat.zero_le _
  | succ m ih => have := ih (fun i hi => h i (by omega)); have := h m (by omega); rw [sumL]; omega
theorem mapT_size (f : Nat) (ks : List ByteArray) (ts : List VT) : (layT (f + 1) (mapT ks ts) 0).length = sumL (fun i => layT f (kidT ts i) 0) ks.length + 1 := by
  rw [mapT_lay, make_len, cat_sum, sumL_perm (fun i => layT f (kidT ts i) 0) (srt_perm ks)]
def listT (ts : List VT) : VT := .mk 5 0 ByteArray.empty [] ts
theorem listT_size (f : Nat) (ts : List VT) : (layT (f + 1) (listT ts) 0).length = sumL (fun i => layT f (kidT ts i) 0) ts.length + 1 := by
  unfold listT
  rw [lay_make, make_len, cat_sum]
end Go.Proofs.YtagcgnhpdmhegaaGreatDoor

/-
  Plain: rows of values as the program reads them, and as the specification does; that both say the same.
-/
namespace Go.Proofs.YtagcgnhpdmhegaaGreatDoor
open Go.RowKit
set_option linter.unusedSimpArgs false
set_option linter.unusedVariables false

def textOf : VT → Option ByteArray
  | .mk kind _ s _ _ => if kind = 4 then some s else none
/-! ### The specification's rows -/
def rowAt (l : List (List VN)) (i : Nat) : List VN := l.getD i []
end Go.Proofs.YtagcgnhpdmhegaaGreatDoor

/-
  Plain: rows read by the program and by the specification say the same, if the values in them do.
-/
namespace Go.Proofs.YtagcgnhpdmhegaaGreatDoor
open Go.RowKit
set_option linter.unusedSimpArgs false
set_option linter.unusedVariables false

/-- A node among these is wrong by itself. -/
def Wrong (ns : List VN) : Prop := ∃ j, j < ns.length ∧ nodeB (nodeAt ns j) = false
/-- No right value has this tree so deep, behind so many nodes. -/
def Doom (f c deep : Nat) (t : VT) : Prop := ¬ goodT f t ∨ 80 < c + (layT f t 0).length ∨ 8 < deep + hiT f t
structure RelV (f deep : Nat) (R : Nat → Option (VT × Nat)) (S : Nat → Nat → Option (List VN × Nat × Nat)) : Prop where
  full : ∀ p t q, R p = some (t, q) → FullT f t
  yes : ∀ p c ns q d, c ≤ 80 → S p c = some (ns, q, d) → d = c + ns.length ∧ d ≤ 80 ∧ 1 ≤ ns.length ∧ ((∃ t, R p = some (t, q) ∧ ns = layT f t 0) ∨ (R p = none ∧ Wrong ns))
  no : ∀ p c, c ≤ 80 → S p c = none → R p = none ∨ ∃ t q, R p = some (t, q) ∧ Doom f c deep t
structure RelW (R : Nat → Option (VT × Nat)) (W : Nat → Option (ByteArray × Nat)) : Prop where
  yes : ∀ p s q, W p = some (s, q) → ∃ t, R p = some (t, q) ∧ textOf t = some s
  no : ∀ p, W p = none → R p = none ∨ ∃ t q, R p = some (t, q) ∧ (textOf t = none ∨ ∃ s, textOf t = some s ∧ textB s = false)

theorem sumL_cons (L : Nat → List VN) (k : Nat) : sumL L (k + 1) = (L 0).length + sumL (fun i => L (i + 1)) k := by
  induction k with
  | zero => simp [sumL]
  | succ k ih => rw [sumL, ih, sumL]; omega
theorem rowAt_cons (ns : List VN) (l : List (List VN)) : (fun i => rowAt (ns :: l) (i + 1)) = rowAt l := by funext i; rfl
end Go.Proofs.YtagcgnhpdmhegaaGreatDoor

/-
  Plain: bytes at a place as numbers and texts, as the program and the specification take them.
-/
namespace Go.Proofs.YtagcgnhpdmhegaaGreatDoor
open Go.RowKit
set_option linter.unusedSimpArgs false
set_option linter.unusedVariables false

/-- The byte at a place. -/
def byAt (L : List UInt8) (p : Nat) : Nat := (L.getD p 0).toNat
theorem byAt_lt (L : List UInt8) (p : Nat) : byAt L p < 256 := (L.getD p 0).toNat_lt
def cutT (L : List UInt8) (p n : Nat) : ByteArray := txt ((L.drop p).take n)
def numT (n : Int) : VT := .mk 3 n ByteArray.empty [] []
def wordT (s : ByteArray) : VT := .mk 4 0 s [] []
def nullT : VT := .mk 1 0 ByteArray.empty [] []
def boolT (n : Int) : VT := .mk 2 n ByteArray.empty [] []
end Go.Proofs.YtagcgnhpdmhegaaGreatDoor
