/-
  What is left of a list when parts are taken: plain mathematics.
-/
import Derived.Test.YtgmnihofkpjboaaGreatDoorComp
import Derived.Test.YtgmnihofkpjboaaGreatDoorPartQ
import Derived.Test.YtgmnihofkpjboaaGreatDoorPartOk
import Derived.Test.YtgmnihofkpjboaaGreatDoorStepC
namespace Go.Proofs.YtgmnihofkpjboaaGreatDoor
open Go.RowKit
set_option linter.unusedSimpArgs false
set_option linter.unusedVariables false

/-! ### Two parts are the same just where the order says so -/
theorem fold_kidsG {T : Nat → Option (Nat × Nat)} (hT : ∀ m p, T m = some p → p.1 ≤ m) : ∀ (l : List Int) (b h : Nat) (q : Nat × Nat), l.foldl (stepKid T) (some (b, h)) = some q → ∀ k ∈ l, (q.1 : Int) ≤ k ∧ k < (b : Int) := by
  intro l
  induction l with
  | nil => intro b h q _ k hk; cases hk
  | cons x l ih =>
    intro b h q e k hk
    obtain ⟨p, h1, h2, h3, h4⟩ := fold_cons_some e
    have hp := hT _ _ h3
    have hl := fold_le hT _ _ _ _ h4
    rcases List.mem_cons.1 hk with rfl | hk
    · omega
    · have := ih _ _ _ h4 k hk
      omega

theorem tr_kidsG {K : Nat → List Int} {n : Nat} {p : Nat × Nat} (h : tr K n = some p) : ∀ k ∈ K n, (p.1 : Int) ≤ k ∧ k < (n : Int) := by
  obtain ⟨q, hq, rfl⟩ := tr_fold h
  intro k hk
  exact fold_kidsG (fun m p h => tr_le h) _ _ _ _ hq k (List.mem_reverse.2 hk)

theorem tree_run {vs : List VN} {q a h : Nat} (ht : tr (kidsOf vs) q = some (a, h)) : ∀ f i, a + i ≤ q → treeOf (run vs (-(a : Int)) a (q + 1 - a)) f i = treeOf vs f (a + i) := by
  intro f
  induction f with
  | zero => intro i _; rfl
  | succ f ih =>
    intro i hi
    have hap := tr_le ht
    simp only at hap
    obtain ⟨r, hr, h1, _⟩ := tr_sub _ _ _ (Nat.lt_succ_self _) ht (a + i) (by simp only; omega) hi
    have hk := tr_kidsG hr
    rw [treeOf, treeOf, run_nodeAt (by omega)]
    simp only [shiftN, VT.mk.injEq, true_and, List.map_map]
    apply List.map_congr_left
    intro k hk2
    have h3 := hk k hk2
    simp only at h1
    simp only [Function.comp]
    have e : (k + -(a : Int)).toNat = k.toNat - a := by omega
    rw [e, ih (k.toNat - a) (by omega)]
    congr 1
    omega

theorem part_tree {vs : List VN} (hok : okB vs = true) {n : Nat} (hn : n < vs.length) (f : Nat) : treeOf (partOf vs n) f ((partOf vs n).length - 1) = treeOf vs f n := by
  obtain ⟨p1, _, p3, _⟩ := okB_parts hok
  obtain ⟨⟨a0, h0⟩, htr⟩ := p3 n hn
  have e : partOf vs n = run vs (-(a0 : Int)) a0 (n + 1 - a0) := by rw [partOf, htr]; simp [trF]
  have ha := tr_le htr
  simp only at ha
  rw [e, run_length, tree_run htr f (n + 1 - a0 - 1) (by omega)]
  congr 1
  omega

theorem cmpKids_of {α : Type} {R : Int → Int → Int} {g g' : Int → α} (hR : ∀ a b, g a = g' b → R a b = 0) : ∀ l m, l.map g = m.map g' → cmpKids R l m = 0 := by
  intro l
  induction l with
  | nil =>
    intro m h
    cases m with
    | nil => rfl
    | cons b m => simp at h
  | cons a l ih =>
    intro m h
    cases m with
    | nil => simp at h
    | cons b m =>
      simp only [List.map_cons, List.cons.injEq] at h
      have h1 := hR a b h.1
      have h2 := ih m h.2
      simp only [cmpKids, h1, h2]
      simp

theorem cmpKeys_self : ∀ l, cmpKeys l l = 0 := by
  intro l
  induction l with
  | nil => rfl
  | cons a l ih =>
    have h0 : cmpS a a = 0 := (cmpL_zero _ _).2 rfl
    simp only [cmpKeys, h0, ih]
    simp

theorem ord_tree (us vs : List VN) : ∀ f n m, treeOf us f n = treeOf vs f m → ord us vs f n m = 0 := by
  intro f
  induction f with
  | zero => intro n m _; rfl
  | succ f ih =>
    intro n m h
    rw [treeOf, treeOf] at h
    simp only [VT.mk.injEq] at h
    obtain ⟨h1, h2, h3, h4, h5⟩ := h
    rw [ord_comb, comb_zero, comb_zero, comb_zero, comb_zero]
    refine ⟨(cmpI_zero _ _).2 h1, (cmpI_zero _ _).2 h2, ?_, ?_, cmpKids_of (g := fun k => treeOf us f k.toNat) (g' := fun k => treeOf vs f k.toNat) (fun a b hab => ih _ _ hab) _ _ h5⟩
    · rw [h3]; exact (cmpL_zero _ _).2 rfl
    · rw [h4]; exact cmpKeys_self _

theorem part_same {us vs : List VN} (h1 : okB us = true) (h2 : okB vs = true) {n k f : Nat} (hn : n < us.length) (hk : k < vs.length) (hf : n < f) : ord us vs f n k = 0 ↔ partOf us n = partOf vs k := by
  have e : ord us vs f n k = ord us vs (f + vs.length) n k := ord_fuel h1 _ _ _ _ hf (by omega) hn
  rw [e]
  constructor
  · intro h
    have ht := ord_zero cmpS_eq us vs _ _ _ h
    rw [← (lay_part h1 (show n < f + vs.length by omega) hn).1, ← (lay_part h2 (show k < f + vs.length by omega) hk).1, ht]
  · intro h
    apply ord_tree
    rw [← part_tree h1 hn, ← part_tree h2 hk, h]

/-! ### The parts that are left -/
def hitB (us vs : List VN) (i k : Nat) : Bool := decide (orderOf (PL us i) (PL vs k) = 0)
def leftIx (us vs : List VN) (i : Nat) : List Nat := pickIx (fun i => anyTo (hitB us vs i) (rootKids vs).length) i
def leftL (us vs : List VN) (j : Nat) : List VN := PL us ((leftIx us vs (rootKids us).length).getD j 0)
def leftNs (us vs : List VN) : List VN := makeNs 5 [] (leftL us vs) (leftIx us vs (rootKids us).length).length

theorem leftIx_lt (us vs : List VN) (i : Nat) : (leftIx us vs i).length ≤ i ∧ ∀ x ∈ leftIx us vs i, x < i := pickIx_lt _ i

theorem getD_snoc_lt {l : List Nat} {x j : Nat} (h : j < l.length) : (l ++ [x]).getD j 0 = l.getD j 0 := by
  rw [List.getD_eq_getElem?_getD, List.getD_eq_getElem?_getD, List.getElem?_append_left h]
theorem getD_snoc_end {l : List Nat} {x : Nat} : (l ++ [x]).getD l.length 0 = x := by
  rw [List.getD_eq_getElem?_getD]; simp

/-- What is left has no more nodes. -/
theorem left_le (us vs : List VN) (L : Nat → List VN) : ∀ i, (catNs (fun j => L ((leftIx us vs i).getD j 0)) (leftIx us vs i).length).length ≤ (catNs L i).length := by
  intro i
  induction i with
  | zero => exact Nat.le_refl _
  | succ i ih =>
    rw [show leftIx us vs (i + 1) = if anyTo (hitB us vs i) (rootKids vs).length = true then leftIx us vs i else leftIx us vs i ++ [i] from rfl, catNs_len]
    split
    · omega
    · rw [List.length_append, List.length_singleton, catNs_len, getD_snoc_end]
      rw [catNs_same (L' := fun j => L ((leftIx us vs i).getD j 0)) _ (fun j hj => by rw [getD_snoc_lt hj])]
      omega

theorem left_ok {us : List VN} (hok : okB us = true) (vs : List VN) : ∀ j, j < (leftIx us vs (rootKids us).length).length → okB (leftL us vs j) = true := by
  intro j hj
  have hm := (leftIx_lt us vs (rootKids us).length).2 _ (show (leftIx us vs (rootKids us).length).getD j 0 ∈ _ by
    rw [List.getD_eq_getElem?_getD, List.getElem?_eq_getElem hj]; exact List.getElem_mem hj)
  exact allB_yes (parts_ok hok).1 _ hm

theorem left_few {us : List VN} (hok : okB us = true) (hk : (rootN us).kind = 5) (vs : List VN) (hf : ∀ i, i < us.length → Fits (nodeAt us i)) : Few (leftNs us vs) ∧ ∀ i, i < (leftNs us vs).length → Fits (nodeAt (leftNs us vs) i) := by
  have hl := leftIx_lt us vs (rootKids us).length
  have h80 := (parts_ok hok).2
  have hpf := PL_few hf
  have hpn : partsN us = (rootKids us).length := by unfold partsN; rw [if_pos hok]
  rw [hpn] at hpf
  have hlt : ∀ j, j < (leftIx us vs (rootKids us).length).length → (leftIx us vs (rootKids us).length).getD j 0 < (rootKids us).length := fun j hj => hl.2 _ (by
    rw [List.getD_eq_getElem?_getD, List.getElem?_eq_getElem hj]; exact List.getElem_mem hj)
  have hn := make_nice (L := leftL us vs) (m := (leftIx us vs (rootKids us).length).length) (by omega) (left_ok hok vs) (fun j hj => (hpf.2 _ (hlt j hj)).2) (kind := 5) (by omega) (by omega) (keys := []) (by simp) (fun i hi => absurd hi (by simp))
  have hlen : (leftNs us vs).length ≤ 80 := by
    have h1 := left_le us vs (PL us) (rootKids us).length
    have h2 := congrArg List.length (make_parts hok (Or.inl hk))
    have h3 := (okB_parts hok).1
    unfold makeNs at h2
    unfold leftNs makeNs
    simp only [List.length_append, List.length_singleton] at h2 ⊢
    unfold leftL
    omega
  exact ⟨⟨hlen, fun i hi => ⟨(hn.2 i hi).2.1, (hn.2 i hi).2.2.1⟩⟩, fun i hi => (hn.2 i hi).1⟩

/-- The trees of what is left. -/
def leftTs (us vs : List VN) (F : Nat) : List VT := (leftIx us vs (rootKids us).length).map fun i => treeOf us F (intAt (rootKids us) i).toNat

theorem lay_left {us : List VN} (hok : okB us = true) (vs : List VN) {F : Nat} (hF : us.length ≤ F) : layT (F + 1) (.mk 5 0 ByteArray.empty [] (leftTs us vs F)) 0 = leftNs us vs := by
  have hl := leftIx_lt us vs (rootKids us).length
  have hlen : (leftTs us vs F).length = (leftIx us vs (rootKids us).length).length := by simp [leftTs]
  have hcat : ∀ k, k ≤ (leftIx us vs (rootKids us).length).length → accT F 0 (leftTs us vs F) k = catNs (leftL us vs) k ∧ ksT F 0 (leftTs us vs F) k = catKs (leftL us vs) k := by
    intro k
    induction k with
    | zero => intro _; exact ⟨accT_zero _ _ _, ksT_zero _ _ _⟩
    | succ k ih =>
      intro hk
      obtain ⟨h1, h2⟩ := ih (by omega)
      have hlt : k < (leftTs us vs F).length := by omega
      have hx := hl.2 _ (show (leftIx us vs (rootKids us).length).getD k 0 ∈ _ by
        rw [List.getD_eq_getElem?_getD, List.getElem?_eq_getElem (by omega)]; exact List.getElem_mem (by omega))
      obtain ⟨q, hq, hql⟩ := root_kid hok (k := (leftIx us vs (rootKids us).length).getD k 0) hx
      have hkt : kidT (leftTs us vs F) k = treeOf us F q := by
        unfold leftTs kidT
        rw [List.getD_eq_getElem?_getD, List.getElem?_map, List.getElem?_eq_getElem (show k < (leftIx us vs (rootKids us).length).length by omega)]
        simp only [Option.map_some, Option.getD_some]
        rw [List.getD_eq_getElem?_getD, List.getElem?_eq_getElem (show k < (leftIx us vs (rootKids us).length).length by omega), Option.getD_some] at hq
        rw [hq]; simp
      have hpl : leftL us vs k = partOf us q := by unfold leftL PL; rw [hq]; simp
      have e : accT F 0 (leftTs us vs F) (k + 1) = catNs (leftL us vs) (k + 1) := by
        rw [accT_succ F 0 hlt, h1, hkt, lay_at hok (by omega) (by omega), Nat.zero_add, catNs, hpl]
      refine ⟨e, ?_⟩
      rw [ksT_succ F 0 hlt, h2, e, Nat.zero_add]
      rfl
  rw [layT_eq, hlen]
  obtain ⟨c1, c2⟩ := hcat _ (Nat.le_refl _)
  rw [c1, c2]
  rfl

/-! ### The difference -/
def diffNs (us vs : List VN) : List VN := leafN 3 ((rootN us).n - (rootN vs).n) ByteArray.empty
def minC (us vs : List VN) : Int :=
  if okB us = true ∧ okB vs = true then
    if (rootN us).kind = 3 ∧ (rootN vs).kind = 3 then (if okB (diffNs us vs) = true then 0 else 3)
    else if (rootN us).kind = 5 ∧ (rootN vs).kind = 5 then 0 else 2
  else 1
def minNs (us vs : List VN) : List VN :=
  if okB us = true ∧ okB vs = true then
    if (rootN us).kind = 3 ∧ (rootN vs).kind = 3 then (if okB (diffNs us vs) = true then diffNs us vs else [])
    else if (rootN us).kind = 5 ∧ (rootN vs).kind = 5 then leftNs us vs else []
  else []

theorem min_other {us vs : List VN} (h1 : okB us = true) (h2 : okB vs = true) (a : ¬ ((rootN us).kind = 3 ∧ (rootN vs).kind = 3)) (b : ¬ ((rootN us).kind = 5 ∧ (rootN vs).kind = 5)) : minC us vs = 2 ∧ minNs us vs = [] := by
  unfold minC minNs
  simp only [h1, h2, and_self, if_true, if_neg a, if_neg b]
theorem min_diff {us vs : List VN} (h1 : okB us = true) (h2 : okB vs = true) (a : (rootN us).kind = 3 ∧ (rootN vs).kind = 3) : minC us vs = (if okB (diffNs us vs) = true then 0 else 3) ∧ minNs us vs = (if okB (diffNs us vs) = true then diffNs us vs else []) := by
  unfold minC minNs
  simp only [h1, h2, and_self, if_true, if_pos a]
theorem min_list {us vs : List VN} (h1 : okB us = true) (h2 : okB vs = true) (b : (rootN us).kind = 5 ∧ (rootN vs).kind = 5) : minC us vs = 0 ∧ minNs us vs = leftNs us vs := by
  have a : ¬ ((rootN us).kind = 3 ∧ (rootN vs).kind = 3) := by omega
  unfold minC minNs
  simp only [h1, h2, and_self, if_true, if_neg a, if_pos b]

theorem root_n {us : List VN} (hok : okB us = true) (hk : (rootN us).kind = 3) : -1000000000000000 ≤ (rootN us).n ∧ (rootN us).n ≤ 1000000000000000 := by
  rcases root_says hok with k | k | ⟨k, a, b⟩ | ⟨k, a⟩ | ⟨k, a⟩ | ⟨k, a⟩
  · omega
  · omega
  · exact ⟨a, b⟩
  · omega
  · omega
  · omega

theorem min_few {us vs : List VN} (hf : ∀ i, i < us.length → Fits (nodeAt us i)) : Few (minNs us vs) ∧ ∀ i, i < (minNs us vs).length → Fits (nodeAt (minNs us vs) i) := by
  unfold minNs
  split
  · rename_i h
    split
    · rename_i h3
      split
      · have a := root_n h.1 h3.1
        have b := root_n h.2 h3.2
        exact leaf_few _ (by omega) (by omega)
      · exact none_few
    · split
      · rename_i h5
        exact left_few h.1 h5.1 vs hf
      · exact none_few
  · exact none_few
end Go.Proofs.YtgmnihofkpjboaaGreatDoor
