/-
  The paths of a right value: as many as nodes, no two the same, each leads to a node, and together the nodes to which they lead have all nodes but one as kids. Plain mathematics.
-/
import Derived.Test.YtbclgogolimbgaaBSrch
import Derived.Test.YtbclgogolimbgaaSortP
import Derived.Test.YtbclgogolimbgaaSGot
import Derived.Test.YtbclgogolimbgaaSParts
import Derived.Lib.Strings
namespace Go.Proofs.Ytbclgogolimbgaa
open Go.RowKit
set_option linter.unusedSimpArgs false
set_option linter.unusedVariables false

/-- Paths, each with the node to which it leads. -/
def pn (vs : List VN) : Nat → Nat → List PS → List (List PS × Nat)
  | 0, _, _ => []
  | f + 1, n, head => (head, n) :: (List.range (nodeAt vs n).kids.length).flatMap fun i => pn vs f (intAt (nodeAt vs n).kids i).toNat (head ++ [stepOf (nodeAt vs n).kind (nodeAt vs n).keys i])

theorem flat_map {α β : Type} (h : α → β) (g : Nat → List α) (g' : Nat → List β) (e : ∀ i, (g i).map h = g' i) : ∀ K, ((List.range K).flatMap g).map h = (List.range K).flatMap g' := by
  intro K
  induction K with
  | zero => rfl
  | succ K ih => rw [List.range_succ, List.flatMap_append, List.flatMap_append, List.map_append, ih]; simp [e]

theorem pn_paths (vs : List VN) : ∀ f n head, (pn vs f n head).map Prod.fst = pathsN vs f n head := by
  intro f
  induction f with
  | zero => intro n head; rfl
  | succ f ih =>
    intro n head
    rw [pn, pathsN, List.map_cons]
    rw [flat_map Prod.fst _ _ (fun i => ih _ _)]

/-- The kids of all the nodes to which they lead. -/
def kidSum (vs : List VN) : List (List PS × Nat) → Nat
  | [] => 0
  | q :: l => (nodeAt vs q.2).kids.length + kidSum vs l

theorem kidSum_append (vs : List VN) : ∀ a b, kidSum vs (a ++ b) = kidSum vs a + kidSum vs b := by
  intro a
  induction a with
  | nil => intro b; simp [kidSum]
  | cons q a ih => intro b; rw [List.cons_append, kidSum, kidSum, ih]; omega

theorem kidSum_flat (vs : List VN) (g : Nat → List (List PS × Nat)) : ∀ K, (∀ i, i < K → kidSum vs (g i) + 1 = (g i).length) → kidSum vs ((List.range K).flatMap g) + K = ((List.range K).flatMap g).length := by
  intro K
  induction K with
  | zero => intro _; rfl
  | succ K ih =>
    intro h
    have h1 := ih (fun i hi => h i (by omega))
    have h2 := h K (by omega)
    rw [List.range_succ, List.flatMap_append, kidSum_append, List.length_append]
    simp only [List.flatMap_cons, List.flatMap_nil, List.append_nil]
    omega

theorem kid_down {vs : List VN} (hok : okB vs = true) {n i : Nat} (hn : n < vs.length) (hi : i < (nodeAt vs n).kids.length) : (intAt (nodeAt vs n).kids i).toNat < n := by
  have := kidsIn_get (keys_few hok n hn).1 hi
  omega

theorem pn_sum {vs : List VN} (hok : okB vs = true) : ∀ f n head, n < f → n < vs.length → kidSum vs (pn vs f n head) + 1 = (pn vs f n head).length := by
  intro f
  induction f with
  | zero => intro n head h; omega
  | succ f ih =>
    intro n head hf hn
    rw [pn, kidSum, List.length_cons]
    have := kidSum_flat vs (fun i => pn vs f (intAt (nodeAt vs n).kids i).toNat (head ++ [stepOf (nodeAt vs n).kind (nodeAt vs n).keys i])) (nodeAt vs n).kids.length (fun i hi => by
      have := kid_down hok hn hi
      exact ih _ _ (by omega) (by omega))
    change (nodeAt vs n).kids.length + kidSum vs _ + 1 = _
    omega

/-- The steps of a right value's node lead to its parts. -/
theorem node_kinds {vs : List VN} (hok : okB vs = true) {n i : Nat} (hn : n < vs.length) (hi : i < (nodeAt vs n).kids.length) :
    stepN (nodeAt vs n) (stepOf (nodeAt vs n).kind (nodeAt vs n).keys i) = some i ∧ stepB (stepOf (nodeAt vs n).kind (nodeAt vs n).keys i) = true := by
  have hnb := ((okB_parts hok).2.1 n hn).1
  have h80 := (keys_few hok n hn).2.1
  unfold stepOf
  by_cases h6 : (nodeAt vs n).kind = 6
  · rw [if_pos h6]
    unfold nodeB namedB at hnb
    simp [h6] at hnb
    have hrise := riseB_rise hnb.2.2
    have hl : i < (nodeAt vs n).keys.length := by rw [hnb.2.1]; exact hi
    have hh := hasK_first hrise (key := keyAt (nodeAt vs n).keys i) hl rfl (fun j hj => less_ne (hrise j i hj hl))
    have hr := hnb.2.2
    unfold riseB at hr
    rw [List.all_eq_true] at hr
    have ht := hr i (List.mem_range.2 hl)
    unfold riseAt at ht
    rw [Bool.and_eq_true] at ht
    refine ⟨?_, ?_⟩
    · unfold stepN stepTo
      simp [h6, hh.1, hh.2]
    · unfold stepB
      simp [ht.1]
  · rw [if_neg h6]
    have h5 : (nodeAt vs n).kind = 5 := by
      by_cases h5 : (nodeAt vs n).kind = 5
      · exact h5
      · exfalso
        unfold nodeB unnamedB at hnb
        simp [h5, h6] at hnb
        have := hnb.1.2
        rw [this] at hi
        simp at hi
    refine ⟨?_, ?_⟩
    · unfold stepN stepTo
      simp [h5, hi]
    · unfold stepB
      have : (ByteArray.empty).toList = [] := by rw [Lib.toList_data]; rfl
      simp [this]
      omega

theorem fold_kid {K : Nat → List Int} : ∀ (l : List Int) (b h : Nat) (q : Nat × Nat), l.foldl (stepKid (tr K)) (some (b, h)) = some q → ∀ k ∈ l, ∃ p, tr K k.toNat = some p ∧ p.2 ≤ q.2 := by
  intro l
  induction l with
  | nil => intro b h q _ k hk; cases hk
  | cons x l ih =>
    intro b h q e k hk
    obtain ⟨p, h1, h2, h3, h4⟩ := fold_cons_some e
    rcases List.mem_cons.1 hk with rfl | hk
    · refine ⟨p, by rw [h2, show ((b : Int) - 1).toNat = b - 1 by omega]; exact h3, ?_⟩
      have := (fold_cover _ _ _ _ h4).1
      omega
    · exact ih _ _ _ h4 k hk

theorem tr_kid {K : Nat → List Int} {n : Nat} {p : Nat × Nat} (h : tr K n = some p) {k : Int} (hk : k ∈ K n) : ∃ r, tr K k.toNat = some r ∧ r.2 + 1 ≤ p.2 := by
  obtain ⟨q, h1, rfl⟩ := tr_fold h
  obtain ⟨r, h2, h3⟩ := fold_kid _ _ _ _ h1 k (by simpa using hk)
  exact ⟨r, h2, by simp only; omega⟩

theorem pn_got {vs : List VN} (hok : okB vs = true) : ∀ f n head, n < f → n < vs.length → ∀ q ∈ pn vs f n head, ∃ t, q.1 = head ++ t ∧ gotN vs n t = some q.2 ∧ q.2 < vs.length ∧ (∀ s ∈ t, stepB s = true) ∧ ∀ p, tr (kidsOf vs) n = some p → t.length + 1 ≤ p.2 := by
  intro f
  induction f with
  | zero => intro n head h; omega
  | succ f ih =>
    intro n head hf hn q hq
    rw [pn] at hq
    rcases List.mem_cons.1 hq with rfl | hq
    · refine ⟨[], by simp, rfl, hn, fun s hs => (by cases hs), fun p hp => ?_⟩
      obtain ⟨r, _, rfl⟩ := tr_fold hp
      simp
    · obtain ⟨i, hi, hq⟩ := List.mem_flatMap.1 hq
      have hi' := List.mem_range.1 hi
      have hd := kid_down hok hn hi'
      obtain ⟨h1, h2⟩ := node_kinds hok hn hi'
      obtain ⟨t, e1, e2, e3, e4, e5⟩ := ih _ _ (by omega) (by omega) q hq
      refine ⟨stepOf (nodeAt vs n).kind (nodeAt vs n).keys i :: t, by rw [e1, List.append_assoc]; rfl, ?_, e3, ?_, fun p hp => ?_⟩
      · rw [gotN, h1]
        exact e2
      · intro s hs
        rcases List.mem_cons.1 hs with rfl | hs
        · exact h2
        · exact e4 s hs
      · have hm : intAt (nodeAt vs n).kids i ∈ kidsOf vs n := by
          unfold kidsOf
          rw [intAt_get hi']
          exact List.getElem_mem _
        obtain ⟨r, hr, hle⟩ := tr_kid hp hm
        have := e5 r hr
        rw [List.length_cons]
        omega

/-- No path stands twice. -/
theorem pref {vs : List VN} : ∀ f n head, ∀ x ∈ pathsN vs f n head, ∃ t, x = head ++ t := by
  intro f
  induction f with
  | zero => intro n head x hx; cases hx
  | succ f ih =>
    intro n head x hx
    rw [pathsN] at hx
    rcases List.mem_cons.1 hx with rfl | hx
    · exact ⟨[], by simp⟩
    · obtain ⟨i, _, hx⟩ := List.mem_flatMap.1 hx
      obtain ⟨t, rfl⟩ := ih _ _ x hx
      exact ⟨_, List.append_assoc _ _ _⟩

theorem flat_nodup {α : Type} (g : Nat → List α) : ∀ K, (∀ i, i < K → (g i).Nodup) → (∀ i j, i < j → j < K → ∀ x ∈ g i, ∀ y ∈ g j, x ≠ y) → ((List.range K).flatMap g).Nodup := by
  intro K
  induction K with
  | zero => intro _ _; simp
  | succ K ih =>
    intro h1 h2
    rw [List.range_succ, List.flatMap_append, List.nodup_append]
    simp only [List.flatMap_cons, List.flatMap_nil, List.append_nil]
    refine ⟨ih (fun i hi => h1 i (by omega)) (fun i j hij hj => h2 i j hij (by omega)), h1 K (by omega), fun x hx y hy => ?_⟩
    obtain ⟨i, hi, hx⟩ := List.mem_flatMap.1 hx
    exact h2 i K (List.mem_range.1 hi) (by omega) x hx y hy

theorem paths_nodup {vs : List VN} (hok : okB vs = true) : ∀ f n head, n < f → n < vs.length → (pathsN vs f n head).Nodup := by
  intro f
  induction f with
  | zero => intro n head h; omega
  | succ f ih =>
    intro n head hf hn
    rw [pathsN, List.nodup_cons]
    refine ⟨fun hm => ?_, flat_nodup _ _ (fun i hi => ?_) (fun i j hij hj x hx y hy e => ?_)⟩
    · obtain ⟨i, _, hx⟩ := List.mem_flatMap.1 hm
      obtain ⟨t, e⟩ := pref _ _ _ _ hx
      have := congrArg List.length e
      simp at this
    · have := kid_down hok hn hi
      exact ih _ _ (by omega) (by omega)
    · obtain ⟨t, rfl⟩ := pref _ _ _ _ hx
      obtain ⟨t', e'⟩ := pref _ _ _ _ hy
      rw [e'] at e
      rw [List.append_assoc, List.append_assoc, List.append_cancel_left_eq] at e
      simp only [List.cons_append, List.nil_append, List.cons.injEq] at e
      have a1 := (node_kinds hok hn (show i < (nodeAt vs n).kids.length by omega)).1
      have a2 := (node_kinds hok hn hj).1
      rw [e.1, a2] at a1
      simp only [Option.some.injEq] at a1
      omega

theorem root_tr {vs : List VN} (hok : okB vs = true) : ∃ h, tr (kidsOf vs) (vs.length - 1) = some (0, h) ∧ h ≤ 8 := by
  unfold okB rootB at hok
  simp only [Bool.and_eq_true] at hok
  have h := hok.2
  cases e : tr (kidsOf vs) (vs.length - 1) with
  | none => simp [e] at h
  | some p => obtain ⟨a, b⟩ := p; simp [e] at h; obtain ⟨rfl, h8⟩ := h; exact ⟨b, rfl, h8⟩

/-- The paths of the whole. -/
def pnAll (vs : List VN) : List (List PS × Nat) := pn vs vs.length (vs.length - 1) []
def pnAt (vs : List VN) (i : Nat) : List PS × Nat := (pnAll vs).getD i ([], 0)

theorem pnAll_length {vs : List VN} (hok : okB vs = true) : (pnAll vs).length = vs.length := by
  have hs := (okB_parts hok).1
  have e : (pnAll vs).length = (pathsN vs vs.length (vs.length - 1) []).length := by rw [← pn_paths vs, List.length_map]; rfl
  rw [e, paths_len vs vs.length (vs.length - 1) [] 0, (lay_part hok (by omega) (by omega)).1]
  obtain ⟨h, hr, _⟩ := root_tr hok
  unfold partOf
  rw [run_length, hr]
  simp [trF]
  omega

theorem pnAll_rows {vs : List VN} (hok : okB vs = true) {i : Nat} (hi : i < vs.length) : (pathsN vs vs.length (vs.length - 1) []).getD i [] = (pnAt vs i).1 := by
  have hl := pnAll_length hok
  rw [← pn_paths vs]
  unfold pnAt
  rw [List.getD_eq_getElem?_getD, List.getElem?_map]
  change (Option.map Prod.fst (pnAll vs)[i]?).getD [] = _
  rw [List.getElem?_eq_getElem (by omega), List.getD_eq_getElem?_getD, List.getElem?_eq_getElem (by omega)]
  rfl

theorem pnAt_mem {vs : List VN} (hok : okB vs = true) {i : Nat} (hi : i < vs.length) : pnAt vs i ∈ pn vs vs.length (vs.length - 1) [] := by
  have hl := pnAll_length hok
  unfold pnAt
  rw [List.getD_eq_getElem?_getD, List.getElem?_eq_getElem (by omega)]
  exact List.getElem_mem _

theorem pathB_of {t : List PS} (hl : t.length ≤ 10) (h : ∀ s ∈ t, stepB s = true) : pathB t = true := by
  unfold pathB
  rw [Bool.and_eq_true, List.all_eq_true]
  refine ⟨by simp [hl], fun i hi => ?_⟩
  have hi' := List.mem_range.1 hi
  unfold stepAt
  rw [List.getD_eq_getElem?_getD, List.getElem?_eq_getElem hi']
  exact h _ (List.getElem_mem _)

/-- What a path of the value says. -/
theorem pnAt_says {vs : List VN} (hok : okB vs = true) {i : Nat} (hi : i < vs.length) : pathB (pnAt vs i).1 = true ∧ gotB vs (pnAt vs i).1 = true ∧ gotNs vs (pnAt vs i).1 = partOf vs (pnAt vs i).2 ∧ (pnAt vs i).2 < vs.length := by
  have hs := (okB_parts hok).1
  obtain ⟨t, e1, e2, e3, e4, e5⟩ := pn_got hok vs.length (vs.length - 1) [] (by omega) (by omega) _ (pnAt_mem hok hi)
  rw [List.nil_append] at e1
  obtain ⟨h, hr, h8⟩ := root_tr hok
  have hd := e5 _ hr
  simp only at hd
  have hp : pathB (pnAt vs i).1 = true := by rw [e1]; exact pathB_of (by omega) e4
  refine ⟨hp, ?_, ?_, e3⟩
  · unfold gotB; rw [hok, hp, e1, e2]; rfl
  · unfold gotNs; rw [hok, hp, e1, e2]; rfl

/-- The part at a node has as many parts as the node has kids. -/
theorem parts_part {vs : List VN} (hok : okB vs = true) {m : Nat} (hm : m < vs.length) : partsN (partOf vs m) = (nodeAt vs m).kids.length := by
  obtain ⟨p1, p2, p3, p4⟩ := okB_parts hok
  obtain ⟨⟨a0, h0⟩, htr⟩ := p3 m hm
  have e : partOf vs m = run vs (-(a0 : Int)) a0 (m + 1 - a0) := by rw [partOf, htr]; simp [trF]
  have ha := tr_le htr
  simp only at ha
  have hlen : (partOf vs m).length = m + 1 - a0 := by rw [e, run_length]
  unfold partsN
  rw [if_pos (part_okB hok hm)]
  unfold rootKids
  rw [hlen, e, run_nodeAt (by omega), show a0 + (m + 1 - a0 - 1) = m by omega]
  simp [shiftN]

/-- The sum of the first k. -/
def sumTo (vs : List VN) (k : Nat) : Nat := kidSum vs ((pnAll vs).take k)
theorem sumTo_zero (vs : List VN) : sumTo vs 0 = 0 := by simp [sumTo, kidSum]
theorem sumTo_succ {vs : List VN} (hok : okB vs = true) {k : Nat} (hk : k < vs.length) : sumTo vs (k + 1) = sumTo vs k + partsN (partOf vs (pnAt vs k).2) := by
  have hl := pnAll_length hok
  unfold sumTo
  rw [List.take_add_one, List.getElem?_eq_getElem (by omega), kidSum_append]
  rw [parts_part hok (pnAt_says hok hk).2.2.2]
  have : pnAt vs k = (pnAll vs)[k]'(by omega) := by
    unfold pnAt
    rw [List.getD_eq_getElem?_getD, List.getElem?_eq_getElem (by omega)]
    rfl
  rw [this]
  simp [kidSum]
theorem sumTo_all {vs : List VN} (hok : okB vs = true) : sumTo vs vs.length + 1 = vs.length := by
  have hl := pnAll_length hok
  have hs := (okB_parts hok).1
  unfold sumTo
  rw [show (pnAll vs).take vs.length = pnAll vs from List.take_of_length_le (by omega)]
  have := pn_sum hok vs.length (vs.length - 1) [] (by omega) (by omega)
  change kidSum vs (pnAll vs) + 1 = (pnAll vs).length at this
  omega

theorem pnAt_ne {vs : List VN} (hok : okB vs = true) {i k : Nat} (hi : i < vs.length) (hk : k < i) : (pnAt vs i).1 ≠ (pnAt vs k).1 := by
  have hs := (okB_parts hok).1
  have hl := pnAll_length hok
  have hnd := paths_nodup hok vs.length (vs.length - 1) [] (by omega) (by omega)
  have hpl : (pathsN vs vs.length (vs.length - 1) []).length = vs.length := by rw [← pn_paths vs, List.length_map]; exact hl
  intro e
  rw [← pnAll_rows hok hi, ← pnAll_rows hok (show k < vs.length by omega)] at e
  rw [List.getD_eq_getElem?_getD, List.getD_eq_getElem?_getD, List.getElem?_eq_getElem (by omega), List.getElem?_eq_getElem (by omega)] at e
  simp only [Option.getD_some] at e
  exact (List.pairwise_iff_getElem.1 hnd k i (by omega) (by omega) hk) e.symm
end Go.Proofs.Ytbclgogolimbgaa
