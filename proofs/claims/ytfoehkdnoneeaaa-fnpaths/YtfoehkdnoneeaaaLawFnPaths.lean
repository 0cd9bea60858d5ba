/-
  The paths of a right value: as many as nodes, no two the same, each leads to a node, and together the nodes to which they lead have all nodes but one as kids. Plain mathematics.
-/
import Derived.Test.YtfoehkdnoneeaaaPathsP
import Derived.Test.YtfoehkdnoneeaaaGotP
import Derived.Test.YtfoehkdnoneeaaaSGot
import Derived.Test.YtfoehkdnoneeaaaSParts
import Derived.Lib.Strings
import Derived.Test.YtfoehkdnoneeaaaPsP
import Derived.Deep.QuietTactic
import Derived.BigQuiet
import Derived.Laws.StructEq
import Derived.Test.YtfoehkdnoneeaaaMem
import Derived.Deep.RegionLaw
import Derived.Deep.AppendLies
import Derived.Test.YtfoehkdnoneeaaaBigC
import Derived.Test.YtfoehkdnoneeaaaIPaths
import Derived.Test.YtfoehkdnoneeaaaIGot
import Derived.Test.YtfoehkdnoneeaaaIParts
import Derived.Test.YtfoehkdnoneeaaaImp3
import Derived.Deep.RegionWith
namespace Go.Proofs.Ytfoehkdnoneeaaa
open Go.RowKit
set_option linter.unusedSimpArgs false
set_option linter.unusedVariables false

/-- Paths, each with the node to which it leads. -/
def pn (vs : List VN) : Nat → Nat → List PS → List (List PS × Nat)
  | 0, _, _ => []
  | f + 1, n, head => (head, n) :: (List.range (nodeAt vs n).kids.length).flatMap fun i => pn vs f (intAt (nodeAt vs n).kids i).toNat (head ++ [stepOf (nodeAt vs n).kind (nodeAt vs n).keys i])

theorem flat_map {α β : Type} (h : α → β) (g : Nat → List α) (g' : Nat → List β) (e : ∀ i, (g i).map h = g' i) : ∀ K, ((List.range K).flatMap g).map h = (List.range K).flatMap g' := by
  intro K
  induction K with
  | zero => rfl
  | succ K ih => rw [List.range_succ, List.flatMap_append, List.flatMap_append, List.map_append, ih]; simp [e]

theorem pn_paths (vs : List VN) : ∀ f n head, (pn vs f n head).map Prod.fst = pathsN vs f n head := by
  intro f
  induction f with
  | zero => intro n head; rfl
  | succ f ih =>
    intro n head
    rw [pn, pathsN, List.map_cons]
    rw [flat_map Prod.fst _ _ (fun i => ih _ _)]

/-- The kids of all the nodes to which they lead. -/
def kidSum (vs : List VN) : List (List PS × Nat) → Nat
  | [] => 0
  | q :: l => (nodeAt vs q.2).kids.length + kidSum vs l

theorem kidSum_append (vs : List VN) : ∀ a b, kidSum vs (a ++ b) = kidSum vs a + kidSum vs b := by
  intro a
  induction a with
  | nil => intro b; simp [kidSum]
  | cons q a ih => intro b; rw [List.cons_append, kidSum, kidSum, ih]; omega

theorem kidSum_flat (vs : List VN) (g : Nat → List (List PS × Nat)) : ∀ K, (∀ i, i < K → kidSum vs (g i) + 1 = (g i).length) → kidSum vs ((List.range K).flatMap g) + K = ((List.range K).flatMap g).length := by
  intro K
  induction K with
  | zero => intro _; rfl
  | succ K ih =>
    intro h
    have h1 := ih (fun i hi => h i (by omega))
    have h2 := h K (by omega)
    rw [List.range_succ, List.flatMap_append, kidSum_append, List.length_append]
    simp only [List.flatMap_cons, List.flatMap_nil, List.append_nil]
    omega

theorem kid_down {vs : List VN} (hok : okB vs = true) {n i : Nat} (hn : n < vs.length) (hi : i < (nodeAt vs n).kids.length) : (intAt (nodeAt vs n).kids i).toNat < n := by
  have := kidsIn_get (keys_few hok n hn).1 hi
  omega

theorem pn_sum {vs : List VN} (hok : okB vs = true) : ∀ f n head, n < f → n < vs.length → kidSum vs (pn vs f n head) + 1 = (pn vs f n head).length := by
  intro f
  induction f with
  | zero => intro n head h; omega
  | succ f ih =>
    intro n head hf hn
    rw [pn, kidSum, List.length_cons]
    have := kidSum_flat vs (fun i => pn vs f (intAt (nodeAt vs n).kids i).toNat (head ++ [stepOf (nodeAt vs n).kind (nodeAt vs n).keys i])) (nodeAt vs n).kids.length (fun i hi => by
      have := kid_down hok hn hi
      exact ih _ _ (by omega) (by omega))
    change (nodeAt vs n).kids.length + kidSum vs _ + 1 = _
    omega

/-- The steps of a right value's node lead to its parts. -/
theorem node_kinds {vs : List VN} (hok : okB vs = true) {n i : Nat} (hn : n < vs.length) (hi : i < (nodeAt vs n).kids.length) :
    stepN (nodeAt vs n) (stepOf (nodeAt vs n).kind (nodeAt vs n).keys i) = some i ∧ stepB (stepOf (nodeAt vs n).kind (nodeAt vs n).keys i) = true := by
  have hnb := ((okB_parts hok).2.1 n hn).1
  have h80 := (keys_few hok n hn).2.1
  unfold stepOf
  by_cases h6 : (nodeAt vs n).kind = 6
  · rw [if_pos h6]
    unfold nodeB namedB at hnb
    simp [h6] at hnb
    have hrise := riseB_rise hnb.2.2
    have hl : i < (nodeAt vs n).keys.length := by rw [hnb.2.1]; exact hi
    have hh := hasK_first hrise (key := keyAt (nodeAt vs n).keys i) hl rfl (fun j hj => less_ne (hrise j i hj hl))
    have hr := hnb.2.2
    unfold riseB at hr
    rw [List.all_eq_true] at hr
    have ht := hr i (List.mem_range.2 hl)
    unfold riseAt at ht
    rw [Bool.and_eq_true] at ht
    refine ⟨?_, ?_⟩
    · unfold stepN stepTo
      simp [h6, hh.1, hh.2]
    · unfold stepB
      simp [ht.1]
  · rw [if_neg h6]
    have h5 : (nodeAt vs n).kind = 5 := by
      by_cases h5 : (nodeAt vs n).kind = 5
      · exact h5
      · exfalso
        unfold nodeB unnamedB at hnb
        simp [h5, h6] at hnb
        have := hnb.1.2
        rw [this] at hi
        simp at hi
    refine ⟨?_, ?_⟩
    · unfold stepN stepTo
      simp [h5, hi]
    · unfold stepB
      have : (ByteArray.empty).toList = [] := by rw [Lib.toList_data]; rfl
      simp [this]
      omega

theorem fold_kid {K : Nat → List Int} : ∀ (l : List Int) (b h : Nat) (q : Nat × Nat), l.foldl (stepKid (tr K)) (some (b, h)) = some q → ∀ k ∈ l, ∃ p, tr K k.toNat = some p ∧ p.2 ≤ q.2 := by
  intro l
  induction l with
  | nil => intro b h q _ k hk; cases hk
  | cons x l ih =>
    intro b h q e k hk
    obtain ⟨p, h1, h2, h3, h4⟩ := fold_cons_some e
    rcases List.mem_cons.1 hk with rfl | hk
    · refine ⟨p, by rw [h2, show ((b : Int) - 1).toNat = b - 1 by omega]; exact h3, ?_⟩
      have := (fold_cover _ _ _ _ h4).1
      omega
    · exact ih _ _ _ h4 k hk

theorem tr_kid {K : Nat → List Int} {n : Nat} {p : Nat × Nat} (h : tr K n = some p) {k : Int} (hk : k ∈ K n) : ∃ r, tr K k.toNat = some r ∧ r.2 + 1 ≤ p.2 := by
  obtain ⟨q, h1, rfl⟩ := tr_fold h
  obtain ⟨r, h2, h3⟩ := fold_kid _ _ _ _ h1 k (by simpa using hk)
  exact ⟨r, h2, by simp only; omega⟩

theorem pn_got {vs : List VN} (hok : okB vs = true) : ∀ f n head, n < f → n < vs.length → ∀ q ∈ pn vs f n head, ∃ t, q.1 = head ++ t ∧ gotN vs n t = some q.2 ∧ q.2 < vs.length ∧ (∀ s ∈ t, stepB s = true) ∧ ∀ p, tr (kidsOf vs) n = some p → t.length + 1 ≤ p.2 := by
  intro f
  induction f with
  | zero => intro n head h; omega
  | succ f ih =>
    intro n head hf hn q hq
    rw [pn] at hq
    rcases List.mem_cons.1 hq with rfl | hq
    · refine ⟨[], by simp, rfl, hn, fun s hs => (by cases hs), fun p hp => ?_⟩
      obtain ⟨r, _, rfl⟩ := tr_fold hp
      simp
    · obtain ⟨i, hi, hq⟩ := List.mem_flatMap.1 hq
      have hi' := List.mem_range.1 hi
      have hd := kid_down hok hn hi'
      obtain ⟨h1, h2⟩ := node_kinds hok hn hi'
      obtain ⟨t, e1, e2, e3, e4, e5⟩ := ih _ _ (by omega) (by omega) q hq
      refine ⟨stepOf (nodeAt vs n).kind (nodeAt vs n).keys i :: t, by rw [e1, List.append_assoc]; rfl, ?_, e3, ?_, fun p hp => ?_⟩
      · rw [gotN, h1]
        exact e2
      · intro s hs
        rcases List.mem_cons.1 hs with rfl | hs
        · exact h2
        · exact e4 s hs
      · have hm : intAt (nodeAt vs n).kids i ∈ kidsOf vs n := by
          unfold kidsOf
          rw [intAt_get hi']
          exact List.getElem_mem _
        obtain ⟨r, hr, hle⟩ := tr_kid hp hm
        have := e5 r hr
        rw [List.length_cons]
        omega

/-- No path stands twice. -/
theorem pref {vs : List VN} : ∀ f n head, ∀ x ∈ pathsN vs f n head, ∃ t, x = head ++ t := by
  intro f
  induction f with
  | zero => intro n head x hx; cases hx
  | succ f ih =>
    intro n head x hx
    rw [pathsN] at hx
    rcases List.mem_cons.1 hx with rfl | hx
    · exact ⟨[], by simp⟩
    · obtain ⟨i, _, hx⟩ := List.mem_flatMap.1 hx
      obtain ⟨t, rfl⟩ := ih _ _ x hx
      exact ⟨_, List.append_assoc _ _ _⟩

theorem flat_nodup {α : Type} (g : Nat → List α) : ∀ K, (∀ i, i < K → (g i).Nodup) → (∀ i j, i < j → j < K → ∀ x ∈ g i, ∀ y ∈ g j, x ≠ y) → ((List.range K).flatMap g).Nodup := by
  intro K
  induction K with
  | zero => intro _ _; simp
  | succ K ih =>
    intro h1 h2
    rw [List.range_succ, List.flatMap_append, List.nodup_append]
    simp only [List.flatMap_cons, List.flatMap_nil, List.append_nil]
    refine ⟨ih (fun i hi => h1 i (by omega)) (fun i j hij hj => h2 i j hij (by omega)), h1 K (by omega), fun x hx y hy => ?_⟩
    obtain ⟨i, hi, hx⟩ := List.mem_flatMap.1 hx
    exact h2 i K (List.mem_range.1 hi) (by omega) x hx y hy

theorem paths_nodup {vs : List VN} (hok : okB vs = true) : ∀ f n head, n < f → n < vs.length → (pathsN vs f n head).Nodup := by
  intro f
  induction f with
  | zero => intro n head h; omega
  | succ f ih =>
    intro n head hf hn
    rw [pathsN, List.nodup_cons]
    refine ⟨fun hm => ?_, flat_nodup _ _ (fun i hi => ?_) (fun i j hij hj x hx y hy e => ?_)⟩
    · obtain ⟨i, _, hx⟩ := List.mem_flatMap.1 hm
      obtain ⟨t, e⟩ := pref _ _ _ _ hx
      have := congrArg List.length e
      simp at this
    · have := kid_down hok hn hi
      exact ih _ _ (by omega) (by omega)
    · obtain ⟨t, rfl⟩ := pref _ _ _ _ hx
      obtain ⟨t', e'⟩ := pref _ _ _ _ hy
      rw [e'] at e
      rw [List.append_assoc, List.append_assoc, List.append_cancel_left_eq] at e
      simp only [List.cons_append, List.nil_append, List.cons.injEq] at e
      have a1 := (node_kinds hok hn (show i < (nodeAt vs n).kids.length by omega)).1
      have a2 := (node_kinds hok hn hj).1
      rw [e.1, a2] at a1
      simp only [Option.some.injEq] at a1
      omega

theorem root_tr {vs : List VN} (hok : okB vs = true) : ∃ h, tr (kidsOf vs) (vs.length - 1) = some (0, h) ∧ h ≤ 8 := by
  unfold okB rootB at hok
  simp only [Bool.and_eq_true] at hok
  have h := hok.2
  cases e : tr (kidsOf vs) (vs.length - 1) with
  | none => simp [e] at h
  | some p => obtain ⟨a, b⟩ := p; simp [e] at h; obtain ⟨rfl, h8⟩ := h; exact ⟨b, rfl, h8⟩

/-- The paths of the whole. -/
def pnAll (vs : List VN) : List (List PS × Nat) := pn vs vs.length (vs.length - 1) []
def pnAt (vs : List VN) (i : Nat) : List PS × Nat := (pnAll vs).getD i ([], 0)

theorem pnAll_length {vs : List VN} (hok : okB vs = true) : (pnAll vs).length = vs.length := by
  have hs := (okB_parts hok).1
  have e : (pnAll vs).length = (pathsN vs vs.length (vs.length - 1) []).length := by rw [← pn_paths vs, List.length_map]; rfl
  rw [e, paths_len vs vs.length (vs.length - 1) [] 0, (lay_part hok (by omega) (by omega)).1]
  obtain ⟨h, hr, _⟩ := root_tr hok
  unfold partOf
  rw [run_length, hr]
  simp [trF]
  omega

theorem pnAll_rows {vs : List VN} (hok : okB vs = true) {i : Nat} (hi : i < vs.length) : (pathsN vs vs.length (vs.length - 1) []).getD i [] = (pnAt vs i).1 := by
  have hl := pnAll_length hok
  rw [← pn_paths vs]
  unfold pnAt
  rw [List.getD_eq_getElem?_getD, List.getElem?_map]
  change (Option.map Prod.fst (pnAll vs)[i]?).getD [] = _
  rw [List.getElem?_eq_getElem (by omega), List.getD_eq_getElem?_getD, List.getElem?_eq_getElem (by omega)]
  rfl

theorem pnAt_mem {vs : List VN} (hok : okB vs = true) {i : Nat} (hi : i < vs.length) : pnAt vs i ∈ pn vs vs.length (vs.length - 1) [] := by
  have hl := pnAll_length hok
  unfold pnAt
  rw [List.getD_eq_getElem?_getD, List.getElem?_eq_getElem (by omega)]
  exact List.getElem_mem _

theorem pathB_of {t : List PS} (hl : t.length ≤ 10) (h : ∀ s ∈ t, stepB s = true) : pathB t = true := by
  unfold pathB
  rw [Bool.and_eq_true, List.all_eq_true]
  refine ⟨by simp [hl], fun i hi => ?_⟩
  have hi' := List.mem_range.1 hi
  unfold stepAt
  rw [List.getD_eq_getElem?_getD, List.getElem?_eq_getElem hi']
  exact h _ (List.getElem_mem _)

/-- What a path of the value says. -/
theorem pnAt_says {vs : List VN} (hok : okB vs = true) {i : Nat} (hi : i < vs.length) : pathB (pnAt vs i).1 = true ∧ gotB vs (pnAt vs i).1 = true ∧ gotNs vs (pnAt vs i).1 = partOf vs (pnAt vs i).2 ∧ (pnAt vs i).2 < vs.length := by
  have hs := (okB_parts hok).1
  obtain ⟨t, e1, e2, e3, e4, e5⟩ := pn_got hok vs.length (vs.length - 1) [] (by omega) (by omega) _ (pnAt_mem hok hi)
  rw [List.nil_append] at e1
  obtain ⟨h, hr, h8⟩ := root_tr hok
  have hd := e5 _ hr
  simp only at hd
  have hp : pathB (pnAt vs i).1 = true := by rw [e1]; exact pathB_of (by omega) e4
  refine ⟨hp, ?_, ?_, e3⟩
  · unfold gotB; rw [hok, hp, e1, e2]; rfl
  · unfold gotNs; rw [hok, hp, e1, e2]; rfl

/-- The part at a node has as many parts as the node has kids. -/
theorem parts_part {vs : List VN} (hok : okB vs = true) {m : Nat} (hm : m < vs.length) : partsN (partOf vs m) = (nodeAt vs m).kids.length := by
  obtain ⟨p1, p2, p3, p4⟩ := okB_parts hok
  obtain ⟨⟨a0, h0⟩, htr⟩ := p3 m hm
  have e : partOf vs m = run vs (-(a0 : Int)) a0 (m + 1 - a0) := by rw [partOf, htr]; simp [trF]
  have ha := tr_le htr
  simp only at ha
  have hlen : (partOf vs m).length = m + 1 - a0 := by rw [e, run_length]
  unfold partsN
  rw [if_pos (part_okB hok hm)]
  unfold rootKids
  rw [hlen, e, run_nodeAt (by omega), show a0 + (m + 1 - a0 - 1) = m by omega]
  simp [shiftN]

/-- The sum of the first k. -/
def sumTo (vs : List VN) (k : Nat) : Nat := kidSum vs ((pnAll vs).take k)
theorem sumTo_zero (vs : List VN) : sumTo vs 0 = 0 := by simp [sumTo, kidSum]
theorem sumTo_succ {vs : List VN} (hok : okB vs = true) {k : Nat} (hk : k < vs.length) : sumTo vs (k + 1) = sumTo vs k + partsN (partOf vs (pnAt vs k).2) := by
  have hl := pnAll_length hok
  unfold sumTo
  rw [List.take_add_one, List.getElem?_eq_getElem (by omega), kidSum_append]
  rw [parts_part hok (pnAt_says hok hk).2.2.2]
  have : pnAt vs k = (pnAll vs)[k]'(by omega) := by
    unfold pnAt
    rw [List.getD_eq_getElem?_getD, List.getElem?_eq_getElem (by omega)]
    rfl
  rw [this]
  simp [kidSum]
theorem sumTo_all {vs : List VN} (hok : okB vs = true) : sumTo vs vs.length + 1 = vs.length := by
  have hl := pnAll_length hok
  have hs := (okB_parts hok).1
  unfold sumTo
  rw [show (pnAll vs).take vs.length = pnAll vs from List.take_of_length_le (by omega)]
  have := pn_sum hok vs.length (vs.length - 1) [] (by omega) (by omega)
  change kidSum vs (pnAll vs) + 1 = (pnAll vs).length at this
  omega

theorem pnAt_ne {vs : List VN} (hok : okB vs = true) {i k : Nat} (hi : i < vs.length) (hk : k < i) : (pnAt vs i).1 ≠ (pnAt vs k).1 := by
  have hs := (okB_parts hok).1
  have hl := pnAll_length hok
  have hnd := paths_nodup hok vs.length (vs.length - 1) [] (by omega) (by omega)
  have hpl : (pathsN vs vs.length (vs.length - 1) []).length = vs.length := by rw [← pn_paths vs, List.length_map]; exact hl
  intro e
  rw [← pnAll_rows hok hi, ← pnAll_rows hok (show k < vs.length by omega)] at e
  rw [List.getD_eq_getElem?_getD, List.getD_eq_getElem?_getD, List.getElem?_eq_getElem (by omega), List.getElem?_eq_getElem (by omega)] at e
  simp only [Option.getD_some] at e
  exact (List.pairwise_iff_getElem.1 hnd k i (by omega) (by omega) hk) e.symm
end Go.Proofs.Ytfoehkdnoneeaaa

/-
  The law's own comparison of two paths.
-/
namespace Go.Proofs.Ytfoehkdnoneeaaa
open Go.RowKit
set_option linter.unusedSimpArgs false
set_option linter.unusedVariables false

theorem steps_eq {a b : List PS} (hl : a.length = b.length) (h : ∀ j, j < a.length → stepAt a j = stepAt b j) : a = b := by
  refine List.ext_getElem hl fun i h1 h2 => ?_
  have := h i h1
  simpa [stepAt, h1, h2] using this

theorem key_eq {a b : ByteArray} (h : (a.toList == b.toList) = true) : a = b := by
  have e : a.toList = b.toList := eq_of_beq h
  rw [Lib.toList_data, Lib.toList_data] at e
  rw [← Lib.mk_data a, ← Lib.mk_data b, e]

theorem ps_eq {x y : PS} (h1 : x.named = y.named) (h2 : x.key = y.key) (h3 : x.pl = y.pl) : x = y := by
  cases x; cases y; simp_all

theorem steps_ne {a b : List PS} {k : Nat} (h : stepAt a k ≠ stepAt b k) : ¬ a = b := fun e => h (by rw [e])

theorem ret_noP {p : Prop} (h : ¬ p) : ∃ b, Ending.returned (.bool false) = .returned (.bool b) ∧ (b = true ↔ p) := ⟨false, rfl, by simp [h]⟩

set_option maxRecDepth 100000 in
set_option maxHeartbeats 3200000 in
theorem samePath_any (B : Nat) (v1 v2 : Value) (ps qs : List PS) (w : World) (h1 : StepsAt B w v1 ps) (h2 : StepsAt B w v2 qs) (hB : B ≤ w.heap.size) :
    Calls Try.prog 10 #[v1, v2] w fun e w' => (∃ b, e = .returned (.bool b) ∧ (b = true ↔ ps = qs)) ∧ Below w.heap.size w w' := by
  obtain ⟨hlen, hf1, a1, cap1, rfl, hcell1⟩ := h1
  obtain ⟨hlen2, hf2, a2, cap2, rfl, hcell2⟩ := h2
  have HC1 := hideIt hcell1
  have HC2 := hideIt hcell2
  clear hcell1 hcell2 hf1 hf2
  by_cases hl : ps.length = qs.length
  case neg =>
    have hne : ((ps.length : Int) != (qs.length : Int)) = true := by simp; omega
    have HO : Hid (¬ ps = qs) := fun e => hl (by rw [e])
    clear hl
    go_enter Try.func10, Try.ntmps10
    go_wp2_with fail
    go_ret
    exact ⟨ret_noP HO.out, Below.refl _ _⟩
  case pos =>
  obtain ⟨N, hN⟩ : ∃ N, ps.length = N := ⟨_, rfl⟩
  have HN1 := hideIt hN
  have HN2 := hideIt (hl.symm.trans hN)
  rw [← hl, hN]
  rw [hN] at hlen
  clear hl hN hlen2
  have hne : ((N : Int) != (N : Int)) = false := by simp
  go_enter Try.func10, Try.ntmps10
  go_wp2_with fail
  go_loopw [5] (fun i wr => ∃ k : Nat, k ≤ N ∧ i = .int .i64 k ∧ Hid (∀ j, j < k → stepAt ps j = stepAt qs j) ∧ Below w.heap.size w wr) (fun i _ => N - (intOf i).toNat)
  case atStart => exact ⟨0, Nat.zero_le _, rfl, fun j hj => absurd hj (by omega), Below.refl _ _⟩
  case round =>
    obtain ⟨k, hk, rfl, HE, hbel⟩ := hrel
    by_cases hlt : k < N
    case neg =>
      have HO : Hid (ps = qs) := steps_eq (HN1.out.trans HN2.out.symm) (fun j hj => HE.out j (by have := HN1.out; omega))
      go_wp2_with fail
      go_ret
      exact ⟨⟨true, rfl, by simp [HO.out]⟩, hbel⟩
    case pos =>
    obtain ⟨b1, o1, rfl, hb1, hc1⟩ := HC1.out (by have := HN1.out; omega)
    obtain ⟨b2, o2, rfl, hb2, hc2⟩ := HC2.out (by have := HN2.out; omega)
    obtain ⟨c0, c1, c2⟩ := hc1 k (by have := HN1.out; omega)
    obtain ⟨d0, d1, d2⟩ := hc2 k (by have := HN2.out; omega)
    clear hc1 hc2
    obtain ⟨x, hx⟩ : ∃ x, stepAt ps k = x := ⟨_, rfl⟩
    obtain ⟨y, hy⟩ : ∃ y, stepAt qs k = y := ⟨_, rfl⟩
    rw [hx] at c0 c1 c2
    rw [hy] at d0 d1 d2
    have c0 := (below_cell hbel (show b1 < w.heap.size by omega)).trans c0
    have c1 := (below_cell hbel (show b1 < w.heap.size by omega)).trans c1
    have c2 := (below_cell hbel (show b1 < w.heap.size by omega)).trans c2
    have d0 := (below_cell hbel (show b2 < w.heap.size by omega)).trans d0
    have d1 := (below_cell hbel (show b2 < w.heap.size by omega)).trans d1
    have d2 := (below_cell hbel (show b2 < w.heap.size by omega)).trans d2
    have HNE : Hid (x ≠ y → ¬ ps = qs) := fun h => steps_ne (k := k) (by rw [hx, hy]; exact h)
    have HEQ : Hid (x = y → ∀ j, j < k + 1 → stepAt ps j = stepAt qs j) := fun h j hj => by
      by_cases e : j = k
      · subst e; rw [hx, hy]; exact h
      · exact HE.out j (by omega)
    clear hx hy
    obtain ⟨xn, xk, xp⟩ := x
    obtain ⟨yn, yk, yp⟩ := y
    simp only at c0 c1 c2 d0 d1 d2
    by_cases q1 : xn = yn
    case neg =>
      have f1 : (xn == yn) = false := by simp [q1]
      have HO := hideIt (HNE.out (fun e => q1 (by injection e)))
      clear q1
      go_wp2_with fail
      go_quiet (fail)
      go_wp2_with fail
      go_ret
      exact ⟨ret_noP HO.out, below_drewN hbel nq⟩
    case pos =>
    subst q1
    by_cases q2 : (xk.toList == yk.toList) = true
    case neg =>
      have f2 : (xk.toList == yk.toList) = false := by simpa using q2
      have HO := hideIt (HNE.out (fun e => q2 (by injection e with _ e; rw [e]; simp)))
      clear q2
      go_wp2_with fail
      go_quiet (fail)
      go_wp2_with fail
      go_ret
      exact ⟨ret_noP HO.out, below_drewN hbel nq⟩
    case pos =>
    by_cases q3 : xp = yp
    case neg =>
      have f3 : (xp == yp) = false := by simp [q3]
      have HO := hideIt (HNE.out (fun e => q3 (by injection e)))
      clear q3
      go_wp2_with fail
      go_quiet (fail)
      go_wp2_with fail
      go_ret
      exact ⟨ret_noP HO.out, below_drewN hbel nq⟩
    case pos =>
    subst q3
    have HE2 := hideIt (HEQ.out (ps_eq rfl (key_eq q2) rfl))
    go_wp2_with fail
    go_quiet (fail)
    go_wp2_with fail
    go_roundw
    case rel => exact ⟨k + 1, by omega, by go_num, HE2, below_drewN hbel nq⟩
    case measure => simp [intOf]; omega
end Go.Proofs.Ytfoehkdnoneeaaa

/-
  A call by its contract, as a step of a statement whose order is open, be there a guard or none.
-/
namespace Go.Proofs.Ytfoehkdnoneeaaa
open Go.RowKit
set_option linter.unusedSimpArgs false
set_option linter.unusedVariables false

/-- Two arguments, no guard. -/
theorem step_call2 {P : Program} {w : World} {ops : Array Oper} {o : Oper} {a : Act} {K : Act → World → Prop} {Q : Exit → Act → World → Prop} {E : Prop} (hgd : o.guard = none) (F : FuncId) (x y : Operand) (T U : TypeId)
    (ho : o.op = .call { callee := .value (.func F), args := #[x, y], argTypes := #[T, U] }) (v u : Value) (hx : a.eval x = v) (hy : a.eval y = u) (hcf : ∀ w, (callFunc F #[v, u]).run P w = .ok (.enter F #[v, u]) w) {R : Ending → World → Prop} (hc : Calls P F #[v, u] w R)
    (h : ∀ e w', R e w' → ∃ u, e = .returned u ∧ K (a.put o.dst u) w') :
    if Region.wanted o (yielded ops a.tmps) = true then Oper.wp P o a w K Q else E := by
  have hw : Region.wanted o (yielded ops a.tmps) = true := by simp [Region.wanted, hgd]
  rw [if_pos hw]
  unfold Oper.wp execOp
  have e1 : a.eval (.func F) = .func (.func F) #[] #[] := rfl
  simp [ho, resolve, invoke, hx, hy, e1, Deferred.ofValue, hcf, Result.andThen, Oper.upon_enter]
  refine hc.mono fun e w' hr => ?_
  obtain ⟨u, rfl, hk⟩ := h e w' hr
  exact hk

/-- One argument, behind a guard. -/
theorem step_call1g {P : Program} {w : World} {ops : Array Oper} {o : Oper} {a : Act} {K : Act → World → Prop} {Q : Exit → Act → World → Prop} {E : Prop} (hw : Region.wanted o (yielded ops a.tmps) = true) (F : FuncId) (x : Operand) (T : TypeId)
    (ho : o.op = .call { callee := .value (.func F), args := #[x], argTypes := #[T] }) (v : Value) (hx : a.eval x = v) (hcf : ∀ w, (callFunc F #[v]).run P w = .ok (.enter F #[v]) w) {R : Ending → World → Prop} (hc : Calls P F #[v] w R)
    (h : ∀ e w', R e w' → ∃ u, e = .returned u ∧ K (a.put o.dst u) w') :
    if Region.wanted o (yielded ops a.tmps) = true then Oper.wp P o a w K Q else E := by
  rw [if_pos hw]
  unfold Oper.wp execOp
  have e1 : a.eval (.func F) = .func (.func F) #[] #[] := rfl
  simp [ho, resolve, invoke, hx, e1, Deferred.ofValue, hcf, Result.andThen, Oper.upon_enter]
  refine hc.mono fun e w' hr => ?_
  obtain ⟨u, rfl, hk⟩ := h e w' hr
  exact hk
end Go.Proofs.Ytfoehkdnoneeaaa

/-
  The law FnPaths: the call returns true and turns nothing that was there.
-/
namespace Go.Proofs.Ytfoehkdnoneeaaa
open Go.RowKit
set_option linter.unusedSimpArgs false
set_option linter.unusedVariables false

theorem RowsPAt.below {B : Nat} {w w' : World} {v : Value} {Ls : List (List PS)} (h : RowsPAt B w v Ls) (hb : Below B w w') : RowsPAt B w' v Ls := by
  obtain ⟨h1, a, cap, e, h3⟩ := h
  refine ⟨h1, a, cap, e, fun hl => ?_⟩
  obtain ⟨b, ea, hbB, hc⟩ := h3 hl
  refine ⟨b, ea, hbB, fun i hi => ?_⟩
  obtain ⟨r, h4, h5⟩ := hc i hi
  exact ⟨r, (below_cell hb hbB).trans h4, h5.below hb⟩

theorem RowsPAt.wide {B B' : Nat} {w : World} {v : Value} {Ls : List (List PS)} (h : RowsPAt B w v Ls) (hb : B ≤ B') : RowsPAt B' w v Ls := by
  obtain ⟨h1, a, cap, e, h3⟩ := h
  refine ⟨h1, a, cap, e, fun hl => ?_⟩
  obtain ⟨b, ea, hbB, hc⟩ := h3 hl
  refine ⟨b, ea, by omega, fun i hi => ?_⟩
  obtain ⟨r, h4, h5⟩ := hc i hi
  exact ⟨r, h4, h5.wide hb⟩

/-- Of the same path it says true. -/
theorem samePath_yes (B : Nat) (v1 v2 : Value) (ps : List PS) (w : World) (h1 : StepsAt B w v1 ps) (h2 : StepsAt B w v2 ps) (hB : B ≤ w.heap.size) :
    Calls Try.prog 10 #[v1, v2] w fun e w' => e = .returned (.bool true) ∧ Below w.heap.size w w' :=
  (samePath_any B v1 v2 ps ps w h1 h2 hB).mono fun e w' ⟨⟨b, he, hb⟩, hbel⟩ => ⟨by rw [he, hb.2 rfl], hbel⟩

theorem samePath_no (B : Nat) (v1 v2 : Value) (ps qs : List PS) (w : World) (h1 : StepsAt B w v1 ps) (h2 : StepsAt B w v2 qs) (hB : B ≤ w.heap.size) (hne : ps ≠ qs) :
    Calls Try.prog 10 #[v1, v2] w fun e w' => e = .returned (.bool false) ∧ Below w.heap.size w w' :=
  (samePath_any B v1 v2 ps qs w h1 h2 hB).mono fun e w' ⟨⟨b, he, hb⟩, hbel⟩ => ⟨by rw [he, show b = false by cases b; rfl; exact absurd (hb.1 rfl) hne], hbel⟩

theorem call_samePath (u v : Value) (w : World) : (callFunc 10 #[u, v]).run Try.prog w = .ok (.enter 10 #[u, v]) w := by
  kernel_rfl
theorem call_PathOk (u : Value) (w : World) : (callFunc 11 #[u]).run Try.prog w = .ok (.enter 11 #[u]) w := by
  kernel_rfl

set_option maxRecDepth 100000 in
set_option maxHeartbeats 8000000 in
theorem lawFnPaths_walk (v : Value) (n : Nat) (w : World) (h : RawCode w v n) :
    Calls Try.prog 3 #[v] w fun e w' => e = .returned (.bool true) ∧ Below w.heap.size w w' := by
  obtain ⟨hn, a, cap, rfl, hc⟩ := h
  have HCL : Hid (n ≤ 1048576 → CodeAt w.heap.size w (.slice a n cap) n) := fun h => ⟨h, a, cap, rfl, hc⟩
  clear hc
  go_enter Try.func3, Try.ntmps3
  go_wp2_with fail
  refine (big_any a n cap w hn).mono ?_
  rintro e w1 ⟨rfl, rfl⟩
  by_cases hbig : 1048576 < n
  · go_wp2_with fail
    go_ret
    exact ⟨rfl, Below.refl _ _⟩
  have HC := hideIt (HCL.out (by omega))
  clear HCL
  go_wp2_with fail
  refine (drawPathsOf_any w1.heap.size _ n w1 HC.out (Nat.le_refl _)).mono ?_
  rintro e w2 ⟨r, vs, KV, IV, rfl, hf1, hn1, hb2⟩
  have HF1 := hideIt hf1
  have HND2 := hideIt (hn1.nodes (by have := HF1.out.2.1; omega) (HF1.out.few (by omega)).2)
  have HB2 := hideIt hb2
  have z2 := hb2.size
  have h40 : vs.length ≤ 40 := hf1.2.1
  obtain ⟨ar, cr, er⟩ := own_slice hn1.row
  obtain ⟨L, hL⟩ : ∃ M, vs.length = M := ⟨_, rfl⟩
  rw [hL] at er h40
  subst er
  have HL := hideIt hL
  clear hf1 hn1 hb2 hL
  go_wp2_with fail
  refine (implPathsOf_any w2.heap.size _ vs w2 HND2.out (Nat.le_refl _)).mono ?_
  rintro e w3 ⟨r3, base3, rs3, lo3, rfl, hbase3, hrow3, hb3⟩
  have HP3 := hideIt (hrow3.read (by have := pathsLs_le vs; omega) (fun i hi => (pathsLs_short vs i hi).wide (by omega)))
  have HB3 := hideIt hb3
  have z3 := hb3.size
  obtain ⟨a3, c3, e3⟩ := own_slice hrow3.row
  obtain ⟨M, hM⟩ : ∃ M, (pathsLs vs).length = M := ⟨_, rfl⟩
  have h80 : M ≤ 80 := by rw [← hM]; exact pathsLs_le vs
  rw [hM] at e3
  subst e3
  have HM := hideIt hM
  clear hrow3 hb3 hM
  go_wp2_with fail
  refine (specPathsOf_any w2.heap.size _ vs w3 (HND2.out.below HB3.out) z3).mono ?_
  rintro e w4 ⟨r4, base4, rs4, lo4, rfl, hbase4, hrow4, hb4⟩
  have HP4 := hideIt (hrow4.read (by have := pathsLs_le vs; omega) (fun i hi => (pathsLs_short vs i hi).wide (by omega)))
  have HB4 := hideIt hb4
  have z4 := hb4.size
  obtain ⟨a4, c4, e4⟩ := own_slice hrow4.row
  rw [HM.out] at e4
  subst e4
  clear hrow4 hb4
  have HP3' := hideIt ((HP3.out.below HB4.out).wide z4)
  have HND4 := hideIt ((HND2.out.below (HB3.out.trans (HB4.out.mono z3))).wide (show w2.heap.size ≤ w4.heap.size by omega))
  have HBW := hideIt (HB2.out.trans ((HB3.out.trans (HB4.out.mono z3)).mono z2))
  have qM : ((M : Int) != (M : Int)) = false := by simp
  have qM2 : ((M : Int) == (M : Int)) = true := by simp
  go_wp2_with fail
  refine (specOk_any w4.heap.size _ vs w4 HND4.out (Nat.le_refl _)).mono ?_
  rintro e w5 ⟨rfl, hb5⟩
  have HB5 := hideIt hb5
  have z5 := hb5.size
  clear hb5
  cases hok : okB vs
  · clear hok
    go_wp2_with fail
    go_ret
    exact ⟨rfl, HBW.out.trans (HB5.out.mono (by omega))⟩
  have HOK := hideIt hok
  have HPL : Hid (pathsLs vs = pathsN vs vs.length (vs.length - 1) []) := if_pos hok
  have hML : M = L := by
    rw [← HM.out, ← HL.out, HPL.out, ← pn_paths vs, List.length_map]
    exact pnAll_length hok
  subst hML
  have h1 : 1 ≤ M := by rw [← HL.out]; exact (okB_parts hok).1.1
  have HROW : Hid (∀ i, i < M → rowP (pathsLs vs) i = (pnAt vs i).1) := fun i hi => by
    rw [HPL.out]
    exact pnAll_rows HOK.out (by rw [HL.out]; exact hi)
  clear hok
  go_wp2_with fail
  go_loopw [6, 7] (fun s i wr => ∃ (k q : Nat), k ≤ M ∧ i = .int .i64 k ∧ s = .int .i64 q ∧ Hid (q = sumTo vs k) ∧ q ≤ k * 80 ∧ Below w4.heap.size w4 wr) (fun _ i _ => M - (intOf i).toNat)
  case atStart => exact ⟨0, 0, Nat.zero_le _, rfl, rfl, (sumTo_zero vs).symm, by omega, HB5.out⟩
  case round =>
    obtain ⟨k, q, hk, rfl, rfl, HQ, hq, hbel⟩ := hrel
    by_cases hlt : k < M
    case neg =>
      obtain rfl : k = M := by omega
      have HS : Hid ((q : Int) = (k : Int) - 1) := by
        have := sumTo_all HOK.out
        rw [HL.out, ← HQ.out] at this
        rw [Hid]
        omega
      have qs : ((q : Int) == (k : Int) - 1) = true := by rw [HS.out]; simp
      go_wp2_with fail
      go_ret
      exact ⟨rfl, HBW.out.trans (hbel.mono (by omega))⟩
    case pos =>
    obtain ⟨_, a3', cap3', e3', hr3⟩ := HP3'.out
    obtain ⟨_, a4', cap4', e4', hr4⟩ := HP4.out
    rw [HM.out] at e3' e4' hr3 hr4
    cases e3'
    cases e4'
    obtain ⟨g3, rfl, hg3, hc3⟩ := hr3 (by omega)
    obtain ⟨g4, rfl, hg4, hc4⟩ := hr4 (by omega)
    obtain ⟨s3, d3, hs3⟩ := hc3 k hlt
    obtain ⟨s4, d4, hs4⟩ := hc4 k hlt
    have HC3 := hideIt hc3
    have HS3 := hideIt hs3
    have HS4 := hideIt hs4
    clear hc3 hc4 hr3 hr4
    have hzr := hbel.size
    have HD3 := hideIt d3
    have HD4 := hideIt d4
    have f3 := (below_cell hbel hg3).trans d3
    have f4 := (below_cell hbel hg4).trans d4
    obtain ⟨hsl, _, aS, cS, eS, _⟩ := hs3
    obtain ⟨hsl4, _, aT, cT, eT, _⟩ := hs4
    clear d3 d4
    obtain ⟨SL, hSL⟩ : ∃ SL, (rowP (pathsLs vs) k).length = SL := ⟨_, rfl⟩
    rw [hSL] at eS eT hsl hsl4
    subst eS eT
    clear hSL
    obtain ⟨g1, g2, g3', g4'⟩ := pnAt_says HOK.out (i := k) (by rw [HL.out]; exact hlt)
    have HPB : Hid (pathB (rowP (pathsLs vs) k) = true) := by rw [Hid, HROW.out k hlt]; exact g1
    have HGB : Hid (gotB vs (rowP (pathsLs vs) k) = true) := by rw [Hid, HROW.out k hlt]; exact g2
    have HGN : Hid (gotNs vs (rowP (pathsLs vs) k) = partOf vs (pnAt vs k).2) := by rw [Hid, HROW.out k hlt]; exact g3'
    have HMK := hideIt g4'
    have HSUM : Hid (sumTo vs (k + 1) = q + partsN (partOf vs (pnAt vs k).2)) := by rw [Hid, sumTo_succ HOK.out (by rw [HL.out]; exact hlt), ← HQ.out]
    clear g1 g2 g3' g4'
    go_wp2_with fail
    refine (implGot_any w4.heap.size _ _ vs (rowP (pathsLs vs) k) wr (HND4.out.below hbel) (HS3.out.below hbel) hzr).mono ?_
    rintro e w6 ⟨r6, base6, KV6, IV6, rfl, hbase6, hbase6', hn6, hb6⟩
    rw [HGN.out] at hn6
    rw [HGB.out]
    have HFT : Hid (∀ i, i < vs.length → Fits (nodeAt vs i)) := (HF1.out.few (by omega)).2
    have HPT := hideIt (part_fits HOK.out HFT.out HMK.out)
    have HP80 := hideIt (lay_part HOK.out (Nat.lt_succ_self _) HMK.out).2
    have HND6 := hideIt (hn6.nodes (by have := HP80.out; omega) (fun i hi => (HPT.out i hi).1))
    have HPN : Hid (partsN (partOf vs (pnAt vs k).2) ≤ 80) := by rw [Hid, parts_part HOK.out HMK.out]; exact (keys_few HOK.out _ HMK.out).2.1
    obtain ⟨a6, c6, e6⟩ := own_slice hn6.row
    obtain ⟨L6, hL6⟩ : ∃ L6, (partOf vs (pnAt vs k).2).length = L6 := ⟨_, rfl⟩
    rw [hL6] at e6
    subst e6
    have HB46 := hideIt (hbel.trans (hb6.mono hzr))
    have z6 := hb6.size
    have h46 : w4.heap.size ≤ w6.heap.size := by omega
    have x3 := (below_cell hb6 (show g3 < wr.heap.size by omega)).trans f3
    have x4 := (below_cell hb6 (show g4 < wr.heap.size by omega)).trans f4
    clear hn6 hb6 hL6 f3 f4 hbase6 hbase6'
    have HX3 := hideIt (HS3.out.below HB46.out)
    have HX4 := hideIt (HS4.out.below HB46.out)
    have HX3d : Hid (StepsAt w4.heap.size w6.drew (.slice aS SL cS) (rowP (pathsLs vs) k)) := HX3.out.below (bsame rfl rfl rfl rfl)
    have HX4d : Hid (StepsAt w4.heap.size w6.drew (.slice aT SL cT) (rowP (pathsLs vs) k)) := HX4.out.below (bsame rfl rfl rfl rfl)
    have h46d : w4.heap.size ≤ w6.drew.heap.size := h46
    have hg36 : g3 < w6.heap.size := by omega
    go_wp2_with fail
    refine wp_region_any (by kernel_rfl) ?_
    change wpAny _ _ _ _ _ _ _ (World.drew _)
    refine wpAny_take (i := 0) (v := .slice (some ⟨g3, 0, none⟩) M c3) rfl (by kernel_rfl) (by kernel_rfl) (by kernel_rfl) (fun _ _ _ h => h) (Or.inl ⟨by kernel_rfl, fun w => ?_⟩) ?_
    · go_simp
    refine wpAny_take (i := 1) (v := .int .i64 k) rfl (by kernel_rfl) (by kernel_rfl) (by kernel_rfl) (fun _ _ _ h => h) (Or.inl ⟨by kernel_rfl, fun w => ?_⟩) ?_
    · go_simp
    refine wpAny_take (i := 2) (v := .pointer (some ⟨g3, k, none⟩)) rfl (by kernel_rfl) (by kernel_rfl) (by kernel_rfl) (fun _ _ _ h => h) (Or.inl ⟨by kernel_rfl, fun w => ?_⟩) ?_
    · go_simp
    refine wpAny_take (i := 4) (v := .slice (some ⟨g4, 0, none⟩) M c4) rfl (by kernel_rfl) (by kernel_rfl) (by kernel_rfl) (fun _ _ _ h => h) (Or.inl ⟨by kernel_rfl, fun w => ?_⟩) ?_
    · go_simp
    refine wpAny_take (i := 5) (v := .int .i64 k) rfl (by kernel_rfl) (by kernel_rfl) (by kernel_rfl) (fun _ _ _ h => h) (Or.inl ⟨by kernel_rfl, fun w => ?_⟩) ?_
    · go_simp
    refine wpAny_take (i := 6) (v := .pointer (some ⟨g4, k, none⟩)) rfl (by kernel_rfl) (by kernel_rfl) (by kernel_rfl) (fun _ _ _ h => h) (Or.inl ⟨by kernel_rfl, fun w => ?_⟩) ?_
    · go_simp
    refine wpAny_ready (rs := [3, 7]) (by kernel_rfl) (by simp) ?_
    refine AllReady.cons rfl (fun K hK => ?_) ?_
    · go_simp
      refine hK _ _ ?_
      clear hK K
      refine wpAny_ready (rs := [7]) (by kernel_rfl) (by simp) ?_
      refine AllReady.cons rfl (fun K hK => ?_) AllReady.nil
      go_simp
      refine hK _ _ ?_
      clear hK K
      refine wpAny_ready (rs := [8]) (by kernel_rfl) (by simp) ?_
      refine AllReady.cons rfl (fun K hK => ?_) AllReady.nil
      refine step_call2 (by kernel_rfl) 10 (.tmp 52) (.tmp 56) 31 31 (by kernel_rfl) (.slice aS SL cS) (.slice aT SL cT) (by kernel_rfl) (by kernel_rfl) (call_samePath _ _) (samePath_yes w4.heap.size _ _ (rowP (pathsLs vs) k) _ HX3d.out HX4d.out h46d) ?_
      rintro e w7 ⟨rfl, hq7⟩
      have HB67 : Hid (Below w6.heap.size w6 w7) := (Below.refl _ w6).drew.trans (hq7.mono (by simp))
      have y3 := (below_cell HB67.out hg36).trans x3
      have z7 := HB67.out.size
      clear hq7
      refine ⟨_, rfl, ?_⟩
      go_simp
      refine hK _ _ ?_
      clear hK K
      refine wpAny_ready (rs := [9]) (by kernel_rfl) (by simp) ?_
      refine AllReady.cons rfl (fun K hK => ?_) AllReady.nil
      go_simp
      refine hK _ _ ?_
      clear hK K
      refine wpAny_ready (rs := [10]) (by kernel_rfl) (by simp) ?_
      refine AllReady.cons rfl (fun K hK => ?_) AllReady.nil
      go_simp
      refine hK _ _ ?_
      clear hK K
      refine wpAny_ready (rs := [11]) (by kernel_rfl) (by simp) ?_
      refine AllReady.cons rfl (fun K hK => ?_) AllReady.nil
      go_simp
      refine hK _ _ ?_
      clear hK K
      refine wpAny_ready (rs := [12]) (by kernel_rfl) (by simp) ?_
      refine AllReady.cons rfl (fun K hK => ?_) AllReady.nil
      go_simp
      refine hK _ _ ?_
      clear hK K
      refine wpAny_ready (rs := [13]) (by kernel_rfl) (by simp) ?_
      refine AllReady.cons rfl (fun K hK => ?_) AllReady.nil
      go_simp
      refine hK _ _ ?_
      clear hK K
      refine wpAny_ready (rs := [14]) (by kernel_rfl) (by simp) ?_
      refine AllReady.cons rfl (fun K hK => ?_) AllReady.nil
      go_simp
      refine hK _ _ ?_
      clear hK K
      refine wpAny_take (i := 15) (v := .slice (some ⟨g3, 0, none⟩) M c3) rfl (by kernel_rfl) (by kernel_rfl) (by kernel_rfl) (fun _ _ _ h => h) (Or.inl ⟨by kernel_rfl, fun w => ?_⟩) ?_
      · go_simp
      refine wpAny_ready (rs := [16]) (by kernel_rfl) (by simp) ?_
      refine AllReady.cons rfl (fun K hK => ?_) AllReady.nil
      go_simp
      refine hK _ _ ?_
      clear hK K
      refine wpAny_ready (rs := [17]) (by kernel_rfl) (by simp) ?_
      refine AllReady.cons rfl (fun K hK => ?_) AllReady.nil
      go_simp
      refine hK _ _ ?_
      clear hK K
      refine wpAny_ready (rs := [18]) (by kernel_rfl) (by simp) ?_
      refine AllReady.cons rfl (fun K hK => ?_) AllReady.nil
      go_simp
      refine hK _ _ ?_
      clear hK K
      refine wpAny_ready (rs := [19]) (by kernel_rfl) (by simp) ?_
      refine AllReady.cons rfl (fun K hK => ?_) AllReady.nil
      refine step_call1g (by kernel_rfl) 11 (.tmp 67) 31 (by kernel_rfl) (.slice aS SL cS) (by kernel_rfl) (call_PathOk _) (implPathOk_any w4.heap.size _ (rowP (pathsLs vs) k) _ (HX3.out.below (HB67.out.mono h46)) (Nat.le_trans h46 z7)) ?_
      rintro e w8 ⟨he8, hq8⟩
      rw [HPB.out] at he8
      subst he8
      have HB68 : Hid (Below w6.heap.size w6 w8) := HB67.out.trans (hq8.mono z7)
      clear hq8
      refine ⟨_, rfl, ?_⟩
      go_simp
      refine hK _ _ ?_
      clear hK K
      refine wpAny_ready (rs := [20]) (by kernel_rfl) (by simp) ?_
      refine AllReady.cons rfl (fun K hK => ?_) AllReady.nil
      go_simp
      refine hK _ _ ?_
      clear hK K
      refine wpAny_ready (rs := [21]) (by kernel_rfl) (by simp) ?_
      refine AllReady.cons rfl (fun K hK => ?_) AllReady.nil
      go_simp
      refine hK _ _ ?_
      clear hK K
      refine wpAny_done (by kernel_rfl) ?_ _
      clear HB67 y3 z7 x3 x4 HX3d HX4d h46d
      obtain ⟨W0, rfl⟩ : ∃ W0, W0 = wr := ⟨_, rfl⟩
      go_wp2_with fail
      go_loopw [10] (fun i wr => ∃ j : Nat, j ≤ k ∧ i = .int .i64 j ∧ Below w6.heap.size w6 wr) (fun i _ => k - (intOf i).toNat)
      case atStart => exact ⟨0, Nat.zero_le _, rfl, HB68.out⟩
      case round =>
        obtain ⟨j, hj, rfl, hbj⟩ := hrel
        have hzj := hbj.size
        have HB4j := hideIt (HB46.out.trans (hbj.mono h46))
        by_cases hlj : j < k
        case neg =>
          have hjk : ¬ (j : Int) < (k : Int) := by omega
          have HND7 := hideIt (HND6.out.below hbj)
          go_wp2_with fail
          refine (implPartsOf_any w6.heap.size _ (partOf vs (pnAt vs k).2) wr HND7.out hzj).mono ?_
          rintro e w9 ⟨r9, base9, rs9, KV9, IV9, lo9, rfl, hbase9, hrow9, hb9⟩
          obtain ⟨a9, c9, e9⟩ := own_slice hrow9.row
          obtain ⟨PN, hPN⟩ : ∃ PN, partsN (partOf vs (pnAt vs k).2) = PN := ⟨_, rfl⟩
          rw [hPN] at e9
          subst e9
          have hP80 : PN ≤ 80 := by rw [← hPN]; exact HPN.out
          have HQ2 : Hid (q + PN = sumTo vs (k + 1)) := by rw [Hid, HSUM.out, hPN]
          have HB9 : Hid (Below w4.heap.size w4 w9) := HB4j.out.trans (hb9.mono (by omega))
          clear hrow9 hb9 hPN
          go_wp2_with fail
          go_roundw
          case rel => exact ⟨k + 1, q + PN, by omega, by go_num, by go_num, HQ2, by omega, HB9.out⟩
          case measure => simp [intOf]; omega
        case pos =>
        obtain ⟨s5, d5, hs5⟩ := HC3.out j (by omega)
        have hjM : j < M := by omega
        have HS5 := hideIt hs5
        have x5 := (below_cell HB4j.out hg3).trans d5
        have x6 := (below_cell HB4j.out hg3).trans HD3.out
        obtain ⟨hsl5, _, a5', c5', e5', _⟩ := hs5
        obtain ⟨S5, hS5⟩ : ∃ S5, (rowP (pathsLs vs) j).length = S5 := ⟨_, rfl⟩
        rw [hS5] at e5' hsl5
        subst e5'
        clear hS5 d5
        have HNE : Hid (rowP (pathsLs vs) k ≠ rowP (pathsLs vs) j) := by
          rw [Hid, HROW.out k hlt, HROW.out j (by omega)]
          exact pnAt_ne HOK.out (by rw [HL.out]; exact hlt) hlj
        have hzd : w4.heap.size ≤ wr.drew.heap.size := by show w4.heap.size ≤ wr.heap.size; omega
        have HX6d : Hid (StepsAt w4.heap.size wr.drew (.slice aS SL cS) (rowP (pathsLs vs) k)) := (HS3.out.below HB4j.out).below (bsame rfl rfl rfl rfl)
        have HX5d : Hid (StepsAt w4.heap.size wr.drew (.slice a5' S5 c5') (rowP (pathsLs vs) j)) := (HS5.out.below HB4j.out).below (bsame rfl rfl rfl rfl)
        go_wp2_with fail
        refine wp_region_any (by kernel_rfl) ?_
        change wpAny _ _ _ _ _ _ _ (World.drew _)
        refine wpAny_take (i := 0) (v := .slice (some ⟨g3, 0, none⟩) M c3) rfl (by kernel_rfl) (by kernel_rfl) (by kernel_rfl) (fun _ _ _ h => h) (Or.inl ⟨by kernel_rfl, fun w => ?_⟩) ?_
        · go_simp
        refine wpAny_take (i := 1) (v := .int .i64 k) rfl (by kernel_rfl) (by kernel_rfl) (by kernel_rfl) (fun _ _ _ h => h) (Or.inl ⟨by kernel_rfl, fun w => ?_⟩) ?_
        · go_simp
        refine wpAny_take (i := 2) (v := .pointer (some ⟨g3, k, none⟩)) rfl (by kernel_rfl) (by kernel_rfl) (by kernel_rfl) (fun _ _ _ h => h) (Or.inl ⟨by kernel_rfl, fun w => ?_⟩) ?_
        · go_simp
        refine wpAny_take (i := 4) (v := .slice (some ⟨g3, 0, none⟩) M c3) rfl (by kernel_rfl) (by kernel_rfl) (by kernel_rfl) (fun _ _ _ h => h) (Or.inl ⟨by kernel_rfl, fun w => ?_⟩) ?_
        · go_simp
        refine wpAny_take (i := 5) (v := .int .i64 j) rfl (by kernel_rfl) (by kernel_rfl) (by kernel_rfl) (fun _ _ _ h => h) (Or.inl ⟨by kernel_rfl, fun w => ?_⟩) ?_
        · go_simp
        refine wpAny_take (i := 6) (v := .pointer (some ⟨g3, j, none⟩)) rfl (by kernel_rfl) (by kernel_rfl) (by kernel_rfl) (fun _ _ _ h => h) (Or.inl ⟨by kernel_rfl, fun w => ?_⟩) ?_
        · go_simp
        refine wpAny_ready (rs := [3, 7]) (by kernel_rfl) (by simp) ?_
        refine AllReady.cons rfl (fun K hK => ?_) ?_
        · go_simp
          refine hK _ _ ?_
          clear hK K
          refine wpAny_ready (rs := [7]) (by kernel_rfl) (by simp) ?_
          refine AllReady.cons rfl (fun K hK => ?_) AllReady.nil
          go_simp
          refine hK _ _ ?_
          clear hK K
          refine wpAny_ready (rs := [8]) (by kernel_rfl) (by simp) ?_
          refine AllReady.cons rfl (fun K hK => ?_) AllReady.nil
          refine step_call2 (by kernel_rfl) 10 (.tmp 79) (.tmp 83) 31 31 (by kernel_rfl) (.slice aS SL cS) (.slice a5' S5 c5') (by kernel_rfl) (by kernel_rfl) (call_samePath _ _) (samePath_no w4.heap.size _ _ (rowP (pathsLs vs) k) (rowP (pathsLs vs) j) _ HX6d.out HX5d.out hzd HNE.out) ?_
          rintro e w11 ⟨rfl, hq11⟩
          have HBN : Hid (Below w6.heap.size w6 w11) := hbj.drew.trans (hq11.mono hzj)
          clear hq11
          refine ⟨_, rfl, ?_⟩
          go_simp
          refine hK _ _ ?_
          clear hK K
          refine wpAny_done (by kernel_rfl) ?_ _
          go_wp2_with fail
          go_roundw
          case rel => exact ⟨j + 1, by omega, by go_num, HBN.out⟩
          case measure => simp [intOf]; omega
        · refine AllReady.cons rfl (fun K hK => ?_) AllReady.nil
          go_simp
          refine hK _ _ ?_
          clear hK K
          refine wpAny_ready (rs := [3]) (by kernel_rfl) (by simp) ?_
          refine AllReady.cons rfl (fun K hK => ?_) AllReady.nil
          go_simp
          refine hK _ _ ?_
          clear hK K
          refine wpAny_ready (rs := [8]) (by kernel_rfl) (by simp) ?_
          refine AllReady.cons rfl (fun K hK => ?_) AllReady.nil
          refine step_call2 (by kernel_rfl) 10 (.tmp 79) (.tmp 83) 31 31 (by kernel_rfl) (.slice aS SL cS) (.slice a5' S5 c5') (by kernel_rfl) (by kernel_rfl) (call_samePath _ _) (samePath_no w4.heap.size _ _ (rowP (pathsLs vs) k) (rowP (pathsLs vs) j) _ HX6d.out HX5d.out hzd HNE.out) ?_
          rintro e w11 ⟨rfl, hq11⟩
          have HBN : Hid (Below w6.heap.size w6 w11) := hbj.drew.trans (hq11.mono hzj)
          clear hq11
          refine ⟨_, rfl, ?_⟩
          go_simp
          refine hK _ _ ?_
          clear hK K
          refine wpAny_done (by kernel_rfl) ?_ _
          go_wp2_with fail
          go_roundw
          case rel => exact ⟨j + 1, by omega, by go_num, HBN.out⟩
          case measure => simp [intOf]; omega
    · refine AllReady.cons rfl (fun K hK => ?_) AllReady.nil
      go_simp
      refine hK _ _ ?_
      clear hK K
      refine wpAny_ready (rs := [3]) (by kernel_rfl) (by simp) ?_
      refine AllReady.cons rfl (fun K hK => ?_) AllReady.nil
      go_simp
      refine hK _ _ ?_
      clear hK K
      refine wpAny_ready (rs := [8]) (by kernel_rfl) (by simp) ?_
      refine AllReady.cons rfl (fun K hK => ?_) AllReady.nil
      refine step_call2 (by kernel_rfl) 10 (.tmp 52) (.tmp 56) 31 31 (by kernel_rfl) (.slice aS SL cS) (.slice aT SL cT) (by kernel_rfl) (by kernel_rfl) (call_samePath _ _) (samePath_yes w4.heap.size _ _ (rowP (pathsLs vs) k) _ HX3d.out HX4d.out h46d) ?_
      rintro e w7 ⟨rfl, hq7⟩
      have HB67 : Hid (Below w6.heap.size w6 w7) := (Below.refl _ w6).drew.trans (hq7.mono (by simp))
      have y3 := (below_cell HB67.out hg36).trans x3
      have z7 := HB67.out.size
      clear hq7
      refine ⟨_, rfl, ?_⟩
      go_simp
      refine hK _ _ ?_
      clear hK K
      refine wpAny_ready (rs := [9]) (by kernel_rfl) (by simp) ?_
      refine AllReady.cons rfl (fun K hK => ?_) AllReady.nil
      go_simp
      refine hK _ _ ?_
      clear hK K
      refine wpAny_ready (rs := [10]) (by kernel_rfl) (by simp) ?_
      refine AllReady.cons rfl (fun K hK => ?_) AllReady.nil
      go_simp
      refine hK _ _ ?_
      clear hK K
      refine wpAny_ready (rs := [11]) (by kernel_rfl) (by simp) ?_
      refine AllReady.cons rfl (fun K hK => ?_) AllReady.nil
      go_simp
      refine hK _ _ ?_
      clear hK K
      refine wpAny_ready (rs := [12]) (by kernel_rfl) (by simp) ?_
      refine AllReady.cons rfl (fun K hK => ?_) AllReady.nil
      go_simp
      refine hK _ _ ?_
      clear hK K
      refine wpAny_ready (rs := [13]) (by kernel_rfl) (by simp) ?_
      refine AllReady.cons rfl (fun K hK => ?_) AllReady.nil
      go_simp
      refine hK _ _ ?_
      clear hK K
      refine wpAny_ready (rs := [14]) (by kernel_rfl) (by simp) ?_
      refine AllReady.cons rfl (fun K hK => ?_) AllReady.nil
      go_simp
      refine hK _ _ ?_
      clear hK K
      refine wpAny_take (i := 15) (v := .slice (some ⟨g3, 0, none⟩) M c3) rfl (by kernel_rfl) (by kernel_rfl) (by kernel_rfl) (fun _ _ _ h => h) (Or.inl ⟨by kernel_rfl, fun w => ?_⟩) ?_
      · go_simp
      refine wpAny_ready (rs := [16]) (by kernel_rfl) (by simp) ?_
      refine AllReady.cons rfl (fun K hK => ?_) AllReady.nil
      go_simp
      refine hK _ _ ?_
      clear hK K
      refine wpAny_ready (rs := [17]) (by kernel_rfl) (by simp) ?_
      refine AllReady.cons rfl (fun K hK => ?_) AllReady.nil
      go_simp
      refine hK _ _ ?_
      clear hK K
      refine wpAny_ready (rs := [18]) (by kernel_rfl) (by simp) ?_
      refine AllReady.cons rfl (fun K hK => ?_) AllReady.nil
      go_simp
      refine hK _ _ ?_
      clear hK K
      refine wpAny_ready (rs := [19]) (by kernel_rfl) (by simp) ?_
      refine AllReady.cons rfl (fun K hK => ?_) AllReady.nil
      refine step_call1g (by kernel_rfl) 11 (.tmp 67) 31 (by kernel_rfl) (.slice aS SL cS) (by kernel_rfl) (call_PathOk _) (implPathOk_any w4.heap.size _ (rowP (pathsLs vs) k) _ (HX3.out.below (HB67.out.mono h46)) (Nat.le_trans h46 z7)) ?_
      rintro e w8 ⟨he8, hq8⟩
      rw [HPB.out] at he8
      subst he8
      have HB68 : Hid (Below w6.heap.size w6 w8) := HB67.out.trans (hq8.mono z7)
      clear hq8
      refine ⟨_, rfl, ?_⟩
      go_simp
      refine hK _ _ ?_
      clear hK K
      refine wpAny_ready (rs := [20]) (by kernel_rfl) (by simp) ?_
      refine AllReady.cons rfl (fun K hK => ?_) AllReady.nil
      go_simp
      refine hK _ _ ?_
      clear hK K
      refine wpAny_ready (rs := [21]) (by kernel_rfl) (by simp) ?_
      refine AllReady.cons rfl (fun K hK => ?_) AllReady.nil
      go_simp
      refine hK _ _ ?_
      clear hK K
      refine wpAny_done (by kernel_rfl) ?_ _
      clear HB67 y3 z7 x3 x4 HX3d HX4d h46d
      obtain ⟨W0, rfl⟩ : ∃ W0, W0 = wr := ⟨_, rfl⟩
      go_wp2_with fail
      go_loopw [10] (fun i wr => ∃ j : Nat, j ≤ k ∧ i = .int .i64 j ∧ Below w6.heap.size w6 wr) (fun i _ => k - (intOf i).toNat)
      case atStart => exact ⟨0, Nat.zero_le _, rfl, HB68.out⟩
      case round =>
        obtain ⟨j, hj, rfl, hbj⟩ := hrel
        have hzj := hbj.size
        have HB4j := hideIt (HB46.out.trans (hbj.mono h46))
        by_cases hlj : j < k
        case neg =>
          have hjk : ¬ (j : Int) < (k : Int) := by omega
          have HND7 := hideIt (HND6.out.below hbj)
          go_wp2_with fail
          refine (implPartsOf_any w6.heap.size _ (partOf vs (pnAt vs k).2) wr HND7.out hzj).mono ?_
          rintro e w9 ⟨r9, base9, rs9, KV9, IV9, lo9, rfl, hbase9, hrow9, hb9⟩
          obtain ⟨a9, c9, e9⟩ := own_slice hrow9.row
          obtain ⟨PN, hPN⟩ : ∃ PN, partsN (partOf vs (pnAt vs k).2) = PN := ⟨_, rfl⟩
          rw [hPN] at e9
          subst e9
          have hP80 : PN ≤ 80 := by rw [← hPN]; exact HPN.out
          have HQ2 : Hid (q + PN = sumTo vs (k + 1)) := by rw [Hid, HSUM.out, hPN]
          have HB9 : Hid (Below w4.heap.size w4 w9) := HB4j.out.trans (hb9.mono (by omega))
          clear hrow9 hb9 hPN
          go_wp2_with fail
          go_roundw
          case rel => exact ⟨k + 1, q + PN, by omega, by go_num, by go_num, HQ2, by omega, HB9.out⟩
          case measure => simp [intOf]; omega
        case pos =>
        obtain ⟨s5, d5, hs5⟩ := HC3.out j (by omega)
        have hjM : j < M := by omega
        have HS5 := hideIt hs5
        have x5 := (below_cell HB4j.out hg3).trans d5
        have x6 := (below_cell HB4j.out hg3).trans HD3.out
        obtain ⟨hsl5, _, a5', c5', e5', _⟩ := hs5
        obtain ⟨S5, hS5⟩ : ∃ S5, (rowP (pathsLs vs) j).length = S5 := ⟨_, rfl⟩
        rw [hS5] at e5' hsl5
        subst e5'
        clear hS5 d5
        have HNE : Hid (rowP (pathsLs vs) k ≠ rowP (pathsLs vs) j) := by
          rw [Hid, HROW.out k hlt, HROW.out j (by omega)]
          exact pnAt_ne HOK.out (by rw [HL.out]; exact hlt) hlj
        have hzd : w4.heap.size ≤ wr.drew.heap.size := by show w4.heap.size ≤ wr.heap.size; omega
        have HX6d : Hid (StepsAt w4.heap.size wr.drew (.slice aS SL cS) (rowP (pathsLs vs) k)) := (HS3.out.below HB4j.out).below (bsame rfl rfl rfl rfl)
        have HX5d : Hid (StepsAt w4.heap.size wr.drew (.slice a5' S5 c5') (rowP (pathsLs vs) j)) := (HS5.out.below HB4j.out).below (bsame rfl rfl rfl rfl)
        go_wp2_with fail
        refine wp_region_any (by kernel_rfl) ?_
        change wpAny _ _ _ _ _ _ _ (World.drew _)
        refine wpAny_take (i := 0) (v := .slice (some ⟨g3, 0, none⟩) M c3) rfl (by kernel_rfl) (by kernel_rfl) (by kernel_rfl) (fun _ _ _ h => h) (Or.inl ⟨by kernel_rfl, fun w => ?_⟩) ?_
        · go_simp
        refine wpAny_take (i := 1) (v := .int .i64 k) rfl (by kernel_rfl) (by kernel_rfl) (by kernel_rfl) (fun _ _ _ h => h) (Or.inl ⟨by kernel_rfl, fun w => ?_⟩) ?_
        · go_simp
        refine wpAny_take (i := 2) (v := .pointer (some ⟨g3, k, none⟩)) rfl (by kernel_rfl) (by kernel_rfl) (by kernel_rfl) (fun _ _ _ h => h) (Or.inl ⟨by kernel_rfl, fun w => ?_⟩) ?_
        · go_simp
        refine wpAny_take (i := 4) (v := .slice (some ⟨g3, 0, none⟩) M c3) rfl (by kernel_rfl) (by kernel_rfl) (by kernel_rfl) (fun _ _ _ h => h) (Or.inl ⟨by kernel_rfl, fun w => ?_⟩) ?_
        · go_simp
        refine wpAny_take (i := 5) (v := .int .i64 j) rfl (by kernel_rfl) (by kernel_rfl) (by kernel_rfl) (fun _ _ _ h => h) (Or.inl ⟨by kernel_rfl, fun w => ?_⟩) ?_
        · go_simp
        refine wpAny_take (i := 6) (v := .pointer (some ⟨g3, j, none⟩)) rfl (by kernel_rfl) (by kernel_rfl) (by kernel_rfl) (fun _ _ _ h => h) (Or.inl ⟨by kernel_rfl, fun w => ?_⟩) ?_
        · go_simp
        refine wpAny_ready (rs := [3, 7]) (by kernel_rfl) (by simp) ?_
        refine AllReady.cons rfl (fun K hK => ?_) ?_
        · go_simp
          refine hK _ _ ?_
          clear hK K
          refine wpAny_ready (rs := [7]) (by kernel_rfl) (by simp) ?_
          refine AllReady.cons rfl (fun K hK => ?_) AllReady.nil
          go_simp
          refine hK _ _ ?_
          clear hK K
          refine wpAny_ready (rs := [8]) (by kernel_rfl) (by simp) ?_
          refine AllReady.cons rfl (fun K hK => ?_) AllReady.nil
          refine step_call2 (by kernel_rfl) 10 (.tmp 79) (.tmp 83) 31 31 (by kernel_rfl) (.slice aS SL cS) (.slice a5' S5 c5') (by kernel_rfl) (by kernel_rfl) (call_samePath _ _) (samePath_no w4.heap.size _ _ (rowP (pathsLs vs) k) (rowP (pathsLs vs) j) _ HX6d.out HX5d.out hzd HNE.out) ?_
          rintro e w11 ⟨rfl, hq11⟩
          have HBN : Hid (Below w6.heap.size w6 w11) := hbj.drew.trans (hq11.mono hzj)
          clear hq11
          refine ⟨_, rfl, ?_⟩
          go_simp
          refine hK _ _ ?_
          clear hK K
          refine wpAny_done (by kernel_rfl) ?_ _
          go_wp2_with fail
          go_roundw
          case rel => exact ⟨j + 1, by omega, by go_num, HBN.out⟩
          case measure => simp [intOf]; omega
        · refine AllReady.cons rfl (fun K hK => ?_) AllReady.nil
          go_simp
          refine hK _ _ ?_
          clear hK K
          refine wpAny_ready (rs := [3]) (by kernel_rfl) (by simp) ?_
          refine AllReady.cons rfl (fun K hK => ?_) AllReady.nil
          go_simp
          refine hK _ _ ?_
          clear hK K
          refine wpAny_ready (rs := [8]) (by kernel_rfl) (by simp) ?_
          refine AllReady.cons rfl (fun K hK => ?_) AllReady.nil
          refine step_call2 (by kernel_rfl) 10 (.tmp 79) (.tmp 83) 31 31 (by kernel_rfl) (.slice aS SL cS) (.slice a5' S5 c5') (by kernel_rfl) (by kernel_rfl) (call_samePath _ _) (samePath_no w4.heap.size _ _ (rowP (pathsLs vs) k) (rowP (pathsLs vs) j) _ HX6d.out HX5d.out hzd HNE.out) ?_
          rintro e w11 ⟨rfl, hq11⟩
          have HBN : Hid (Below w6.heap.size w6 w11) := hbj.drew.trans (hq11.mono hzj)
          clear hq11
          refine ⟨_, rfl, ?_⟩
          go_simp
          refine hK _ _ ?_
          clear hK K
          refine wpAny_done (by kernel_rfl) ?_ _
          go_wp2_with fail
          go_roundw
          case rel => exact ⟨j + 1, by omega, by go_num, HBN.out⟩
          case measure => simp [intOf]; omega
end Go.Proofs.Ytfoehkdnoneeaaa
