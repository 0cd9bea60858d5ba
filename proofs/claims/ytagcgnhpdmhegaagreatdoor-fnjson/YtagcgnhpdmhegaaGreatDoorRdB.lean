/-
  Plain: the places of texts in their order; a map of keys and trees as the program makes it.
-/
import Derived.Test.YtagcgnhpdmhegaaGreatDoorWn1
import Derived.Test.YtagcgnhpdmhegaaGreatDoorRdT
namespace Go.Proofs.YtagcgnhpdmhegaaGreatDoor
open Go.RowKit
set_option linter.unusedSimpArgs false
set_option linter.unusedVariables false

instance (l : List ByteArray) (x y : Int) : Decidable (RK l x y) := by unfold RK; infer_instance
def leK (l : List ByteArray) (a b : Nat) : Bool := decide (RK l a b) || decide (a = b)
/-- The places of the texts, by their order. -/
def srt (l : List ByteArray) : List Nat := (List.range l.length).mergeSort (leK l)
theorem srt_perm (l : List ByteArray) : (srt l).Perm (List.range l.length) := List.mergeSort_perm _ _
theorem srt_len (l : List ByteArray) : (srt l).length = l.length := by rw [(srt_perm l).length_eq]; simp
theorem srt_mem {l : List ByteArray} {x : Nat} : x ∈ srt l ↔ x < l.length := by rw [(srt_perm l).mem_iff]; simp
theorem srt_rises (l : List ByteArray) : (srt l).Pairwise fun (a b : Nat) => RK l (a : Int) (b : Int) := by
  have h1 : (srt l).Pairwise fun a b => leK l a b = true := List.pairwise_mergeSort (le := leK l) (fun a b c => by
    unfold leK
    simp only [Bool.or_eq_true, decide_eq_true_eq]
    rintro (h | rfl) (k | rfl)
    · exact .inl ((rk_tot l).tr _ _ _ h k)
    · exact .inl h
    · exact .inl k
    · exact .inr rfl) (fun a b => by
    unfold leK
    simp only [Bool.or_eq_true, decide_eq_true_eq]
    by_cases e : a = b
    · exact .inl (.inr e)
    · rcases (rk_tot l).to (a : Int) (b : Int) (by omega) with h | h
      · exact .inl (.inl h)
      · exact .inr (.inl h)) _
  have h2 : (srt l).Nodup := (srt_perm l).nodup_iff.2 List.nodup_range
  refine (h1.and h2).imp ?_
  rintro a b ⟨h, hne⟩
  unfold leK at h
  simp only [Bool.or_eq_true, decide_eq_true_eq] at h
  exact h.resolve_right hne
theorem srt_blk (l : List ByteArray) : Blk (RK l) (fun p => (p : Int)) (fun j => (((srt l).getD j 0 : Nat) : Int)) 0 l.length := by
  have hl := srt_len l
  refine ⟨fun p _ hp => ⟨(srt l).getD p 0, Nat.zero_le _, ?_, rfl⟩, fun p q _ hpq hq => ?_⟩
  · exact srt_mem.1 (by rw [List.getD_eq_getElem?_getD, List.getElem?_eq_getElem (by omega)]; exact List.getElem_mem _)
  · have := List.pairwise_iff_getElem.1 (srt_rises l) p q (by omega) (by omega) hpq
    simp only [List.getD_eq_getElem?_getD, List.getElem?_eq_getElem (show p < (srt l).length by omega), List.getElem?_eq_getElem (show q < (srt l).length by omega), Option.getD_some]
    exact this
theorem blk_list {l : List ByteArray} {f : Nat → Int} (hf : Blk (RK l) (fun p => (p : Int)) f 0 l.length) : (List.range l.length).map f = (srt l).map fun n : Nat => (n : Int) := by
  refine one_order (rk_tot l) (N := l.length) (rises_list hf.2) ?_ (by simp) (by rw [List.length_map, srt_len]) ?_ ?_
  · rw [List.pairwise_map]; exact srt_rises l
  · intro x hx
    obtain ⟨j, hj, rfl⟩ := List.mem_map.1 hx
    obtain ⟨q, q1, q2, q3⟩ := hf.1 j (Nat.zero_le _) (List.mem_range.1 hj)
    simp only at q3
    omega
  · intro x hx
    obtain ⟨n, hn, rfl⟩ := List.mem_map.1 hx
    have := srt_mem.1 hn
    omega
/-- The program's places are those. -/
theorem blk_at {l : List ByteArray} {f : Nat → Int} (hf : Blk (RK l) (fun p => (p : Int)) f 0 l.length) {j : Nat} (hj : j < l.length) : f j = (((srt l).getD j 0 : Nat) : Int) := by
  have h := congrArg (·[j]?) (blk_list hf)
  simp only [List.getElem?_map, List.getElem?_range hj, Option.map_some] at h
  rw [List.getElem?_eq_getElem (by rw [srt_len]; exact hj)] at h
  rw [List.getD_eq_getElem?_getD, List.getElem?_eq_getElem (by rw [srt_len]; exact hj)]
  simpa using h
theorem srt_sorted {l ns : List ByteArray} {ps : List Nat} (h : sortIn l l.length = some (ns, ps)) : srt l = ps ∧ ns = ps.map (keyAt l) := by
  refine ⟨?_, sortIn_map h⟩
  have h1 := places_are h (srt_blk l)
  have h2 := blk_list (srt_blk l)
  rw [h2] at h1
  exact List.map_inj_right (f := fun n : Nat => (n : Int)) (fun a b e => by omega) |>.1 h1

/-- The map of keys and trees that the program makes. -/
def mapT (ks : List ByteArray) (ts : List VT) : VT := .mk 6 0 ByteArray.empty ((srt ks).map (keyAt ks)) ((srt ks).map (kidT ts))
theorem kid_srt {ks : List ByteArray} {ts : List VT} {j : Nat} (hj : j < ks.length) : kidT ((srt ks).map (kidT ts)) j = kidT ts ((srt ks).getD j 0) := by
  have hl := srt_len ks
  unfold kidT
  rw [List.getD_eq_getElem?_getD, List.getElem?_map, List.getElem?_eq_getElem (by omega), List.getD_eq_getElem?_getD (l := srt ks), List.getElem?_eq_getElem (show j < (srt ks).length by omega)]
  rfl
theorem srt_lt {ks : List ByteArray} {j : Nat} (hj : j < ks.length) : (srt ks).getD j 0 < ks.length := by
  have hl := srt_len ks
  rw [List.getD_eq_getElem?_getD, List.getElem?_eq_getElem (show j < (srt ks).length by omega)]
  exact srt_mem.1 (List.getElem_mem _)
/-- Where a key went. -/
theorem srt_hit {ks : List ByteArray} {i : Nat} (hi : i < ks.length) : ∃ j, j < ks.length ∧ (srt ks).getD j 0 = i := by
  obtain ⟨j, hj, e⟩ := List.getElem_of_mem (srt_mem.2 hi)
  exact ⟨j, by rw [← srt_len ks]; exact hj, by rw [List.getD_eq_getElem?_getD, List.getElem?_eq_getElem hj]; exact e⟩
theorem mapT_full {f : Nat} {ks : List ByteArray} {ts : List VT} (h : ∀ i, i < ks.length → FullT f (kidT ts i)) : FullT (f + 1) (mapT ks ts) := by
  intro j hj
  rw [List.length_map, srt_len] at hj
  rw [kid_srt hj]
  exact h _ (srt_lt hj)
theorem mapT_lay (f : Nat) (ks : List ByteArray) (ts : List VT) : layT (f + 1) (mapT ks ts) 0 = makeNs 6 ((srt ks).map (keyAt ks)) (fun j => layT f (kidT ts ((srt ks).getD j 0)) 0) ks.length := by
  unfold mapT
  rw [lay_make, List.length_map, srt_len]
  exact makeNs_same (fun i hi => by rw [kid_srt hi]) _ _
theorem mapT_good {f : Nat} {ks : List ByteArray} {ts : List VT} (h : goodT (f + 1) (mapT ks ts)) : (∀ i, i < ks.length → goodT f (kidT ts i)) ∧ (∀ i, i < ks.length → textB (keyAt ks i) = true) ∧ ∃ ns ps, sortIn ks ks.length = some (ns, ps) := by
  obtain ⟨h1, h2⟩ := h
  have hl := srt_len ks
  have hk : ∀ j, j < ks.length → riseAt ((srt ks).map (keyAt ks)) j = true := fun j hj => by
    unfold nodeT nodeB namedB at h1
    simp only [Bool.and_eq_true] at h1
    have h3 := h1.2
    simp at h3
    unfold riseB at h3
    exact List.all_eq_true.1 h3 j (List.mem_range.2 (by rw [List.length_map, hl]; exact hj))
  have hat : ∀ j, j < ks.length → keyAt ((srt ks).map (keyAt ks)) j = keyAt ks ((srt ks).getD j 0) := fun j hj => by
    conv => lhs; unfold keyAt
    rw [List.getD_eq_getElem?_getD, List.getElem?_map, List.getElem?_eq_getElem (by omega), List.getD_eq_getElem?_getD (l := srt ks), List.getElem?_eq_getElem (show j < (srt ks).length by omega)]
    rfl
  refine ⟨fun i hi => ?_, fun i hi => ?_, ?_⟩
  · obtain ⟨j, hj, e⟩ := srt_hit hi
    have := h2 j (by rw [List.length_map, hl]; exact hj)
    rw [kid_srt hj, e] at this
    exact this
  · obtain ⟨j, hj, e⟩ := srt_hit hi
    have := hk j hj
    unfold riseAt at this
    simp only [Bool.and_eq_true] at this
    rw [hat j hj, e] at this
    exact this.1
  · refine places_rise (srt_blk ks) (fun p hp => ?_)
    have := hk (p + 1) hp
    unfold riseAt at this
    simp only [Bool.and_eq_true, Bool.or_eq_true, decide_eq_true_eq] at this
    have h4 := this.2.resolve_left (by omega)
    rw [Nat.add_sub_cancel, hat p (by omega), hat (p + 1) hp] at h4
    exact h4
theorem mapT_hi {f : Nat} {ks : List ByteArray} {ts : List VT} {i : Nat} (hi : i < ks.length) : hiT f (kidT ts i) + 1 ≤ hiT (f + 1) (mapT ks ts) := by
  obtain ⟨j, hj, e⟩ := srt_hit hi
  have := kid_hi (f := f) (kind := 6) (n := 0) (s := ByteArray.empty) (keys := (srt ks).map (keyAt ks)) (kids := (srt ks).map (kidT ts)) (j := j) (by rw [List.length_map, srt_len]; exact hj)
  rw [kid_srt hj, e] at this
  exact this
/-- How many nodes so many rows have. -/
def sumL (L : Nat → List VN) : Nat → Nat
  | 0 => 0
  | k + 1 => sumL L k + (L k).length
theorem cat_sum (L : Nat → List VN) (m : Nat) : (catNs L m).length = sumL L m := by
  induction m with
  | zero => rfl
  | succ m ih => rw [catNs_len, ih, sumL]
theorem sumL_list (L : Nat → List VN) (m : Nat) : sumL L m = ((List.range m).map fun i => (L i).length).sum := by
  induction m with
  | zero => rfl
  | succ m ih => rw [sumL, ih, List.range_succ, List.map_append, List.sum_append]; simp
theorem sumL_perm (L : Nat → List VN) {m : Nat} {ps : List Nat} (h : ps.Perm (List.range m)) : sumL (fun j => L (ps.getD j 0)) m = sumL L m := by
  have hl : ps.length = m := by rw [h.length_eq]; simp
  rw [sumL_list, sumL_list]
  have e : ((List.range m).map fun j => (L (ps.getD j 0)).length) = ps.map fun i => (L i).length := by
    apply List.ext_getElem?
    intro j
    rw [List.getElem?_map, List.getElem?_map]
    by_cases hj : j < m
    · rw [List.getElem?_range hj, Option.map_some, List.getD_eq_getElem?_getD, List.getElem?_eq_getElem (by omega)]; rfl
    · rw [List.getElem?_eq_none (by simp; omega), List.getElem?_eq_none (by omega)]; rfl
  rw [e]
  exact (h.map _).sum_nat
theorem sumL_part {L : Nat → List VN} {i m : Nat} (h : i < m) : (L i).length ≤ sumL L m := by rw [← cat_sum]; exact cat_part L h
theorem sumL_same {L L' : Nat → List VN} {m : Nat} (h : ∀ i, i < m → (L i).length = (L' i).length) : sumL L m = sumL L' m := by
  induction m with
  | zero => rfl
  | succ m ih => rw [sumL, sumL, ih (fun i hi => h i (by omega)), h m (by omega)]
theorem sumL_many {L : Nat → List VN} {m : Nat} (h : ∀ i, i < m → 1 ≤ (L i).length) : m ≤ sumL L m := by
  induction m with
  | zero => exact Nat.zero_le _
  | succ m ih => have := ih (fun i hi => h i (by omega)); have := h m (by omega); rw [sumL]; omega
theorem mapT_size (f : Nat) (ks : List ByteArray) (ts : List VT) : (layT (f + 1) (mapT ks ts) 0).length = sumL (fun i => layT f (kidT ts i) 0) ks.length + 1 := by
  rw [mapT_lay, make_len, cat_sum, sumL_perm (fun i => layT f (kidT ts i) 0) (srt_perm ks)]
def listT (ts : List VT) : VT := .mk 5 0 ByteArray.empty [] ts
theorem listT_size (f : Nat) (ts : List VT) : (layT (f + 1) (listT ts) 0).length = sumL (fun i => layT f (kidT ts i) 0) ts.length + 1 := by
  unfold listT
  rw [lay_make, make_len, cat_sum]
end Go.Proofs.YtagcgnhpdmhegaaGreatDoor

/-
  Plain: rows of values as the program reads them, and as the specification does; that both say the same.
-/
namespace Go.Proofs.YtagcgnhpdmhegaaGreatDoor
open Go.RowKit
set_option linter.unusedSimpArgs false
set_option linter.unusedVariables false

/-- So many values, one behind the other. -/
def rdItems (R : Nat → Option (VT × Nat)) : Nat → Nat → Option (List VT × Nat)
  | 0, p => some ([], p)
  | k + 1, p => match R p with
    | none => none
    | some (t, q) => match rdItems R k q with
      | none => none
      | some (l, r) => some (t :: l, r)
def textOf : VT → Option ByteArray
  | .mk kind _ s _ _ => if kind = 4 then some s else none
/-- So many texts, each with a value behind it. -/
def rdPairs (R : Nat → Option (VT × Nat)) : Nat → Nat → Option (List ByteArray × List VT × Nat)
  | 0, p => some ([], [], p)
  | k + 1, p => match R p with
    | none => none
    | some (t, q) => match textOf t with
      | none => none
      | some s => match R q with
        | none => none
        | some (u, r) => match rdPairs R k r with
          | none => none
          | some (ks, l, z) => some (s :: ks, u :: l, z)
theorem items_snoc {R : Nat → Option (VT × Nat)} : ∀ {i p : Nat} {l : List VT} {q : Nat}, rdItems R i p = some (l, q) → ∀ {t : VT} {r : Nat}, R q = some (t, r) → rdItems R (i + 1) p = some (l ++ [t], r) := by
  intro i
  induction i with
  | zero => intro p l q h t r h2; simp [rdItems] at h; obtain ⟨rfl, rfl⟩ := h; simp [rdItems, h2]
  | succ i ih =>
    intro p l q h t r h2
    rw [rdItems] at h
    cases e : R p with
    | none => simp [e] at h
    | some x =>
      obtain ⟨u, z⟩ := x
      simp only [e] at h
      cases e2 : rdItems R i z with
      | none => simp [e2] at h
      | some y =>
        obtain ⟨m, z2⟩ := y
        simp only [e2, Option.some.injEq, Prod.mk.injEq] at h
        obtain ⟨rfl, rfl⟩ := h
        rw [rdItems, e]
        simp only [ih e2 h2]
        rfl
theorem items_stop {R : Nat → Option (VT × Nat)} : ∀ {i n p : Nat} {l : List VT} {q : Nat}, rdItems R i p = some (l, q) → R q = none → i < n → rdItems R n p = none := by
  intro i
  induction i with
  | zero =>
    intro n p l q h h2 hn
    simp [rdItems] at h
    obtain ⟨rfl, rfl⟩ := h
    obtain ⟨n, rfl⟩ : ∃ m, n = m + 1 := ⟨n - 1, by omega⟩
    simp [rdItems, h2]
  | succ i ih =>
    intro n p l q h h2 hn
    obtain ⟨n, rfl⟩ : ∃ m, n = m + 1 := ⟨n - 1, by omega⟩
    rw [rdItems] at h
    cases e : R p with
    | none => simp [e] at h
    | some x =>
      obtain ⟨u, z⟩ := x
      simp only [e] at h
      cases e2 : rdItems R i z with
      | none => simp [e2] at h
      | some y =>
        obtain ⟨m, z2⟩ := y
        simp only [e2, Option.some.injEq, Prod.mk.injEq] at h
        obtain ⟨rfl, rfl⟩ := h
        rw [rdItems, e]
        simp only [ih e2 h2 (show i < n by omega)]
theorem pairs_snoc {R : Nat → Option (VT × Nat)} : ∀ {i p : Nat} {ks : List ByteArray} {l : List VT} {q : Nat}, rdPairs R i p = some (ks, l, q) → ∀ {t u : VT} {s : ByteArray} {r z : Nat}, R q = some (t, r) → textOf t = some s → R r = some (u, z) → rdPairs R (i + 1) p = some (ks ++ [s], l ++ [u], z) := by
  intro i
  induction i with
  | zero => intro p ks l q h t u s r z h1 h2 h3; simp [rdPairs] at h; obtain ⟨rfl, rfl, rfl⟩ := h; simp [rdPairs, h1, h2, h3]
  | succ i ih =>
    intro p ks l q h t u s r z h1 h2 h3
    rw [rdPairs] at h
    cases e : R p with
    | none => simp [e] at h
    | some x =>
      obtain ⟨t1, q1⟩ := x
      simp only [e] at h
      cases e1 : textOf t1 with
      | none => simp [e1] at h
      | some s1 =>
        simp only [e1] at h
        cases e2 : R q1 with
        | none => simp [e2] at h
        | some y =>
          obtain ⟨u1, r1⟩ := y
          simp only [e2] at h
          cases e3 : rdPairs R i r1 with
          | none => simp [e3] at h
          | some y =>
            obtain ⟨k1, m, z2⟩ := y
            simp only [e3, Option.some.injEq, Prod.mk.injEq] at h
            obtain ⟨rfl, rfl, rfl⟩ := h
            rw [rdPairs, e]
            simp only [e1, e2, ih e3 h1 h2 h3]
            rfl
theorem pairs_stop {R : Nat → Option (VT × Nat)} : ∀ {i n p : Nat} {ks : List ByteArray} {l : List VT} {q : Nat}, rdPairs R i p = some (ks, l, q) → (R q = none ∨ ∃ t r, R q = some (t, r) ∧ (textOf t = none ∨ R r = none)) → i < n → rdPairs R n p = none := by
  intro i
  induction i with
  | zero =>
    intro n p ks l q h h2 hn
    simp [rdPairs] at h
    obtain ⟨rfl, rfl, rfl⟩ := h
    obtain ⟨n, rfl⟩ : ∃ m, n = m + 1 := ⟨n - 1, by omega⟩
    rcases h2 with h2 | ⟨t, r, h2, h3 | h3⟩
    · simp [rdPairs, h2]
    · simp [rdPairs, h2, h3]
    · rw [rdPairs, h2]
      cases e : textOf t <;> simp [e, h3]
  | succ i ih =>
    intro n p ks l q h h2 hn
    obtain ⟨n, rfl⟩ : ∃ m, n = m + 1 := ⟨n - 1, by omega⟩
    rw [rdPairs] at h
    cases e : R p with
    | none => simp [e] at h
    | some x =>
      obtain ⟨t1, q1⟩ := x
      simp only [e] at h
      cases e1 : textOf t1 with
      | none => simp [e1] at h
      | some s1 =>
        simp only [e1] at h
        cases e2 : R q1 with
        | none => simp [e2] at h
        | some y =>
          obtain ⟨u1, r1⟩ := y
          simp only [e2] at h
          cases e3 : rdPairs R i r1 with
          | none => simp [e3] at h
          | some y =>
            obtain ⟨k1, m, z2⟩ := y
            simp only [e3, Option.some.injEq, Prod.mk.injEq] at h
            obtain ⟨rfl, rfl, rfl⟩ := h
            rw [rdPairs, e]
            simp only [e1, e2, ih e3 h2 (show i < n by omega)]
theorem items_len {R : Nat → Option (VT × Nat)} : ∀ {i p : Nat} {l : List VT} {q : Nat}, rdItems R i p = some (l, q) → l.length = i := by
  intro i
  induction i with
  | zero => intro p l q h; simp [rdItems] at h; obtain ⟨rfl, rfl⟩ := h; rfl
  | succ i ih =>
    intro p l q h
    rw [rdItems] at h
    cases e : R p with
    | none => simp [e] at h
    | some x =>
      simp only [e] at h
      cases e2 : rdItems R i x.2 with
      | none => simp [e2] at h
      | some y =>
        simp only [e2, Option.some.injEq, Prod.mk.injEq] at h
        obtain ⟨rfl, rfl⟩ := h
        simp [ih e2]

/-! ### The specification's rows -/
def spItems (S : Nat → Nat → Option (List VN × Nat × Nat)) : Nat → Nat → Nat → Option (List (List VN) × Nat × Nat)
  | 0, p, c => some ([], p, c)
  | k + 1, p, c => match S p c with
    | none => none
    | some (ns, q, d) => match spItems S k q d with
      | none => none
      | some (l, r, e) => some (ns :: l, r, e)
def spPairs (W : Nat → Option (ByteArray × Nat)) (S : Nat → Nat → Option (List VN × Nat × Nat)) : Nat → Nat → Nat → Option (List ByteArray × List (List VN) × Nat × Nat)
  | 0, p, c => some ([], [], p, c)
  | k + 1, p, c => match W p with
    | none => none
    | some (s, q) => match S q c with
      | none => none
      | some (ns, r, d) => match spPairs W S k r d with
        | none => none
        | some (ks, l, z, e) => some (s :: ks, ns :: l, z, e)
def rowAt (l : List (List VN)) (i : Nat) : List VN := l.getD i []
/-- A row of values with their names or without, in a list or map so deep. -/
def spRow (W : Nat → Option (ByteArray × Nat)) (S : Nat → Nat → Option (List VN × Nat × Nat)) (named : Bool) (many : Nat) (deep p c : Nat) : Option (List VN × Nat × Nat) :=
  if 80 < many ∨ 8 < deep then none
  else if named = true then match spPairs W S many p c with
    | none => none
    | some (ks, l, q, d) => match sortIn ks ks.length with
      | none => none
      | some (ns, ps) => some (makeNs 6 ns (fun j => rowAt l (ps.getD j 0)) ks.length, q, d)
  else match spItems S many p c with
    | none => none
    | some (l, q, d) => some (makeNs 5 [] (rowAt l) l.length, q, d)
theorem spItems_snoc {S : Nat → Nat → Option (List VN × Nat × Nat)} : ∀ {i p c : Nat} {l : List (List VN)} {q d : Nat}, spItems S i p c = some (l, q, d) → ∀ {ns : List VN} {r e : Nat}, S q d = some (ns, r, e) → spItems S (i + 1) p c = some (l ++ [ns], r, e) := by
  intro i
  induction i with
  | zero => intro p c l q d h ns r e h2; simp [spItems] at h; obtain ⟨rfl, rfl, rfl⟩ := h; simp [spItems, h2]
  | succ i ih =>
    intro p c l q d h ns r e h2
    rw [spItems] at h
    cases e1 : S p c with
    | none => simp [e1] at h
    | some x =>
      obtain ⟨n1, q1, d1⟩ := x
      simp only [e1] at h
      cases e2 : spItems S i q1 d1 with
      | none => simp [e2] at h
      | some y =>
        obtain ⟨m, z, d2⟩ := y
        simp only [e2, Option.some.injEq, Prod.mk.injEq] at h
        obtain ⟨rfl, rfl, rfl⟩ := h
        rw [spItems, e1]
        simp only [ih e2 h2]
        rfl
theorem spItems_stop {S : Nat → Nat → Option (List VN × Nat × Nat)} : ∀ {i n p c : Nat} {l : List (List VN)} {q d : Nat}, spItems S i p c = some (l, q, d) → S q d = none → i < n → spItems S n p c = none := by
  intro i
  induction i with
  | zero =>
    intro n p c l q d h h2 hn
    simp [spItems] at h
    obtain ⟨rfl, rfl, rfl⟩ := h
    obtain ⟨n, rfl⟩ : ∃ m, n = m + 1 := ⟨n - 1, by omega⟩
    simp [spItems, h2]
  | succ i ih =>
    intro n p c l q d h h2 hn
    obtain ⟨n, rfl⟩ : ∃ m, n = m + 1 := ⟨n - 1, by omega⟩
    rw [spItems] at h
    cases e1 : S p c with
    | none => simp [e1] at h
    | some x =>
      obtain ⟨n1, q1, d1⟩ := x
      simp only [e1] at h
      cases e2 : spItems S i q1 d1 with
      | none => simp [e2] at h
      | some y =>
        obtain ⟨m, z, d2⟩ := y
        simp only [e2, Option.some.injEq, Prod.mk.injEq] at h
        obtain ⟨rfl, rfl, rfl⟩ := h
        rw [spItems, e1]
        simp only [ih e2 h2 (show i < n by omega)]
theorem spPairs_snoc {W : Nat → Option (ByteArray × Nat)} {S : Nat → Nat → Option (List VN × Nat × Nat)} : ∀ {i p c : Nat} {ks : List ByteArray} {l : List (List VN)} {q d : Nat}, spPairs W S i p c = some (ks, l, q, d) → ∀ {s : ByteArray} {ns : List VN} {r z e : Nat}, W q = some (s, r) → S r d = some (ns, z, e) → spPairs W S (i + 1) p c = some (ks ++ [s], l ++ [ns], z, e) := by
  intro i
  induction i with
  | zero => intro p c ks l q d h s ns r z e h1 h2; simp [spPairs] at h; obtain ⟨rfl, rfl, rfl, rfl⟩ := h; simp [spPairs, h1, h2]
  | succ i ih =>
    intro p c ks l q d h s ns r z e h1 h2
    rw [spPairs] at h
    cases e0 : W p with
    | none => simp [e0] at h
    | some x0 =>
      obtain ⟨s0, q0⟩ := x0
      simp only [e0] at h
      cases e1 : S q0 c with
      | none => simp [e1] at h
      | some x =>
        obtain ⟨n1, q1, d1⟩ := x
        simp only [e1] at h
        cases e2 : spPairs W S i q1 d1 with
        | none => simp [e2] at h
        | some y =>
          obtain ⟨k1, m, z1, d2⟩ := y
          simp only [e2, Option.some.injEq, Prod.mk.injEq] at h
          obtain ⟨rfl, rfl, rfl, rfl⟩ := h
          rw [spPairs, e0]
          simp only [e1, ih e2 h1 h2]
          rfl
theorem spPairs_stop {W : Nat → Option (ByteArray × Nat)} {S : Nat → Nat → Option (List VN × Nat × Nat)} : ∀ {i n p c : Nat} {ks : List ByteArray} {l : List (List VN)} {q d : Nat}, spPairs W S i p c = some (ks, l, q, d) → (W q = none ∨ ∃ s r, W q = some (s, r) ∧ S r d = none) → i < n → spPairs W S n p c = none := by
  intro i
  induction i with
  | zero =>
    intro n p c ks l q d h h2 hn
    simp [spPairs] at h
    obtain ⟨rfl, rfl, rfl, rfl⟩ := h
    obtain ⟨n, rfl⟩ : ∃ m, n = m + 1 := ⟨n - 1, by omega⟩
    rcases h2 with h2 | ⟨s, r, h2, h3⟩
    · simp [spPairs, h2]
    · simp [spPairs, h2, h3]
  | succ i ih =>
    intro n p c ks l q d h h2 hn
    obtain ⟨n, rfl⟩ : ∃ m, n = m + 1 := ⟨n - 1, by omega⟩
    rw [spPairs] at h
    cases e0 : W p with
    | none => simp [e0] at h
    | some x0 =>
      obtain ⟨s0, q0⟩ := x0
      simp only [e0] at h
      cases e1 : S q0 c with
      | none => simp [e1] at h
      | some x =>
        obtain ⟨n1, q1, d1⟩ := x
        simp only [e1] at h
        cases e2 : spPairs W S i q1 d1 with
        | none => simp [e2] at h
        | some y =>
          obtain ⟨k1, m, z1, d2⟩ := y
          simp only [e2, Option.some.injEq, Prod.mk.injEq] at h
          obtain ⟨rfl, rfl, rfl, rfl⟩ := h
          rw [spPairs, e0]
          simp only [e1, ih e2 h2 (show i < n by omega)]
end Go.Proofs.YtagcgnhpdmhegaaGreatDoor
