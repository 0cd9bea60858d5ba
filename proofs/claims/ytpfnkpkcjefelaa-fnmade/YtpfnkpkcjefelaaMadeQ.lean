/-
  What is made of parts has them as its parts; a map that is made has each part by its key: plain mathematics.
-/
import Derived.Test.YtpfnkpkcjefelaaMapF
import Derived.Test.YtpfnkpkcjefelaaSGot
namespace Go.Proofs.Ytpfnkpkcjefelaa
open Go.RowKit
set_option linter.unusedSimpArgs false
set_option linter.unusedVariables false

theorem shiftN_inj {d : Int} {a b : List VN} (h : a.map (shiftN d) = b.map (shiftN d)) : a = b := by
  have e := congrArg (List.map (shiftN (-d))) h
  rw [List.map_map, List.map_map] at e
  have e2 : (shiftN (-d)) ∘ (shiftN d) = id := by
    funext x
    simp only [Function.comp, shiftN_shiftN, id]
    rw [show (-d + d) = 0 by omega, shiftN_zero]
  rw [e2, List.map_id, List.map_id] at e
  exact e

theorem catKs_nth (L : Nat → List VN) : ∀ (m i : Nat), i < m → (catKs L m)[i]? = some (((catNs L (i + 1)).length : Int) - 1) := by
  intro m
  induction m with
  | zero => intro i hi; omega
  | succ m ih =>
    intro i hi
    rw [catKs]
    by_cases e : i < m
    · rw [List.getElem?_append_left (by rw [catKs_len]; exact e)]
      exact ih i e
    · obtain rfl : i = m := by omega
      rw [List.getElem?_append_right (by rw [catKs_len]; exact Nat.le_refl _), catKs_len]
      simp

theorem catNs_take (L : Nat → List VN) {i m : Nat} (h : i ≤ m) : (catNs L m).take (catNs L i).length = catNs L i := by
  induction m with
  | zero => obtain rfl : i = 0 := by omega
            simp [catNs]
  | succ m ih =>
    by_cases e : i = m + 1
    · subst e; simp
    · have h2 : i ≤ m := by omega
      have h3 := catNs_mono L h2
      rw [catNs, List.take_append_of_le_length h3]
      exact ih h2

/-- Of the same nodes, the same parts. -/
theorem make_inj {kind : Int} {keys : List ByteArray} {L L' : Nat → List VN} {m m' : Nat} (h0 : ∀ i, i < m → 0 < (L i).length) (h : makeNs kind keys L m = makeNs kind keys L' m') : m = m' ∧ ∀ i, i < m → L i = L' i := by
  unfold makeNs at h
  obtain ⟨h1, h2⟩ := List.append_inj' h rfl
  simp only [List.cons.injEq, VN.mk.injEq, true_and, and_true] at h2
  have hm : m = m' := by have := congrArg List.length h2; rwa [catKs_len, catKs_len] at this
  subst hm
  refine ⟨rfl, fun i hi => ?_⟩
  have hl : ∀ k, k ≤ m → (catNs L k).length = (catNs L' k).length := by
    intro k hk
    cases k with
    | zero => rfl
    | succ k =>
      have e1 := catKs_nth L m k (by omega)
      have e2 := catKs_nth L' m k (by omega)
      rw [h2, e2] at e1
      simp at e1
      omega
  have t1 : catNs L i = catNs L' i := by rw [← catNs_take L (show i ≤ m by omega), ← catNs_take L' (show i ≤ m by omega), hl i (by omega), h1]
  have t2 : catNs L (i + 1) = catNs L' (i + 1) := by rw [← catNs_take L (show i + 1 ≤ m by omega), ← catNs_take L' (show i + 1 ≤ m by omega), hl (i + 1) (by omega), h1]
  rw [catNs, catNs, t1] at t2
  exact shiftN_inj (List.append_cancel_left t2)

theorem make_last (kind : Int) (keys : List ByteArray) (L : Nat → List VN) (m : Nat) : nodeAt (makeNs kind keys L m) ((makeNs kind keys L m).length - 1) = { kind := kind, n := 0, s := ByteArray.empty, keys := keys, kids := catKs L m } := by
  have e : (makeNs kind keys L m).length - 1 = (catNs L m).length := by unfold makeNs; simp
  rw [e]
  unfold makeNs
  exact nodeAt_snoc_end

/-- The parts of what is made. -/
theorem made_parts {kind : Int} {keys : List ByteArray} {L : Nat → List VN} {m : Nat} (hk : kind = 5 ∨ kind = 6) (hok : okB (makeNs kind keys L m) = true) (h0 : ∀ i, i < m → 0 < (L i).length) :
    (rootKids (makeNs kind keys L m)).length = m ∧ ∀ i, i < m → PL (makeNs kind keys L m) i = L i := by
  have hl := make_last kind keys L m
  have h := make_parts hok (by rw [hl]; exact hk)
  rw [hl] at h
  simp only at h
  obtain ⟨e1, e2⟩ := make_inj h0 h.symm
  exact ⟨e1.symm, fun i hi => (e2 i hi).symm⟩

/-- A list that is made has its values as its parts. -/
theorem list_made {L : Nat → List VN} {m : Nat} (h : listB L m = true) : okB (listNs L m) = true ∧ partsN (listNs L m) = m ∧ ∀ i, i < m → PL (listNs L m) i = L i := by
  have e : listNs L m = makeNs 5 [] L m := by unfold listNs; rw [if_pos h]
  unfold listB at h
  simp only [Bool.and_eq_true, decide_eq_true_eq] at h
  obtain ⟨⟨h1, h2⟩, h3⟩ := h
  have hm := made_parts (Or.inl rfl) h3 (fun i hi => by have := (okB_parts (allB_yes h1 i hi)).1; omega)
  rw [e]
  exact ⟨h3, by unfold partsN; rw [if_pos h3, hm.1], hm.2⟩

theorem perm_hit {l : List ByteArray} {ns : List ByteArray} {ps : List Nat} : ∀ {i : Nat}, sortIn l i = some (ns, ps) → ∀ j, j < i → j ∈ ps := by
  intro i
  induction i generalizing ns ps with
  | zero => intro _ j hj; omega
  | succ i ih =>
    intro h j hj
    rw [sortIn] at h
    split at h
    · cases h
    · rename_i ns0 ps0 h0
      split at h
      · cases h
      · injection h with h
        injection h with e1 e2
        subst e1 e2
        by_cases e : j = i
        · subst e; simp
        · have := ih h0 j (by omega)
          have h4 : j ∈ ps0.take (posK ns0 (keyAt l i)) ++ ps0.drop (posK ns0 (keyAt l i)) := by rw [List.take_append_drop]; exact this
          rw [List.mem_append] at h4
          simp only [List.mem_append, List.mem_singleton, List.mem_cons]
          rcases h4 with h4 | h4
          · exact Or.inl (Or.inl h4)
          · first | exact Or.inr h4 | exact Or.inr (Or.inr h4)

/-- A map that is made has each value by its key. -/
theorem map_made {l : List ByteArray} {L : Nat → List VN} {m : Nat} (h : mapB l L m = true) : okB (mapNs l L m) = true ∧ l.length = m ∧ ∀ i, i < m → textB (keyAt l i) = true ∧ (gotN (mapNs l L m) ((mapNs l L m).length - 1) [⟨true, keyAt l i, 0⟩]).isSome = true ∧ gotPart (mapNs l L m) (gotN (mapNs l L m) ((mapNs l L m).length - 1) [⟨true, keyAt l i, 0⟩]) = L i := by
  have hB := h
  unfold mapB at h
  simp only [Bool.and_eq_true, decide_eq_true_eq] at h
  obtain ⟨⟨⟨h1, h2⟩, h3⟩, h4⟩ := h
  cases hs : sortIn l l.length with
  | none => unfold sortNs at h4; rw [hs] at h4; cases h4
  | some q =>
    obtain ⟨ns, ps⟩ := q
    have hsn : sortNs l L m = some (makeNs 6 ns (fun j => L (ps.getD j 0)) m) := by unfold sortNs; rw [hs]
    rw [hsn] at h4
    simp only at h4
    have e : mapNs l L m = makeNs 6 ns (fun j => L (ps.getD j 0)) m := by unfold mapNs; rw [if_pos hB, hsn]; rfl
    have hpl := (sortIn_len hs)
    have hpm := sortIn_mem hs
    have h0 : ∀ i, i < m → 0 < (L (ps.getD i 0)).length := fun i hi => by
      have : ps.getD i 0 < m := by
        rw [List.getD_eq_getElem?_getD, List.getElem?_eq_getElem (by omega)]
        have := hpm _ (List.getElem_mem (show i < ps.length by omega))
        simp only [Option.getD_some]
        omega
      have := (okB_parts (allB_yes h1 _ this)).1
      omega
    have hm := made_parts (Or.inr rfl) h4 h0
    have hl := make_last 6 ns (fun j => L (ps.getD j 0)) m
    rw [e]
    refine ⟨h4, h3, fun i hi => ?_⟩
    have hin := perm_hit hs i (by omega)
    obtain ⟨p, hp, ep⟩ := List.getElem_of_mem hin
    have hnm := sortIn_map hs
    have hkp : keyAt ns p = keyAt l i := by
      rw [hnm]
      unfold keyAt
      rw [List.getD_eq_getElem?_getD, List.getElem?_map, List.getElem?_eq_getElem hp, ep]
      rfl
    have p1 := (okB_parts h4).1
    have hn := ((okB_parts h4).2.1 _ (show (makeNs 6 ns (fun j => L (ps.getD j 0)) m).length - 1 < _ by omega)).1
    rw [hl] at hn
    have hr : riseB ns = true := by
      unfold nodeB namedB at hn
      simp at hn
      exact hn.2.2
    have hrise := riseB_rise hr
    have hpn : p < ns.length := by omega
    have ht : textB (keyAt l i) = true := by
      unfold riseB at hr
      rw [List.all_eq_true] at hr
      have := hr p (List.mem_range.2 hpn)
      unfold riseAt at this
      simp only [Bool.and_eq_true] at this
      rw [← hkp]; exact this.1
    obtain ⟨g1, g2⟩ := hasK_first (l := ns) (key := keyAt l i) hrise hpn (by rw [hkp]) (fun j hj => by
      have := hrise j p hj hpn
      rw [hkp] at this
      exact less_ne this)
    have hst : stepN (nodeAt (makeNs 6 ns (fun j => L (ps.getD j 0)) m) ((makeNs 6 ns (fun j => L (ps.getD j 0)) m).length - 1)) ⟨true, keyAt l i, 0⟩ = some p := by
      rw [hl]
      unfold stepN stepTo
      simp [g1, g2]
    have hg : gotN (makeNs 6 ns (fun j => L (ps.getD j 0)) m) ((makeNs 6 ns (fun j => L (ps.getD j 0)) m).length - 1) [⟨true, keyAt l i, 0⟩] = some (intAt (rootKids (makeNs 6 ns (fun j => L (ps.getD j 0)) m)) p).toNat := by
      simp only [gotN, hst]
      rfl
    rw [hg]
    refine ⟨ht, rfl, ?_⟩
    have := hm.2 p (by omega)
    unfold PL at this
    unfold gotPart
    simp only
    rw [this, List.getD_eq_getElem?_getD, List.getElem?_eq_getElem hp, ep]
    rfl
end Go.Proofs.Ytpfnkpkcjefelaa
