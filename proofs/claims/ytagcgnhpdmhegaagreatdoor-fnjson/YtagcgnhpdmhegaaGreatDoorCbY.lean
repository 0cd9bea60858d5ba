/-
  Plain: keys by their lengths, and CBOR's bytes of a tree.
-/
import Derived.Test.YtagcgnhpdmhegaaGreatDoorCbP
import Derived.Test.YtagcgnhpdmhegaaGreatDoorPkT
import Derived.Test.YtagcgnhpdmhegaaGreatDoorWn1
import Derived.Test.YtagcgnhpdmhegaaGreatDoorJrV
import Derived.Test.YtagcgnhpdmhegaaGreatDoorCbR
namespace Go.Proofs.YtagcgnhpdmhegaaGreatDoor
open Go.RowKit
set_option linter.unusedSimpArgs false
set_option linter.unusedVariables false

/-- The lengths of the texts at two places, held against each other. -/
def cfL (l : List ByteArray) (x y : Int) : Int := cmpI (keyAt l x.toNat).size (keyAt l y.toNat).size
def RL (l : List ByteArray) (x y : Int) : Prop := cfL l x y < 0 ∨ (cfL l x y = 0 ∧ x < y)
theorem cfL_lt {l : List ByteArray} {x y : Int} : cfL l x y < 0 ↔ (keyAt l x.toNat).size < (keyAt l y.toNat).size := by
  unfold cfL cmpI; split <;> (try split) <;> omega
theorem cfL_eq {l : List ByteArray} {x y : Int} : cfL l x y = 0 ↔ (keyAt l x.toNat).size = (keyAt l y.toNat).size := by
  unfold cfL cmpI; split <;> (try split) <;> omega
theorem rl_iff {l : List ByteArray} {x y : Int} : RL l x y ↔ (keyAt l x.toNat).size < (keyAt l y.toNat).size ∨ ((keyAt l x.toNat).size = (keyAt l y.toNat).size ∧ x < y) := by
  unfold RL; rw [cfL_lt, cfL_eq]
theorem rl_tot (l : List ByteArray) : Tot (RL l) := by
  refine ⟨fun x y z h1 h2 => ?_, fun x y h1 h2 => ?_, fun x y h => ?_⟩
  · rw [rl_iff] at *; omega
  · rw [rl_iff] at *; omega
  · rw [rl_iff, rl_iff]; omega
theorem rl_cross (l : List ByteArray) : ∀ x y : Int, x < y → (cfL l y x < 0 ↔ RL l y x) := fun x y h => by
  rw [rl_iff, cfL_lt]; omega

/-- The places below 'i' whose texts have this length. -/
def ofLen (l : List ByteArray) (i S : Nat) : List Nat := (List.range i).filter fun p => (keyAt l p).size == S
/-- The places of the texts shorter than 'S', by their lengths. -/
def byLen (l : List ByteArray) (M : Nat) : Nat → List Nat
  | 0 => []
  | S + 1 => byLen l M S ++ ofLen l M S
theorem ofLen_mem {l : List ByteArray} {i S p : Nat} : p ∈ ofLen l i S ↔ p < i ∧ (keyAt l p).size = S := by
  unfold ofLen; rw [List.mem_filter, List.mem_range]; simp
theorem byLen_mem {l : List ByteArray} {M S p : Nat} : p ∈ byLen l M S ↔ p < M ∧ (keyAt l p).size < S := by
  induction S with
  | zero => simp [byLen]
  | succ S ih => rw [byLen, List.mem_append, ih, ofLen_mem]; omega
theorem byLen_rises (l : List ByteArray) (M S : Nat) : (byLen l M S).Pairwise fun (a b : Nat) => RL l (a : Int) (b : Int) := by
  induction S with
  | zero => exact List.Pairwise.nil
  | succ S ih =>
    rw [byLen, List.pairwise_append]
    refine ⟨ih, ?_, fun a ha b hb => ?_⟩
    · have h1 : (ofLen l M S).Pairwise (· < ·) := List.Pairwise.filter _ (List.pairwise_lt_range)
      refine List.Pairwise.imp_of_mem (fun {a b} ha hb hab => ?_) h1
      have := (ofLen_mem.1 ha).2
      have := (ofLen_mem.1 hb).2
      rw [rl_iff, Int.toNat_natCast, Int.toNat_natCast]
      omega
    · have := (byLen_mem.1 ha).2
      have := (ofLen_mem.1 hb).2
      rw [rl_iff, Int.toNat_natCast, Int.toNat_natCast]
      omega
theorem byLen_nodup (l : List ByteArray) (M S : Nat) : (byLen l M S).Nodup := (byLen_rises l M S).imp fun {a b} h e => by subst e; exact (rl_tot l).asym _ _ h h
theorem byLen_perm {l : List ByteArray} {M S : Nat} (h : ∀ p, p < M → (keyAt l p).size < S) : (byLen l M S).Perm (List.range M) :=
  (List.perm_ext_iff_of_nodup (byLen_nodup l M S) List.nodup_range).2 fun p => by rw [byLen_mem, List.mem_range]; exact ⟨fun h => h.1, fun hp => ⟨hp, h p hp⟩⟩
/-- The program's places are those. -/
theorem places_len {l : List ByteArray} {S : Nat} {f : Nat → Int} (h : ∀ p, p < l.length → (keyAt l p).size < S) (hf : Blk (RL l) (fun p => (p : Int)) f 0 l.length) : (List.range l.length).map f = (byLen l l.length S).map fun n : Nat => (n : Int) := by
  refine one_order (rl_tot l) (N := l.length) (rises_list hf.2) ?_ (by simp) (by rw [List.length_map, (byLen_perm h).length_eq]; simp) ?_ ?_
  · rw [List.pairwise_map]; exact byLen_rises l _ _
  · intro x hx
    obtain ⟨j, hj, rfl⟩ := List.mem_map.1 hx
    obtain ⟨q, q1, q2, q3⟩ := hf.1 j (Nat.zero_le _) (List.mem_range.1 hj)
    simp only at q3
    omega
  · intro x hx
    obtain ⟨n, hn, rfl⟩ := List.mem_map.1 hx
    have := (byLen_mem.1 hn).1
    omega
theorem place_at {l : List ByteArray} {S : Nat} {f : Nat → Int} (h : ∀ p, p < l.length → (keyAt l p).size < S) (hf : Blk (RL l) (fun p => (p : Int)) f 0 l.length) {j : Nat} (hj : j < l.length) : ∃ p : Nat, f j = p ∧ p < l.length ∧ (byLen l l.length S)[j]? = some p := by
  have h1 := places_len h hf
  have h2 : ((List.range l.length).map f)[j]? = some (f j) := by simp [hj]
  rw [h1, List.getElem?_map] at h2
  obtain ⟨p, hp, e⟩ := Option.map_eq_some_iff.1 h2
  exact ⟨p, e.symm, (byLen_mem.1 (List.mem_of_getElem? hp)).1, hp⟩

/-- The bytes of the entries at these places. -/
def entC (F : VT → List UInt8) (keys : List ByteArray) (kids : List VT) (ps : List Nat) : List UInt8 := ps.flatMap fun p => cborW (keyAt keys p) ++ F (kidT kids p)
def cborL (F : VT → List UInt8) (kids : List VT) : Nat → List UInt8
  | 0 => []
  | k + 1 => cborL F kids k ++ F (kidT kids k)
def cborT : Nat → VT → List UInt8
  | 0, _ => []
  | f + 1, .mk kind n s keys kids =>
    if kind = 1 then [246] else if kind = 2 then [byI (244 + n)] else if kind = 3 then cborN n else if kind = 4 then cborW s
    else if kind = 5 then headC 4 kids.length ++ cborL (cborT f) kids kids.length
    else headC 5 kids.length ++ entC (cborT f) keys kids (byLen keys kids.length 61)
theorem cborT_leaf (f : Nat) {kind n : Int} {s : ByteArray} {keys : List ByteArray} {kids : List VT} :
    (kind = 1 → cborT (f + 1) (.mk kind n s keys kids) = [246]) ∧ (kind = 2 → cborT (f + 1) (.mk kind n s keys kids) = [byI (244 + n)]) ∧ (kind = 3 → cborT (f + 1) (.mk kind n s keys kids) = cborN n) ∧ (kind = 4 → cborT (f + 1) (.mk kind n s keys kids) = cborW s) ∧
    (kind = 5 → cborT (f + 1) (.mk kind n s keys kids) = headC 4 kids.length ++ cborL (cborT f) kids kids.length) ∧ (kind = 6 → cborT (f + 1) (.mk kind n s keys kids) = headC 5 kids.length ++ entC (cborT f) keys kids (byLen keys kids.length 61)) := by
  refine ⟨?_, ?_, ?_, ?_, ?_, ?_⟩ <;> (intro h; subst h; rw [cborT]; simp)
theorem entC_app (F : VT → List UInt8) (keys : List ByteArray) (kids : List VT) (a b : List Nat) : entC F keys kids (a ++ b) = entC F keys kids a ++ entC F keys kids b := by unfold entC; rw [List.flatMap_append]
theorem entC_one (F : VT → List UInt8) (keys : List ByteArray) (kids : List VT) (p : Nat) : entC F keys kids [p] = cborW (keyAt keys p) ++ F (kidT kids p) := by unfold entC; simp
theorem entC_perm (F : VT → List UInt8) (keys : List ByteArray) (kids : List VT) {a b : List Nat} (h : a.Perm b) : (entC F keys kids a).length = (entC F keys kids b).length := by
  unfold entC
  exact (h.flatMap_right _).length_eq
theorem cborT_pos {vs : List VN} (hok : okB vs = true) (f : Nat) {i : Nat} (hi : i < vs.length) : 1 ≤ (cborT (f + 1) (treeOf vs (f + 1) i)).length := by
  rw [treeOf]
  have hl := cborT_leaf f (kind := (nodeAt vs i).kind) (n := (nodeAt vs i).n) (s := (nodeAt vs i).s) (keys := (nodeAt vs i).keys) (kids := (nodeAt vs i).kids.map fun k => treeOf vs f k.toNat)
  rcases node_says hok hi with k | ⟨k, _⟩ | ⟨k, _⟩ | ⟨k, _⟩ | k | ⟨k, _⟩
  · rw [hl.1 k]; simp
  · rw [hl.2.1 k]; simp
  · rw [hl.2.2.1 k]; exact (cborN_len _).1
  · rw [hl.2.2.2.1 k]; exact (cborW_len _).1
  · rw [hl.2.2.2.2.1 k, List.length_append]; have := (headC_len 4 ((nodeAt vs i).kids.map fun k => treeOf vs f k.toNat).length).1; omega
  · rw [hl.2.2.2.2.2 k, List.length_append]; have := (headC_len 5 ((nodeAt vs i).kids.map fun k => treeOf vs f k.toNat).length).1; omega
/-- No more than so many bytes a node. -/
theorem cborT_le {vs : List VN} (hok : okB vs = true) : ∀ (f i : Nat) (sh : Nat), i < vs.length → i < f → (cborT f (treeOf vs f i)).length + 80 ≤ 200 * (layT f (treeOf vs f i) sh).length := by
  intro f
  induction f with
  | zero => intro i sh hi hf; omega
  | succ f ih =>
    intro i sh hi hf
    rw [treeOf]
    have hl := cborT_leaf f (kind := (nodeAt vs i).kind) (n := (nodeAt vs i).n) (s := (nodeAt vs i).s) (keys := (nodeAt vs i).keys) (kids := (nodeAt vs i).kids.map fun k => treeOf vs f k.toNat)
    rw [layT_eq]
    have hkid : ∀ (E : Nat → List UInt8), E 0 = [] → (∀ k, k < (nodeAt vs i).kids.length → (E (k + 1)).length ≤ (E k).length + 69 + (cborT f (treeOf vs f (intAt (nodeAt vs i).kids k).toNat)).length) → ∀ k, k ≤ (nodeAt vs i).kids.length →
        (E k).length ≤ 200 * (accT f sh ((nodeAt vs i).kids.map fun k => treeOf vs f k.toNat) k).length := by
      intro E hE0 hE k
      induction k with
      | zero => intro _; rw [hE0]; simp
      | succ k ihk =>
        intro hk
        have h1 := ihk (by omega)
        rw [accT_succ f sh (by rw [List.length_map]; omega), List.length_append, kidT_map (by omega)]
        obtain ⟨_, p2, _, _⟩ := okB_parts hok
        have hki := kidsIn_get (p2 i hi).2 (j := k) (by omega)
        have h2 := ih (intAt (nodeAt vs i).kids k).toNat (sh + (accT f sh ((nodeAt vs i).kids.map fun k => treeOf vs f k.toNat) k).length) (by omega) (by omega)
        have h3 := hE k (by omega)
        omega
    simp only [List.length_append, List.length_cons, List.length_nil, List.length_map]
    rcases node_says hok hi with k | ⟨k, _⟩ | ⟨k, _⟩ | ⟨k, hs⟩ | k | ⟨k, hkk, hks⟩
    · rw [hl.1 k]; simp; omega
    · rw [hl.2.1 k]; simp; omega
    · rw [hl.2.2.1 k]; have := (cborN_len (nodeAt vs i).n).2; omega
    · rw [hl.2.2.2.1 k]; have := (cborW_len (nodeAt vs i).s).2; omega
    · rw [hl.2.2.2.2.1 k, List.length_append]
      have h1 := (headC_len 4 ((nodeAt vs i).kids.map fun k => treeOf vs f k.toNat).length).2
      have h2 := hkid (cborL (cborT f) ((nodeAt vs i).kids.map fun k => treeOf vs f k.toNat)) rfl (fun k hk => by rw [cborL, List.length_append, kidT_map hk]; omega) _ (Nat.le_refl _)
      simp only [List.length_map] at h1 h2 ⊢
      omega
    · rw [hl.2.2.2.2.2 k, List.length_append]
      have h1 := (headC_len 5 ((nodeAt vs i).kids.map fun k => treeOf vs f k.toNat).length).2
      have h3 := entC_perm (cborT f) (nodeAt vs i).keys ((nodeAt vs i).kids.map fun k => treeOf vs f k.toNat) (byLen_perm (l := (nodeAt vs i).keys) (M := (nodeAt vs i).kids.length) (S := 61) (fun p hp => by have := hks p (by omega); omega))
      have h2 := hkid (fun k => entC (cborT f) (nodeAt vs i).keys ((nodeAt vs i).kids.map fun k => treeOf vs f k.toNat) (List.range k)) rfl (fun k hk => by
        rw [List.range_succ, entC_app, entC_one, List.length_append, List.length_append, kidT_map hk]
        have := (cborW_len (keyAt (nodeAt vs i).keys k)).2
        have := hks k (by omega)
        omega) _ (Nat.le_refl _)
      simp only [List.length_map] at h1 h2 h3 ⊢
      omega
theorem cborT_16k {vs : List VN} (hok : okB vs = true) {f i : Nat} (hi : i < vs.length) (hf : i < f) : (cborT f (treeOf vs f i)).length ≤ 16000 := by
  have h1 := cborT_le hok f i 0 hi hf
  have h2 := lay_part hok hf hi
  rw [h2.1] at h1
  have := h2.2
  omega
theorem cborL_mono (F : VT → List UInt8) (kids : List VT) {j k : Nat} (h : j ≤ k) : (cborL F kids j).length ≤ (cborL F kids k).length := by
  induction k with
  | zero => obtain rfl : j = 0 := by omega
            exact Nat.le_refl _
  | succ k ih =>
    by_cases e : j = k + 1
    · subst e; exact Nat.le_refl _
    · have := ih (by omega)
      rw [cborL, List.length_append]; omega
theorem entC_take (F : VT → List UInt8) (keys : List ByteArray) (kids : List VT) (ps : List Nat) (j : Nat) : (entC F keys kids (ps.take j)).length ≤ (entC F keys kids ps).length := by
  have : entC F keys kids ps = entC F keys kids (ps.take j) ++ entC F keys kids (ps.drop j) := by rw [← entC_app, List.take_append_drop]
  rw [this, List.length_append]; omega
end Go.Proofs.YtagcgnhpdmhegaaGreatDoor

/-
  Plain: what is written as CBOR is read again.
-/
namespace Go.Proofs.YtagcgnhpdmhegaaGreatDoor
open Go.RowKit
set_option linter.unusedSimpArgs false
set_option linter.unusedVariables false

theorem two_step {st : Nat} (h : st ≤ 3) : 24 + st - 24 = st := by omega
theorem head_sit {L : List UInt8} {p k n : Nat} (hk : k ≤ 5) (hn : n ≤ 1000000000000000) (h : Sit L p (headC k (n : Int))) : p < L.length ∧ byAt L p / 32 = k ∧ headI L p = some (n, p + (headC k (n : Int)).length) ∧ byAt L p < 192 := by
  by_cases hl : (n : Int) < 24
  · rw [headC_low hl] at h ⊢
    have hb : byAt L (p + 0) = (byI ((32 : Int) * (k : Int) + (n : Int))).toNat := h.byte rfl
    rw [Nat.add_zero] at hb
    have h2 := byI_int ((32 : Int) * (k : Int) + (n : Int))
    have h3 := h.len
    rw [List.length_cons, List.length_nil] at h3 ⊢
    have e : byAt L p = 32 * k + n := by omega
    refine ⟨by omega, by omega, ?_, by omega⟩
    unfold headI
    rw [if_pos (by omega)]
    congr 2
    omega
  · obtain ⟨st, hst⟩ : ∃ st, stepI (n : Int) = st := ⟨_, rfl⟩
    have h3st : st ≤ 3 := by rw [← hst]; exact stepI_le _
    rw [headC_big hl hst rfl] at h ⊢
    have hb : byAt L (p + 0) = (byI ((32 : Int) * (k : Int) + 24 + (st : Int))).toNat := h.byte rfl
    rw [Nat.add_zero] at hb
    have h2 := byI_int ((32 : Int) * (k : Int) + 24 + (st : Int))
    have h3 := h.len
    rw [List.length_cons, bigB_len] at h3 ⊢
    have e : byAt L p = 32 * k + 24 + st := by omega
    have hs : Sit L (p + 1) (bigB (n : Int) (2 ^ st)) := Sit.right (A := [byI ((32 : Int) * (k : Int) + 24 + (st : Int))]) h
    have hbig := big_sit hs (by rw [← hst]; exact stepI_nat n hn)
    have e2 : byAt L p % 32 = 24 + st := by omega
    obtain ⟨P, hP⟩ : ∃ P, 2 ^ st = P := ⟨_, rfl⟩
    rw [hP] at h3 hbig ⊢
    refine ⟨by omega, by omega, ?_, by omega⟩
    unfold headI
    rw [if_neg (by omega), if_pos (by omega), e2, two_step h3st, hP]
    unfold numI
    rw [hbig, if_pos ⟨by omega, by unfold maxI; omega⟩, show p + 1 + P = p + (P + 1) by omega]
theorem num_sit {L : List UInt8} {p g : Nat} {n : Int} (h1 : -1000000000000000 ≤ n) (h2 : n ≤ 1000000000000000) (h : Sit L p (cborN n)) : rdC L (g + 1) p = some (numT n, p + (cborN n).length) := by
  unfold cborN at h ⊢
  by_cases hn : n < 0
  · rw [if_pos hn] at h ⊢
    obtain ⟨m, hm⟩ : ∃ m : Nat, -1 - n = m := ⟨(-1 - n).toNat, by omega⟩
    rw [hm] at h ⊢
    obtain ⟨a1, a2, a3, a4⟩ := head_sit (by omega) (by omega) h
    rw [rdC_head a1 (by omega), a3]
    show kindI L (rdC L g) (byAt L p / 32) m _ = _
    rw [a2]
    show some (numT (-1 - (m : Int)), _) = _
    rw [← hm, show (-1 - (-1 - n)) = n by omega]
  · rw [if_neg hn] at h ⊢
    obtain ⟨m, hm⟩ : ∃ m : Nat, n = m := ⟨n.toNat, by omega⟩
    rw [hm] at h ⊢
    obtain ⟨a1, a2, a3, a4⟩ := head_sit (by omega) (by omega) h
    rw [rdC_head a1 (by omega), a3]
    show kindI L (rdC L g) (byAt L p / 32) m _ = _
    rw [a2]
    rfl
theorem word_sit {L : List UInt8} {p g : Nat} {s : ByteArray} (hs : s.size ≤ 60) (h : Sit L p (cborW s)) : rdC L (g + 1) p = some (wordT s, p + (cborW s).length) := by
  unfold cborW at h ⊢
  have hl := len_is s
  obtain ⟨a1, a2, a3, a4⟩ := head_sit (by omega) (by omega) h.left
  have h2 := h.right
  have h3 := h2.len
  rw [rdC_head a1 (by omega), a3]
  show kindI L (rdC L g) (byAt L p / 32) s.size _ = _
  rw [a2]
  show wordI L s.size _ = _
  unfold wordI
  rw [if_pos (by omega), h2.cut, List.length_append, hl, Nat.add_assoc]
theorem list_sit {L : List UInt8} {R : Nat → Option (VT × Nat)} {F : VT → List UInt8} {kids : List VT} (H : ∀ j, j < kids.length → ∀ p, Sit L p (F (kidT kids j)) → R p = some (kidT kids j, p + (F (kidT kids j)).length)) {p : Nat} : ∀ k, k ≤ kids.length → Sit L p (cborL F kids k) → rdItems R k p = some (kids.take k, p + (cborL F kids k).length) := by
  intro k
  induction k with
  | zero => intro _ _; simp [rdItems, cborL]
  | succ k ih =>
    intro hk h
    rw [cborL] at h ⊢
    have h1 := ih (by omega) h.left
    have h2 := H k (by omega) _ h.right
    rw [items_snoc h1 h2, List.length_append, Nat.add_assoc]
    congr 2
    rw [List.take_add_one, List.getElem?_eq_getElem (by omega)]
    unfold kidT
    rw [List.getD_eq_getElem?_getD, List.getElem?_eq_getElem (by omega)]
    rfl
theorem pairs_sit {L : List UInt8} {R : Nat → Option (VT × Nat)} {F : VT → List UInt8} {keys : List ByteArray} {kids : List VT} : ∀ (ps : List Nat), (∀ j ∈ ps, ∀ p, Sit L p (F (kidT kids j)) → R p = some (kidT kids j, p + (F (kidT kids j)).length)) → (∀ j ∈ ps, ∀ p, Sit L p (cborW (keyAt keys j)) → R p = some (wordT (keyAt keys j), p + (cborW (keyAt keys j)).length)) → ∀ p, Sit L p (entC F keys kids ps) → rdPairs R ps.length p = some (ps.map (keyAt keys), ps.map (kidT kids), p + (entC F keys kids ps).length) := by
  intro ps
  induction ps with
  | nil => intro _ _ p _; simp [rdPairs, entC]
  | cons x ps ih =>
    intro H HW p h
    have e : entC F keys kids (x :: ps) = cborW (keyAt keys x) ++ (F (kidT kids x) ++ entC F keys kids ps) := by unfold entC; rw [List.flatMap_cons, List.append_assoc]
    rw [e] at h ⊢
    have h1 := HW x (by simp) p h.left
    have h2 := H x (by simp) _ h.right.left
    have h3 := ih (fun j hj => H j (by simp [hj])) (fun j hj => HW j (by simp [hj])) _ h.right.right
    rw [List.length_cons, rdPairs, h1]
    show (match textOf (wordT (keyAt keys x)) with | none => none | some s => _) = _
    rw [show textOf (wordT (keyAt keys x)) = some (keyAt keys x) from rfl]
    dsimp only
    rw [h2]
    dsimp only
    rw [h3]
    simp only [List.map_cons, List.length_append]
    congr 3
    omega
end Go.Proofs.YtagcgnhpdmhegaaGreatDoor

/-
  Plain: a tree that is written as CBOR is read again.
-/
namespace Go.Proofs.YtagcgnhpdmhegaaGreatDoor
open Go.RowKit
set_option linter.unusedSimpArgs false
set_option linter.unusedVariables false

theorem keyAt_map {keys : List ByteArray} {ps : List Nat} {j : Nat} (hj : j < ps.length) : keyAt (ps.map (keyAt keys)) j = keyAt keys (ps.getD j 0) := by
  conv => lhs; unfold keyAt
  rw [List.getD_eq_getElem?_getD, List.getElem?_map, List.getD_eq_getElem?_getD, List.getElem?_eq_getElem hj]
  rfl
theorem kidAt_map {kids : List VT} {ps : List Nat} {j : Nat} (hj : j < ps.length) : kidT (ps.map (kidT kids)) j = kidT kids (ps.getD j 0) := by
  conv => lhs; unfold kidT
  rw [List.getD_eq_getElem?_getD, List.getElem?_map, List.getD_eq_getElem?_getD, List.getElem?_eq_getElem hj]
  rfl
theorem range_getD (ps : List Nat) : (List.range ps.length).map (fun j => ps.getD j 0) = ps := by
  apply List.ext_getElem?
  intro i
  rw [List.getElem?_map]
  by_cases h : i < ps.length
  · rw [List.getElem?_range h, Option.map_some, List.getD_eq_getElem?_getD, List.getElem?_eq_getElem h]; rfl
  · rw [List.getElem?_eq_none (by simp; omega), List.getElem?_eq_none (by omega)]; rfl
/-- A map whose entries came in another order. -/
theorem map_back {keys : List ByteArray} {kids : List VT} (hl : keys.length = kids.length) (hr : riseB keys = true) {ps : List Nat} (hp : ps.Perm (List.range keys.length)) : mapT (ps.map (keyAt keys)) (ps.map (kidT kids)) = .mk 6 0 ByteArray.empty keys kids := by
  have hpl : ps.length = keys.length := by rw [hp.length_eq]; simp
  have hnd : ps.Nodup := hp.nodup_iff.2 List.nodup_range
  obtain ⟨ks, hks⟩ : ∃ ks, ps.map (keyAt keys) = ks := ⟨_, rfl⟩
  have hkl : ks.length = keys.length := by rw [← hks, List.length_map, hpl]
  have hka : ∀ j, j < keys.length → keyAt ks j = keyAt keys (ps.getD j 0) := fun j hj => by rw [← hks]; exact keyAt_map (by omega)
  have hin : ∀ j, j < keys.length → ps.getD j 0 < keys.length := fun j hj => by
    have : ps.getD j 0 ∈ ps := by rw [List.getD_eq_getElem?_getD, List.getElem?_eq_getElem (show j < ps.length by omega)]; exact List.getElem_mem _
    exact List.mem_range.1 (hp.mem_iff.1 this)
  have hsm : ∀ x ∈ srt ks, x < keys.length := fun x hx => by rw [← hkl]; exact srt_mem.1 hx
  have hA1 : ((srt ks).map fun j => ps.getD j 0).Perm (List.range keys.length) := by
    have h1 := (srt_perm ks).map (fun j => ps.getD j 0)
    rw [hkl, ← hpl, range_getD] at h1
    exact h1.trans hp
  have hA2 : ((srt ks).map fun j => ps.getD j 0).Pairwise (· < ·) := by
    rw [List.pairwise_map]
    refine List.Pairwise.imp_of_mem (fun {a b} ha hb hab => ?_) (srt_rises ks)
    have ha' := hsm a ha
    have hb' := hsm b hb
    rcases Nat.lt_trichotomy (ps.getD a 0) (ps.getD b 0) with h | h | h
    · exact h
    · exfalso
      have e : a = b := by
        rw [List.getD_eq_getElem?_getD, List.getD_eq_getElem?_getD, List.getElem?_eq_getElem (show a < ps.length by omega), List.getElem?_eq_getElem (show b < ps.length by omega)] at h
        rcases Nat.lt_trichotomy a b with l | l | l
        · exact absurd h (List.pairwise_iff_getElem.1 hnd a b _ _ l)
        · exact l
        · exact absurd h.symm (List.pairwise_iff_getElem.1 hnd b a _ _ l)
      subst e
      exact (rk_tot ks).asym _ _ hab hab
    · exfalso
      have h2 := keys_less hr (ps.getD a 0 - ps.getD b 0 - 1) (ps.getD b 0) (by have := hin a ha'; omega)
      rw [show ps.getD b 0 + (ps.getD a 0 - ps.getD b 0 - 1) + 1 = ps.getD a 0 by omega, ← hka a ha', ← hka b hb'] at h2
      exact (rk_tot ks).asym _ _ hab (cfK_less h2)
  have hA : ((srt ks).map fun j => ps.getD j 0) = List.range keys.length :=
    List.Perm.eq_of_pairwise (fun a b _ _ h1 h2 => by omega) hA2 List.pairwise_lt_range hA1
  have e1 : (srt ks).map (keyAt ks) = keys := by
    rw [← range_keys keys, ← hA, List.map_map]
    refine List.map_congr_left fun j hj => ?_
    exact hka j (hsm j hj)
  have e2 : (srt ks).map (kidT (ps.map (kidT kids))) = kids := by
    have : ∀ j ∈ srt ks, kidT (ps.map (kidT kids)) j = kidT kids (ps.getD j 0) := fun j hj => kidAt_map (by have := hsm j hj; omega)
    rw [List.map_congr_left this]
    have h3 : (srt ks).map (fun j => kidT kids (ps.getD j 0)) = ((srt ks).map fun j => ps.getD j 0).map (kidT kids) := by rw [List.map_map]; rfl
    rw [h3, hA, hl, range_kids]
  rw [mapT, hks, e1, e2]
end Go.Proofs.YtagcgnhpdmhegaaGreatDoor
