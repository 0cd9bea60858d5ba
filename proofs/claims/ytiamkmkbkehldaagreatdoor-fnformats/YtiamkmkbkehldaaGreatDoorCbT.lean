/-
  Plain: MessagePack as the program reads it and as the specification does; that both say the same.
-/
import Derived.Test.YtiamkmkbkehldaaGreatDoorRdN
import Derived.Test.YtiamkmkbkehldaaGreatDoorCbP
import Derived.Test.YtiamkmkbkehldaaGreatDoorPkT
namespace Go.Proofs.YtiamkmkbkehldaaGreatDoor
open Go.RowKit
set_option linter.unusedSimpArgs false
set_option linter.unusedVariables false

/-- Two's complement. -/
def sgnN (w x : Nat) : Int := if 2 * x < 256 ^ w then (x : Int) else (x : Int) - ((256 ^ w : Nat) : Int)
def sgnI (L : List UInt8) (p w : Nat) : Option (VT × Nat) := if p + w ≤ L.length then some (numT (sgnN w (bigN L p w)), p + w) else none
def numV (L : List UInt8) (p w : Nat) : Option (VT × Nat) := match numI L p w with
  | none => none
  | some (n, q) => some (numT n, q)
def longV (L : List UInt8) (p w : Nat) : Option (VT × Nat) := match numI L p w with
  | none => none
  | some (n, q) => wordI L n q
def rowV (R : Nat → Option (VT × Nat)) (L : List UInt8) (named : Bool) (p w : Nat) : Option (VT × Nat) := match numI L p w with
  | none => none
  | some (n, q) => rowT R named n q
/-- The program's reading. -/
def rdP (L : List UInt8) : Nat → Nat → Option (VT × Nat)
  | 0, _ => none
  | f + 1, p =>
    if L.length ≤ p then none
    else if byAt L p < 128 then some (numT (byAt L p), p + 1)
    else if byAt L p < 144 then rowT (rdP L f) true (byAt L p - 128) (p + 1)
    else if byAt L p < 160 then rowT (rdP L f) false (byAt L p - 144) (p + 1)
    else if byAt L p < 192 then wordI L (byAt L p - 160) (p + 1)
    else if 224 ≤ byAt L p then some (numT ((byAt L p : Int) - 256), p + 1)
    else if byAt L p = 192 then some (nullT, p + 1)
    else if byAt L p = 194 then some (boolT 0, p + 1)
    else if byAt L p = 195 then some (boolT 1, p + 1)
    else if byAt L p < 204 then none
    else if byAt L p < 208 then numV L (p + 1) (2 ^ (byAt L p - 204))
    else if byAt L p < 212 then sgnI L (p + 1) (2 ^ (byAt L p - 208))
    else if byAt L p < 217 then none
    else if byAt L p < 220 then longV L (p + 1) (2 ^ (byAt L p - 217))
    else if byAt L p < 222 then rowV (rdP L f) L false (p + 1) (2 * 2 ^ (byAt L p - 220))
    else rowV (rdP L f) L true (p + 1) (2 * 2 ^ (byAt L p - 222))
theorem rdP_num {L : List UInt8} {f p : Nat} (hp : p < L.length) (h : byAt L p < 128) : rdP L (f + 1) p = some (numT (byAt L p), p + 1) := by
  rw [rdP, if_neg (by omega), if_pos (by omega)]
theorem rdP_neg {L : List UInt8} {f p : Nat} (hp : p < L.length) (h : 224 ≤ byAt L p) : rdP L (f + 1) p = some (numT ((byAt L p : Int) - 256), p + 1) := by
  rw [rdP, if_neg (by omega), if_neg (by omega), if_neg (by omega), if_neg (by omega), if_neg (by omega), if_pos (by omega)]
theorem rdP_null {L : List UInt8} {f p : Nat} (hp : p < L.length) (h : byAt L p = 192) : rdP L (f + 1) p = some (nullT, p + 1) := by
  rw [rdP, if_neg (by omega), if_neg (by omega), if_neg (by omega), if_neg (by omega), if_neg (by omega), if_neg (by omega), if_pos (by omega)]
theorem rdP_no {L : List UInt8} {f p : Nat} (hp : p < L.length) (h : byAt L p = 194) : rdP L (f + 1) p = some (boolT 0, p + 1) := by
  rw [rdP, if_neg (by omega), if_neg (by omega), if_neg (by omega), if_neg (by omega), if_neg (by omega), if_neg (by omega), if_neg (by omega), if_pos (by omega)]
theorem rdP_yes {L : List UInt8} {f p : Nat} (hp : p < L.length) (h : byAt L p = 195) : rdP L (f + 1) p = some (boolT 1, p + 1) := by
  rw [rdP, if_neg (by omega), if_neg (by omega), if_neg (by omega), if_neg (by omega), if_neg (by omega), if_neg (by omega), if_neg (by omega), if_neg (by omega), if_pos (by omega)]
theorem rdP_wide {L : List UInt8} {f p : Nat} (hp : p < L.length) (h : 204 ≤ byAt L p ∧ byAt L p < 208) : rdP L (f + 1) p = numV L (p + 1) (2 ^ (byAt L p - 204)) := by
  rw [rdP, if_neg (by omega), if_neg (by omega), if_neg (by omega), if_neg (by omega), if_neg (by omega), if_neg (by omega), if_neg (by omega), if_neg (by omega), if_neg (by omega), if_neg (by omega), if_pos (by omega)]
theorem rdP_sgn {L : List UInt8} {f p : Nat} (hp : p < L.length) (h : 208 ≤ byAt L p ∧ byAt L p < 212) : rdP L (f + 1) p = sgnI L (p + 1) (2 ^ (byAt L p - 208)) := by
  rw [rdP, if_neg (by omega), if_neg (by omega), if_neg (by omega), if_neg (by omega), if_neg (by omega), if_neg (by omega), if_neg (by omega), if_neg (by omega), if_neg (by omega), if_neg (by omega), if_neg (by omega), if_pos (by omega)]
end Go.Proofs.YtiamkmkbkehldaaGreatDoor

/-
  Plain: CBOR as the program reads it and as the specification does; that both say the same.
-/
namespace Go.Proofs.YtiamkmkbkehldaaGreatDoor
open Go.RowKit
set_option linter.unusedSimpArgs false
set_option linter.unusedVariables false

/-- A head's number, by the program and by the specification. -/
def headI (L : List UInt8) (p : Nat) : Option (Nat × Nat) := if byAt L p % 32 < 24 then some (byAt L p % 32, p + 1) else if byAt L p % 32 < 28 then numI L (p + 1) (2 ^ (byAt L p % 32 - 24)) else none
/-- What stands behind a head. -/
def kindI (L : List UInt8) (R : Nat → Option (VT × Nat)) (major n q : Nat) : Option (VT × Nat) :=
  if major = 0 then some (numT n, q) else if major = 1 then some (numT (-1 - (n : Int)), q) else if major = 3 then wordI L n q
  else if major = 4 then rowT R false n q else if major = 5 then rowT R true n q else none
def rdC (L : List UInt8) : Nat → Nat → Option (VT × Nat)
  | 0, _ => none
  | f + 1, p =>
    if L.length ≤ p then none
    else if byAt L p = 246 then some (nullT, p + 1)
    else if byAt L p = 244 then some (boolT 0, p + 1)
    else if byAt L p = 245 then some (boolT 1, p + 1)
    else match headI L p with
      | none => none
      | some (n, q) => kindI L (rdC L f) (byAt L p / 32) n q
theorem rdC_null {L : List UInt8} {f p : Nat} (hp : p < L.length) (h : byAt L p = 246) : rdC L (f + 1) p = some (nullT, p + 1) := by rw [rdC, if_neg (by omega), if_pos h]
theorem rdC_no {L : List UInt8} {f p : Nat} (hp : p < L.length) (h : byAt L p = 244) : rdC L (f + 1) p = some (boolT 0, p + 1) := by rw [rdC, if_neg (by omega), if_neg (by omega), if_pos h]
theorem rdC_yes {L : List UInt8} {f p : Nat} (hp : p < L.length) (h : byAt L p = 245) : rdC L (f + 1) p = some (boolT 1, p + 1) := by rw [rdC, if_neg (by omega), if_neg (by omega), if_neg (by omega), if_pos h]
theorem rdC_head {L : List UInt8} {f p : Nat} (hp : p < L.length) (h : byAt L p < 244 ∨ 246 < byAt L p) : rdC L (f + 1) p = match headI L p with | none => none | some (n, q) => kindI L (rdC L f) (byAt L p / 32) n q := by rw [rdC, if_neg (by omega), if_neg (by omega), if_neg (by omega), if_neg (by omega)]
end Go.Proofs.YtiamkmkbkehldaaGreatDoor

/-
  Plain: keys by their lengths, and CBOR's bytes of a tree.
-/
namespace Go.Proofs.YtiamkmkbkehldaaGreatDoor
open Go.RowKit
set_option linter.unusedSimpArgs false
set_option linter.unusedVariables false

/-- The lengths of the texts at two places, held against each other. -/
def cfL (l : List ByteArray) (x y : Int) : Int := cmpI (keyAt l x.toNat).size (keyAt l y.toNat).size
def RL (l : List ByteArray) (x y : Int) : Prop := cfL l x y < 0 ∨ (cfL l x y = 0 ∧ x < y)
theorem cfL_lt {l : List ByteArray} {x y : Int} : cfL l x y < 0 ↔ (keyAt l x.toNat).size < (keyAt l y.toNat).size := by
  unfold cfL cmpI; split <;> (try split) <;> omega
theorem cfL_eq {l : List ByteArray} {x y : Int} : cfL l x y = 0 ↔ (keyAt l x.toNat).size = (keyAt l y.toNat).size := by
  unfold cfL cmpI; split <;> (try split) <;> omega
theorem rl_iff {l : List ByteArray} {x y : Int} : RL l x y ↔ (keyAt l x.toNat).size < (keyAt l y.toNat).size ∨ ((keyAt l x.toNat).size = (keyAt l y.toNat).size ∧ x < y) := by
  unfold RL; rw [cfL_lt, cfL_eq]
theorem rl_tot (l : List ByteArray) : Tot (RL l) := by
  refine ⟨fun x y z h1 h2 => ?_, fun x y h1 h2 => ?_, fun x y h => ?_⟩
  · rw [rl_iff] at *; omega
  · rw [rl_iff] at *; omega
  · rw [rl_iff, rl_iff]; omega
theorem rl_cross (l : List ByteArray) : ∀ x y : Int, x < y → (cfL l y x < 0 ↔ RL l y x) := fun x y h => by
  rw [rl_iff, cfL_lt]; omega

/-- The places below 'i' whose texts have this length. -/
def ofLen (l : List ByteArray) (i S : Nat) : List Nat := (List.range i).filter fun p => (keyAt l p).size == S
/-- The places of the texts shorter than 'S', by their lengths. -/
def byLen (l : List ByteArray) (M : Nat) : Nat → List Nat
  | 0 => []
  | S + 1 => byLen l M S ++ ofLen l M S
theorem ofLen_mem {l : List ByteArray} {i S p : Nat} : p ∈ ofLen l i S ↔ p < i ∧ (keyAt l p).size = S := by
  unfold ofLen; rw [List.mem_filter, List.mem_range]; simp
theorem byLen_mem {l : List ByteArray} {M S p : Nat} : p ∈ byLen l M S ↔ p < M ∧ (keyAt l p).size < S := by
  induction S with
  | zero => simp [byLen]
  | succ S ih => rw [byLen, List.mem_append, ih, ofLen_mem]; omega
theorem byLen_rises (l : List ByteArray) (M S : Nat) : (byLen l M S).Pairwise fun (a b : Nat) => RL l (a : Int) (b : Int) := by
  induction S with
  | zero => exact List.Pairwise.nil
  | succ S ih =>
    rw [byLen, List.pairwise_append]
    refine ⟨ih, ?_, fun a ha b hb => ?_⟩
    · have h1 : (ofLen l M S).Pairwise (· < ·) := List.Pairwise.filter _ (List.pairwise_lt_range)
      refine List.Pairwise.imp_of_mem (fun {a b} ha hb hab => ?_) h1
      have := (ofLen_mem.1 ha).2
      have := (ofLen_mem.1 hb).2
      rw [rl_iff, Int.toNat_natCast, Int.toNat_natCast]
      omega
    · have := (byLen_mem.1 ha).2
      have := (ofLen_mem.1 hb).2
      rw [rl_iff, Int.toNat_natCast, Int.toNat_natCast]
      omega
theorem byLen_nodup (l : List ByteArray) (M S : Nat) : (byLen l M S).Nodup := (byLen_rises l M S).imp fun {a b} h e => by subst e; exact (rl_tot l).asym _ _ h h
theorem byLen_perm {l : List ByteArray} {M S : Nat} (h : ∀ p, p < M → (keyAt l p).size < S) : (byLen l M S).Perm (List.range M) :=
  (List.perm_ext_iff_of_nodup (byLen_nodup l M S) List.nodup_range).2 fun p => by rw [byLen_mem, List.mem_range]; exact ⟨fun h => h.1, fun hp => ⟨hp, h p hp⟩⟩
/-- The program's places are those. -/
theorem places_len {l : List ByteArray} {S : Nat} {f : Nat → Int} (h : ∀ p, p < l.length → (keyAt l p).size < S) (hf : Blk (RL l) (fun p => (p : Int)) f 0 l.length) : (List.range l.length).map f = (byLen l l.length S).map fun n : Nat => (n : Int) := by
  refine one_order (rl_tot l) (N := l.length) (rises_list hf.2) ?_ (by simp) (by rw [List.length_map, (byLen_perm h).length_eq]; simp) ?_ ?_
  · rw [List.pairwise_map]; exact byLen_rises l _ _
  · intro x hx
    obtain ⟨j, hj, rfl⟩ := List.mem_map.1 hx
    obtain ⟨q, q1, q2, q3⟩ := hf.1 j (Nat.zero_le _) (List.mem_range.1 hj)
    simp only at q3
    omega
  · intro x hx
    obtain ⟨n, hn, rfl⟩ := List.mem_map.1 hx
    have := (byLen_mem.1 hn).1
    omega
theorem place_at {l : List ByteArray} {S : Nat} {f : Nat → Int} (h : ∀ p, p < l.length → (keyAt l p).size < S) (hf : Blk (RL l) (fun p => (p : Int)) f 0 l.length) {j : Nat} (hj : j < l.length) : ∃ p : Nat, f j = p ∧ p < l.length ∧ (byLen l l.length S)[j]? = some p := by
  have h1 := places_len h hf
  have h2 : ((List.range l.length).map f)[j]? = some (f j) := by simp [hj]
  rw [h1, List.getElem?_map] at h2
  obtain ⟨p, hp, e⟩ := Option.map_eq_some_iff.1 h2
  exact ⟨p, e.symm, (byLen_mem.1 (List.mem_of_getElem? hp)).1, hp⟩

/-- The bytes of the entries at these places. -/
def entC (F : VT → List UInt8) (keys : List ByteArray) (kids : List VT) (ps : List Nat) : List UInt8 := ps.flatMap fun p => cborW (keyAt keys p) ++ F (kidT kids p)
def cborL (F : VT → List UInt8) (kids : List VT) : Nat → List UInt8
  | 0 => []
  | k + 1 => cborL F kids k ++ F (kidT kids k)
def cborT : Nat → VT → List UInt8
  | 0, _ => []
  | f + 1, .mk kind n s keys kids =>
    if kind = 1 then [246] else if kind = 2 then [byI (244 + n)] else if kind = 3 then cborN n else if kind = 4 then cborW s
    else if kind = 5 then headC 4 kids.length ++ cborL (cborT f) kids kids.length
    else headC 5 kids.length ++ entC (cborT f) keys kids (byLen keys kids.length 61)
theorem cborT_leaf (f : Nat) {kind n : Int} {s : ByteArray} {keys : List ByteArray} {kids : List VT} :
    (kind = 1 → cborT (f + 1) (.mk kind n s keys kids) = [246]) ∧ (kind = 2 → cborT (f + 1) (.mk kind n s keys kids) = [byI (244 + n)]) ∧ (kind = 3 → cborT (f + 1) (.mk kind n s keys kids) = cborN n) ∧ (kind = 4 → cborT (f + 1) (.mk kind n s keys kids) = cborW s) ∧
    (kind = 5 → cborT (f + 1) (.mk kind n s keys kids) = headC 4 kids.length ++ cborL (cborT f) kids kids.length) ∧ (kind = 6 → cborT (f + 1) (.mk kind n s keys kids) = headC 5 kids.length ++ entC (cborT f) keys kids (byLen keys kids.length 61)) := by
  refine ⟨?_, ?_, ?_, ?_, ?_, ?_⟩ <;> (intro h; subst h; rw [cborT]; simp)
theorem entC_app (F : VT → List UInt8) (keys : List ByteArray) (kids : List VT) (a b : List Nat) : entC F keys kids (a ++ b) = entC F keys kids a ++ entC F keys kids b := by unfold entC; rw [List.flatMap_append]
theorem entC_one (F : VT → List UInt8) (keys : List ByteArray) (kids : List VT) (p : Nat) : entC F keys kids [p] = cborW (keyAt keys p) ++ F (kidT kids p) := by unfold entC; simp
theorem entC_perm (F : VT → List UInt8) (keys : List ByteArray) (kids : List VT) {a b : List Nat} (h : a.Perm b) : (entC F keys kids a).length = (entC F keys kids b).length := by
  unfold entC
  exact (h.flatMap_right _).length_eq
theorem cborT_pos {vs : List VN} (hok : okB vs = true) (f : Nat) {i : Nat} (hi : i < vs.length) : 1 ≤ (cborT (f + 1) (treeOf vs (f + 1) i)).length := by
  rw [treeOf]
  have hl := cborT_leaf f (kind := (nodeAt vs i).kind) (n := (nodeAt vs i).n) (s := (nodeAt vs i).s) (keys := (nodeAt vs i).keys) (kids := (nodeAt vs i).kids.map fun k => treeOf vs f k.toNat)
  rcases node_says hok hi with k | ⟨k, _⟩ | ⟨k, _⟩ | ⟨k, _⟩ | k | ⟨k, _⟩
  · rw [hl.1 k]; simp
  · rw [hl.2.1 k]; simp
  · rw [hl.2.2.1 k]; exact (cborN_len _).1
  · rw [hl.2.2.2.1 k]; exact (cborW_len _).1
  · rw [hl.2.2.2.2.1 k, List.length_append]; have := (headC_len 4 ((nodeAt vs i).kids.map fun k => treeOf vs f k.toNat).length).1; omega
  · rw [hl.2.2.2.2.2 k, List.length_append]; have := (headC_len 5 ((nodeAt vs i).kids.map fun k => treeOf vs f k.toNat).length).1; omega
/-- No more than so many bytes a node. -/
theorem cborT_le {vs : List VN} (hok : okB vs = true) : ∀ (f i : Nat) (sh : Nat), i < vs.length → i < f → (cborT f (treeOf vs f i)).length + 80 ≤ 200 * (layT f (treeOf vs f i) sh).length := by
  intro f
  induction f with
  | zero => intro i sh hi hf; omega
  | succ f ih =>
    intro i sh hi hf
    rw [treeOf]
    have hl := cborT_leaf f (kind := (nodeAt vs i).kind) (n := (nodeAt vs i).n) (s := (nodeAt vs i).s) (keys := (nodeAt vs i).keys) (kids := (nodeAt vs i).kids.map fun k => treeOf vs f k.toNat)
    rw [layT_eq]
    have hkid : ∀ (E : Nat → List UInt8), E 0 = [] → (∀ k, k < (nodeAt vs i).kids.length → (E (k + 1)).length ≤ (E k).length + 69 + (cborT f (treeOf vs f (intAt (nodeAt vs i).kids k).toNat)).length) → ∀ k, k ≤ (nodeAt vs i).kids.length →
        (E k).length ≤ 200 * (accT f sh ((nodeAt vs i).kids.map fun k => treeOf vs f k.toNat) k).length := by
      intro E hE0 hE k
      induction k with
      | zero => intro _; rw [hE0]; simp
      | succ k ihk =>
        intro hk
        have h1 := ihk (by omega)
        rw [accT_succ f sh (by rw [List.length_map]; omega), List.length_append, kidT_map (by omega)]
        obtain ⟨_, p2, _, _⟩ := okB_parts hok
        have hki := kidsIn_get (p2 i hi).2 (j := k) (by omega)
        have h2 := ih (intAt (nodeAt vs i).kids k).toNat (sh + (accT f sh ((nodeAt vs i).kids.map fun k => treeOf vs f k.toNat) k).length) (by omega) (by omega)
        have h3 := hE k (by omega)
        omega
    simp only [List.length_append, List.length_cons, List.length_nil, List.length_map]
    rcases node_says hok hi with k | ⟨k, _⟩ | ⟨k, _⟩ | ⟨k, hs⟩ | k | ⟨k, hkk, hks⟩
    · rw [hl.1 k]; simp; omega
    · rw [hl.2.1 k]; simp; omega
    · rw [hl.2.2.1 k]; have := (cborN_len (nodeAt vs i).n).2; omega
    · rw [hl.2.2.2.1 k]; have := (cborW_len (nodeAt vs i).s).2; omega
    · rw [hl.2.2.2.2.1 k, List.length_append]
      have h1 := (headC_len 4 ((nodeAt vs i).kids.map fun k => treeOf vs f k.toNat).length).2
      have h2 := hkid (cborL (cborT f) ((nodeAt vs i).kids.map fun k => treeOf vs f k.toNat)) rfl (fun k hk => by rw [cborL, List.length_append, kidT_map hk]; omega) _ (Nat.le_refl _)
      simp only [List.length_map] at h1 h2 ⊢
      omega
    · rw [hl.2.2.2.2.2 k, List.length_append]
      have h1 := (headC_len 5 ((nodeAt vs i).kids.map fun k => treeOf vs f k.toNat).length).2
      have h3 := entC_perm (cborT f) (nodeAt vs i).keys ((nodeAt vs i).kids.map fun k => treeOf vs f k.toNat) (byLen_perm (l := (nodeAt vs i).keys) (M := (nodeAt vs i).kids.length) (S := 61) (fun p hp => by have := hks p (by omega); omega))
      have h2 := hkid (fun k => entC (cborT f) (nodeAt vs i).keys ((nodeAt vs i).kids.map fun k => treeOf vs f k.toNat) (List.range k)) rfl (fun k hk => by
        rw [List.range_succ, entC_app, entC_one, List.length_append, List.length_append, kidT_map hk]
        have := (cborW_len (keyAt (nodeAt vs i).keys k)).2
        have := hks k (by omega)
        omega) _ (Nat.le_refl _)
      simp only [List.length_map] at h1 h2 h3 ⊢
      omega
theorem cborT_16k {vs : List VN} (hok : okB vs = true) {f i : Nat} (hi : i < vs.length) (hf : i < f) : (cborT f (treeOf vs f i)).length ≤ 16000 := by
  have h1 := cborT_le hok f i 0 hi hf
  have h2 := lay_part hok hf hi
  rw [h2.1] at h1
  have := h2.2
  omega
theorem cborL_mono (F : VT → List UInt8) (kids : List VT) {j k : Nat} (h : j ≤ k) : (cborL F kids j).length ≤ (cborL F kids k).length := by
  induction k with
  | zero => obtain rfl : j = 0 := by omega
            exact Nat.le_refl _
  | succ k ih =>
    by_cases e : j = k + 1
    · subst e; exact Nat.le_refl _
    · have := ih (by omega)
      rw [cborL, List.length_append]; omega
theorem entC_take (F : VT → List UInt8) (keys : List ByteArray) (kids : List VT) (ps : List Nat) (j : Nat) : (entC F keys kids (ps.take j)).length ≤ (entC F keys kids ps).length := by
  have : entC F keys kids ps = entC F keys kids (ps.take j) ++ entC F keys kids (ps.drop j) := by rw [← entC_app, List.take_append_drop]
  rw [this, List.length_append]; omega
end Go.Proofs.YtiamkmkbkehldaaGreatDoor
