/-
  Plain: a tree that is written as CBOR is read again.
-/
import Derived.Test.YtiamkmkbkehldaaGreatDoorYrB
import Derived.Test.YtiamkmkbkehldaaGreatDoorJbP
import Derived.Test.YtiamkmkbkehldaaGreatDoorCbT
import Derived.Test.YtiamkmkbkehldaaGreatDoorPkT
namespace Go.Proofs.YtiamkmkbkehldaaGreatDoor
open Go.RowKit
set_option linter.unusedSimpArgs false
set_option linter.unusedVariables false

theorem cborT_one : ∀ {f : Nat} {t : VT}, goodT f t → 1 ≤ (cborT f t).length
  | 0, _, h => h.elim
  | f + 1, .mk kind n s keys kids, h => by
    have hl := cborT_leaf f (kind := kind) (n := n) (s := s) (keys := keys) (kids := kids)
    rcases nodeT_says h.1 with ⟨k, _⟩ | ⟨k, _⟩ | ⟨k, _⟩ | ⟨k, _⟩ | ⟨k, _⟩ | ⟨k, _⟩
    · rw [hl.1 k]; simp
    · rw [hl.2.1 k]; simp
    · rw [hl.2.2.1 k]; exact (cborN_len _).1
    · rw [hl.2.2.2.1 k]; exact (cborW_len _).1
    · rw [hl.2.2.2.2.1 k, List.length_append]; have := (headC_len 4 (kids.length : Int)).1; omega
    · rw [hl.2.2.2.2.2 k, List.length_append]; have := (headC_len 5 (kids.length : Int)).1; omega
theorem cborL_many {F : VT → List UInt8} {kids : List VT} (h : ∀ j, j < kids.length → 1 ≤ (F (kidT kids j)).length) : ∀ k, k ≤ kids.length → k ≤ (cborL F kids k).length := by
  intro k
  induction k with
  | zero => intro _; simp
  | succ k ih => intro hk; have h1 := ih (by omega); have h2 := h k (by omega); rw [cborL, List.length_append]; omega
theorem entC_many {F : VT → List UInt8} {keys : List ByteArray} {kids : List VT} : ∀ (ps : List Nat), ps.length ≤ (entC F keys kids ps).length := by
  intro ps
  induction ps with
  | nil => simp
  | cons x ps ih =>
    have e : entC F keys kids (x :: ps) = cborW (keyAt keys x) ++ (F (kidT kids x) ++ entC F keys kids ps) := by unfold entC; rw [List.flatMap_cons, List.append_assoc]
    rw [e, List.length_append, List.length_append, List.length_cons]
    have := (cborW_len (keyAt keys x)).1
    omega
theorem read_cbor {L : List UInt8} (hL : L.length ≤ 1000000000000000) : ∀ (f g : Nat) (t : VT) (p : Nat), f ≤ g → goodT f t → Sit L p (cborT f t) → rdC L g p = some (t, p + (cborT f t).length) := by
  intro f
  induction f with
  | zero => intro g t p _ h; exact h.elim
  | succ f ih =>
    intro g t p hg h hs
    obtain ⟨g, rfl⟩ : ∃ k, g = k + 1 := ⟨g - 1, by omega⟩
    obtain ⟨kind, n, s, keys, kids⟩ := t
    have hl := cborT_leaf f (kind := kind) (n := n) (s := s) (keys := keys) (kids := kids)
    obtain ⟨h1, h2⟩ := h
    have H : ∀ j, j < kids.length → ∀ p, Sit L p (cborT f (kidT kids j)) → rdC L g p = some (kidT kids j, p + (cborT f (kidT kids j)).length) := fun j hj p hs => ih g _ p (by omega) (h2 j hj) hs
    rcases nodeT_says h1 with ⟨k, rfl, rfl, rfl, hm⟩ | ⟨k, hn, rfl, rfl, hm⟩ | ⟨k, hn, rfl, rfl, hm⟩ | ⟨k, rfl, hz, rfl, hm⟩ | ⟨k, rfl, rfl, rfl⟩ | ⟨k, rfl, rfl, hm, hr⟩
    · rw [hl.1 k] at hs ⊢
      have hb : byAt L (p + 0) = (246 : UInt8).toNat := hs.byte rfl
      have h3 := hs.len
      rw [List.length_cons, List.length_nil] at h3
      obtain rfl : kids = [] := List.eq_nil_of_length_eq_zero hm
      rw [rdC_null (by omega) (by rw [Nat.add_zero] at hb; rw [hb]; rfl), k]
      rfl
    · rw [hl.2.1 k] at hs ⊢
      have hb : byAt L (p + 0) = (byI (244 + n)).toNat := hs.byte rfl
      rw [Nat.add_zero] at hb
      have h3 := hs.len
      rw [List.length_cons, List.length_nil] at h3
      obtain rfl : kids = [] := List.eq_nil_of_length_eq_zero hm
      have h4 := byI_int (244 + n)
      rcases hn with rfl | rfl
      · rw [rdC_no (by omega) (by omega), k]; rfl
      · rw [rdC_yes (by omega) (by omega), k]; rfl
    · rw [hl.2.2.1 k] at hs ⊢
      obtain rfl : kids = [] := List.eq_nil_of_length_eq_zero hm
      rw [num_sit hn.1 hn.2 hs, k]
      rfl
    · rw [hl.2.2.2.1 k] at hs ⊢
      obtain rfl : kids = [] := List.eq_nil_of_length_eq_zero hm
      rw [word_sit hz hs, k]
      rfl
    · rw [hl.2.2.2.2.1 k] at hs ⊢
      have hk := cborL_many (F := cborT f) (kids := kids) (fun j hj => cborT_one (h2 j hj)) kids.length (Nat.le_refl _)
      have hlen := hs.right.len
      obtain ⟨a1, a2, a3, a4⟩ := head_sit (k := 4) (by omega) (by omega) hs.left
      have hit := list_sit H kids.length (Nat.le_refl _) hs.right
      rw [rdC_head a1 (by omega), a3]
      show kindI L (rdC L g) (byAt L p / 32) kids.length _ = _
      rw [a2]
      show rowT (rdC L g) false kids.length _ = _
      unfold rowT
      rw [if_neg (by decide), hit]
      simp only [List.take_length, List.length_append, k, listT, Nat.add_assoc]
    · rw [hl.2.2.2.2.2 k] at hs ⊢
      have hks : ∀ q, q < keys.length → (keyAt keys q).size ≤ 60 := fun q hq => by
        have := (rise_at hr hq).1
        unfold textB at this
        simp only [Bool.and_eq_true, decide_eq_true_eq] at this
        exact this.1
      have hpm := byLen_perm (l := keys) (M := kids.length) (S := 61) (fun q hq => by have := hks q (by omega); omega)
      obtain ⟨ps, hps⟩ : ∃ ps, byLen keys kids.length 61 = ps := ⟨_, rfl⟩
      rw [hps] at hs hpm ⊢
      have hpl : ps.length = kids.length := by rw [hpm.length_eq]; simp
      have hk := entC_many (F := cborT f) (keys := keys) (kids := kids) ps
      have hlen := hs.right.len
      have hin : ∀ j ∈ ps, j < kids.length := fun j hj => List.mem_range.1 (hpm.mem_iff.1 hj)
      obtain ⟨a1, a2, a3, a4⟩ := head_sit (k := 5) (by omega) (by omega) hs.left
      have hW : ∀ j ∈ ps, ∀ p, Sit L p (cborW (keyAt keys j)) → rdC L g p = some (wordT (keyAt keys j), p + (cborW (keyAt keys j)).length) := fun j hj p hs => by
        have hj' := hin j hj
        obtain ⟨g', rfl⟩ : ∃ z, g = z + 1 := by
          have : 1 ≤ f := by
            rcases Nat.eq_zero_or_pos f with e | e
            · subst e; exact (h2 j hj').elim
            · exact e
          exact ⟨g - 1, by omega⟩
        exact word_sit (hks j (by omega)) hs
      have hit := pairs_sit ps (fun j hj => H j (hin j hj)) hW _ hs.right
      rw [hpl] at hit
      rw [rdC_head a1 (by omega), a3]
      show kindI L (rdC L g) (byAt L p / 32) kids.length _ = _
      rw [a2]
      show rowT (rdC L g) true kids.length _ = _
      unfold rowT
      rw [if_pos rfl, hit]
      have hb := map_back (keys := keys) (kids := kids) hm hr (ps := ps) (by rw [hm]; exact hpm)
      simp only [hb, List.length_append, k, Nat.add_assoc]
end Go.Proofs.YtiamkmkbkehldaaGreatDoor

/-
  Plain: texts and counts that are written as MessagePack are read again.
-/
namespace Go.Proofs.YtiamkmkbkehldaaGreatDoor
open Go.RowKit
set_option linter.unusedSimpArgs false
set_option linter.unusedVariables false

theorem Sit.tail {L : List UInt8} {p : Nat} {x : UInt8} {B : List UInt8} (h : Sit L p (x :: B)) : Sit L (p + 1) B := Sit.right (A := [x]) h
theorem Sit.head {L : List UInt8} {p : Nat} {x : UInt8} {B : List UInt8} (h : Sit L p (x :: B)) : p < L.length ∧ byAt L p = x.toNat := by
  have h1 := h.len
  rw [List.length_cons] at h1
  have h2 : byAt L (p + 0) = x.toNat := h.byte rfl
  exact ⟨by omega, h2⟩
theorem num_sitI {L : List UInt8} {p n m : Nat} (h : Sit L p (bigB (n : Int) m)) (hn : n < 256 ^ m) (hn2 : n ≤ 1000000000000000) : numI L p m = some (n, p + m) := by
  have h1 := h.len
  rw [bigB_len] at h1
  unfold numI
  rw [big_sit h hn, if_pos ⟨h1, by unfold maxI; omega⟩]
theorem pword_sit {L : List UInt8} {p g : Nat} {s : ByteArray} (hs : s.size ≤ 60) (h : Sit L p (packW s)) : rdP L (g + 1) p = some (wordT s, p + (packW s).length) := by
  have hl := len_is s
  unfold packW at h ⊢
  by_cases hz : s.size < 32
  · rw [if_pos hz] at h ⊢
    obtain ⟨h1, h2⟩ := h.head
    have h3 := byI_int (160 + (s.size : Int))
    have hb : byAt L p = 160 + s.size := by omega
    have h4 := h.tail
    have h5 := h4.len
    rw [rdP, if_neg (by omega), if_neg (by omega), if_neg (by omega), if_neg (by omega), if_pos (by omega), hb, show 160 + s.size - 160 = s.size by omega]
    unfold wordI
    rw [if_pos (by omega), h4.cut, List.length_cons, hl, show p + 1 + s.size = p + (s.size + 1) by omega]
  · rw [if_neg hz] at h ⊢
    obtain ⟨h1, h2⟩ := h.head
    have hb : byAt L p = 217 := h2
    have h4 := h.tail
    have h6 := num_sitI (n := s.size) h4.left (by omega) (by omega)
    have h7 := h4.right
    rw [bigB_len] at h7
    have h8 := h7.len
    rw [rdP, if_neg (by omega), if_neg (by omega), if_neg (by omega), if_neg (by omega), if_neg (by omega), if_neg (by omega), if_neg (by omega), if_neg (by omega), if_neg (by omega), if_neg (by omega), if_neg (by omega), if_neg (by omega), if_neg (by omega), if_pos (by omega), hb]
    unfold longV
    rw [show (2 : Nat) ^ (217 - 217) = 1 by decide, h6]
    dsimp only
    unfold wordI
    rw [if_pos (by omega), h7.cut, List.length_cons, List.length_append, bigB_len, hl, show p + 1 + 1 + s.size = p + (1 + s.size + 1) by omega]
/-- A list's or map's count, behind it its row. -/
theorem plist_sit {L : List UInt8} {p g n : Nat} (hn : n ≤ 60000) (h : Sit L p (packC 144 220 n)) : rdP L (g + 1) p = rowT (rdP L g) false n (p + (packC 144 220 n).length) := by
  unfold packC at h ⊢
  by_cases hz : n < 16
  · rw [if_pos hz] at h ⊢
    obtain ⟨h1, h2⟩ := h.head
    have h3 := byI_int (((144 : UInt8).toNat : Int) + (n : Int))
    have e : (144 : UInt8).toNat = 144 := rfl
    have hb : byAt L p = 144 + n := by omega
    rw [rdP, if_neg (by omega), if_neg (by omega), if_neg (by omega), if_pos (by omega), hb, show 144 + n - 144 = n by omega]
    rfl
  · rw [if_neg hz] at h ⊢
    obtain ⟨h1, h2⟩ := h.head
    have hb : byAt L p = 220 := h2
    have h6 := num_sitI (n := n) h.tail (by omega) (by omega)
    rw [rdP, if_neg (by omega), if_neg (by omega), if_neg (by omega), if_neg (by omega), if_neg (by omega), if_neg (by omega), if_neg (by omega), if_neg (by omega), if_neg (by omega), if_neg (by omega), if_neg (by omega), if_neg (by omega), if_neg (by omega), if_neg (by omega), if_pos (by omega), hb]
    unfold rowV
    rw [show 2 * (2 : Nat) ^ (220 - 220) = 2 by decide, h6]
    dsimp only
    rw [List.length_cons, bigB_len]
theorem pmap_sit {L : List UInt8} {p g n : Nat} (hn : n ≤ 60000) (h : Sit L p (packC 128 222 n)) : rdP L (g + 1) p = rowT (rdP L g) true n (p + (packC 128 222 n).length) := by
  unfold packC at h ⊢
  by_cases hz : n < 16
  · rw [if_pos hz] at h ⊢
    obtain ⟨h1, h2⟩ := h.head
    have h3 := byI_int (((128 : UInt8).toNat : Int) + (n : Int))
    have e : (128 : UInt8).toNat = 128 := rfl
    have hb : byAt L p = 128 + n := by omega
    rw [rdP, if_neg (by omega), if_neg (by omega), if_pos (by omega), hb, show 128 + n - 128 = n by omega]
    rfl
  · rw [if_neg hz] at h ⊢
    obtain ⟨h1, h2⟩ := h.head
    have hb : byAt L p = 222 := h2
    have h6 := num_sitI (n := n) h.tail (by omega) (by omega)
    rw [rdP, if_neg (by omega), if_neg (by omega), if_neg (by omega), if_neg (by omega), if_neg (by omega), if_neg (by omega), if_neg (by omega), if_neg (by omega), if_neg (by omega), if_neg (by omega), if_neg (by omega), if_neg (by omega), if_neg (by omega), if_neg (by omega), if_neg (by omega), hb]
    unfold rowV
    rw [show 2 * (2 : Nat) ^ (222 - 222) = 2 by decide, h6]
    dsimp only
    rw [List.length_cons, bigB_len]
end Go.Proofs.YtiamkmkbkehldaaGreatDoor

/-
  Plain: a tree that is written as MessagePack is read again.
-/
namespace Go.Proofs.YtiamkmkbkehldaaGreatDoor
open Go.RowKit
set_option linter.unusedSimpArgs false
set_option linter.unusedVariables false

theorem bigB_turn (n : Int) (m : Nat) : ∀ j, j ≤ m → bigB (n + ((256 ^ m : Nat) : Int)) j = bigB n j := by
  intro j
  induction j with
  | zero => intro _; rfl
  | succ j ih =>
    intro hj
    rw [bigB, bigB, ih (by omega)]
    congr 1
    have hp : ((256 ^ m : Nat) : Int) = 256 ^ j * (256 * 256 ^ (m - j - 1)) := by
      have : m = j + (1 + (m - j - 1)) := by omega
      rw [Int.natCast_pow]
      conv => lhs; rw [this, Int.pow_add, Int.pow_add, Int.pow_one]
      rfl
    have hpos : (256 : Int) ^ j ≠ 0 := Int.pow_ne_zero (by decide)
    rw [hp, Int.add_mul_ediv_left _ _ hpos, byI_add]
theorem stepI_nat2 (n : Nat) (hn : n < 18446744073709551616) : n < 256 ^ (2 ^ stepI (n : Int)) := by
  unfold stepI
  split
  · have : n < 256 := by omega
    simpa using this
  split
  · have : n < 65536 := by omega
    simpa using this
  split
  · have : n < 4294967296 := by omega
    simpa using this
  · simpa using hn
theorem even_pow {k : Nat} (h : 1 ≤ k) : ∃ x, 256 ^ k = 2 * x := ⟨128 * 256 ^ (k - 1), by obtain ⟨j, rfl⟩ : ∃ j, k = j + 1 := ⟨k - 1, by omega⟩; rw [Nat.pow_succ, Nat.add_sub_cancel]; omega⟩
theorem pnum_sit {L : List UInt8} {p g : Nat} {n : Int} (h1 : -1000000000000000 ≤ n) (h2 : n ≤ 1000000000000000) (h : Sit L p (packI n)) : rdP L (g + 1) p = some (numT n, p + (packI n).length) := by
  unfold packI at h ⊢
  by_cases ha : -32 ≤ n ∧ n ≤ 127
  · rw [if_pos ha] at h ⊢
    obtain ⟨h3, h4⟩ := h.head
    have h5 := byI_int n
    by_cases hn : 0 ≤ n
    · rw [rdP_num h3 (by omega), show ((byAt L p : Nat) : Int) = n by omega]; rfl
    · rw [rdP_neg h3 (by omega), show ((byAt L p : Nat) : Int) - 256 = n by omega]; rfl
  rw [if_neg ha] at h ⊢
  by_cases hn : 0 ≤ n
  · rw [if_pos hn] at h ⊢
    obtain ⟨m, rfl⟩ : ∃ m : Nat, n = m := ⟨n.toNat, by omega⟩
    have hst := stepI_nat m (by omega)
    have hs3 := stepI_le (m : Int)
    obtain ⟨st, est⟩ : ∃ st, stepI (m : Int) = st := ⟨_, rfl⟩
    rw [est] at h hst hs3 ⊢
    obtain ⟨h3, h4⟩ := h.head
    have h5 := byI_int (204 + (st : Int))
    have hb : byAt L p = 204 + st := by omega
    have h6 := num_sitI (n := m) h.tail hst (by omega)
    rw [rdP_wide h3 (by omega), hb, show 204 + st - 204 = st by omega]
    unfold numV
    rw [h6]
    dsimp only
    rw [List.length_cons, bigB_len, show p + 1 + 2 ^ st = p + (2 ^ st + 1) by omega]
  · rw [if_neg hn] at h ⊢
    obtain ⟨k, hk⟩ : ∃ k : Nat, 2 * (-1 - n) = k := ⟨(2 * (-1 - n)).toNat, by omega⟩
    rw [hk] at h ⊢
    have hst := stepI_nat2 k (by omega)
    have hs3 := stepI_le (k : Int)
    obtain ⟨st, est⟩ : ∃ st, stepI (k : Int) = st := ⟨_, rfl⟩
    rw [est] at h hst hs3 ⊢
    obtain ⟨h3, h4⟩ := h.head
    have h5 := byI_int (208 + (st : Int))
    have hb : byAt L p = 208 + st := by omega
    have h6 := h.tail
    have h7 := h6.len
    rw [bigB_len] at h7
    rw [← bigB_turn n (2 ^ st) (2 ^ st) (Nat.le_refl _)] at h6
    obtain ⟨x, ex⟩ := even_pow (k := 2 ^ st) (Nat.pos_of_ne_zero (by simp))
    have hx1 : -n ≤ (x : Int) := by omega
    obtain ⟨y, ey⟩ : ∃ y : Nat, n + ((256 ^ 2 ^ st : Nat) : Int) = y := ⟨(n + ((256 ^ 2 ^ st : Nat) : Int)).toNat, by omega⟩
    rw [ey] at h6
    have h8 := big_sit h6 (by omega)
    rw [rdP_sgn h3 (by omega), hb, show 208 + st - 208 = st by omega]
    unfold sgnI
    rw [if_pos h7, h8]
    unfold sgnN
    rw [if_neg (by omega), show ((y : Int) - ((256 ^ 2 ^ st : Nat) : Int)) = n by omega, List.length_cons, bigB_len, show p + 1 + 2 ^ st = p + (2 ^ st + 1) by omega]
theorem packL_list (F : VT → List UInt8) (keys : List ByteArray) (kids : List VT) (k : Nat) : packL F false keys kids k = cborL F kids k := by
  induction k with
  | zero => rfl
  | succ k ih => rw [packL, cborL, ih]; simp
theorem packL_many {F : VT → List UInt8} {named : Bool} {keys : List ByteArray} {kids : List VT} (h : ∀ j, j < kids.length → 1 ≤ (F (kidT kids j)).length) : ∀ k, k ≤ kids.length → k ≤ (packL F named keys kids k).length := by
  intro k
  induction k with
  | zero => intro _; simp
  | succ k ih => intro hk; have h1 := ih (by omega); have h2 := h k (by omega); rw [packL, List.length_append, List.length_append]; omega
theorem takeK {keys : List ByteArray} {k : Nat} (h : k < keys.length) : keys.take (k + 1) = keys.take k ++ [keyAt keys k] := by
  rw [List.take_add_one, List.getElem?_eq_getElem h]
  unfold keyAt
  rw [List.getD_eq_getElem?_getD, List.getElem?_eq_getElem h]
  rfl
theorem takeV {kids : List VT} {k : Nat} (h : k < kids.length) : kids.take (k + 1) = kids.take k ++ [kidT kids k] := by
  rw [List.take_add_one, List.getElem?_eq_getElem h]
  unfold kidT
  rw [List.getD_eq_getElem?_getD, List.getElem?_eq_getElem h]
  rfl
theorem ppairs_sit {L : List UInt8} {R : Nat → Option (VT × Nat)} {F : VT → List UInt8} {keys : List ByteArray} {kids : List VT} (hl : keys.length = kids.length) (H : ∀ j, j < kids.length → ∀ p, Sit L p (F (kidT kids j)) → R p = some (kidT kids j, p + (F (kidT kids j)).length)) (HW : ∀ j, j < kids.length → ∀ p, Sit L p (packW (keyAt keys j)) → R p = some (wordT (keyAt keys j), p + (packW (keyAt keys j)).length)) {p : Nat} : ∀ k, k ≤ kids.length → Sit L p (packL F true keys kids k) → rdPairs R k p = some (keys.take k, kids.take k, p + (packL F true keys kids k).length) := by
  intro k
  induction k with
  | zero => intro _ _; simp [rdPairs, packL]
  | succ k ih =>
    intro hk h
    rw [packL, if_pos rfl] at h ⊢
    have h1 := ih (by omega) h.left.left
    have h2 := HW k (by omega) _ h.left.right
    have h3 := H k (by omega) _ h.right
    rw [List.length_append, ← Nat.add_assoc] at h3
    rw [pairs_snoc h1 h2 (s := keyAt keys k) rfl h3, takeK (by omega), takeV (by omega), List.length_append, List.length_append]
    congr 3
    omega
theorem packT_one : ∀ {f : Nat} {t : VT}, goodT f t → 1 ≤ (packT f t).length
  | 0, _, h => h.elim
  | f + 1, .mk kind n s keys kids, h => by
    have hl := packT_leaf f (kind := kind) (n := n) (s := s) (keys := keys) (kids := kids)
    rcases nodeT_says h.1 with ⟨k, _⟩ | ⟨k, _⟩ | ⟨k, _⟩ | ⟨k, _⟩ | ⟨k, _⟩ | ⟨k, _⟩
    · rw [hl.1 k]; simp
    · rw [hl.2.1 k]; simp
    · rw [hl.2.2.1 k]; exact (packI_len _).1
    · rw [hl.2.2.2.1 k]; exact (packW_len _).1
    · rw [hl.2.2.2.2.1 k, List.length_append]; have := (packC_len 144 220 kids.length).1; omega
    · rw [hl.2.2.2.2.2 k, List.length_append]; have := (packC_len 128 222 kids.length).1; omega
theorem read_pack {L : List UInt8} (hL : L.length ≤ 60000) : ∀ (f g : Nat) (t : VT) (p : Nat), f ≤ g → goodT f t → Sit L p (packT f t) → rdP L g p = some (t, p + (packT f t).length) := by
  intro f
  induction f with
  | zero => intro g t p _ h; exact h.elim
  | succ f ih =>
    intro g t p hg h hs
    obtain ⟨g, rfl⟩ : ∃ k, g = k + 1 := ⟨g - 1, by omega⟩
    obtain ⟨kind, n, s, keys, kids⟩ := t
    have hl := packT_leaf f (kind := kind) (n := n) (s := s) (keys := keys) (kids := kids)
    obtain ⟨h1, h2⟩ := h
    have H : ∀ j, j < kids.length → ∀ p, Sit L p (packT f (kidT kids j)) → rdP L g p = some (kidT kids j, p + (packT f (kidT kids j)).length) := fun j hj p hs => ih g _ p (by omega) (h2 j hj) hs
    rcases nodeT_says h1 with ⟨k, rfl, rfl, rfl, hm⟩ | ⟨k, hn, rfl, rfl, hm⟩ | ⟨k, hn, rfl, rfl, hm⟩ | ⟨k, rfl, hz, rfl, hm⟩ | ⟨k, rfl, rfl, rfl⟩ | ⟨k, rfl, rfl, hm, hr⟩
    · rw [hl.1 k] at hs ⊢
      obtain ⟨h3, hb⟩ := hs.head
      obtain rfl : kids = [] := List.eq_nil_of_length_eq_zero hm
      rw [rdP_null h3 hb, k]
      rfl
    · rw [hl.2.1 k] at hs ⊢
      obtain ⟨h3, hb⟩ := hs.head
      obtain rfl : kids = [] := List.eq_nil_of_length_eq_zero hm
      have h4 := byI_int (194 + n)
      rcases hn with rfl | rfl
      · rw [rdP_no h3 (by omega), k]; rfl
      · rw [rdP_yes h3 (by omega), k]; rfl
    · rw [hl.2.2.1 k] at hs ⊢
      obtain rfl : kids = [] := List.eq_nil_of_length_eq_zero hm
      rw [pnum_sit hn.1 hn.2 hs, k]
      rfl
    · rw [hl.2.2.2.1 k] at hs ⊢
      obtain rfl : kids = [] := List.eq_nil_of_length_eq_zero hm
      rw [pword_sit hz hs, k]
      rfl
    · rw [hl.2.2.2.2.1 k] at hs ⊢
      have hk := packL_many (F := packT f) (named := false) (keys := []) (kids := kids) (fun j hj => packT_one (h2 j hj)) kids.length (Nat.le_refl _)
      have hlen := hs.right.len
      have hsr := hs.right
      rw [packL_list] at hsr
      have hit := list_sit H kids.length (Nat.le_refl _) hsr
      rw [plist_sit (by omega) hs.left]
      unfold rowT
      rw [if_neg (by decide), hit]
      simp only [List.take_length, List.length_append, k, listT, Nat.add_assoc, packL_list]
    · rw [hl.2.2.2.2.2 k] at hs ⊢
      have hks : ∀ q, q < keys.length → (keyAt keys q).size ≤ 60 := fun q hq => by
        have := (rise_at hr hq).1
        unfold textB at this
        simp only [Bool.and_eq_true, decide_eq_true_eq] at this
        exact this.1
      have hk := packL_many (F := packT f) (named := true) (keys := keys) (kids := kids) (fun j hj => packT_one (h2 j hj)) kids.length (Nat.le_refl _)
      have hlen := hs.right.len
      have hW : ∀ j, j < kids.length → ∀ p, Sit L p (packW (keyAt keys j)) → rdP L g p = some (wordT (keyAt keys j), p + (packW (keyAt keys j)).length) := fun j hj p hs => by
        obtain ⟨g', rfl⟩ : ∃ z, g = z + 1 := by
          have : 1 ≤ f := by
            rcases Nat.eq_zero_or_pos f with e | e
            · subst e; exact (h2 j hj).elim
            · exact e
          exact ⟨g - 1, by omega⟩
        exact pword_sit (hks j (by omega)) hs
      have hit := ppairs_sit hm H hW kids.length (Nat.le_refl _) hs.right
      rw [pmap_sit (by omega) hs.left]
      unfold rowT
      rw [if_pos rfl, hit]
      have hb := map_back (keys := keys) (kids := kids) hm hr (ps := List.range keys.length) (List.Perm.refl _)
      rw [range_keys, hm, range_kids] at hb
      have e1 : keys.take kids.length = keys := List.take_of_length_le (by omega)
      simp only [e1, List.take_length, hb, List.length_append, k, Nat.add_assoc]
end Go.Proofs.YtiamkmkbkehldaaGreatDoor
