/-
  Plain: a tree that is written as MessagePack is read again.
-/
import Derived.Test.YtokhindolimchaaGreatCbR
import Derived.Test.YtokhindolimchaaGreatCbY
namespace Go.Proofs.YtokhindolimchaaGreat
open Go.RowKit
set_option linter.unusedSimpArgs false
set_option linter.unusedVariables false

theorem bigB_turn (n : Int) (m : Nat) : ∀ j, j ≤ m → bigB (n + ((256 ^ m : Nat) : Int)) j = bigB n j := by
  intro j
  induction j with
  | zero => intro _; rfl
  | succ j ih =>
    intro hj
    rw [bigB, bigB, ih (by omega)]
    congr 1
    have hp : ((256 ^ m : Nat) : Int) = 256 ^ j * (256 * 256 ^ (m - j - 1)) := by
      have : m = j + (1 + (m - j - 1)) := by omega
      rw [Int.natCast_pow]
      conv => lhs; rw [this, Int.pow_add, Int.pow_add, Int.pow_one]
      rfl
    have hpos : (256 : Int) ^ j ≠ 0 := Int.pow_ne_zero (by decide)
    rw [hp, Int.add_mul_ediv_left _ _ hpos, byI_add]
theorem stepI_nat2 (n : Nat) (hn : n < 18446744073709551616) : n < 256 ^ (2 ^ stepI (n : Int)) := by
  unfold stepI
  split
  · have : n < 256 := by omega
    simpa using this
  split
  · have : n < 65536 := by omega
    simpa using this
  split
  · have : n < 4294967296 := by omega
    simpa using this
  · simpa using hn
theorem even_pow {k : Nat} (h : 1 ≤ k) : ∃ x, 256 ^ k = 2 * x := ⟨128 * 256 ^ (k - 1), by obtain ⟨j, rfl⟩ : ∃ j, k = j + 1 := ⟨k - 1, by omega⟩; rw [Nat.pow_succ, Nat.add_sub_cancel]; omega⟩
theorem pnum_sit {L : List UInt8} {p g : Nat} {n : Int} (h1 : -1000000000000000 ≤ n) (h2 : n ≤ 1000000000000000) (h : Sit L p (packI n)) : rdP L (g + 1) p = some (numT n, p + (packI n).length) := by
  unfold packI at h ⊢
  by_cases ha : -32 ≤ n ∧ n ≤ 127
  · rw [if_pos ha] at h ⊢
    obtain ⟨h3, h4⟩ := h.head
    have h5 := byI_int n
    by_cases hn : 0 ≤ n
    · rw [rdP_num h3 (by omega), show ((byAt L p : Nat) : Int) = n by omega]; rfl
    · rw [rdP_neg h3 (by omega), show ((byAt L p : Nat) : Int) - 256 = n by omega]; rfl
  rw [if_neg ha] at h ⊢
  by_cases hn : 0 ≤ n
  · rw [if_pos hn] at h ⊢
    obtain ⟨m, rfl⟩ : ∃ m : Nat, n = m := ⟨n.toNat, by omega⟩
    have hst := stepI_nat m (by omega)
    have hs3 := stepI_le (m : Int)
    obtain ⟨st, est⟩ : ∃ st, stepI (m : Int) = st := ⟨_, rfl⟩
    rw [est] at h hst hs3 ⊢
    obtain ⟨h3, h4⟩ := h.head
    have h5 := byI_int (204 + (st : Int))
    have hb : byAt L p = 204 + st := by omega
    have h6 := num_sitI (n := m) h.tail hst (by omega)
    rw [rdP_wide h3 (by omega), hb, show 204 + st - 204 = st by omega]
    unfold numV
    rw [h6]
    dsimp only
    rw [List.length_cons, bigB_len, show p + 1 + 2 ^ st = p + (2 ^ st + 1) by omega]
  · rw [if_neg hn] at h ⊢
    obtain ⟨k, hk⟩ : ∃ k : Nat, 2 * (-1 - n) = k := ⟨(2 * (-1 - n)).toNat, by omega⟩
    rw [hk] at h ⊢
    have hst := stepI_nat2 k (by omega)
    have hs3 := stepI_le (k : Int)
    obtain ⟨st, est⟩ : ∃ st, stepI (k : Int) = st := ⟨_, rfl⟩
    rw [est] at h hst hs3 ⊢
    obtain ⟨h3, h4⟩ := h.head
    have h5 := byI_int (208 + (st : Int))
    have hb : byAt L p = 208 + st := by omega
    have h6 := h.tail
    have h7 := h6.len
    rw [bigB_len] at h7
    rw [← bigB_turn n (2 ^ st) (2 ^ st) (Nat.le_refl _)] at h6
    obtain ⟨x, ex⟩ := even_pow (k := 2 ^ st) (Nat.pos_of_ne_zero (by simp))
    have hx1 : -n ≤ (x : Int) := by omega
    obtain ⟨y, ey⟩ : ∃ y : Nat, n + ((256 ^ 2 ^ st : Nat) : Int) = y := ⟨(n + ((256 ^ 2 ^ st : Nat) : Int)).toNat, by omega⟩
    rw [ey] at h6
    have h8 := big_sit h6 (by omega)
    rw [rdP_sgn h3 (by omega), hb, show 208 + st - 208 = st by omega]
    unfold sgnI
    rw [if_pos h7, h8]
    unfold sgnN
    rw [if_neg (by omega), show ((y : Int) - ((256 ^ 2 ^ st : Nat) : Int)) = n by omega, List.length_cons, bigB_len, show p + 1 + 2 ^ st = p + (2 ^ st + 1) by omega]
theorem packL_list (F : VT → List UInt8) (keys : List ByteArray) (kids : List VT) (k : Nat) : packL F false keys kids k = cborL F kids k := by
  induction k with
  | zero => rfl
  | succ k ih => rw [packL, cborL, ih]; simp
theorem packL_many {F : VT → List UInt8} {named : Bool} {keys : List ByteArray} {kids : List VT} (h : ∀ j, j < kids.length → 1 ≤ (F (kidT kids j)).length) : ∀ k, k ≤ kids.length → k ≤ (packL F named keys kids k).length := by
  intro k
  induction k with
  | zero => intro _; simp
  | succ k ih => intro hk; have h1 := ih (by omega); have h2 := h k (by omega); rw [packL, List.length_append, List.length_append]; omega
theorem takeK {keys : List ByteArray} {k : Nat} (h : k < keys.length) : keys.take (k + 1) = keys.take k ++ [keyAt keys k] := by
  rw [List.take_add_one, List.getElem?_eq_getElem h]
  unfold keyAt
  rw [List.getD_eq_getElem?_getD, List.getElem?_eq_getElem h]
  rfl
theorem takeV {kids : List VT} {k : Nat} (h : k < kids.length) : kids.take (k + 1) = kids.take k ++ [kidT kids k] := by
  rw [List.take_add_one, List.getElem?_eq_getElem h]
  unfold kidT
  rw [List.getD_eq_getElem?_getD, List.getElem?_eq_getElem h]
  rfl
theorem ppairs_sit {L : List UInt8} {R : Nat → Option (VT × Nat)} {F : VT → List UInt8} {keys : List ByteArray} {kids : List VT} (hl : keys.length = kids.length) (H : ∀ j, j < kids.length → ∀ p, Sit L p (F (kidT kids j)) → R p = some (kidT kids j, p + (F (kidT kids j)).length)) (HW : ∀ j, j < kids.length → ∀ p, Sit L p (packW (keyAt keys j)) → R p = some (wordT (keyAt keys j), p + (packW (keyAt keys j)).length)) {p : Nat} : ∀ k, k ≤ kids.length → Sit L p (packL F true keys kids k) → rdPairs R k p = some (keys.take k, kids.take k, p + (packL F true keys kids k).length) := by
  intro k
  induction k with
  | zero => intro _ _; simp [rdPairs, packL]
  | succ k ih =>
    intro hk h
    rw [packL, if_pos rfl] at h ⊢
    have h1 := ih (by omega) h.left.left
    have h2 := HW k (by omega) _ h.left.right
    have h3 := H k (by omega) _ h.right
    rw [List.length_append, ← Nat.add_assoc] at h3
    rw [pairs_snoc h1 h2 (s := keyAt keys k) rfl h3, takeK (by omega), takeV (by omega), List.length_append, List.length_append]
    congr 3
    omega
theorem packT_one : ∀ {f : Nat} {t : VT}, goodT f t → 1 ≤ (packT f t).length
  | 0, _, h => h.elim
  | f + 1, .mk kind n s keys kids, h => by
    have hl := packT_leaf f (kind := kind) (n := n) (s := s) (keys := keys) (kids := kids)
    rcases nodeT_says h.1 with ⟨k, _⟩ | ⟨k, _⟩ | ⟨k, _⟩ | ⟨k, _⟩ | ⟨k, _⟩ | ⟨k, _⟩
    · rw [hl.1 k]; simp
    · rw [hl.2.1 k]; simp
    · rw [hl.2.2.1 k]; exact (packI_len _).1
    · rw [hl.2.2.2.1 k]; exact (packW_len _).1
    · rw [hl.2.2.2.2.1 k, List.length_append]; have := (packC_len 144 220 kids.length).1; omega
    · rw [hl.2.2.2.2.2 k, List.length_append]; have := (packC_len 128 222 kids.length).1; omega
theorem read_pack {L : List UInt8} (hL : L.length ≤ 60000) : ∀ (f g : Nat) (t : VT) (p : Nat), f ≤ g → goodT f t → Sit L p (packT f t) → rdP L g p = some (t, p + (packT f t).length) := by
  intro f
  induction f with
  | zero => intro g t p _ h; exact h.elim
  | succ f ih =>
    intro g t p hg h hs
    obtain ⟨g, rfl⟩ : ∃ k, g = k + 1 := ⟨g - 1, by omega⟩
    obtain ⟨kind, n, s, keys, kids⟩ := t
    have hl := packT_leaf f (kind := kind) (n := n) (s := s) (keys := keys) (kids := kids)
    obtain ⟨h1, h2⟩ := h
    have H : ∀ j, j < kids.length → ∀ p, Sit L p (packT f (kidT kids j)) → rdP L g p = some (kidT kids j, p + (packT f (kidT kids j)).length) := fun j hj p hs => ih g _ p (by omega) (h2 j hj) hs
    rcases nodeT_says h1 with ⟨k, rfl, rfl, rfl, hm⟩ | ⟨k, hn, rfl, rfl, hm⟩ | ⟨k, hn, rfl, rfl, hm⟩ | ⟨k, rfl, hz, rfl, hm⟩ | ⟨k, rfl, rfl, rfl⟩ | ⟨k, rfl, rfl, hm, hr⟩
    · rw [hl.1 k] at hs ⊢
      obtain ⟨h3, hb⟩ := hs.head
      obtain rfl : kids = [] := List.eq_nil_of_length_eq_zero hm
      rw [rdP_null h3 hb, k]
      rfl
    · rw [hl.2.1 k] at hs ⊢
      obtain ⟨h3, hb⟩ := hs.head
      obtain rfl : kids = [] := List.eq_nil_of_length_eq_zero hm
      have h4 := byI_int (194 + n)
      rcases hn with rfl | rfl
      · rw [rdP_no h3 (by omega), k]; rfl
      · rw [rdP_yes h3 (by omega), k]; rfl
    · rw [hl.2.2.1 k] at hs ⊢
      obtain rfl : kids = [] := List.eq_nil_of_length_eq_zero hm
      rw [pnum_sit hn.1 hn.2 hs, k]
      rfl
    · rw [hl.2.2.2.1 k] at hs ⊢
      obtain rfl : kids = [] := List.eq_nil_of_length_eq_zero hm
      rw [pword_sit hz hs, k]
      rfl
    · rw [hl.2.2.2.2.1 k] at hs ⊢
      have hk := packL_many (F := packT f) (named := false) (keys := []) (kids := kids) (fun j hj => packT_one (h2 j hj)) kids.length (Nat.le_refl _)
      have hlen := hs.right.len
      have hsr := hs.right
      rw [packL_list] at hsr
      have hit := list_sit H kids.length (Nat.le_refl _) hsr
      rw [plist_sit (by omega) hs.left]
      unfold rowT
      rw [if_neg (by decide), hit]
      simp only [List.take_length, List.length_append, k, listT, Nat.add_assoc, packL_list]
    · rw [hl.2.2.2.2.2 k] at hs ⊢
      have hks : ∀ q, q < keys.length → (keyAt keys q).size ≤ 60 := fun q hq => by
        have := (rise_at hr hq).1
        unfold textB at this
        simp only [Bool.and_eq_true, decide_eq_true_eq] at this
        exact this.1
      have hk := packL_many (F := packT f) (named := true) (keys := keys) (kids := kids) (fun j hj => packT_one (h2 j hj)) kids.length (Nat.le_refl _)
      have hlen := hs.right.len
      have hW : ∀ j, j < kids.length → ∀ p, Sit L p (packW (keyAt keys j)) → rdP L g p = some (wordT (keyAt keys j), p + (packW (keyAt keys j)).length) := fun j hj p hs => by
        obtain ⟨g', rfl⟩ : ∃ z, g = z + 1 := by
          have : 1 ≤ f := by
            rcases Nat.eq_zero_or_pos f with e | e
            · subst e; exact (h2 j hj).elim
            · exact e
          exact ⟨g - 1, by omega⟩
        exact pword_sit (hks j (by omega)) hs
      have hit := ppairs_sit hm H hW kids.length (Nat.le_refl _) hs.right
      rw [pmap_sit (by omega) hs.left]
      unfold rowT
      rw [if_pos rfl, hit]
      have hb := map_back (keys := keys) (kids := kids) hm hr (ps := List.range keys.length) (List.Perm.refl _)
      rw [range_keys, hm, range_kids] at hb
      have e1 : keys.take kids.length = keys := List.take_of_length_le (by omega)
      simp only [e1, List.take_length, hb, List.length_append, k, Nat.add_assoc]
end Go.Proofs.YtokhindolimchaaGreat

/-
  Plain: a tree that is written as CBOR is read again.
-/
namespace Go.Proofs.YtokhindolimchaaGreat
open Go.RowKit
set_option linter.unusedSimpArgs false
set_option linter.unusedVariables false

theorem cborT_one : ∀ {f : Nat} {t : VT}, goodT f t → 1 ≤ (cborT f t).length
  | 0, _, h => h.elim
  | f + 1, .mk kind n s keys kids, h => by
    have hl := cborT_leaf f (kind := kind) (n := n) (s := s) (keys := keys) (kids := kids)
    rcases nodeT_says h.1 with ⟨k, _⟩ | ⟨k, _⟩ | ⟨k, _⟩ | ⟨k, _⟩ | ⟨k, _⟩ | ⟨k, _⟩
    · rw [hl.1 k]; simp
    · rw [hl.2.1 k]; simp
    · rw [hl.2.2.1 k]; exact (cborN_len _).1
    · rw [hl.2.2.2.1 k]; exact (cborW_len _).1
    · rw [hl.2.2.2.2.1 k, List.length_append]; have := (headC_len 4 (kids.length : Int)).1; omega
    · rw [hl.2.2.2.2.2 k, List.length_append]; have := (headC_len 5 (kids.length : Int)).1; omega
theorem cborL_many {F : VT → List UInt8} {kids : List VT} (h : ∀ j, j < kids.length → 1 ≤ (F (kidT kids j)).length) : ∀ k, k ≤ kids.length → k ≤ (cborL F kids k).length := by
  intro k
  induction k with
  | zero => intro _; simp
  | succ k ih => intro hk; have h1 := ih (by omega); have h2 := h k (by omega); rw [cborL, List.length_append]; omega
theorem entC_many {F : VT → List UInt8} {keys : List ByteArray} {kids : List VT} : ∀ (ps : List Nat), ps.length ≤ (entC F keys kids ps).length := by
  intro ps
  induction ps with
  | nil => simp
  | cons x ps ih =>
    have e : entC F keys kids (x :: ps) = cborW (keyAt keys x) ++ (F (kidT kids x) ++ entC F keys kids ps) := by unfold entC; rw [List.flatMap_cons, List.append_assoc]
    rw [e, List.length_append, List.length_append, List.length_cons]
    have := (cborW_len (keyAt keys x)).1
    omega
theorem read_cbor {L : List UInt8} (hL : L.length ≤ 1000000000000000) : ∀ (f g : Nat) (t : VT) (p : Nat), f ≤ g → goodT f t → Sit L p (cborT f t) → rdC L g p = some (t, p + (cborT f t).length) := by
  intro f
  induction f with
  | zero => intro g t p _ h; exact h.elim
  | succ f ih =>
    intro g t p hg h hs
    obtain ⟨g, rfl⟩ : ∃ k, g = k + 1 := ⟨g - 1, by omega⟩
    obtain ⟨kind, n, s, keys, kids⟩ := t
    have hl := cborT_leaf f (kind := kind) (n := n) (s := s) (keys := keys) (kids := kids)
    obtain ⟨h1, h2⟩ := h
    have H : ∀ j, j < kids.length → ∀ p, Sit L p (cborT f (kidT kids j)) → rdC L g p = some (kidT kids j, p + (cborT f (kidT kids j)).length) := fun j hj p hs => ih g _ p (by omega) (h2 j hj) hs
    rcases nodeT_says h1 with ⟨k, rfl, rfl, rfl, hm⟩ | ⟨k, hn, rfl, rfl, hm⟩ | ⟨k, hn, rfl, rfl, hm⟩ | ⟨k, rfl, hz, rfl, hm⟩ | ⟨k, rfl, rfl, rfl⟩ | ⟨k, rfl, rfl, hm, hr⟩
    · rw [hl.1 k] at hs ⊢
      have hb : byAt L (p + 0) = (246 : UInt8).toNat := hs.byte rfl
      have h3 := hs.len
      rw [List.length_cons, List.length_nil] at h3
      obtain rfl : kids = [] := List.eq_nil_of_length_eq_zero hm
      rw [rdC_null (by omega) (by rw [Nat.add_zero] at hb; rw [hb]; rfl), k]
      rfl
    · rw [hl.2.1 k] at hs ⊢
      have hb : byAt L (p + 0) = (byI (244 + n)).toNat := hs.byte rfl
      rw [Nat.add_zero] at hb
      have h3 := hs.len
      rw [List.length_cons, List.length_nil] at h3
      obtain rfl : kids = [] := List.eq_nil_of_length_eq_zero hm
      have h4 := byI_int (244 + n)
      rcases hn with rfl | rfl
      · rw [rdC_no (by omega) (by omega), k]; rfl
      · rw [rdC_yes (by omega) (by omega), k]; rfl
    · rw [hl.2.2.1 k] at hs ⊢
      obtain rfl : kids = [] := List.eq_nil_of_length_eq_zero hm
      rw [num_sit hn.1 hn.2 hs, k]
      rfl
    · rw [hl.2.2.2.1 k] at hs ⊢
      obtain rfl : kids = [] := List.eq_nil_of_length_eq_zero hm
      rw [word_sit hz hs, k]
      rfl
    · rw [hl.2.2.2.2.1 k] at hs ⊢
      have hk := cborL_many (F := cborT f) (kids := kids) (fun j hj => cborT_one (h2 j hj)) kids.length (Nat.le_refl _)
      have hlen := hs.right.len
      obtain ⟨a1, a2, a3, a4⟩ := head_sit (k := 4) (by omega) (by omega) hs.left
      have hit := list_sit H kids.length (Nat.le_refl _) hs.right
      rw [rdC_head a1 (by omega), a3]
      show kindI L (rdC L g) (byAt L p / 32) kids.length _ = _
      rw [a2]
      show rowT (rdC L g) false kids.length _ = _
      unfold rowT
      rw [if_neg (by decide), hit]
      simp only [List.take_length, List.length_append, k, listT, Nat.add_assoc]
    · rw [hl.2.2.2.2.2 k] at hs ⊢
      have hks : ∀ q, q < keys.length → (keyAt keys q).size ≤ 60 := fun q hq => by
        have := (rise_at hr hq).1
        unfold textB at this
        simp only [Bool.and_eq_true, decide_eq_true_eq] at this
        exact this.1
      have hpm := byLen_perm (l := keys) (M := kids.length) (S := 61) (fun q hq => by have := hks q (by omega); omega)
      obtain ⟨ps, hps⟩ : ∃ ps, byLen keys kids.length 61 = ps := ⟨_, rfl⟩
      rw [hps] at hs hpm ⊢
      have hpl : ps.length = kids.length := by rw [hpm.length_eq]; simp
      have hk := entC_many (F := cborT f) (keys := keys) (kids := kids) ps
      have hlen := hs.right.len
      have hin : ∀ j ∈ ps, j < kids.length := fun j hj => List.mem_range.1 (hpm.mem_iff.1 hj)
      obtain ⟨a1, a2, a3, a4⟩ := head_sit (k := 5) (by omega) (by omega) hs.left
      have hW : ∀ j ∈ ps, ∀ p, Sit L p (cborW (keyAt keys j)) → rdC L g p = some (wordT (keyAt keys j), p + (cborW (keyAt keys j)).length) := fun j hj p hs => by
        have hj' := hin j hj
        obtain ⟨g', rfl⟩ : ∃ z, g = z + 1 := by
          have : 1 ≤ f := by
            rcases Nat.eq_zero_or_pos f with e | e
            · subst e; exact (h2 j hj').elim
            · exact e
          exact ⟨g - 1, by omega⟩
        exact word_sit (hks j (by omega)) hs
      have hit := pairs_sit ps (fun j hj => H j (hin j hj)) hW _ hs.right
      rw [hpl] at hit
      rw [rdC_head a1 (by omega), a3]
      show kindI L (rdC L g) (byAt L p / 32) kids.length _ = _
      rw [a2]
      show rowT (rdC L g) true kids.length _ = _
      unfold rowT
      rw [if_pos rfl, hit]
      have hb := map_back (keys := keys) (kids := kids) hm hr (ps := ps) (by rw [hm]; exact hpm)
      simp only [hb, List.length_append, k, Nat.add_assoc]
end Go.Proofs.YtokhindolimchaaGreat

/-
  Plain: what is read has no more nodes than bytes, and each node fits.
-/
namespace Go.Proofs.YtokhindolimchaaGreat
open Go.RowKit
set_option linter.unusedSimpArgs false
set_option linter.unusedVariables false

def FitT : Nat → VT → Prop
  | 0, _ => False
  | f + 1, .mk kind n s keys kids => (1 ≤ kind ∧ kind ≤ 6) ∧ (-9223372036854775808 ≤ n ∧ n ≤ 9223372036854775807) ∧ s.size ≤ 100000 ∧ keys.length ≤ 100000 ∧ (∀ i, i < keys.length → (keyAt keys i).size ≤ 100000) ∧ kids.length ≤ 100000 ∧ ∀ j, j < kids.length → FitT f (kidT kids j)
theorem FitT.full : ∀ {f : Nat} {t : VT}, FitT f t → FullT f t
  | 0, _, h => h.elim
  | f + 1, .mk _ _ _ _ _, h => fun j hj => (h.2.2.2.2.2.2 j hj).full
theorem ksT_get (f sh : Nat) {l : List VT} : ∀ {m j : Nat}, j < m → m ≤ l.length → intAt (ksT f sh l m) j = ((sh + (accT f sh l (j + 1)).length : Nat) : Int) - 1 := by
  intro m
  induction m with
  | zero => intro j h; omega
  | succ m ih =>
    intro j hj hm
    have hl := ksT_len f sh l (k := m) (by omega)
    rw [ksT_succ f sh (by omega)]
    by_cases e : j < m
    · have := ih e (by omega)
      unfold intAt at this ⊢
      rw [List.getD_eq_getElem?_getD, List.getElem?_append_left (by omega), ← List.getD_eq_getElem?_getD]
      exact this
    · obtain rfl : j = m := by omega
      unfold intAt
      rw [List.getD_eq_getElem?_getD, List.getElem?_append_right (by omega), hl, Nat.sub_self]
      rfl
theorem fits_lay : ∀ {f : Nat} {t : VT}, FitT f t → ∀ sh, sh + (layT f t sh).length ≤ 1000000 → ∀ j, j < (layT f t sh).length → Fits (nodeAt (layT f t sh) j) := by
  intro f
  induction f with
  | zero => intro t h; exact h.elim
  | succ f ih =>
    intro t h sh hn
    obtain ⟨kind, n, s, keys, kids⟩ := t
    obtain ⟨h1, h2, h3, h4, h5, h6, h7⟩ := h
    rw [layT_eq] at hn ⊢
    rw [List.length_append, List.length_cons, List.length_nil] at hn ⊢
    have ha := acc_nodes f sh kids Fits kids.length (Nat.le_refl _)
    have hall : ∀ j, j < (accT f sh kids kids.length).length → Fits (nodeAt (accT f sh kids kids.length) j) := ha.2 (fun i hi => by
      refine ih (h7 i hi) _ ?_
      have hle := accT_le f sh kids (i + 1)
      rw [accT_succ f sh hi, List.length_append] at hle
      omega)
    intro j hj
    by_cases e : j < (accT f sh kids kids.length).length
    · rw [nodeAt_left e]; exact hall j e
    · obtain rfl : j = (accT f sh kids kids.length).length := by omega
      rw [nodeAt_right (Nat.le_refl _), Nat.sub_self]
      have hkl := ksT_len f sh kids (Nat.le_refl _)
      refine ⟨by show keys.length ≤ _; omega, fun i hi => by have := h5 i hi; show (keyAt keys i).size ≤ _; omega, by show (ksT f sh kids kids.length).length ≤ _; omega, fun i hi => ?_, by show s.size ≤ _; omega, by show _ ≤ kind; omega, by show kind ≤ _; omega, by show _ ≤ n; omega, by show n ≤ _; omega⟩
      have hi' : i < kids.length := by have : i < (ksT f sh kids kids.length).length := hi; omega
      have := ksT_get f sh (l := kids) hi' (Nat.le_refl _)
      have hle := accT_le f sh kids (i + 1)
      show -9223372036854775808 ≤ intAt (ksT f sh kids kids.length) i ∧ intAt (ksT f sh kids kids.length) i ≤ 9223372036854775807
      rw [this]
      omega
/-- What a reading gives is bounded by the bytes that it takes. -/
def RdOk (f : Nat) (L : List UInt8) (R : Nat → Option (VT × Nat)) : Prop := ∀ p t q, R p = some (t, q) → p < q ∧ q ≤ L.length ∧ (layT f t 0).length ≤ q - p ∧ FitT f t ∧ ∀ z, textOf t = some z → z.size ≤ L.length
theorem items_ok {f : Nat} {L : List UInt8} {R : Nat → Option (VT × Nat)} (H : RdOk f L R) : ∀ {k p : Nat} {l : List VT} {q : Nat}, p ≤ L.length → rdItems R k p = some (l, q) → p + k ≤ q ∧ q ≤ L.length ∧ sumL (fun i => layT f (kidT l i) 0) k ≤ q - p ∧ ∀ i, i < k → FitT f (kidT l i) := by
  intro k
  induction k with
  | zero =>
    intro p l q hp h
    simp [rdItems] at h
    obtain ⟨rfl, rfl⟩ := h
    exact ⟨by omega, hp, by simp [sumL], fun i hi => by omega⟩
  | succ k ih =>
    intro p l q hp h
    rw [rdItems_eq] at h
    cases e : R p with
    | none => simp [e] at h
    | some x =>
      obtain ⟨t, z⟩ := x
      simp only [e] at h
      cases e2 : rdItems R k z with
      | none => simp [e2] at h
      | some y =>
        obtain ⟨m, z2⟩ := y
        simp only [e2, Option.some.injEq, Prod.mk.injEq] at h
        obtain ⟨rfl, rfl⟩ := h
        obtain ⟨a1, a2, a3, a4, _⟩ := H _ _ _ e
        obtain ⟨b1, b2, b3, b4⟩ := ih a2 e2
        have hs : sumL (fun i => layT f (kidT (t :: m) i) 0) (k + 1) = (layT f t 0).length + sumL (fun i => layT f (kidT m i) 0) k := sumL_cons _ _
        refine ⟨by omega, b2, by rw [hs]; omega, fun i hi => ?_⟩
        cases i with
        | zero => exact a4
        | succ i => exact b4 i (by omega)
theorem pairs_ok {f : Nat} {L : List UInt8} {R : Nat → Option (VT × Nat)} (H : RdOk f L R) : ∀ {k p : Nat} {ks : List ByteArray} {l : List VT} {q : Nat}, p ≤ L.length → rdPairs R k p = some (ks, l, q) → p + k ≤ q ∧ q ≤ L.length ∧ sumL (fun i => layT f (kidT l i) 0) k ≤ q - p ∧ (∀ i, i < k → FitT f (kidT l i)) ∧ ∀ i, i < k → (keyAt ks i).size ≤ L.length := by
  intro k
  induction k with
  | zero =>
    intro p ks l q hp h
    simp [rdPairs] at h
    obtain ⟨rfl, rfl, rfl⟩ := h
    exact ⟨by omega, hp, by simp [sumL], fun i hi => by omega, fun i hi => by omega⟩
  | succ k ih =>
    intro p ks l q hp h
    rw [rdPairs] at h
    cases e : R p with
    | none => simp [e] at h
    | some x =>
      obtain ⟨t1, q1⟩ := x
      simp only [e] at h
      cases e1 : textOf t1 with
      | none => simp [e1] at h
      | some s1 =>
        simp only [e1] at h
        cases e2 : R q1 with
        | none => simp [e2] at h
        | some y =>
          obtain ⟨u1, r1⟩ := y
          simp only [e2] at h
          cases e3 : rdPairs R k r1 with
          | none => simp [e3] at h
          | some y =>
            obtain ⟨k1, m, z2⟩ := y
            simp only [e3, Option.some.injEq, Prod.mk.injEq] at h
            obtain ⟨rfl, rfl, rfl⟩ := h
            obtain ⟨a1, a2, a3, a4, a5⟩ := H _ _ _ e
            obtain ⟨c1, c2, c3, c4, _⟩ := H _ _ _ e2
            obtain ⟨b1, b2, b3, b4, b5⟩ := ih c2 e3
            have hs : sumL (fun i => layT f (kidT (u1 :: m) i) 0) (k + 1) = (layT f u1 0).length + sumL (fun i => layT f (kidT m i) 0) k := sumL_cons _ _
            refine ⟨by omega, b2, by rw [hs]; omega, fun i hi => ?_, fun i hi => ?_⟩
            · cases i with
              | zero => exact c4
              | succ i => exact b4 i (by omega)
            · cases i with
              | zero => exact a5 _ e1
              | succ i => exact b5 i (by omega)
theorem row_ok {f : Nat} {L : List UInt8} {R : Nat → Option (VT × Nat)} (H : RdOk f L R) (hL : L.length ≤ 4000) {named : Bool} {n p : Nat} {t : VT} {q : Nat} (hp : p ≤ L.length) (h : rowT R named n p = some (t, q)) : p ≤ q ∧ q ≤ L.length ∧ (layT (f + 1) t 0).length ≤ q - p + 1 ∧ FitT (f + 1) t ∧ ∀ z, textOf t = some z → z.size ≤ L.length := by
  have ht := textOf_row h
  have htz : ∀ z, textOf t = some z → z.size ≤ L.length := fun z hz => by rw [ht] at hz; cases hz
  unfold rowT at h
  cases named
  · simp only [Bool.false_eq_true, if_false] at h
    cases e : rdItems R n p with
    | none => simp [e] at h
    | some x =>
      obtain ⟨l, z⟩ := x
      simp only [e, Option.some.injEq, Prod.mk.injEq] at h
      obtain ⟨rfl, rfl⟩ := h
      obtain ⟨b1, b2, b3, b4⟩ := items_ok H hp e
      have hl := items_len e
      refine ⟨by omega, b2, by rw [listT_size, hl]; omega, ⟨by decide, by decide, by decide, by simp, fun i hi => absurd hi (by simp), by omega, fun j hj => b4 j (by omega)⟩, htz⟩
  · simp only [if_true] at h
    cases e : rdPairs R n p with
    | none => simp [e] at h
    | some x =>
      obtain ⟨ks, l, z⟩ := x
      simp only [e, Option.some.injEq, Prod.mk.injEq] at h
      obtain ⟨rfl, rfl⟩ := h
      obtain ⟨b1, b2, b3, b4, b5⟩ := pairs_ok H hp e
      obtain ⟨hl1, hl2, _⟩ := pairs_full (fun p t q h => (H p t q h).2.2.2.1.full) e
      have hsl := srt_len ks
      refine ⟨by omega, b2, by rw [mapT_size, hl1]; omega, ⟨by decide, by decide, by decide, by rw [List.length_map, hsl]; omega, fun i hi => ?_, by rw [List.length_map, hsl]; omega, fun j hj => ?_⟩, htz⟩
      · rw [List.length_map, hsl] at hi
        have e9 : keyAt ((srt ks).map (keyAt ks)) i = keyAt ks ((srt ks).getD i 0) := by
          conv => lhs; unfold keyAt
          rw [List.getD_eq_getElem?_getD, List.getElem?_map, List.getElem?_eq_getElem (by omega), List.getD_eq_getElem?_getD (l := srt ks), List.getElem?_eq_getElem (show i < (srt ks).length by omega)]
          rfl
        rw [e9]
        have := b5 ((srt ks).getD i 0) (by have := srt_lt hi; omega)
        omega
      · rw [List.length_map, hsl] at hj
        rw [kid_srt hj]
        exact b4 _ (by have := srt_lt hj; omega)
theorem num_ok {L : List UInt8} {p w n q : Nat} (h : numI L p w = some (n, q)) : n ≤ maxI ∧ q = p + w ∧ q ≤ L.length := by
  unfold numI at h
  split at h
  · rename_i hx
    simp only [Option.some.injEq, Prod.mk.injEq] at h
    obtain ⟨rfl, rfl⟩ := h
    exact ⟨hx.2, rfl, hx.1⟩
  · cases h
theorem word_ok {L : List UInt8} (hL : L.length ≤ 4000) {n p : Nat} {t : VT} {q : Nat} (h : wordI L n p = some (t, q)) (f : Nat) : p ≤ q ∧ q ≤ L.length ∧ (layT (f + 1) t 0).length = 1 ∧ FitT (f + 1) t ∧ ∀ z, textOf t = some z → z.size ≤ L.length := by
  unfold wordI at h
  split at h
  · rename_i hx
    simp only [Option.some.injEq, Prod.mk.injEq] at h
    obtain ⟨rfl, rfl⟩ := h
    have hz := cutT_size hx
    refine ⟨by omega, hx, rfl, ⟨by decide, by decide, by omega, by simp, fun i hi => absurd hi (by simp), by simp, fun j hj => absurd hj (by simp)⟩, fun z e => ?_⟩
    simp [textOf, wordT] at e
    subst e
    omega
  · cases h
theorem leaf_ok {f : Nat} {k n : Int} (hk : 1 ≤ k ∧ k ≤ 6 ∧ k ≠ 4) (hn : -9223372036854775808 ≤ n ∧ n ≤ 9223372036854775807) : (layT (f + 1) (.mk k n ByteArray.empty [] []) 0).length = 1 ∧ FitT (f + 1) (.mk k n ByteArray.empty [] []) ∧ textOf (.mk k n ByteArray.empty [] []) = none :=
  ⟨rfl, ⟨⟨hk.1, hk.2.1⟩, hn, by decide, by simp, fun i hi => absurd hi (by simp), by simp, fun j hj => absurd hj (by simp)⟩, by simp [textOf, hk.2.2]⟩
theorem rdC_ok (L : List UInt8) (hL : L.length ≤ 4000) : ∀ f, RdOk f L (rdC L f) := by
  intro f
  induction f with
  | zero => intro p t q h; simp [rdC] at h
  | succ f ih =>
    intro p t q h
    have leaf : ∀ {k n : Int} {q' : Nat}, p < q' → q' ≤ L.length → (1 ≤ k ∧ k ≤ 6 ∧ k ≠ 4) → (-9223372036854775808 ≤ n ∧ n ≤ 9223372036854775807) → some ((VT.mk k n ByteArray.empty [] [] : VT), q') = some (t, q) → p < q ∧ q ≤ L.length ∧ (layT (f + 1) t 0).length ≤ q - p ∧ FitT (f + 1) t ∧ ∀ z, textOf t = some z → z.size ≤ L.length := fun {k n q'} h1 h2 hk hn h => by
      simp only [Option.some.injEq, Prod.mk.injEq] at h
      obtain ⟨rfl, rfl⟩ := h
      obtain ⟨l1, l2, l3⟩ := leaf_ok (f := f) hk hn
      exact ⟨h1, h2, by omega, l2, fun z hz => by rw [l3] at hz; cases hz⟩
    by_cases hp : p < L.length
    rotate_left
    · rw [rdC_end (by omega)] at h; cases h
    by_cases b0 : byAt L p = 246
    · rw [rdC_null hp b0] at h; exact leaf (by omega) (by omega) (by decide) (by decide) h
    by_cases b1 : byAt L p = 244
    · rw [rdC_no hp b1] at h; exact leaf (by omega) (by omega) (by decide) (by decide) h
    by_cases b2 : byAt L p = 245
    · rw [rdC_yes hp b2] at h; exact leaf (by omega) (by omega) (by decide) (by decide) h
    rw [rdC_head hp (by omega)] at h
    cases e : headI L p with
    | none => rw [e] at h; cases h
    | some x =>
      obtain ⟨n, z⟩ := x
      rw [e] at h
      simp only at h
      have hh : p < z ∧ z ≤ L.length ∧ n ≤ maxI := by
        unfold headI at e
        split at e
        · simp only [Option.some.injEq, Prod.mk.injEq] at e; unfold maxI; omega
        · split at e
          · obtain ⟨c1, c2, c3⟩ := num_ok e
            have := two_pos (byAt L p % 32 - 24)
            exact ⟨by rw [c2]; omega, c3, c1⟩
          · cases e
      obtain ⟨h1, h2, h3⟩ := hh
      unfold maxI at h3
      unfold kindI at h
      split at h
      · exact leaf h1 h2 (by decide) (by omega) h
      split at h
      · exact leaf h1 h2 (by decide) (by omega) h
      split at h
      · obtain ⟨c1, c2, c3, c4, c5⟩ := word_ok hL h f
        exact ⟨by omega, c2, by omega, c4, c5⟩
      split at h
      · obtain ⟨c1, c2, c3, c4, c5⟩ := row_ok ih hL h2 h
        exact ⟨by omega, c2, by omega, c4, c5⟩
      split at h
      · obtain ⟨c1, c2, c3, c4, c5⟩ := row_ok ih hL h2 h
        exact ⟨by omega, c2, by omega, c4, c5⟩
      · cases h
end Go.Proofs.YtokhindolimchaaGreat
