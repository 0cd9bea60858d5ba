/-
  Plain: what a right node says by its kind.
-/
import Derived.Test.YtiamkmkbkehldaaGreatDoorRdN
import Derived.Test.YtiamkmkbkehldaaGreatDoorPure
import Derived.Test.YtiamkmkbkehldaaGreatDoorRd
import Derived.Test.YtiamkmkbkehldaaGreatDoorFBld
import Derived.Test.YtiamkmkbkehldaaGreatDoorCbP
import Derived.Test.YtiamkmkbkehldaaGreatDoorYrP
import Derived.Lib.ItoaNum
namespace Go.Proofs.YtiamkmkbkehldaaGreatDoor
open Go.RowKit
set_option linter.unusedSimpArgs false
set_option linter.unusedVariables false

theorem rise_at {keys : List ByteArray} (hr : riseB keys = true) {j : Nat} (hj : j < keys.length) : textB (keyAt keys j) = true ∧ (0 < j → lessB (keyAt keys (j - 1)) (keyAt keys j) = true) := by
  have := List.all_eq_true.1 hr j (List.mem_range.2 hj)
  unfold riseAt at this
  simp only [Bool.and_eq_true, Bool.or_eq_true, decide_eq_true_eq] at this
  exact ⟨this.1, fun h => this.2.resolve_left (by omega)⟩
theorem keys_less {keys : List ByteArray} (hr : riseB keys = true) : ∀ d a, a + d + 1 < keys.length → lessB (keyAt keys a) (keyAt keys (a + d + 1)) = true := by
  intro d
  induction d with
  | zero => intro a h; have := (rise_at hr h).2 (by omega); rwa [show a + 0 + 1 - 1 = a by omega] at this
  | succ d ih =>
    intro a h
    have h1 := ih a (by omega)
    have h2 := (rise_at hr h).2 (by omega)
    rw [show a + (d + 1) + 1 - 1 = a + d + 1 by omega] at h2
    exact less_trans h1 h2
theorem range_keys (keys : List ByteArray) : (List.range keys.length).map (keyAt keys) = keys := by
  apply List.ext_getElem?
  intro i
  rw [List.getElem?_map]
  by_cases h : i < keys.length
  · rw [List.getElem?_range h, Option.map_some]
    unfold keyAt
    rw [List.getD_eq_getElem?_getD, List.getElem?_eq_getElem h]; rfl
  · rw [List.getElem?_eq_none (by simp; omega), List.getElem?_eq_none (by omega)]; rfl
theorem range_kids (kids : List VT) : (List.range kids.length).map (kidT kids) = kids := by
  apply List.ext_getElem?
  intro i
  rw [List.getElem?_map]
  by_cases h : i < kids.length
  · rw [List.getElem?_range h, Option.map_some]
    unfold kidT
    rw [List.getD_eq_getElem?_getD, List.getElem?_eq_getElem h]; rfl
  · rw [List.getElem?_eq_none (by simp; omega), List.getElem?_eq_none (by omega)]; rfl
theorem empty_is {s : ByteArray} (h : s.toList = []) : s = ByteArray.empty := by
  exact str_eq (by rw [h, ByteArray.toList_eq]; rfl)
theorem nodeT_says {kind n : Int} {s : ByteArray} {keys : List ByteArray} {m : Nat} (h : nodeT kind n s keys m = true) :
    (kind = 1 ∧ n = 0 ∧ s = ByteArray.empty ∧ keys = [] ∧ m = 0) ∨ (kind = 2 ∧ (n = 0 ∨ n = 1) ∧ s = ByteArray.empty ∧ keys = [] ∧ m = 0) ∨ (kind = 3 ∧ (-1000000000000000 ≤ n ∧ n ≤ 1000000000000000) ∧ s = ByteArray.empty ∧ keys = [] ∧ m = 0) ∨
    (kind = 4 ∧ n = 0 ∧ s.size ≤ 60 ∧ keys = [] ∧ m = 0) ∨ (kind = 5 ∧ n = 0 ∧ s = ByteArray.empty ∧ keys = []) ∨ (kind = 6 ∧ n = 0 ∧ s = ByteArray.empty ∧ keys.length = m ∧ riseB keys = true) := by
  unfold nodeT nodeB unnamedB namedB at h
  simp only [Bool.and_eq_true, List.length_replicate] at h
  obtain ⟨⟨⟨⟨u1, u2⟩, u3⟩, u4⟩, v⟩ := h
  by_cases k1 : kind = 1
  · subst k1; simp at u1 u2 u3 u4; exact .inl ⟨rfl, u1, empty_is u2, u3, u4⟩
  by_cases k2 : kind = 2
  · subst k2; simp at u2 u3 u4 v; exact .inr (.inl ⟨rfl, v, empty_is u2, u3, u4⟩)
  by_cases k3 : kind = 3
  · subst k3; simp at u2 u3 u4 v; exact .inr (.inr (.inl ⟨rfl, v, empty_is u2, u3, u4⟩))
  by_cases k4 : kind = 4
  · subst k4; simp [textB] at u1 u3 u4 v; exact .inr (.inr (.inr (.inl ⟨rfl, u1, v.1, u3, u4⟩)))
  by_cases k5 : kind = 5
  · subst k5; simp at u1 u2 u3; exact .inr (.inr (.inr (.inr (.inl ⟨rfl, u1, empty_is u2, u3⟩))))
  by_cases k6 : kind = 6
  · subst k6; simp at u1 u2 v; exact .inr (.inr (.inr (.inr (.inr ⟨rfl, u1, empty_is u2, v.1, v.2⟩))))
  simp [k1, k2, k3, k4, k5, k6] at v
end Go.Proofs.YtiamkmkbkehldaaGreatDoor

/-
  Plain: YAML's bytes of a tree.
-/
namespace Go.Proofs.YtiamkmkbkehldaaGreatDoor
open Go.RowKit
set_option linter.unusedSimpArgs false
set_option linter.unusedVariables false

def wordY (s : ByteArray) : List UInt8 := if plainL s.data.toList = true then s.data.toList else quoT s
def kidsY : VT → List VT | .mk _ _ _ _ kids => kids
/-- What stands in one line. -/
def flatY : VT → List UInt8 | .mk kind n s keys kids => if kind = 4 then wordY s else jsonT false 1 0 (.mk kind n s keys kids)
def headY (named : Bool) (key : ByteArray) : List UInt8 := if named = true then wordY key ++ [58] else [45]
/-- What stands behind the head of a part's line. -/
def tailY (F : VT → List UInt8) (t : VT) : List UInt8 := if (kidsY t).length = 0 then 32 :: (flatY t ++ [10]) else 10 :: F t
def blkY (F : VT → List UInt8) (named : Bool) (pad : Nat) (keys : List ByteArray) (kids : List VT) : Nat → List UInt8
  | 0 => []
  | k + 1 => blkY F named pad keys kids k ++ (List.replicate pad 32 ++ (headY named (keyAt keys k) ++ tailY F (kidT kids k)))
def blockY : Nat → Nat → VT → List UInt8
  | 0, _, _ => []
  | f + 1, pad, .mk kind n s keys kids => blkY (blockY f (pad + 2)) (decide (kind = 6)) pad keys kids kids.length
def yamlT (f : Nat) (t : VT) : List UInt8 := if (kidsY t).length = 0 then flatY t ++ [10] else blockY f 0 t
theorem blkY_mono (F : VT → List UInt8) (named : Bool) (pad : Nat) (keys : List ByteArray) (kids : List VT) {j k : Nat} (h : j ≤ k) : (blkY F named pad keys kids j).length ≤ (blkY F named pad keys kids k).length := by
  induction k with
  | zero => obtain rfl : j = 0 := by omega
            exact Nat.le_refl _
  | succ k ih =>
    by_cases e : j = k + 1
    · rw [e]; exact Nat.le_refl _
    · have := ih (by omega)
      rw [blkY, List.length_append]; omega
theorem quo_ge (l : List UInt8) : l.length ≤ (quo l).length := by
  induction l with
  | nil => exact Nat.le_refl _
  | cons c l ih => have := quoB_len c; rw [quo, List.length_append, List.length_cons]; omega
theorem wordY_len (s : ByteArray) : (wordY s).length ≤ (quoT s).length := by
  unfold wordY
  split
  · have := quo_ge s.data.toList
    unfold quoT
    simp only [List.length_cons, List.length_append, List.length_nil]; omega
  · exact Nat.le_refl _
theorem flatY_len (f deep : Nat) (t : VT) (h : (kidsY t).length = 0) : (flatY t).length ≤ (jsonT true (f + 1) deep t).length := by
  obtain ⟨kind, n, s, keys, kids⟩ := t
  have hk : kids = [] := List.eq_nil_of_length_eq_zero h
  subst hk
  show (if kind = 4 then wordY s else jsonT false 1 0 (.mk kind n s keys [])).length ≤ _
  have e : ∀ F named d, wholeJ F true named d keys [] = [] := fun F named d => by unfold wholeJ; simp
  have e2 : ∀ F named d, wholeJ F false named d keys [] = [] := fun F named d => by unfold wholeJ; simp
  split
  · rename_i h4
    rw [(jsonT_leaf true f deep).2.2.2.1 h4]
    exact wordY_len s
  · rename_i h4
    rw [jsonT, jsonT, if_neg h4, if_neg h4, e, e, e2, e2]
    split
    · exact Nat.le_refl _
    split
    · exact Nat.le_refl _
    split
    · exact Nat.le_refl _
    split <;> exact Nat.le_refl _
theorem tailY_len {f deep : Nat} {t : VT} (hf : 1 ≤ f) (h : (kidsY t).length ≠ 0 → (blockY f (2 * deep + 2) t).length ≤ (jsonT true f (deep + 1) t).length) : (tailY (blockY f (2 * deep + 2)) t).length ≤ (jsonT true f (deep + 1) t).length + 2 := by
  unfold tailY
  split
  · rename_i h0
    obtain ⟨g, rfl⟩ : ∃ g, f = g + 1 := ⟨f - 1, by omega⟩
    have := flatY_len g (deep + 1) t h0
    simp only [List.length_cons, List.length_append, List.length_nil]; omega
  · rename_i h0
    have := h h0
    rw [List.length_cons]; omega
theorem headY_len (named : Bool) (key : ByteArray) : (headY named key).length + 1 ≤ (if named = true then keyJ true key else []).length + 2 := by
  have := wordY_len key
  unfold headY
  cases named
  · simp
  · unfold keyJ
    simp only [if_true, List.length_append, List.length_cons, List.length_nil]
    omega
theorem blkY_len {f deep : Nat} (hf : 1 ≤ f) {named : Bool} {keys : List ByteArray} {kids : List VT} (h : ∀ j, j < kids.length → (kidsY (kidT kids j)).length ≠ 0 → (blockY f (2 * deep + 2) (kidT kids j)).length ≤ (jsonT true f (deep + 1) (kidT kids j)).length) :
    ∀ k, k ≤ kids.length → (blkY (blockY f (2 * deep + 2)) named (2 * deep) keys kids k).length ≤ (partsJ (jsonT true f (deep + 1)) true named deep keys kids k).length := by
  intro k
  induction k with
  | zero => intro _; exact Nat.le_refl _
  | succ k ih =>
    intro hk
    have h1 := ih (by omega)
    have h2 := tailY_len hf (h k (by omega))
    have h3 := headY_len named (keyAt keys k)
    have h4 : (lineJ true (deep + 1)).length = 2 * (deep + 1) + 1 := by unfold lineJ; simp
    rw [blkY, partsJ]
    simp only [List.length_append, List.length_replicate]
    omega
theorem blockY_len : ∀ (f deep : Nat) (t : VT), goodT f t → (kidsY t).length ≠ 0 → (blockY f (2 * deep) t).length ≤ (jsonT true f deep t).length := by
  intro f
  induction f with
  | zero => intro deep t h; exact h.elim
  | succ f ih =>
    intro deep t h h0
    obtain ⟨kind, n, s, keys, kids⟩ := t
    obtain ⟨h1, h2⟩ := h
    have hf : 1 ≤ f := by
      rcases Nat.eq_zero_or_pos f with e | e
      · subst e
        exact (h2 0 (Nat.pos_of_ne_zero h0)).elim
      · exact e
    have hb := fun named => blkY_len (deep := deep) (named := named) (keys := keys) hf (fun j hj hn => ih (deep + 1) (kidT kids j) (h2 j hj) hn) kids.length (Nat.le_refl _)
    have hl := jsonT_leaf true f deep (kind := kind) (n := n) (s := s) (keys := keys) (kids := kids)
    have h00 : ¬ kids.length = 0 := h0
    have hw : ∀ named, (partsJ (jsonT true f (deep + 1)) true named deep keys kids kids.length).length ≤ (wholeJ (jsonT true f (deep + 1)) true named deep keys kids).length := fun named => by
      unfold wholeJ
      rw [if_neg h00, List.length_append]; omega
    rcases nodeT_says h1 with ⟨_, _, _, _, hm⟩ | ⟨_, _, _, _, hm⟩ | ⟨_, _, _, _, hm⟩ | ⟨_, _, _, _, hm⟩ | ⟨k, _, _, _⟩ | ⟨k, _, _, _, _⟩
    · exact absurd hm h00
    · exact absurd hm h00
    · exact absurd hm h00
    · exact absurd hm h00
    · rw [hl.2.2.2.2.1 k, blockY]
      have e : decide (kind = 6) = false := by simp; omega
      rw [e]
      have h5 := hb false
      have h6 := hw false
      rw [show 2 * deep + 2 = 2 * deep + 2 from rfl]
      simp only [List.length_cons, List.length_append, List.length_nil]
      omega
    · rw [hl.2.2.2.2.2 k, blockY]
      have e : decide (kind = 6) = true := by simp; omega
      rw [e]
      have h5 := hb true
      have h6 := hw true
      simp only [List.length_cons, List.length_append, List.length_nil]
      omega
end Go.Proofs.YtiamkmkbkehldaaGreatDoor

/-
  Plain: bytes that lie at a place of a text, and the numbers and texts that are read there.
-/
namespace Go.Proofs.YtiamkmkbkehldaaGreatDoor
open Go.RowKit
set_option linter.unusedSimpArgs false
set_option linter.unusedVariables false

def Sit (L : List UInt8) (p : Nat) (B : List UInt8) : Prop := p ≤ L.length ∧ ∃ post, L.drop p = B ++ post
theorem Sit.left {L : List UInt8} {p : Nat} {A B : List UInt8} (h : Sit L p (A ++ B)) : Sit L p A := by
  obtain ⟨h0, post, h⟩ := h
  exact ⟨h0, B ++ post, by rw [h, List.append_assoc]⟩
theorem Sit.len {L : List UInt8} {p : Nat} {B : List UInt8} (h : Sit L p B) : p + B.length ≤ L.length := by
  obtain ⟨h0, post, h⟩ := h
  have := congrArg List.length h
  rw [List.length_drop, List.length_append] at this
  omega
theorem Sit.right {L : List UInt8} {p : Nat} {A B : List UInt8} (h : Sit L p (A ++ B)) : Sit L (p + A.length) B := by
  have hl := h.left.len
  obtain ⟨h0, post, h⟩ := h
  refine ⟨hl, post, ?_⟩
  rw [← List.drop_drop, h, List.append_assoc, List.drop_left]
theorem Sit.byte {L : List UInt8} {p : Nat} {B : List UInt8} (h : Sit L p B) {j : Nat} {x : UInt8} (hj : B[j]? = some x) : byAt L (p + j) = x.toNat := by
  obtain ⟨h0, post, h⟩ := h
  have hlt : j < B.length := by
    rcases Nat.lt_or_ge j B.length with h' | h'
    · exact h'
    · rw [List.getElem?_eq_none h'] at hj; cases hj
  have : L[p + j]? = some x := by
    rw [← List.getElem?_drop, h, List.getElem?_append_left hlt, hj]
  unfold byAt
  rw [List.getD_eq_getElem?_getD, this]
  rfl
theorem Sit.cut {L : List UInt8} {p : Nat} {s : ByteArray} (h : Sit L p s.data.toList) : cutT L p s.size = s := by
  have hl := len_is s
  obtain ⟨h0, post, h⟩ := h
  unfold cutT
  rw [h, ← hl, List.take_left]
  rfl
theorem bigB_get (n : Int) : ∀ (m j : Nat), j < m → (bigB n m)[j]? = some (byI (n / 256 ^ (m - 1 - j))) := by
  intro m
  induction m with
  | zero => intro j hj; omega
  | succ m ih =>
    intro j hj
    cases j with
    | zero => simp [bigB]
    | succ j =>
      rw [bigB, List.getElem?_cons_succ, ih j (by omega)]
      rw [show m + 1 - 1 - (j + 1) = m - 1 - j by omega]
theorem byI_nat (n k : Nat) : (byI ((n : Int) / 256 ^ k)).toNat = n / 256 ^ k % 256 := by
  have h := byI_int ((n : Int) / 256 ^ k)
  have e : ((n : Int) / 256 ^ k) % 256 = ((n / 256 ^ k % 256 : Nat) : Int) := by rw [Int.natCast_emod, Int.natCast_ediv, Int.natCast_pow]; rfl
  rw [e] at h
  exact Int.ofNat.inj h
theorem big_sit {L : List UInt8} {p n m : Nat} (h : Sit L p (bigB (n : Int) m)) (hn : n < 256 ^ m) : bigN L p m = n := by
  have key : ∀ j, j ≤ m → bigN L p j = n / 256 ^ (m - j) := by
    intro j
    induction j with
    | zero => intro _; rw [bigN, Nat.sub_zero, Nat.div_eq_of_lt hn]
    | succ j ih =>
      intro hj
      rw [bigN, ih (by omega), h.byte (bigB_get _ m j (by omega)), byI_nat]
      rw [show m - j = (m - 1 - j) + 1 by omega, Nat.pow_succ, ← Nat.div_div_eq_div_mul, show m - (j + 1) = m - 1 - j by omega]
      omega
  have := key m (Nat.le_refl _)
  rw [Nat.sub_self, Nat.pow_zero, Nat.div_one] at this
  exact this
theorem stepI_nat (n : Nat) (hn : n ≤ 1000000000000000) : n < 256 ^ (2 ^ stepI (n : Int)) := by
  unfold stepI
  split
  · have : n < 256 := by omega
    simpa using this
  split
  · have : n < 65536 := by omega
    simpa using this
  split
  · have : n < 4294967296 := by omega
    simpa using this
  · have : n < 18446744073709551616 := by omega
    simpa using this
end Go.Proofs.YtiamkmkbkehldaaGreatDoor

/-
  Plain: numbers, texts and words that JSON has written are read again.
-/
namespace Go.Proofs.YtiamkmkbkehldaaGreatDoor
open Go.RowKit
set_option linter.unusedSimpArgs false
set_option linter.unusedVariables false

theorem runJ_is {P : Nat → Bool} {L : List UInt8} : ∀ {m q : Nat}, (∀ j, j < m → P (byAt L (q + j)) = true) → q + m ≤ L.length → ¬ (q + m < L.length ∧ P (byAt L (q + m)) = true) → runJ P L q = q + m := by
  intro m
  induction m with
  | zero => intro q _ _ h; rw [Nat.add_zero] at *; exact runJ_no h
  | succ m ih =>
    intro q h1 h2 h3
    rw [runJ_yes (by omega) (by have := h1 0 (by omega); rwa [Nat.add_zero] at this), ih (q := q + 1) (fun j hj => by have := h1 (j + 1) (by omega); rwa [show q + (j + 1) = q + 1 + j by omega] at this) (by omega) (by rwa [show q + 1 + m = q + (m + 1) by omega])]
    omega
theorem digB_is {d : Nat} (h : d < 10) : (UInt8.ofNat (48 + d)).toNat = 48 + d := by rw [UInt8.toNat_ofNat']; omega
theorem Sit.one {L : List UInt8} {q : Nat} {x : UInt8} {B : List UInt8} (h : Sit L q (x :: B)) : q < L.length ∧ byAt L q = x.toNat := by
  have := h.len
  rw [List.length_cons] at this
  exact ⟨by omega, h.byte (j := 0) rfl⟩
theorem Sit.next {L : List UInt8} {q : Nat} {x : UInt8} {B : List UInt8} (h : Sit L q (x :: B)) : Sit L (q + 1) B := Sit.right (A := [x]) h
theorem dec_sit {L : List UInt8} : ∀ (m u q : Nat), u ≤ m → Sit L q (Lib.decDigits u) → valF L q (Lib.decDigits u).length = u ∧ (∀ j, j < (Lib.decDigits u).length → digC (byAt L (q + j)) = true) ∧ (1 ≤ u → byAt L q ≠ 48) ∧ 1 ≤ (Lib.decDigits u).length ∧ (1 < (Lib.decDigits u).length → 1 ≤ u) := by
  intro m
  induction m with
  | zero =>
    intro u q hu hs
    obtain rfl : u = 0 := by omega
    rw [Lib.decDigits, dif_pos (by omega)] at hs ⊢
    have hb := hs.one.2
    refine ⟨?_, fun j hj => ?_, fun h => by omega, by simp, fun h => by simp at h⟩
    · simp only [List.length_cons, List.length_nil, Nat.zero_add, valF]; rw [Nat.add_zero, hb]; rfl
    · obtain rfl : j = 0 := by simpa using hj
      rw [Nat.add_zero, hb]; rfl
  | succ m ih =>
    intro u q hu hs
    by_cases h10 : u < 10
    · rw [Lib.decDigits, dif_pos h10] at hs ⊢
      have hb := hs.one.2
      rw [digB_is h10] at hb
      refine ⟨?_, fun j hj => ?_, fun h => by omega, by simp, fun h => by simp at h⟩
      · simp only [List.length_cons, List.length_nil, Nat.zero_add, valF]; rw [Nat.add_zero, hb]; omega
      · obtain rfl : j = 0 := by simpa using hj
        rw [Nat.add_zero, hb]; unfold digC; simp; omega
    · rw [Lib.decDigits, dif_neg h10] at hs ⊢
      obtain ⟨a1, a2, a3, a4, a5⟩ := ih (u / 10) q (by omega) hs.left
      have hb := hs.right.one.2
      rw [digB_is (by omega)] at hb
      refine ⟨?_, fun j hj => ?_, fun h => a3 (by omega), by simp, fun h => by omega⟩
      · rw [List.length_append, List.length_cons, List.length_nil, Nat.zero_add, valF, a1, hb]; omega
      · rw [List.length_append, List.length_cons, List.length_nil] at hj
        by_cases e : j = (Lib.decDigits (u / 10)).length
        · rw [e, hb]; unfold digC; simp; omega
        · exact a2 j (by omega)
/-- No digit stands at q. -/
def NoDig (L : List UInt8) (q : Nat) : Prop := ¬ (q < L.length ∧ digC (byAt L q) = true)
theorem itoa_sit {L : List UInt8} {p : Nat} {n : Int} (h1 : -1000000000000000 ≤ n) (h2 : n ≤ 1000000000000000) (h : Sit L p (Lib.itoa n)) (hs : NoDig L (p + (Lib.itoa n).length)) : numJ L p = some (n, p + (Lib.itoa n).length) := by
  unfold Lib.itoa at h hs ⊢
  by_cases hn : n < 0
  · rw [if_pos hn] at h hs ⊢
    obtain ⟨b0, b1⟩ := h.one
    obtain ⟨a1, a2, a3, a4, a5⟩ := dec_sit (L := L) n.natAbs n.natAbs (p + 1) (Nat.le_refl _) h.next
    have hl := h.next.len
    rw [List.length_cons] at hs ⊢
    have hat : isAt L p 45 = true := isAt_yes.2 ⟨b0, b1⟩
    have hna : numAt L p = p + 1 := by unfold numAt; rw [if_pos hat]
    have hdg : dgJ L (p + 1) = p + 1 + (Lib.decDigits n.natAbs).length := runJ_is a2 hl (by rw [show p + 1 + (Lib.decDigits n.natAbs).length = p + ((Lib.decDigits n.natAbs).length + 1) by omega]; exact hs)
    unfold numJ
    rw [hna, hdg, show p + 1 + (Lib.decDigits n.natAbs).length - (p + 1) = (Lib.decDigits n.natAbs).length by omega, a1, if_neg, if_pos hat]
    · refine congrArg some (Prod.ext ?_ ?_)
      · show -((n.natAbs : Nat) : Int) = n; omega
      · show p + 1 + _ = _; omega
    · rintro (e | ⟨e1, e2⟩ | e)
      · omega
      · exact a3 (by omega) e2
      · omega
  · rw [if_neg hn] at h hs ⊢
    obtain ⟨a1, a2, a3, a4, a5⟩ := dec_sit (L := L) n.toNat n.toNat p (Nat.le_refl _) h
    have hl := h.len
    have hat : ¬ isAt L p 45 = true := fun e => by
      have e2 := (isAt_yes.1 e).2
      have := a2 0 (by omega)
      rw [Nat.add_zero, e2] at this
      cases this
    have hna : numAt L p = p := by unfold numAt; rw [if_neg hat]
    have hdg : dgJ L p = p + (Lib.decDigits n.toNat).length := runJ_is a2 hl hs
    unfold numJ
    rw [hna, hdg, show p + (Lib.decDigits n.toNat).length - p = (Lib.decDigits n.toNat).length by omega, a1, if_neg, if_neg hat]
    · refine congrArg some (Prod.ext ?_ rfl)
      show ((n.toNat : Nat) : Int) = n; omega
    · rintro (e | ⟨e1, e2⟩ | e)
      · omega
      · exact a3 (a5 (by omega)) e2
      · omega
theorem itoa_first {L : List UInt8} {p : Nat} {n : Int} (h : Sit L p (Lib.itoa n)) : p < L.length ∧ (byAt L p = 45 ∨ digC (byAt L p) = true) := by
  unfold Lib.itoa at h
  by_cases hn : n < 0
  · rw [if_pos hn] at h
    exact ⟨h.one.1, .inl h.one.2⟩
  · rw [if_neg hn] at h
    obtain ⟨a1, a2, a3, a4, a5⟩ := dec_sit (L := L) n.toNat n.toNat p (Nat.le_refl _) h
    have hl := h.len
    exact ⟨by omega, .inr (by have := a2 0 (by omega); rwa [Nat.add_zero] at this)⟩

theorem hexC_hexB0 : ∀ d : Fin 16, hexC (hexB d.val).toNat = some d.val := by decide +kernel
theorem hexC_hexB {d : Nat} (h : d < 16) : hexC (hexB d).toNat = some d := hexC_hexB0 ⟨d, h⟩
theorem quoB_says (c : UInt8) (hc : c.toNat ≤ 127) : (∃ x : UInt8, quoB c = [92, x] ∧ escC x.toNat = some c.toNat) ∨ (∃ a b : UInt8, quoB c = [92, 117, 48, 48, a, b] ∧ ∃ u v, hexC a.toNat = some u ∧ hexC b.toNat = some v ∧ 16 * u + v = c.toNat) ∨ (quoB c = [c] ∧ c ≠ 34 ∧ c ≠ 92 ∧ 32 ≤ c.toNat) := by
  unfold quoB
  split
  · rename_i e; subst e; exact .inl ⟨34, rfl, rfl⟩
  split
  · rename_i e; subst e; exact .inl ⟨92, rfl, rfl⟩
  split
  · rename_i e; subst e; exact .inl ⟨98, rfl, rfl⟩
  split
  · rename_i e; subst e; exact .inl ⟨116, rfl, rfl⟩
  split
  · rename_i e; subst e; exact .inl ⟨110, rfl, rfl⟩
  split
  · rename_i e; subst e; exact .inl ⟨102, rfl, rfl⟩
  split
  · rename_i e; subst e; exact .inl ⟨114, rfl, rfl⟩
  split
  · exact .inr (.inl ⟨_, _, rfl, c.toNat / 16, c.toNat % 16, hexC_hexB (by omega), hexC_hexB (by omega), by omega⟩)
  · rename_i h34 h92 _ _ _ _ _ h
    refine .inr (.inr ⟨rfl, h34, h92, ?_⟩)
    have : ¬ c < 32 := fun e => h (.inl e)
    rw [UInt8.lt_iff_toNat_lt] at this
    have e32 : (32 : UInt8).toNat = 32 := rfl
    omega
theorem esc_at {L : List UInt8} {p : Nat} {x : UInt8} {b : Nat} (h : p < L.length) (hx : byAt L p = x.toNat) (hb : escC x.toNat = some b) : escJ L p = some (b, p + 1) := by
  unfold escJ; rw [if_neg (by omega), hx]; simp only [hb]
theorem code_at {L : List UInt8} {p : Nat} {a b : UInt8} {u v : Nat} (h : Sit L p [117, 48, 48, a, b]) (ha : hexC a.toNat = some u) (hb : hexC b.toNat = some v) (hv : 16 * u + v ≤ 127) : escJ L p = some (16 * u + v, p + 5) := by
  have hl := h.len
  simp only [List.length_cons, List.length_nil] at hl
  have b0 := h.byte (j := 0) rfl
  have b1 := h.byte (j := 1) rfl
  have b2 := h.byte (j := 2) rfl
  have b3 := h.byte (j := 3) rfl
  have b4 := h.byte (j := 4) rfl
  rw [Nat.add_zero] at b0
  have e0 : escC (byAt L p) = none := by rw [b0]; rfl
  unfold escJ
  rw [if_neg (by omega)]
  simp only [e0]
  rw [if_pos (show byAt L p = 117 from b0)]
  have h1 : hexF L (p + 1) 1 = some 0 := by rw [hexF, hexF]; simp only [Nat.add_zero, b1]; rfl
  have h2 : hexF L (p + 1) 2 = some 0 := by rw [hexF, h1, show p + 1 + 1 = p + 2 by omega, b2]; rfl
  have h3 : hexF L (p + 1) 3 = some u := by rw [hexF, h2, show p + 1 + 2 = p + 3 by omega, b3]; simp only [ha]; simp
  have h4 : hexF L (p + 1) 4 = some (16 * u + v) := by rw [hexF, h3, show p + 1 + 3 = p + 4 by omega, b4]; simp only [hb]
  rw [codeJ_yes (by omega) h4 hv]
theorem tx_sit {L : List UInt8} : ∀ (l : List UInt8) (q : Nat), (∀ c ∈ l, c.toNat ≤ 127) → Sit L q (quo l ++ [34]) → txJ L q = some (l, q + (quo l).length + 1) := by
  intro l
  induction l with
  | nil =>
    intro q _ h
    obtain ⟨h1, h2⟩ := Sit.one (B := []) h
    rw [txJ_eq h1, if_pos (by rw [h2]; rfl)]
    rfl
  | cons c l ih =>
    intro q hc h
    have hc0 := hc c (by simp)
    have hcl : ∀ d ∈ l, d.toNat ≤ 127 := fun d hd => hc d (by simp [hd])
    have hof : UInt8.ofNat c.toNat = c := by simp
    rw [quo, List.append_assoc] at h
    have hr := ih _ hcl h.right
    rw [quo, List.length_append]
    rcases quoB_says c hc0 with ⟨x, e, ex⟩ | ⟨a, b, e, u, v, eu, ev, euv⟩ | ⟨e, n34, n92, n32⟩
    · rw [e] at h hr ⊢
      have hl := h.left
      obtain ⟨h1, h2⟩ := hl.one
      obtain ⟨h3, h4⟩ := hl.next.one
      have hesc := esc_at h3 h4 ex
      rw [txJ_eq h1, if_neg (by rw [h2]; decide), if_pos (by rw [h2]; rfl), hesc]
      simp only [List.length_cons, List.length_nil] at hr ⊢
      rw [show q + 1 + 1 = q + (0 + 1 + 1) by omega, hr, hof]
      refine congrArg some (Prod.ext rfl ?_)
      show q + (0 + 1 + 1) + (quo l).length + 1 = q + (0 + 1 + 1 + (quo l).length) + 1; omega
    · rw [e] at h hr ⊢
      have hl := h.left
      obtain ⟨h1, h2⟩ := hl.one
      have hesc := code_at hl.next eu ev (by omega)
      rw [txJ_eq h1, if_neg (by rw [h2]; decide), if_pos (by rw [h2]; rfl), hesc]
      simp only [List.length_cons, List.length_nil] at hr ⊢
      rw [show q + 1 + 5 = q + (0 + 1 + 1 + 1 + 1 + 1 + 1) by omega, hr, euv, hof]
      refine congrArg some (Prod.ext rfl ?_)
      show q + (0 + 1 + 1 + 1 + 1 + 1 + 1) + (quo l).length + 1 = q + (0 + 1 + 1 + 1 + 1 + 1 + 1 + (quo l).length) + 1; omega
    · rw [e] at h hr ⊢
      obtain ⟨h1, h2⟩ := h.left.one
      have m34 : ¬ byAt L q = 34 := fun e2 => n34 (UInt8.toNat_inj.1 (by rw [← h2, e2]; rfl))
      have m92 : ¬ byAt L q = 92 := fun e2 => n92 (UInt8.toNat_inj.1 (by rw [← h2, e2]; rfl))
      rw [txJ_eq h1, if_neg m34, if_neg m92, if_neg (by omega)]
      simp only [List.length_cons, List.length_nil] at hr ⊢
      rw [show q + 1 = q + (0 + 1) by omega, hr, h2, hof]
      refine congrArg some (Prod.ext rfl ?_)
      show q + (0 + 1) + (quo l).length + 1 = q + (0 + 1 + (quo l).length) + 1; omega
theorem textB_all {s : ByteArray} (h : textB s = true) : ∀ c ∈ s.data.toList, c.toNat ≤ 127 := by
  unfold textB at h
  simp only [Bool.and_eq_true, List.all_eq_true, decide_eq_true_eq] at h
  exact h.2
theorem quoT_sit {L : List UInt8} {p : Nat} {s : ByteArray} (hs : textB s = true) (h : Sit L p (quoT s)) : isAt L p 34 = true ∧ txJ L (p + 1) = some (s.data.toList, p + (quoT s).length) := by
  unfold quoT at h ⊢
  obtain ⟨h1, h2⟩ := h.one
  refine ⟨isAt_yes.2 ⟨h1, h2⟩, ?_⟩
  rw [tx_sit _ _ (textB_all hs) h.next]
  refine congrArg some (Prod.ext rfl ?_)
  simp only [List.length_cons, List.length_append, List.length_nil]
  omega
theorem word_sit1 {L B : List UInt8} {p : Nat} (h : Sit L p B) : wordAt L p B = true := by
  obtain ⟨h0, post, h⟩ := h
  unfold wordAt
  rw [h, List.take_left]
  simp
theorem word_other {L : List UInt8} {p : Nat} {c : UInt8} {w : List UInt8} (h : byAt L p ≠ c.toNat) : wordAt L p (c :: w) = false := by
  rw [Bool.eq_false_iff]
  intro e
  exact h (isAt_yes.1 (wordAt_first e)).2
end Go.Proofs.YtiamkmkbkehldaaGreatDoor
