/-
  Plain: bytes that lie at a place of a text, and the numbers and texts that are read there.
-/
import Derived.Test.YtagcgnhpdmhegaaGreatDoorJrP
import Derived.Test.YtagcgnhpdmhegaaGreatDoorCbP
import Derived.Test.YtagcgnhpdmhegaaGreatDoorRdT
import Derived.Test.YtagcgnhpdmhegaaGreatDoorMem
import Derived.Test.YtagcgnhpdmhegaaGreatDoorRd
import Derived.Lib.ItoaNum
import Derived.Test.YtagcgnhpdmhegaaGreatDoorRdC
namespace Go.Proofs.YtagcgnhpdmhegaaGreatDoor
open Go.RowKit
set_option linter.unusedSimpArgs false
set_option linter.unusedVariables false

def Sit (L : List UInt8) (p : Nat) (B : List UInt8) : Prop := p ≤ L.length ∧ ∃ post, L.drop p = B ++ post
theorem Sit.left {L : List UInt8} {p : Nat} {A B : List UInt8} (h : Sit L p (A ++ B)) : Sit L p A := by
  obtain ⟨h0, post, h⟩ := h
  exact ⟨h0, B ++ post, by rw [h, List.append_assoc]⟩
theorem Sit.len {L : List UInt8} {p : Nat} {B : List UInt8} (h : Sit L p B) : p + B.length ≤ L.length := by
  obtain ⟨h0, post, h⟩ := h
  have := congrArg List.length h
  rw [List.length_drop, List.length_append] at this
  omega
theorem Sit.right {L : List UInt8} {p : Nat} {A B : List UInt8} (h : Sit L p (A ++ B)) : Sit L (p + A.length) B := by
  have hl := h.left.len
  obtain ⟨h0, post, h⟩ := h
  refine ⟨hl, post, ?_⟩
  rw [← List.drop_drop, h, List.append_assoc, List.drop_left]
theorem Sit.byte {L : List UInt8} {p : Nat} {B : List UInt8} (h : Sit L p B) {j : Nat} {x : UInt8} (hj : B[j]? = some x) : byAt L (p + j) = x.toNat := by
  obtain ⟨h0, post, h⟩ := h
  have hlt : j < B.length := by
    rcases Nat.lt_or_ge j B.length with h' | h'
    · exact h'
    · rw [List.getElem?_eq_none h'] at hj; cases hj
  have : L[p + j]? = some x := by
    rw [← List.getElem?_drop, h, List.getElem?_append_left hlt, hj]
  unfold byAt
  rw [List.getD_eq_getElem?_getD, this]
  rfl
theorem Sit.cut {L : List UInt8} {p : Nat} {s : ByteArray} (h : Sit L p s.data.toList) : cutT L p s.size = s := by
  have hl := len_is s
  obtain ⟨h0, post, h⟩ := h
  unfold cutT
  rw [h, ← hl, List.take_left]
  rfl
theorem bigB_get (n : Int) : ∀ (m j : Nat), j < m → (bigB n m)[j]? = some (byI (n / 256 ^ (m - 1 - j))) := by
  intro m
  induction m with
  | zero => intro j hj; omega
  | succ m ih =>
    intro j hj
    cases j with
    | zero => simp [bigB]
    | succ j =>
      rw [bigB, List.getElem?_cons_succ, ih j (by omega)]
      rw [show m + 1 - 1 - (j + 1) = m - 1 - j by omega]
theorem byI_nat (n k : Nat) : (byI ((n : Int) / 256 ^ k)).toNat = n / 256 ^ k % 256 := by
  have h := byI_int ((n : Int) / 256 ^ k)
  have e : ((n : Int) / 256 ^ k) % 256 = ((n / 256 ^ k % 256 : Nat) : Int) := by rw [Int.natCast_emod, Int.natCast_ediv, Int.natCast_pow]; rfl
  rw [e] at h
  exact Int.ofNat.inj h
theorem big_sit {L : List UInt8} {p n m : Nat} (h : Sit L p (bigB (n : Int) m)) (hn : n < 256 ^ m) : bigN L p m = n := by
  have key : ∀ j, j ≤ m → bigN L p j = n / 256 ^ (m - j) := by
    intro j
    induction j with
    | zero => intro _; rw [bigN, Nat.sub_zero, Nat.div_eq_of_lt hn]
    | succ j ih =>
      intro hj
      rw [bigN, ih (by omega), h.byte (bigB_get _ m j (by omega)), byI_nat]
      rw [show m - j = (m - 1 - j) + 1 by omega, Nat.pow_succ, ← Nat.div_div_eq_div_mul, show m - (j + 1) = m - 1 - j by omega]
      omega
  have := key m (Nat.le_refl _)
  rw [Nat.sub_self, Nat.pow_zero, Nat.div_one] at this
  exact this
theorem stepI_nat (n : Nat) (hn : n ≤ 1000000000000000) : n < 256 ^ (2 ^ stepI (n : Int)) := by
  unfold stepI
  split
  · have : n < 256 := by omega
    simpa using this
  split
  · have : n < 65536 := by omega
    simpa using this
  split
  · have : n < 4294967296 := by omega
    simpa using this
  · have : n < 18446744073709551616 := by omega
    simpa using this
end Go.Proofs.YtagcgnhpdmhegaaGreatDoor

/-
  Plain: what a right node says by its kind.
-/
namespace Go.Proofs.YtagcgnhpdmhegaaGreatDoor
open Go.RowKit
set_option linter.unusedSimpArgs false
set_option linter.unusedVariables false

theorem rise_at {keys : List ByteArray} (hr : riseB keys = true) {j : Nat} (hj : j < keys.length) : textB (keyAt keys j) = true ∧ (0 < j → lessB (keyAt keys (j - 1)) (keyAt keys j) = true) := by
  have := List.all_eq_true.1 hr j (List.mem_range.2 hj)
  unfold riseAt at this
  simp only [Bool.and_eq_true, Bool.or_eq_true, decide_eq_true_eq] at this
  exact ⟨this.1, fun h => this.2.resolve_left (by omega)⟩
theorem keys_less {keys : List ByteArray} (hr : riseB keys = true) : ∀ d a, a + d + 1 < keys.length → lessB (keyAt keys a) (keyAt keys (a + d + 1)) = true := by
  intro d
  induction d with
  | zero => intro a h; have := (rise_at hr h).2 (by omega); rwa [show a + 0 + 1 - 1 = a by omega] at this
  | succ d ih =>
    intro a h
    have h1 := ih a (by omega)
    have h2 := (rise_at hr h).2 (by omega)
    rw [show a + (d + 1) + 1 - 1 = a + d + 1 by omega] at h2
    exact less_trans h1 h2
theorem range_keys (keys : List ByteArray) : (List.range keys.length).map (keyAt keys) = keys := by
  apply List.ext_getElem?
  intro i
  rw [List.getElem?_map]
  by_cases h : i < keys.length
  · rw [List.getElem?_range h, Option.map_some]
    unfold keyAt
    rw [List.getD_eq_getElem?_getD, List.getElem?_eq_getElem h]; rfl
  · rw [List.getElem?_eq_none (by simp; omega), List.getElem?_eq_none (by omega)]; rfl
theorem range_kids (kids : List VT) : (List.range kids.length).map (kidT kids) = kids := by
  apply List.ext_getElem?
  intro i
  rw [List.getElem?_map]
  by_cases h : i < kids.length
  · rw [List.getElem?_range h, Option.map_some]
    unfold kidT
    rw [List.getD_eq_getElem?_getD, List.getElem?_eq_getElem h]; rfl
  · rw [List.getElem?_eq_none (by simp; omega), List.getElem?_eq_none (by omega)]; rfl
theorem empty_is {s : ByteArray} (h : s.toList = []) : s = ByteArray.empty := by
  exact str_eq (by rw [h, ByteArray.toList_eq]; rfl)
theorem nodeT_says {kind n : Int} {s : ByteArray} {keys : List ByteArray} {m : Nat} (h : nodeT kind n s keys m = true) :
    (kind = 1 ∧ n = 0 ∧ s = ByteArray.empty ∧ keys = [] ∧ m = 0) ∨ (kind = 2 ∧ (n = 0 ∨ n = 1) ∧ s = ByteArray.empty ∧ keys = [] ∧ m = 0) ∨ (kind = 3 ∧ (-1000000000000000 ≤ n ∧ n ≤ 1000000000000000) ∧ s = ByteArray.empty ∧ keys = [] ∧ m = 0) ∨
    (kind = 4 ∧ n = 0 ∧ s.size ≤ 60 ∧ keys = [] ∧ m = 0) ∨ (kind = 5 ∧ n = 0 ∧ s = ByteArray.empty ∧ keys = []) ∨ (kind = 6 ∧ n = 0 ∧ s = ByteArray.empty ∧ keys.length = m ∧ riseB keys = true) := by
  unfold nodeT nodeB unnamedB namedB at h
  simp only [Bool.and_eq_true, List.length_replicate] at h
  obtain ⟨⟨⟨⟨u1, u2⟩, u3⟩, u4⟩, v⟩ := h
  by_cases k1 : kind = 1
  · subst k1; simp at u1 u2 u3 u4; exact .inl ⟨rfl, u1, empty_is u2, u3, u4⟩
  by_cases k2 : kind = 2
  · subst k2; simp at u2 u3 u4 v; exact .inr (.inl ⟨rfl, v, empty_is u2, u3, u4⟩)
  by_cases k3 : kind = 3
  · subst k3; simp at u2 u3 u4 v; exact .inr (.inr (.inl ⟨rfl, v, empty_is u2, u3, u4⟩))
  by_cases k4 : kind = 4
  · subst k4; simp [textB] at u1 u3 u4 v; exact .inr (.inr (.inr (.inl ⟨rfl, u1, v.1, u3, u4⟩)))
  by_cases k5 : kind = 5
  · subst k5; simp at u1 u2 u3; exact .inr (.inr (.inr (.inr (.inl ⟨rfl, u1, empty_is u2, u3⟩))))
  by_cases k6 : kind = 6
  · subst k6; simp at u1 u2 v; exact .inr (.inr (.inr (.inr (.inr ⟨rfl, u1, empty_is u2, v.1, v.2⟩))))
  simp [k1, k2, k3, k4, k5, k6] at v
end Go.Proofs.YtagcgnhpdmhegaaGreatDoor

/-
  Plain: numbers, texts and words that JSON has written are read again.
-/
namespace Go.Proofs.YtagcgnhpdmhegaaGreatDoor
open Go.RowKit
set_option linter.unusedSimpArgs false
set_option linter.unusedVariables false

theorem runJ_is {P : Nat → Bool} {L : List UInt8} : ∀ {m q : Nat}, (∀ j, j < m → P (byAt L (q + j)) = true) → q + m ≤ L.length → ¬ (q + m < L.length ∧ P (byAt L (q + m)) = true) → runJ P L q = q + m := by
  intro m
  induction m with
  | zero => intro q _ _ h; rw [Nat.add_zero] at *; exact runJ_no h
  | succ m ih =>
    intro q h1 h2 h3
    rw [runJ_yes (by omega) (by have := h1 0 (by omega); rwa [Nat.add_zero] at this), ih (q := q + 1) (fun j hj => by have := h1 (j + 1) (by omega); rwa [show q + (j + 1) = q + 1 + j by omega] at this) (by omega) (by rwa [show q + 1 + m = q + (m + 1) by omega])]
    omega
theorem digB_is {d : Nat} (h : d < 10) : (UInt8.ofNat (48 + d)).toNat = 48 + d := by rw [UInt8.toNat_ofNat']; omega
theorem Sit.one {L : List UInt8} {q : Nat} {x : UInt8} {B : List UInt8} (h : Sit L q (x :: B)) : q < L.length ∧ byAt L q = x.toNat := by
  have := h.len
  rw [List.length_cons] at this
  exact ⟨by omega, h.byte (j := 0) rfl⟩
theorem Sit.next {L : List UInt8} {q : Nat} {x : UInt8} {B : List UInt8} (h : Sit L q (x :: B)) : Sit L (q + 1) B := Sit.right (A := [x]) h
theorem dec_sit {L : List UInt8} : ∀ (m u q : Nat), u ≤ m → Sit L q (Lib.decDigits u) → valF L q (Lib.decDigits u).length = u ∧ (∀ j, j < (Lib.decDigits u).length → digC (byAt L (q + j)) = true) ∧ (1 ≤ u → byAt L q ≠ 48) ∧ 1 ≤ (Lib.decDigits u).length ∧ (1 < (Lib.decDigits u).length → 1 ≤ u) := by
  intro m
  induction m with
  | zero =>
    intro u q hu hs
    obtain rfl : u = 0 := by omega
    rw [Lib.decDigits, dif_pos (by omega)] at hs ⊢
    have hb := hs.one.2
    refine ⟨?_, fun j hj => ?_, fun h => by omega, by simp, fun h => by simp at h⟩
    · simp only [List.length_cons, List.length_nil, Nat.zero_add, valF]; rw [Nat.add_zero, hb]; rfl
    · obtain rfl : j = 0 := by simpa using hj
      rw [Nat.add_zero, hb]; rfl
  | succ m ih =>
    intro u q hu hs
    by_cases h10 : u < 10
    · rw [Lib.decDigits, dif_pos h10] at hs ⊢
      have hb := hs.one.2
      rw [digB_is h10] at hb
      refine ⟨?_, fun j hj => ?_, fun h => by omega, by simp, fun h => by simp at h⟩
      · simp only [List.length_cons, List.length_nil, Nat.zero_add, valF]; rw [Nat.add_zero, hb]; omega
      · obtain rfl : j = 0 := by simpa using hj
        rw [Nat.add_zero, hb]; unfold digC; simp; omega
    · rw [Lib.decDigits, dif_neg h10] at hs ⊢
      obtain ⟨a1, a2, a3, a4, a5⟩ := ih (u / 10) q (by omega) hs.left
      have hb := hs.right.one.2
      rw [digB_is (by omega)] at hb
      refine ⟨?_, fun j hj => ?_, fun h => a3 (by omega), by simp, fun h => by omega⟩
      · rw [List.length_append, List.length_cons, List.length_nil, Nat.zero_add, valF, a1, hb]; omega
      · rw [List.length_append, List.length_cons, List.length_nil] at hj
        by_cases e : j = (Lib.decDigits (u / 10)).length
        · rw [e, hb]; unfold digC; simp; omega
        · exact a2 j (by omega)
/-- No digit stands at q. -/
def NoDig (L : List UInt8) (q : Nat) : Prop := ¬ (q < L.length ∧ digC (byAt L q) = true)
theorem itoa_sit {L : List UInt8} {p : Nat} {n : Int} (h1 : -1000000000000000 ≤ n) (h2 : n ≤ 1000000000000000) (h : Sit L p (Lib.itoa n)) (hs : NoDig L (p + (Lib.itoa n).length)) : numJ L p = some (n, p + (Lib.itoa n).length) := by
  unfold Lib.itoa at h hs ⊢
  by_cases hn : n < 0
  · rw [if_pos hn] at h hs ⊢
    obtain ⟨b0, b1⟩ := h.one
    obtain ⟨a1, a2, a3, a4, a5⟩ := dec_sit (L := L) n.natAbs n.natAbs (p + 1) (Nat.le_refl _) h.next
    have hl := h.next.len
    rw [List.length_cons] at hs ⊢
    have hat : isAt L p 45 = true := isAt_yes.2 ⟨b0, b1⟩
    have hna : numAt L p = p + 1 := by unfold numAt; rw [if_pos hat]
    have hdg : dgJ L (p + 1) = p + 1 + (Lib.decDigits n.natAbs).length := runJ_is a2 hl (by rw [show p + 1 + (Lib.decDigits n.natAbs).length = p + ((Lib.decDigits n.natAbs).length + 1) by omega]; exact hs)
    unfold numJ
    rw [hna, hdg, show p + 1 + (Lib.decDigits n.natAbs).length - (p + 1) = (Lib.decDigits n.natAbs).length by omega, a1, if_neg, if_pos hat]
    · refine congrArg some (Prod.ext ?_ ?_)
      · show -((n.natAbs : Nat) : Int) = n; omega
      · show p + 1 + _ = _; omega
    · rintro (e | ⟨e1, e2⟩ | e)
      · omega
      · exact a3 (by omega) e2
      · omega
  · rw [if_neg hn] at h hs ⊢
    obtain ⟨a1, a2, a3, a4, a5⟩ := dec_sit (L := L) n.toNat n.toNat p (Nat.le_refl _) h
    have hl := h.len
    have hat : ¬ isAt L p 45 = true := fun e => by
      have e2 := (isAt_yes.1 e).2
      have := a2 0 (by omega)
      rw [Nat.add_zero, e2] at this
      cases this
    have hna : numAt L p = p := by unfold numAt; rw [if_neg hat]
    have hdg : dgJ L p = p + (Lib.decDigits n.toNat).length := runJ_is a2 hl hs
    unfold numJ
    rw [hna, hdg, show p + (Lib.decDigits n.toNat).length - p = (Lib.decDigits n.toNat).length by omega, a1, if_neg, if_neg hat]
    · refine congrArg some (Prod.ext ?_ rfl)
      show ((n.toNat : Nat) : Int) = n; omega
    · rintro (e | ⟨e1, e2⟩ | e)
      · omega
      · exact a3 (a5 (by omega)) e2
      · omega
theorem itoa_first {L : List UInt8} {p : Nat} {n : Int} (h : Sit L p (Lib.itoa n)) : p < L.length ∧ (byAt L p = 45 ∨ digC (byAt L p) = true) := by
  unfold Lib.itoa at h
  by_cases hn : n < 0
  · rw [if_pos hn] at h
    exact ⟨h.one.1, .inl h.one.2⟩
  · rw [if_neg hn] at h
    obtain ⟨a1, a2, a3, a4, a5⟩ := dec_sit (L := L) n.toNat n.toNat p (Nat.le_refl _) h
    have hl := h.len
    exact ⟨by omega, .inr (by have := a2 0 (by omega); rwa [Nat.add_zero] at this)⟩

theorem hexC_hexB0 : ∀ d : Fin 16, hexC (hexB d.val).toNat = some d.val := by decide +kernel
theorem hexC_hexB {d : Nat} (h : d < 16) : hexC (hexB d).toNat = some d := hexC_hexB0 ⟨d, h⟩
theorem quoB_says (c : UInt8) (hc : c.toNat ≤ 127) : (∃ x : UInt8, quoB c = [92, x] ∧ escC x.toNat = some c.toNat) ∨ (∃ a b : UInt8, quoB c = [92, 117, 48, 48, a, b] ∧ ∃ u v, hexC a.toNat = some u ∧ hexC b.toNat = some v ∧ 16 * u + v = c.toNat) ∨ (quoB c = [c] ∧ c ≠ 34 ∧ c ≠ 92 ∧ 32 ≤ c.toNat) := by
  unfold quoB
  split
  · rename_i e; subst e; exact .inl ⟨34, rfl, rfl⟩
  split
  · rename_i e; subst e; exact .inl ⟨92, rfl, rfl⟩
  split
  · rename_i e; subst e; exact .inl ⟨98, rfl, rfl⟩
  split
  · rename_i e; subst e; exact .inl ⟨116, rfl, rfl⟩
  split
  · rename_i e; subst e; exact .inl ⟨110, rfl, rfl⟩
  split
  · rename_i e; subst e; exact .inl ⟨102, rfl, rfl⟩
  split
  · rename_i e; subst e; exact .inl ⟨114, rfl, rfl⟩
  split
  · exact .inr (.inl ⟨_, _, rfl, c.toNat / 16, c.toNat % 16, hexC_hexB (by omega), hexC_hexB (by omega), by omega⟩)
  · rename_i h34 h92 _ _ _ _ _ h
    refine .inr (.inr ⟨rfl, h34, h92, ?_⟩)
    have : ¬ c < 32 := fun e => h (.inl e)
    rw [UInt8.lt_iff_toNat_lt] at this
    have e32 : (32 : UInt8).toNat = 32 := rfl
    omega
theorem esc_at {L : List UInt8} {p : Nat} {x : UInt8} {b : Nat} (h : p < L.length) (hx : byAt L p = x.toNat) (hb : escC x.toNat = some b) : escJ L p = some (b, p + 1) := by
  unfold escJ; rw [if_neg (by omega), hx]; simp only [hb]
theorem code_at {L : List UInt8} {p : Nat} {a b : UInt8} {u v : Nat} (h : Sit L p [117, 48, 48, a, b]) (ha : hexC a.toNat = some u) (hb : hexC b.toNat = some v) (hv : 16 * u + v ≤ 127) : escJ L p = some (16 * u + v, p + 5) := by
  have hl := h.len
  simp only [List.length_cons, List.length_nil] at hl
  have b0 := h.byte (j := 0) rfl
  have b1 := h.byte (j := 1) rfl
  have b2 := h.byte (j := 2) rfl
  have b3 := h.byte (j := 3) rfl
  have b4 := h.byte (j := 4) rfl
  rw [Nat.add_zero] at b0
  have e0 : escC (byAt L p) = none := by rw [b0]; rfl
  unfold escJ
  rw [if_neg (by omega)]
  simp only [e0]
  rw [if_pos (show byAt L p = 117 from b0)]
  have h1 : hexF L (p + 1) 1 = some 0 := by rw [hexF, hexF]; simp only [Nat.add_zero, b1]; rfl
  have h2 : hexF L (p + 1) 2 = some 0 := by rw [hexF, h1, show p + 1 + 1 = p + 2 by omega, b2]; rfl
  have h3 : hexF L (p + 1) 3 = some u := by rw [hexF, h2, show p + 1 + 2 = p + 3 by omega, b3]; simp only [ha]; simp
  have h4 : hexF L (p + 1) 4 = some (16 * u + v) := by rw [hexF, h3, show p + 1 + 3 = p + 4 by omega, b4]; simp only [hb]
  rw [codeJ_yes (by omega) h4 hv]
theorem tx_sit {L : List UInt8} : ∀ (l : List UInt8) (q : Nat), (∀ c ∈ l, c.toNat ≤ 127) → Sit L q (quo l ++ [34]) → txJ L q = some (l, q + (quo l).length + 1) := by
  intro l
  induction l with
  | nil =>
    intro q _ h
    obtain ⟨h1, h2⟩ := Sit.one (B := []) h
    rw [txJ_eq h1, if_pos (by rw [h2]; rfl)]
    rfl
  | cons c l ih =>
    intro q hc h
    have hc0 := hc c (by simp)
    have hcl : ∀ d ∈ l, d.toNat ≤ 127 := fun d hd => hc d (by simp [hd])
    have hof : UInt8.ofNat c.toNat = c := by simp
    rw [quo, List.append_assoc] at h
    have hr := ih _ hcl h.right
    rw [quo, List.length_append]
    rcases quoB_says c hc0 with ⟨x, e, ex⟩ | ⟨a, b, e, u, v, eu, ev, euv⟩ | ⟨e, n34, n92, n32⟩
    · rw [e] at h hr ⊢
      have hl := h.left
      obtain ⟨h1, h2⟩ := hl.one
      obtain ⟨h3, h4⟩ := hl.next.one
      have hesc := esc_at h3 h4 ex
      rw [txJ_eq h1, if_neg (by rw [h2]; decide), if_pos (by rw [h2]; rfl), hesc]
      simp only [List.length_cons, List.length_nil] at hr ⊢
      rw [show q + 1 + 1 = q + (0 + 1 + 1) by omega, hr, hof]
      refine congrArg some (Prod.ext rfl ?_)
      show q + (0 + 1 + 1) + (quo l).length + 1 = q + (0 + 1 + 1 + (quo l).length) + 1; omega
    · rw [e] at h hr ⊢
      have hl := h.left
      obtain ⟨h1, h2⟩ := hl.one
      have hesc := code_at hl.next eu ev (by omega)
      rw [txJ_eq h1, if_neg (by rw [h2]; decide), if_pos (by rw [h2]; rfl), hesc]
      simp only [List.length_cons, List.length_nil] at hr ⊢
      rw [show q + 1 + 5 = q + (0 + 1 + 1 + 1 + 1 + 1 + 1) by omega, hr, euv, hof]
      refine congrArg some (Prod.ext rfl ?_)
      show q + (0 + 1 + 1 + 1 + 1 + 1 + 1) + (quo l).length + 1 = q + (0 + 1 + 1 + 1 + 1 + 1 + 1 + (quo l).length) + 1; omega
    · rw [e] at h hr ⊢
      obtain ⟨h1, h2⟩ := h.left.one
      have m34 : ¬ byAt L q = 34 := fun e2 => n34 (UInt8.toNat_inj.1 (by rw [← h2, e2]; rfl))
      have m92 : ¬ byAt L q = 92 := fun e2 => n92 (UInt8.toNat_inj.1 (by rw [← h2, e2]; rfl))
      rw [txJ_eq h1, if_neg m34, if_neg m92, if_neg (by omega)]
      simp only [List.length_cons, List.length_nil] at hr ⊢
      rw [show q + 1 = q + (0 + 1) by omega, hr, h2, hof]
      refine congrArg some (Prod.ext rfl ?_)
      show q + (0 + 1) + (quo l).length + 1 = q + (0 + 1 + (quo l).length) + 1; omega
theorem textB_all {s : ByteArray} (h : textB s = true) : ∀ c ∈ s.data.toList, c.toNat ≤ 127 := by
  unfold textB at h
  simp only [Bool.and_eq_true, List.all_eq_true, decide_eq_true_eq] at h
  exact h.2
theorem quoT_sit {L : List UInt8} {p : Nat} {s : ByteArray} (hs : textB s = true) (h : Sit L p (quoT s)) : isAt L p 34 = true ∧ txJ L (p + 1) = some (s.data.toList, p + (quoT s).length) := by
  unfold quoT at h ⊢
  obtain ⟨h1, h2⟩ := h.one
  refine ⟨isAt_yes.2 ⟨h1, h2⟩, ?_⟩
  rw [tx_sit _ _ (textB_all hs) h.next]
  refine congrArg some (Prod.ext rfl ?_)
  simp only [List.length_cons, List.length_append, List.length_nil]
  omega
theorem word_sit1 {L B : List UInt8} {p : Nat} (h : Sit L p B) : wordAt L p B = true := by
  obtain ⟨h0, post, h⟩ := h
  unfold wordAt
  rw [h, List.take_left]
  simp
theorem word_other {L : List UInt8} {p : Nat} {c : UInt8} {w : List UInt8} (h : byAt L p ≠ c.toNat) : wordAt L p (c :: w) = false := by
  rw [Bool.eq_false_iff]
  intro e
  exact h (isAt_yes.1 (wordAt_first e)).2
end Go.Proofs.YtagcgnhpdmhegaaGreatDoor

/-
  Plain: values read as JSON, by the program (trees, no bounds) and by the document's model (nodes, bounds), and that the two say the same.
-/
namespace Go.Proofs.YtagcgnhpdmhegaaGreatDoor
open Go.RowKit
set_option linter.unusedSimpArgs false
set_option linter.unusedVariables false

def itemsJ (L : List UInt8) (R : Nat → Option (VT × Nat)) : Nat → Nat → Option (List VT × Nat)
  | 0, _ => none
  | k + 1, p => match R p with
    | none => none
    | some (t, q) => if isAt L q 93 = true then some ([t], q + 1)
      else if isAt L q 44 = true then match itemsJ L R k (q + 1) with
        | none => none
        | some (l, z) => some (t :: l, z)
      else none
def listJ (L : List UInt8) (R : Nat → Option (VT × Nat)) (p : Nat) : Option (VT × Nat) :=
  if isAt L (skipJ L p) 93 = true then some (listT [], skipJ L p + 1) else match itemsJ L R (L.length + 1) p with
    | none => none
    | some (l, z) => some (listT l, z)
/-- A key with its colon. -/
def keyR (L : List UInt8) (p : Nat) : Option (ByteArray × Nat) :=
  if isAt L (skipJ L p) 34 = true then match txJ L (skipJ L p + 1) with
    | none => none
    | some (l, q) => if isAt L (skipJ L q) 58 = true then some (txt l, skipJ L q + 1) else none
  else none
def pairsJ (L : List UInt8) (R : Nat → Option (VT × Nat)) : Nat → Nat → Option (List ByteArray × List VT × Nat)
  | 0, _ => none
  | k + 1, p => match keyR L p with
    | none => none
    | some (s, q0) => match R q0 with
      | none => none
      | some (t, q) => if isAt L q 125 = true then some ([s], [t], q + 1)
        else if isAt L q 44 = true then match pairsJ L R k (q + 1) with
          | none => none
          | some (ks, l, z) => some (s :: ks, t :: l, z)
        else none
def mapJ (L : List UInt8) (R : Nat → Option (VT × Nat)) (p : Nat) : Option (VT × Nat) :=
  if isAt L (skipJ L p) 125 = true then some (mapT [] [], skipJ L p + 1) else match pairsJ L R (L.length + 1) p with
    | none => none
    | some (ks, l, z) => some (mapT ks l, z)
def readJ (L : List UInt8) (R : Nat → Option (VT × Nat)) (p : Nat) : Option (VT × Nat) :=
  if wordAt L p nullW = true then some (nullT, p + 4)
  else if wordAt L p trueW = true then some (boolT 1, p + 4)
  else if wordAt L p falseW = true then some (boolT 0, p + 5)
  else if isAt L p 34 = true then match txJ L (p + 1) with
    | none => none
    | some (l, q) => some (wordT (txt l), q)
  else if isAt L p 91 = true then listJ L R (p + 1)
  else if isAt L p 123 = true then mapJ L R (p + 1)
  else match numJ L p with
    | none => none
    | some (v, q) => some (numT v, q)
/-- A value with the blanks around it. -/
def rdJ (L : List UInt8) : Nat → Nat → Option (VT × Nat)
  | 0, _ => none
  | f + 1, p => match readJ L (rdJ L f) (skipJ L p) with
    | none => none
    | some (t, q) => some (t, skipJ L q)
theorem rdJ_skip (L : List UInt8) (f p : Nat) : rdJ L f (skipJ L p) = rdJ L f p := by
  cases f with
  | zero => rfl
  | succ f =>
    have e : skipJ L (skipJ L p) = skipJ L p := runJ_idem _ _ _
    rw [rdJ, rdJ, e]

def spItemsJ (L : List UInt8) (S : Nat → Nat → Option (List VN × Nat × Nat)) : Nat → Nat → Nat → Option (List (List VN) × Nat × Nat)
  | 0, _, _ => none
  | k + 1, p, c => match S p c with
    | none => none
    | some (ns, q, d) => if isAt L q 93 = true then some ([ns], q + 1, d)
      else if isAt L q 44 = true then match spItemsJ L S k (q + 1) d with
        | none => none
        | some (l, z, e) => some (ns :: l, z, e)
      else none
def keyS (L : List UInt8) (p : Nat) : Option (ByteArray × Nat) := match keyR L p with
  | none => none
  | some (s, q) => if s.size ≤ 60 then some (s, q) else none
def spPairsJ (L : List UInt8) (S : Nat → Nat → Option (List VN × Nat × Nat)) : Nat → Nat → Nat → Option (List ByteArray × List (List VN) × Nat × Nat)
  | 0, _, _ => none
  | k + 1, p, c => match keyS L p with
    | none => none
    | some (s, q0) => match S q0 c with
      | none => none
      | some (ns, q, d) => if isAt L q 125 = true then some ([s], [ns], q + 1, d)
        else if isAt L q 44 = true then match spPairsJ L S k (q + 1) d with
          | none => none
          | some (ks, l, z, e) => some (s :: ks, ns :: l, z, e)
        else none
def spListJ (L : List UInt8) (S : Nat → Nat → Option (List VN × Nat × Nat)) (deep p c : Nat) : Option (List VN × Nat × Nat) :=
  if isAt L (skipJ L p) 93 = true then some (makeNs 5 [] (fun _ => []) 0, skipJ L p + 1, c) else if 8 < deep then none else match spItemsJ L S (L.length + 1) p c with
    | none => none
    | some (l, z, d) => some (makeNs 5 [] (rowAt l) l.length, z, d)
def spMapJ (L : List UInt8) (S : Nat → Nat → Option (List VN × Nat × Nat)) (deep p c : Nat) : Option (List VN × Nat × Nat) :=
  if isAt L (skipJ L p) 125 = true then some (makeNs 6 [] (fun _ => []) 0, skipJ L p + 1, c) else if 8 < deep then none else match spPairsJ L S (L.length + 1) p c with
    | none => none
    | some (ks, l, z, d) => match sortIn ks ks.length with
      | none => none
      | some (nk, ps) => some (makeNs 6 nk (fun j => rowAt l (ps.getD j 0)) ks.length, z, d)
def spReadJ (L : List UInt8) (S : Nat → Nat → Option (List VN × Nat × Nat)) (deep p c : Nat) : Option (List VN × Nat × Nat) :=
  if wordAt L p nullW = true then some (layT 1 nullT 0, p + 4, c)
  else if wordAt L p trueW = true then some (layT 1 (boolT 1) 0, p + 4, c)
  else if wordAt L p falseW = true then some (layT 1 (boolT 0) 0, p + 5, c)
  else if isAt L p 34 = true then match txJ L (p + 1) with
    | none => none
    | some (l, q) => if l.length ≤ 60 then some (layT 1 (wordT (txt l)) 0, q, c) else none
  else if isAt L p 91 = true then spListJ L S deep (p + 1) c
  else if isAt L p 123 = true then spMapJ L S deep (p + 1) c
  else match numJ L p with
    | none => none
    | some (v, q) => some (layT 1 (numT v) 0, q, c)
def spJ (L : List UInt8) : Nat → Nat → Nat → Nat → Option (List VN × Nat × Nat)
  | 0, _, _, _ => none
  | f + 1, deep, p, c => if 80 ≤ c then none else match spReadJ L (spJ L f (deep + 1)) (deep + 1) (skipJ L p) (c + 1) with
    | none => none
    | some (ns, q, d) => some (ns, skipJ L q, d)
theorem spJ_skip (L : List UInt8) (f deep p c : Nat) : spJ L f deep (skipJ L p) c = spJ L f deep p c := by
  cases f with
  | zero => rfl
  | succ f =>
    have e : skipJ L (skipJ L p) = skipJ L p := runJ_idem _ _ _
    rw [spJ, spJ, e]

structure RelJ (f deep : Nat) (R : Nat → Option (VT × Nat)) (S : Nat → Nat → Option (List VN × Nat × Nat)) : Prop where
  full : ∀ p t q, R p = some (t, q) → FullT f t
  yes : ∀ p c ns q d, c ≤ 80 → S p c = some (ns, q, d) → d = c + ns.length ∧ d ≤ 80 ∧ 1 ≤ ns.length ∧ ∃ t, R p = some (t, q) ∧ ns = layT f t 0
  no : ∀ p c, c ≤ 80 → S p c = none → R p = none ∨ ∃ t q, R p = some (t, q) ∧ Doom f c deep t
theorem RelJ.rel {f deep : Nat} {R : Nat → Option (VT × Nat)} {S : Nat → Nat → Option (List VN × Nat × Nat)} (H : RelJ f deep R S) : RelV f deep R S :=
  ⟨H.full, fun p c ns q d hc h => by obtain ⟨a, b, c, t, e⟩ := H.yes p c ns q d hc h; exact ⟨a, b, c, .inl ⟨t, e⟩⟩, H.no⟩

theorem itemsJ_full {f : Nat} {L : List UInt8} {R : Nat → Option (VT × Nat)} (H : ∀ p t q, R p = some (t, q) → FullT f t) : ∀ {k p : Nat} {l : List VT} {q : Nat}, itemsJ L R k p = some (l, q) → 1 ≤ l.length ∧ ∀ i, i < l.length → FullT f (kidT l i) := by
  intro k
  induction k with
  | zero => intro p l q h; cases h
  | succ k ih =>
    intro p l q h
    rw [itemsJ] at h
    cases e : R p with
    | none => simp [e] at h
    | some x =>
      obtain ⟨t, z⟩ := x
      simp only [e] at h
      split at h
      · simp only [Option.some.injEq, Prod.mk.injEq] at h
        obtain ⟨rfl, rfl⟩ := h
        refine ⟨by simp, fun i hi => ?_⟩
        obtain rfl : i = 0 := by simpa using hi
        exact H _ _ _ e
      · split at h
        · cases e2 : itemsJ L R k (z + 1) with
          | none => simp [e2] at h
          | some y =>
            simp only [e2, Option.some.injEq, Prod.mk.injEq] at h
            obtain ⟨rfl, rfl⟩ := h
            obtain ⟨h1, h2⟩ := ih e2
            refine ⟨by simp, fun i hi => ?_⟩
            cases i with
            | zero => exact H _ _ _ e
            | succ i => exact h2 i (by simpa using hi)
        · cases h
theorem pairsJ_full {f : Nat} {L : List UInt8} {R : Nat → Option (VT × Nat)} (H : ∀ p t q, R p = some (t, q) → FullT f t) : ∀ {k p : Nat} {ks : List ByteArray} {l : List VT} {q : Nat}, pairsJ L R k p = some (ks, l, q) → ks.length = l.length ∧ 1 ≤ l.length ∧ ∀ i, i < l.length → FullT f (kidT l i) := by
  intro k
  induction k with
  | zero => intro p ks l q h; cases h
  | succ k ih =>
    intro p ks l q h
    rw [pairsJ] at h
    cases e0 : keyR L p with
    | none => simp [e0] at h
    | some x0 =>
      obtain ⟨s, q0⟩ := x0
      simp only [e0] at h
      cases e : R q0 with
      | none => simp [e] at h
      | some x =>
        obtain ⟨t, z⟩ := x
        simp only [e] at h
        split at h
        · simp only [Option.some.injEq, Prod.mk.injEq] at h
          obtain ⟨rfl, rfl, rfl⟩ := h
          refine ⟨rfl, by simp, fun i hi => ?_⟩
          obtain rfl : i = 0 := by simpa using hi
          exact H _ _ _ e
        · split at h
          · cases e2 : pairsJ L R k (z + 1) with
            | none => simp [e2] at h
            | some y =>
              obtain ⟨k2, l2, z2⟩ := y
              simp only [e2, Option.some.injEq, Prod.mk.injEq] at h
              obtain ⟨rfl, rfl, rfl⟩ := h
              obtain ⟨h0, h1, h2⟩ := ih e2
              refine ⟨by simp [h0], by simp, fun i hi => ?_⟩
              cases i with
              | zero => exact H _ _ _ e
              | succ i => exact h2 i (by simpa using hi)
          · cases h
theorem itemsJ_yes {f deep : Nat} {L : List UInt8} {R : Nat → Option (VT × Nat)} {S : Nat → Nat → Option (List VN × Nat × Nat)} (H : RelJ f deep R S) : ∀ {k p c : Nat} {l : List (List VN)} {q d : Nat}, c ≤ 80 → spItemsJ L S k p c = some (l, q, d) →
    d = c + sumL (rowAt l) l.length ∧ d ≤ 80 ∧ ∃ ts, itemsJ L R k p = some (ts, q) ∧ ts.length = l.length ∧ ∀ i, i < l.length → rowAt l i = layT f (kidT ts i) 0 := by
  intro k
  induction k with
  | zero => intro p c l q d hc h; cases h
  | succ k ih =>
    intro p c l q d hc h
    rw [spItemsJ] at h
    cases e1 : S p c with
    | none => simp [e1] at h
    | some x =>
      obtain ⟨n1, q1, d1⟩ := x
      simp only [e1] at h
      obtain ⟨a1, a2, a3, t, r1, r2⟩ := H.yes _ _ _ _ _ hc e1
      split at h
      · rename_i hend
        simp only [Option.some.injEq, Prod.mk.injEq] at h
        obtain ⟨rfl, rfl, rfl⟩ := h
        refine ⟨by rw [List.length_cons, sumL_cons]; simp [sumL]; exact a1, a2, [t], by rw [itemsJ, r1]; simp [hend], rfl, fun i hi => ?_⟩
        obtain rfl : i = 0 := by simpa using hi
        exact r2
      · rename_i hend
        split at h
        · rename_i hc2
          cases e2 : spItemsJ L S k (q1 + 1) d1 with
          | none => simp [e2] at h
          | some y =>
            obtain ⟨m, z, d2⟩ := y
            simp only [e2, Option.some.injEq, Prod.mk.injEq] at h
            obtain ⟨rfl, rfl, rfl⟩ := h
            obtain ⟨b1, b2, ts, s1, s2, s3⟩ := ih a2 e2
            refine ⟨?_, b2, t :: ts, by rw [itemsJ, r1]; simp [hend, hc2, s1], by simp [s2], fun i hi => ?_⟩
            · rw [List.length_cons, sumL_cons, rowAt_cons]; show d2 = c + (n1.length + _); omega
            · cases i with
              | zero => exact r2
              | succ i => exact s3 i (by simpa using hi)
        · cases h
theorem itemsJ_no {f deep : Nat} {L : List UInt8} {R : Nat → Option (VT × Nat)} {S : Nat → Nat → Option (List VN × Nat × Nat)} (H : RelJ f deep R S) : ∀ {k p c : Nat}, c ≤ 80 → spItemsJ L S k p c = none →
    itemsJ L R k p = none ∨ ∃ ts q, itemsJ L R k p = some (ts, q) ∧ ((∃ i, i < ts.length ∧ ¬ goodT f (kidT ts i)) ∨ 80 < c + sumL (fun i => layT f (kidT ts i) 0) ts.length ∨ ∃ i, i < ts.length ∧ 8 < deep + hiT f (kidT ts i)) := by
  intro k
  induction k with
  | zero => intro p c hc h; exact .inl rfl
  | succ k ih =>
    intro p c hc h
    cases e0 : itemsJ L R (k + 1) p with
    | none => exact .inl rfl
    | some x0 =>
      obtain ⟨ts, q⟩ := x0
      refine .inr ⟨ts, q, rfl, ?_⟩
      rw [itemsJ] at e0
      cases r1 : R p with
      | none => simp [r1] at e0
      | some x1 =>
        obtain ⟨t, q1⟩ := x1
        simp only [r1] at e0
        rw [spItemsJ] at h
        have hdoom : S p c = none → (¬ goodT f t ∨ 80 < c + (layT f t 0).length ∨ 8 < deep + hiT f t) := fun e1 => by
          rcases H.no p c hc e1 with h1 | ⟨t', q', h1, h2⟩
          · rw [r1] at h1; cases h1
          · rw [r1] at h1
            simp only [Option.some.injEq, Prod.mk.injEq] at h1
            obtain ⟨rfl, rfl⟩ := h1
            exact h2
        have hput : ∀ l : List VT, (¬ goodT f t ∨ 80 < c + (layT f t 0).length ∨ 8 < deep + hiT f t) → ((∃ i, i < (t :: l).length ∧ ¬ goodT f (kidT (t :: l) i)) ∨ 80 < c + sumL (fun i => layT f (kidT (t :: l) i) 0) (t :: l).length ∨ ∃ i, i < (t :: l).length ∧ 8 < deep + hiT f (kidT (t :: l) i)) := fun l hd => by
          rcases hd with h1 | h1 | h1
          · exact .inl ⟨0, by simp, h1⟩
          · refine .inr (.inl ?_)
            rw [List.length_cons, sumL_cons]
            show 80 < c + ((layT f t 0).length + _)
            omega
          · exact .inr (.inr ⟨0, by simp, h1⟩)
        split at e0
        · rename_i hend
          simp only [Option.some.injEq, Prod.mk.injEq] at e0
          obtain ⟨rfl, rfl⟩ := e0
          cases e1 : S p c with
          | none => exact hput [] (hdoom e1)
          | some x =>
            obtain ⟨n1, q2, d1⟩ := x
            obtain ⟨a1, a2, a3, t', r1', r2⟩ := H.yes _ _ _ _ _ hc e1
            rw [r1] at r1'
            simp only [Option.some.injEq, Prod.mk.injEq] at r1'
            obtain ⟨rfl, rfl⟩ := r1'
            simp [e1, hend] at h
        · rename_i hend
          split at e0
          · rename_i hc2
            cases r2 : itemsJ L R k (q1 + 1) with
            | none => simp [r2] at e0
            | some x2 =>
              obtain ⟨l, z⟩ := x2
              simp only [r2, Option.some.injEq, Prod.mk.injEq] at e0
              obtain ⟨rfl, rfl⟩ := e0
              cases e1 : S p c with
              | none => exact hput l (hdoom e1)
              | some x =>
                obtain ⟨n1, q2, d1⟩ := x
                obtain ⟨a1, a2, a3, t', r1', r3⟩ := H.yes _ _ _ _ _ hc e1
                rw [r1] at r1'
                simp only [Option.some.injEq, Prod.mk.injEq] at r1'
                obtain ⟨rfl, rfl⟩ := r1'
                simp only [e1, hend, hc2, if_true, Bool.false_eq_true, if_false] at h
                cases e2 : spItemsJ L S k (q1 + 1) d1 with
                | some y => simp [e2] at h
                | none =>
                  rcases ih a2 e2 with h1 | ⟨ts', q', h1, h2⟩
                  · rw [r2] at h1; cases h1
                  · rw [r2] at h1
                    simp only [Option.some.injEq, Prod.mk.injEq] at h1
                    obtain ⟨rfl, rfl⟩ := h1
                    rcases h2 with ⟨i, i1, i2⟩ | h2 | ⟨i, i1, i2⟩
                    · exact .inl ⟨i + 1, by simp; exact i1, i2⟩
                    · refine .inr (.inl ?_)
                      rw [List.length_cons, sumL_cons]
                      show 80 < c + ((layT f t 0).length + sumL (fun i => layT f (kidT l i) 0) l.length)
                      rw [r3] at a1
                      omega
                    · exact .inr (.inr ⟨i + 1, by simp; exact i1, i2⟩)
          · cases e0
end Go.Proofs.YtagcgnhpdmhegaaGreatDoor
