/-
  Plain: what is written as CBOR is read again.
-/
import Derived.Test.YtokhindolimchaaGreatSit
import Derived.Test.YtokhindolimchaaGreatCbR
import Derived.Test.YtokhindolimchaaGreatCbT
namespace Go.Proofs.YtokhindolimchaaGreat
open Go.RowKit
set_option linter.unusedSimpArgs false
set_option linter.unusedVariables false

theorem two_step {st : Nat} (h : st ≤ 3) : 24 + st - 24 = st := by omega
theorem head_sit {L : List UInt8} {p k n : Nat} (hk : k ≤ 5) (hn : n ≤ 1000000000000000) (h : Sit L p (headC k (n : Int))) : p < L.length ∧ byAt L p / 32 = k ∧ headI L p = some (n, p + (headC k (n : Int)).length) ∧ byAt L p < 192 := by
  by_cases hl : (n : Int) < 24
  · rw [headC_low hl] at h ⊢
    have hb : byAt L (p + 0) = (byI ((32 : Int) * (k : Int) + (n : Int))).toNat := h.byte rfl
    rw [Nat.add_zero] at hb
    have h2 := byI_int ((32 : Int) * (k : Int) + (n : Int))
    have h3 := h.len
    rw [List.length_cons, List.length_nil] at h3 ⊢
    have e : byAt L p = 32 * k + n := by omega
    refine ⟨by omega, by omega, ?_, by omega⟩
    unfold headI
    rw [if_pos (by omega)]
    congr 2
    omega
  · obtain ⟨st, hst⟩ : ∃ st, stepI (n : Int) = st := ⟨_, rfl⟩
    have h3st : st ≤ 3 := by rw [← hst]; exact stepI_le _
    rw [headC_big hl hst rfl] at h ⊢
    have hb : byAt L (p + 0) = (byI ((32 : Int) * (k : Int) + 24 + (st : Int))).toNat := h.byte rfl
    rw [Nat.add_zero] at hb
    have h2 := byI_int ((32 : Int) * (k : Int) + 24 + (st : Int))
    have h3 := h.len
    rw [List.length_cons, bigB_len] at h3 ⊢
    have e : byAt L p = 32 * k + 24 + st := by omega
    have hs : Sit L (p + 1) (bigB (n : Int) (2 ^ st)) := Sit.right (A := [byI ((32 : Int) * (k : Int) + 24 + (st : Int))]) h
    have hbig := big_sit hs (by rw [← hst]; exact stepI_nat n hn)
    have e2 : byAt L p % 32 = 24 + st := by omega
    obtain ⟨P, hP⟩ : ∃ P, 2 ^ st = P := ⟨_, rfl⟩
    rw [hP] at h3 hbig ⊢
    refine ⟨by omega, by omega, ?_, by omega⟩
    unfold headI
    rw [if_neg (by omega), if_pos (by omega), e2, two_step h3st, hP]
    unfold numI
    rw [hbig, if_pos ⟨by omega, by unfold maxI; omega⟩, show p + 1 + P = p + (P + 1) by omega]
theorem num_sit {L : List UInt8} {p g : Nat} {n : Int} (h1 : -1000000000000000 ≤ n) (h2 : n ≤ 1000000000000000) (h : Sit L p (cborN n)) : rdC L (g + 1) p = some (numT n, p + (cborN n).length) := by
  unfold cborN at h ⊢
  by_cases hn : n < 0
  · rw [if_pos hn] at h ⊢
    obtain ⟨m, hm⟩ : ∃ m : Nat, -1 - n = m := ⟨(-1 - n).toNat, by omega⟩
    rw [hm] at h ⊢
    obtain ⟨a1, a2, a3, a4⟩ := head_sit (by omega) (by omega) h
    rw [rdC_head a1 (by omega), a3]
    show kindI L (rdC L g) (byAt L p / 32) m _ = _
    rw [a2]
    show some (numT (-1 - (m : Int)), _) = _
    rw [← hm, show (-1 - (-1 - n)) = n by omega]
  · rw [if_neg hn] at h ⊢
    obtain ⟨m, hm⟩ : ∃ m : Nat, n = m := ⟨n.toNat, by omega⟩
    rw [hm] at h ⊢
    obtain ⟨a1, a2, a3, a4⟩ := head_sit (by omega) (by omega) h
    rw [rdC_head a1 (by omega), a3]
    show kindI L (rdC L g) (byAt L p / 32) m _ = _
    rw [a2]
    rfl
theorem word_sit {L : List UInt8} {p g : Nat} {s : ByteArray} (hs : s.size ≤ 60) (h : Sit L p (cborW s)) : rdC L (g + 1) p = some (wordT s, p + (cborW s).length) := by
  unfold cborW at h ⊢
  have hl := len_is s
  obtain ⟨a1, a2, a3, a4⟩ := head_sit (by omega) (by omega) h.left
  have h2 := h.right
  have h3 := h2.len
  rw [rdC_head a1 (by omega), a3]
  show kindI L (rdC L g) (byAt L p / 32) s.size _ = _
  rw [a2]
  show wordI L s.size _ = _
  unfold wordI
  rw [if_pos (by omega), h2.cut, List.length_append, hl, Nat.add_assoc]
theorem list_sit {L : List UInt8} {R : Nat → Option (VT × Nat)} {F : VT → List UInt8} {kids : List VT} (H : ∀ j, j < kids.length → ∀ p, Sit L p (F (kidT kids j)) → R p = some (kidT kids j, p + (F (kidT kids j)).length)) {p : Nat} : ∀ k, k ≤ kids.length → Sit L p (cborL F kids k) → rdItems R k p = some (kids.take k, p + (cborL F kids k).length) := by
  intro k
  induction k with
  | zero => intro _ _; simp [rdItems, cborL]
  | succ k ih =>
    intro hk h
    rw [cborL] at h ⊢
    have h1 := ih (by omega) h.left
    have h2 := H k (by omega) _ h.right
    rw [items_snoc h1 h2, List.length_append, Nat.add_assoc]
    congr 2
    rw [List.take_add_one, List.getElem?_eq_getElem (by omega)]
    unfold kidT
    rw [List.getD_eq_getElem?_getD, List.getElem?_eq_getElem (by omega)]
    rfl
theorem pairs_sit {L : List UInt8} {R : Nat → Option (VT × Nat)} {F : VT → List UInt8} {keys : List ByteArray} {kids : List VT} : ∀ (ps : List Nat), (∀ j ∈ ps, ∀ p, Sit L p (F (kidT kids j)) → R p = some (kidT kids j, p + (F (kidT kids j)).length)) → (∀ j ∈ ps, ∀ p, Sit L p (cborW (keyAt keys j)) → R p = some (wordT (keyAt keys j), p + (cborW (keyAt keys j)).length)) → ∀ p, Sit L p (entC F keys kids ps) → rdPairs R ps.length p = some (ps.map (keyAt keys), ps.map (kidT kids), p + (entC F keys kids ps).length) := by
  intro ps
  induction ps with
  | nil => intro _ _ p _; simp [rdPairs, entC]
  | cons x ps ih =>
    intro H HW p h
    have e : entC F keys kids (x :: ps) = cborW (keyAt keys x) ++ (F (kidT kids x) ++ entC F keys kids ps) := by unfold entC; rw [List.flatMap_cons, List.append_assoc]
    rw [e] at h ⊢
    have h1 := HW x (by simp) p h.left
    have h2 := H x (by simp) _ h.right.left
    have h3 := ih (fun j hj => H j (by simp [hj])) (fun j hj => HW j (by simp [hj])) _ h.right.right
    rw [List.length_cons, rdPairs, h1]
    show (match textOf (wordT (keyAt keys x)) with | none => none | some s => _) = _
    rw [show textOf (wordT (keyAt keys x)) = some (keyAt keys x) from rfl]
    dsimp only
    rw [h2]
    dsimp only
    rw [h3]
    simp only [List.map_cons, List.length_append]
    congr 3
    omega
end Go.Proofs.YtokhindolimchaaGreat

/-
  Plain: a tree that is written as CBOR is read again.
-/
namespace Go.Proofs.YtokhindolimchaaGreat
open Go.RowKit
set_option linter.unusedSimpArgs false
set_option linter.unusedVariables false

theorem rise_at {keys : List ByteArray} (hr : riseB keys = true) {j : Nat} (hj : j < keys.length) : textB (keyAt keys j) = true ∧ (0 < j → lessB (keyAt keys (j - 1)) (keyAt keys j) = true) := by
  have := List.all_eq_true.1 hr j (List.mem_range.2 hj)
  unfold riseAt at this
  simp only [Bool.and_eq_true, Bool.or_eq_true, decide_eq_true_eq] at this
  exact ⟨this.1, fun h => this.2.resolve_left (by omega)⟩
theorem keys_less {keys : List ByteArray} (hr : riseB keys = true) : ∀ d a, a + d + 1 < keys.length → lessB (keyAt keys a) (keyAt keys (a + d + 1)) = true := by
  intro d
  induction d with
  | zero => intro a h; have := (rise_at hr h).2 (by omega); rwa [show a + 0 + 1 - 1 = a by omega] at this
  | succ d ih =>
    intro a h
    have h1 := ih a (by omega)
    have h2 := (rise_at hr h).2 (by omega)
    rw [show a + (d + 1) + 1 - 1 = a + d + 1 by omega] at h2
    exact less_trans h1 h2
theorem keyAt_map {keys : List ByteArray} {ps : List Nat} {j : Nat} (hj : j < ps.length) : keyAt (ps.map (keyAt keys)) j = keyAt keys (ps.getD j 0) := by
  conv => lhs; unfold keyAt
  rw [List.getD_eq_getElem?_getD, List.getElem?_map, List.getD_eq_getElem?_getD, List.getElem?_eq_getElem hj]
  rfl
theorem kidAt_map {kids : List VT} {ps : List Nat} {j : Nat} (hj : j < ps.length) : kidT (ps.map (kidT kids)) j = kidT kids (ps.getD j 0) := by
  conv => lhs; unfold kidT
  rw [List.getD_eq_getElem?_getD, List.getElem?_map, List.getD_eq_getElem?_getD, List.getElem?_eq_getElem hj]
  rfl
theorem range_keys (keys : List ByteArray) : (List.range keys.length).map (keyAt keys) = keys := by
  apply List.ext_getElem?
  intro i
  rw [List.getElem?_map]
  by_cases h : i < keys.length
  · rw [List.getElem?_range h, Option.map_some]
    unfold keyAt
    rw [List.getD_eq_getElem?_getD, List.getElem?_eq_getElem h]; rfl
  · rw [List.getElem?_eq_none (by simp; omega), List.getElem?_eq_none (by omega)]; rfl
theorem range_kids (kids : List VT) : (List.range kids.length).map (kidT kids) = kids := by
  apply List.ext_getElem?
  intro i
  rw [List.getElem?_map]
  by_cases h : i < kids.length
  · rw [List.getElem?_range h, Option.map_some]
    unfold kidT
    rw [List.getD_eq_getElem?_getD, List.getElem?_eq_getElem h]; rfl
  · rw [List.getElem?_eq_none (by simp; omega), List.getElem?_eq_none (by omega)]; rfl
theorem range_getD (ps : List Nat) : (List.range ps.length).map (fun j => ps.getD j 0) = ps := by
  apply List.ext_getElem?
  intro i
  rw [List.getElem?_map]
  by_cases h : i < ps.length
  · rw [List.getElem?_range h, Option.map_some, List.getD_eq_getElem?_getD, List.getElem?_eq_getElem h]; rfl
  · rw [List.getElem?_eq_none (by simp; omega), List.getElem?_eq_none (by omega)]; rfl
/-- A map whose entries came in another order. -/
theorem map_back {keys : List ByteArray} {kids : List VT} (hl : keys.length = kids.length) (hr : riseB keys = true) {ps : List Nat} (hp : ps.Perm (List.range keys.length)) : mapT (ps.map (keyAt keys)) (ps.map (kidT kids)) = .mk 6 0 ByteArray.empty keys kids := by
  have hpl : ps.length = keys.length := by rw [hp.length_eq]; simp
  have hnd : ps.Nodup := hp.nodup_iff.2 List.nodup_range
  obtain ⟨ks, hks⟩ : ∃ ks, ps.map (keyAt keys) = ks := ⟨_, rfl⟩
  have hkl : ks.length = keys.length := by rw [← hks, List.length_map, hpl]
  have hka : ∀ j, j < keys.length → keyAt ks j = keyAt keys (ps.getD j 0) := fun j hj => by rw [← hks]; exact keyAt_map (by omega)
  have hin : ∀ j, j < keys.length → ps.getD j 0 < keys.length := fun j hj => by
    have : ps.getD j 0 ∈ ps := by rw [List.getD_eq_getElem?_getD, List.getElem?_eq_getElem (show j < ps.length by omega)]; exact List.getElem_mem _
    exact List.mem_range.1 (hp.mem_iff.1 this)
  have hsm : ∀ x ∈ srt ks, x < keys.length := fun x hx => by rw [← hkl]; exact srt_mem.1 hx
  have hA1 : ((srt ks).map fun j => ps.getD j 0).Perm (List.range keys.length) := by
    have h1 := (srt_perm ks).map (fun j => ps.getD j 0)
    rw [hkl, ← hpl, range_getD] at h1
    exact h1.trans hp
  have hA2 : ((srt ks).map fun j => ps.getD j 0).Pairwise (· < ·) := by
    rw [List.pairwise_map]
    refine List.Pairwise.imp_of_mem (fun {a b} ha hb hab => ?_) (srt_rises ks)
    have ha' := hsm a ha
    have hb' := hsm b hb
    rcases Nat.lt_trichotomy (ps.getD a 0) (ps.getD b 0) with h | h | h
    · exact h
    · exfalso
      have e : a = b := by
        rw [List.getD_eq_getElem?_getD, List.getD_eq_getElem?_getD, List.getElem?_eq_getElem (show a < ps.length by omega), List.getElem?_eq_getElem (show b < ps.length by omega)] at h
        rcases Nat.lt_trichotomy a b with l | l | l
        · exact absurd h (List.pairwise_iff_getElem.1 hnd a b _ _ l)
        · exact l
        · exact absurd h.symm (List.pairwise_iff_getElem.1 hnd b a _ _ l)
      subst e
      exact (rk_tot ks).asym _ _ hab hab
    · exfalso
      have h2 := keys_less hr (ps.getD a 0 - ps.getD b 0 - 1) (ps.getD b 0) (by have := hin a ha'; omega)
      rw [show ps.getD b 0 + (ps.getD a 0 - ps.getD b 0 - 1) + 1 = ps.getD a 0 by omega, ← hka a ha', ← hka b hb'] at h2
      exact (rk_tot ks).asym _ _ hab (cfK_less h2)
  have hA : ((srt ks).map fun j => ps.getD j 0) = List.range keys.length :=
    List.Perm.eq_of_pairwise (fun a b _ _ h1 h2 => by omega) hA2 List.pairwise_lt_range hA1
  have e1 : (srt ks).map (keyAt ks) = keys := by
    rw [← range_keys keys, ← hA, List.map_map]
    refine List.map_congr_left fun j hj => ?_
    exact hka j (hsm j hj)
  have e2 : (srt ks).map (kidT (ps.map (kidT kids))) = kids := by
    have : ∀ j ∈ srt ks, kidT (ps.map (kidT kids)) j = kidT kids (ps.getD j 0) := fun j hj => kidAt_map (by have := hsm j hj; omega)
    rw [List.map_congr_left this]
    have h3 : (srt ks).map (fun j => kidT kids (ps.getD j 0)) = ((srt ks).map fun j => ps.getD j 0).map (kidT kids) := by rw [List.map_map]; rfl
    rw [h3, hA, hl, range_kids]
  rw [mapT, hks, e1, e2]
theorem empty_is {s : ByteArray} (h : s.toList = []) : s = ByteArray.empty := by
  exact str_eq (by rw [h, ByteArray.toList_eq]; rfl)
theorem nodeT_says {kind n : Int} {s : ByteArray} {keys : List ByteArray} {m : Nat} (h : nodeT kind n s keys m = true) :
    (kind = 1 ∧ n = 0 ∧ s = ByteArray.empty ∧ keys = [] ∧ m = 0) ∨ (kind = 2 ∧ (n = 0 ∨ n = 1) ∧ s = ByteArray.empty ∧ keys = [] ∧ m = 0) ∨ (kind = 3 ∧ (-1000000000000000 ≤ n ∧ n ≤ 1000000000000000) ∧ s = ByteArray.empty ∧ keys = [] ∧ m = 0) ∨
    (kind = 4 ∧ n = 0 ∧ s.size ≤ 60 ∧ keys = [] ∧ m = 0) ∨ (kind = 5 ∧ n = 0 ∧ s = ByteArray.empty ∧ keys = []) ∨ (kind = 6 ∧ n = 0 ∧ s = ByteArray.empty ∧ keys.length = m ∧ riseB keys = true) := by
  unfold nodeT nodeB unnamedB namedB at h
  simp only [Bool.and_eq_true, List.length_replicate] at h
  obtain ⟨⟨⟨⟨u1, u2⟩, u3⟩, u4⟩, v⟩ := h
  by_cases k1 : kind = 1
  · subst k1; simp at u1 u2 u3 u4; exact .inl ⟨rfl, u1, empty_is u2, u3, u4⟩
  by_cases k2 : kind = 2
  · subst k2; simp at u2 u3 u4 v; exact .inr (.inl ⟨rfl, v, empty_is u2, u3, u4⟩)
  by_cases k3 : kind = 3
  · subst k3; simp at u2 u3 u4 v; exact .inr (.inr (.inl ⟨rfl, v, empty_is u2, u3, u4⟩))
  by_cases k4 : kind = 4
  · subst k4; simp [textB] at u1 u3 u4 v; exact .inr (.inr (.inr (.inl ⟨rfl, u1, v.1, u3, u4⟩)))
  by_cases k5 : kind = 5
  · subst k5; simp at u1 u2 u3; exact .inr (.inr (.inr (.inr (.inl ⟨rfl, u1, empty_is u2, u3⟩))))
  by_cases k6 : kind = 6
  · subst k6; simp at u1 u2 v; exact .inr (.inr (.inr (.inr (.inr ⟨rfl, u1, empty_is u2, v.1, v.2⟩))))
  simp [k1, k2, k3, k4, k5, k6] at v
end Go.Proofs.YtokhindolimchaaGreat

/-
  Plain: a tree that is written as CBOR is read again.
-/
namespace Go.Proofs.YtokhindolimchaaGreat
open Go.RowKit
set_option linter.unusedSimpArgs false
set_option linter.unusedVariables false

theorem cborT_one : ∀ {f : Nat} {t : VT}, goodT f t → 1 ≤ (cborT f t).length
  | 0, _, h => h.elim
  | f + 1, .mk kind n s keys kids, h => by
    have hl := cborT_leaf f (kind := kind) (n := n) (s := s) (keys := keys) (kids := kids)
    rcases nodeT_says h.1 with ⟨k, _⟩ | ⟨k, _⟩ | ⟨k, _⟩ | ⟨k, _⟩ | ⟨k, _⟩ | ⟨k, _⟩
    · rw [hl.1 k]; simp
    · rw [hl.2.1 k]; simp
    · rw [hl.2.2.1 k]; exact (cborN_len _).1
    · rw [hl.2.2.2.1 k]; exact (cborW_len _).1
    · rw [hl.2.2.2.2.1 k, List.length_append]; have := (headC_len 4 (kids.length : Int)).1; omega
    · rw [hl.2.2.2.2.2 k, List.length_append]; have := (headC_len 5 (kids.length : Int)).1; omega
theorem cborL_many {F : VT → List UInt8} {kids : List VT} (h : ∀ j, j < kids.length → 1 ≤ (F (kidT kids j)).length) : ∀ k, k ≤ kids.length → k ≤ (cborL F kids k).length := by
  intro k
  induction k with
  | zero => intro _; simp
  | succ k ih => intro hk; have h1 := ih (by omega); have h2 := h k (by omega); rw [cborL, List.length_append]; omega
theorem entC_many {F : VT → List UInt8} {keys : List ByteArray} {kids : List VT} : ∀ (ps : List Nat), ps.length ≤ (entC F keys kids ps).length := by
  intro ps
  induction ps with
  | nil => simp
  | cons x ps ih =>
    have e : entC F keys kids (x :: ps) = cborW (keyAt keys x) ++ (F (kidT kids x) ++ entC F keys kids ps) := by unfold entC; rw [List.flatMap_cons, List.append_assoc]
    rw [e, List.length_append, List.length_append, List.length_cons]
    have := (cborW_len (keyAt keys x)).1
    omega
theorem read_cbor {L : List UInt8} (hL : L.length ≤ 1000000000000000) : ∀ (f g : Nat) (t : VT) (p : Nat), f ≤ g → goodT f t → Sit L p (cborT f t) → rdC L g p = some (t, p + (cborT f t).length) := by
  intro f
  induction f with
  | zero => intro g t p _ h; exact h.elim
  | succ f ih =>
    intro g t p hg h hs
    obtain ⟨g, rfl⟩ : ∃ k, g = k + 1 := ⟨g - 1, by omega⟩
    obtain ⟨kind, n, s, keys, kids⟩ := t
    have hl := cborT_leaf f (kind := kind) (n := n) (s := s) (keys := keys) (kids := kids)
    obtain ⟨h1, h2⟩ := h
    have H : ∀ j, j < kids.length → ∀ p, Sit L p (cborT f (kidT kids j)) → rdC L g p = some (kidT kids j, p + (cborT f (kidT kids j)).length) := fun j hj p hs => ih g _ p (by omega) (h2 j hj) hs
    rcases nodeT_says h1 with ⟨k, rfl, rfl, rfl, hm⟩ | ⟨k, hn, rfl, rfl, hm⟩ | ⟨k, hn, rfl, rfl, hm⟩ | ⟨k, rfl, hz, rfl, hm⟩ | ⟨k, rfl, rfl, rfl⟩ | ⟨k, rfl, rfl, hm, hr⟩
    · rw [hl.1 k] at hs ⊢
      have hb : byAt L (p + 0) = (246 : UInt8).toNat := hs.byte rfl
      have h3 := hs.len
      rw [List.length_cons, List.length_nil] at h3
      obtain rfl : kids = [] := List.eq_nil_of_length_eq_zero hm
      rw [rdC_null (by omega) (by rw [Nat.add_zero] at hb; rw [hb]; rfl), k]
      rfl
    · rw [hl.2.1 k] at hs ⊢
      have hb : byAt L (p + 0) = (byI (244 + n)).toNat := hs.byte rfl
      rw [Nat.add_zero] at hb
      have h3 := hs.len
      rw [List.length_cons, List.length_nil] at h3
      obtain rfl : kids = [] := List.eq_nil_of_length_eq_zero hm
      have h4 := byI_int (244 + n)
      rcases hn with rfl | rfl
      · rw [rdC_no (by omega) (by omega), k]; rfl
      · rw [rdC_yes (by omega) (by omega), k]; rfl
    · rw [hl.2.2.1 k] at hs ⊢
      obtain rfl : kids = [] := List.eq_nil_of_length_eq_zero hm
      rw [num_sit hn.1 hn.2 hs, k]
      rfl
    · rw [hl.2.2.2.1 k] at hs ⊢
      obtain rfl : kids = [] := List.eq_nil_of_length_eq_zero hm
      rw [word_sit hz hs, k]
      rfl
    · rw [hl.2.2.2.2.1 k] at hs ⊢
      have hk := cborL_many (F := cborT f) (kids := kids) (fun j hj => cborT_one (h2 j hj)) kids.length (Nat.le_refl _)
      have hlen := hs.right.len
      obtain ⟨a1, a2, a3, a4⟩ := head_sit (k := 4) (by omega) (by omega) hs.left
      have hit := list_sit H kids.length (Nat.le_refl _) hs.right
      rw [rdC_head a1 (by omega), a3]
      show kindI L (rdC L g) (byAt L p / 32) kids.length _ = _
      rw [a2]
      show rowT (rdC L g) false kids.length _ = _
      unfold rowT
      rw [if_neg (by decide), hit]
      simp only [List.take_length, List.length_append, k, listT, Nat.add_assoc]
    · rw [hl.2.2.2.2.2 k] at hs ⊢
      have hks : ∀ q, q < keys.length → (keyAt keys q).size ≤ 60 := fun q hq => by
        have := (rise_at hr hq).1
        unfold textB at this
        simp only [Bool.and_eq_true, decide_eq_true_eq] at this
        exact this.1
      have hpm := byLen_perm (l := keys) (M := kids.length) (S := 61) (fun q hq => by have := hks q (by omega); omega)
      obtain ⟨ps, hps⟩ : ∃ ps, byLen keys kids.length 61 = ps := ⟨_, rfl⟩
      rw [hps] at hs hpm ⊢
      have hpl : ps.length = kids.length := by rw [hpm.length_eq]; simp
      have hk := entC_many (F := cborT f) (keys := keys) (kids := kids) ps
      have hlen := hs.right.len
      have hin : ∀ j ∈ ps, j < kids.length := fun j hj => List.mem_range.1 (hpm.mem_iff.1 hj)
      obtain ⟨a1, a2, a3, a4⟩ := head_sit (k := 5) (by omega) (by omega) hs.left
      have hW : ∀ j ∈ ps, ∀ p, Sit L p (cborW (keyAt keys j)) → rdC L g p = some (wordT (keyAt keys j), p + (cborW (keyAt keys j)).length) := fun j hj p hs => by
        have hj' := hin j hj
        obtain ⟨g', rfl⟩ : ∃ z, g = z + 1 := by
          have : 1 ≤ f := by
            rcases Nat.eq_zero_or_pos f with e | e
            · subst e; exact (h2 j hj').elim
            · exact e
          exact ⟨g - 1, by omega⟩
        exact word_sit (hks j (by omega)) hs
      have hit := pairs_sit ps (fun j hj => H j (hin j hj)) hW _ hs.right
      rw [hpl] at hit
      rw [rdC_head a1 (by omega), a3]
      show kindI L (rdC L g) (byAt L p / 32) kids.length _ = _
      rw [a2]
      show rowT (rdC L g) true kids.length _ = _
      unfold rowT
      rw [if_pos rfl, hit]
      have hb := map_back (keys := keys) (kids := kids) hm hr (ps := ps) (by rw [hm]; exact hpm)
      simp only [hb, List.length_append, k, Nat.add_assoc]
end Go.Proofs.YtokhindolimchaaGreat

/-
  Plain: what is read has no more nodes than bytes, and each node fits.
-/
namespace Go.Proofs.YtokhindolimchaaGreat
open Go.RowKit
set_option linter.unusedSimpArgs false
set_option linter.unusedVariables false

def FitT : Nat → VT → Prop
  | 0, _ => False
  | f + 1, .mk kind n s keys kids => (1 ≤ kind ∧ kind ≤ 6) ∧ (-9223372036854775808 ≤ n ∧ n ≤ 9223372036854775807) ∧ s.size ≤ 100000 ∧ keys.length ≤ 100000 ∧ (∀ i, i < keys.length → (keyAt keys i).size ≤ 100000) ∧ kids.length ≤ 100000 ∧ ∀ j, j < kids.length → FitT f (kidT kids j)
theorem FitT.full : ∀ {f : Nat} {t : VT}, FitT f t → FullT f t
  | 0, _, h => h.elim
  | f + 1, .mk _ _ _ _ _, h => fun j hj => (h.2.2.2.2.2.2 j hj).full
theorem ksT_get (f sh : Nat) {l : List VT} : ∀ {m j : Nat}, j < m → m ≤ l.length → intAt (ksT f sh l m) j = ((sh + (accT f sh l (j + 1)).length : Nat) : Int) - 1 := by
  intro m
  induction m with
  | zero => intro j h; omega
  | succ m ih =>
    intro j hj hm
    have hl := ksT_len f sh l (k := m) (by omega)
    rw [ksT_succ f sh (by omega)]
    by_cases e : j < m
    · have := ih e (by omega)
      unfold intAt at this ⊢
      rw [List.getD_eq_getElem?_getD, List.getElem?_append_left (by omega), ← List.getD_eq_getElem?_getD]
      exact this
    · obtain rfl : j = m := by omega
      unfold intAt
      rw [List.getD_eq_getElem?_getD, List.getElem?_append_right (by omega), hl, Nat.sub_self]
      rfl
theorem fits_lay : ∀ {f : Nat} {t : VT}, FitT f t → ∀ sh, sh + (layT f t sh).length ≤ 1000000 → ∀ j, j < (layT f t sh).length → Fits (nodeAt (layT f t sh) j) := by
  intro f
  induction f with
  | zero => intro t h; exact h.elim
  | succ f ih =>
    intro t h sh hn
    obtain ⟨kind, n, s, keys, kids⟩ := t
    obtain ⟨h1, h2, h3, h4, h5, h6, h7⟩ := h
    rw [layT_eq] at hn ⊢
    rw [List.length_append, List.length_cons, List.length_nil] at hn ⊢
    have ha := acc_nodes f sh kids Fits kids.length (Nat.le_refl _)
    have hall : ∀ j, j < (accT f sh kids kids.length).length → Fits (nodeAt (accT f sh kids kids.length) j) := ha.2 (fun i hi => by
      refine ih (h7 i hi) _ ?_
      have hle := accT_le f sh kids (i + 1)
      rw [accT_succ f sh hi, List.length_append] at hle
      omega)
    intro j hj
    by_cases e : j < (accT f sh kids kids.length).length
    · rw [nodeAt_left e]; exact hall j e
    · obtain rfl : j = (accT f sh kids kids.length).length := by omega
      rw [nodeAt_right (Nat.le_refl _), Nat.sub_self]
      have hkl := ksT_len f sh kids (Nat.le_refl _)
      refine ⟨by show keys.length ≤ _; omega, fun i hi => by have := h5 i hi; show (keyAt keys i).size ≤ _; omega, by show (ksT f sh kids kids.length).length ≤ _; omega, fun i hi => ?_, by show s.size ≤ _; omega, by show _ ≤ kind; omega, by show kind ≤ _; omega, by show _ ≤ n; omega, by show n ≤ _; omega⟩
      have hi' : i < kids.length := by have : i < (ksT f sh kids kids.length).length := hi; omega
      have := ksT_get f sh (l := kids) hi' (Nat.le_refl _)
      have hle := accT_le f sh kids (i + 1)
      show -9223372036854775808 ≤ intAt (ksT f sh kids kids.length) i ∧ intAt (ksT f sh kids kids.length) i ≤ 9223372036854775807
      rw [this]
      omega
/-- What a reading gives is bounded by the bytes that it takes. -/
def RdOk (f : Nat) (L : List UInt8) (R : Nat → Option (VT × Nat)) : Prop := ∀ p t q, R p = some (t, q) → p < q ∧ q ≤ L.length ∧ (layT f t 0).length ≤ q - p ∧ FitT f t ∧ ∀ z, textOf t = some z → z.size ≤ L.length
theorem items_ok {f : Nat} {L : List UInt8} {R : Nat → Option (VT × Nat)} (H : RdOk f L R) : ∀ {k p : Nat} {l : List VT} {q : Nat}, p ≤ L.length → rdItems R k p = some (l, q) → p + k ≤ q ∧ q ≤ L.length ∧ sumL (fun i => layT f (kidT l i) 0) k ≤ q - p ∧ ∀ i, i < k → FitT f (kidT l i) := by
  intro k
  induction k with
  | zero =>
    intro p l q hp h
    simp [rdItems] at h
    obtain ⟨rfl, rfl⟩ := h
    exact ⟨by omega, hp, by simp [sumL], fun i hi => by omega⟩
  | succ k ih =>
    intro p l q hp h
    rw [rdItems_eq] at h
    cases e : R p with
    | none => simp [e] at h
    | some x =>
      obtain ⟨t, z⟩ := x
      simp only [e] at h
      cases e2 : rdItems R k z with
      | none => simp [e2] at h
      | some y =>
        obtain ⟨m, z2⟩ := y
        simp only [e2, Option.some.injEq, Prod.mk.injEq] at h
        obtain ⟨rfl, rfl⟩ := h
        obtain ⟨a1, a2, a3, a4, _⟩ := H _ _ _ e
        obtain ⟨b1, b2, b3, b4⟩ := ih a2 e2
        have hs : sumL (fun i => layT f (kidT (t :: m) i) 0) (k + 1) = (layT f t 0).length + sumL (fun i => layT f (kidT m i) 0) k := sumL_cons _ _
        refine ⟨by omega, b2, by rw [hs]; omega, fun i hi => ?_⟩
        cases i with
        | zero => exact a4
        | succ i => exact b4 i (by omega)
theorem pairs_ok {f : Nat} {L : List UInt8} {R : Nat → Option (VT × Nat)} (H : RdOk f L R) : ∀ {k p : Nat} {ks : List ByteArray} {l : List VT} {q : Nat}, p ≤ L.length → rdPairs R k p = some (ks, l, q) → p + k ≤ q ∧ q ≤ L.length ∧ sumL (fun i => layT f (kidT l i) 0) k ≤ q - p ∧ (∀ i, i < k → FitT f (kidT l i)) ∧ ∀ i, i < k → (keyAt ks i).size ≤ L.length := by
  intro k
  induction k with
  | zero =>
    intro p ks l q hp h
    simp [rdPairs] at h
    obtain ⟨rfl, rfl, rfl⟩ := h
    exact ⟨by omega, hp, by simp [sumL], fun i hi => by omega, fun i hi => by omega⟩
  | succ k ih =>
    intro p ks l q hp h
    rw [rdPairs] at h
    cases e : R p with
    | none => simp [e] at h
    | some x =>
      obtain ⟨t1, q1⟩ := x
      simp only [e] at h
      cases e1 : textOf t1 with
      | none => simp [e1] at h
      | some s1 =>
        simp only [e1] at h
        cases e2 : R q1 with
        | none => simp [e2] at h
        | some y =>
          obtain ⟨u1, r1⟩ := y
          simp only [e2] at h
          cases e3 : rdPairs R k r1 with
          | none => simp [e3] at h
          | some y =>
            obtain ⟨k1, m, z2⟩ := y
            simp only [e3, Option.some.injEq, Prod.mk.injEq] at h
            obtain ⟨rfl, rfl, rfl⟩ := h
            obtain ⟨a1, a2, a3, a4, a5⟩ := H _ _ _ e
            obtain ⟨c1, c2, c3, c4, _⟩ := H _ _ _ e2
            obtain ⟨b1, b2, b3, b4, b5⟩ := ih c2 e3
            have hs : sumL (fun i => layT f (kidT (u1 :: m) i) 0) (k + 1) = (layT f u1 0).length + sumL (fun i => layT f (kidT m i) 0) k := sumL_cons _ _
            refine ⟨by omega, b2, by rw [hs]; omega, fun i hi => ?_, fun i hi => ?_⟩
            · cases i with
              | zero => exact c4
              | succ i => exact b4 i (by omega)
            · cases i with
              | zero => exact a5 _ e1
              | succ i => exact b5 i (by omega)
theorem row_ok {f : Nat} {L : List UInt8} {R : Nat → Option (VT × Nat)} (H : RdOk f L R) (hL : L.length ≤ 4000) {named : Bool} {n p : Nat} {t : VT} {q : Nat} (hp : p ≤ L.length) (h : rowT R named n p = some (t, q)) : p ≤ q ∧ q ≤ L.length ∧ (layT (f + 1) t 0).length ≤ q - p + 1 ∧ FitT (f + 1) t ∧ ∀ z, textOf t = some z → z.size ≤ L.length := by
  have ht := textOf_row h
  have htz : ∀ z, textOf t = some z → z.size ≤ L.length := fun z hz => by rw [ht] at hz; cases hz
  unfold rowT at h
  cases named
  · simp only [Bool.false_eq_true, if_false] at h
    cases e : rdItems R n p with
    | none => simp [e] at h
    | some x =>
      obtain ⟨l, z⟩ := x
      simp only [e, Option.some.injEq, Prod.mk.injEq] at h
      obtain ⟨rfl, rfl⟩ := h
      obtain ⟨b1, b2, b3, b4⟩ := items_ok H hp e
      have hl := items_len e
      refine ⟨by omega, b2, by rw [listT_size, hl]; omega, ⟨by decide, by decide, by decide, by simp, fun i hi => absurd hi (by simp), by omega, fun j hj => b4 j (by omega)⟩, htz⟩
  · simp only [if_true] at h
    cases e : rdPairs R n p with
    | none => simp [e] at h
    | some x =>
      obtain ⟨ks, l, z⟩ := x
      simp only [e, Option.some.injEq, Prod.mk.injEq] at h
      obtain ⟨rfl, rfl⟩ := h
      obtain ⟨b1, b2, b3, b4, b5⟩ := pairs_ok H hp e
      obtain ⟨hl1, hl2, _⟩ := pairs_full (fun p t q h => (H p t q h).2.2.2.1.full) e
      have hsl := srt_len ks
      refine ⟨by omega, b2, by rw [mapT_size, hl1]; omega, ⟨by decide, by decide, by decide, by rw [List.length_map, hsl]; omega, fun i hi => ?_, by rw [List.length_map, hsl]; omega, fun j hj => ?_⟩, htz⟩
      · rw [List.length_map, hsl] at hi
        have e9 : keyAt ((srt ks).map (keyAt ks)) i = keyAt ks ((srt ks).getD i 0) := by
          conv => lhs; unfold keyAt
          rw [List.getD_eq_getElem?_getD, List.getElem?_map, List.getElem?_eq_getElem (by omega), List.getD_eq_getElem?_getD (l := srt ks), List.getElem?_eq_getElem (show i < (srt ks).length by omega)]
          rfl
        rw [e9]
        have := b5 ((srt ks).getD i 0) (by have := srt_lt hi; omega)
        omega
      · rw [List.length_map, hsl] at hj
        rw [kid_srt hj]
        exact b4 _ (by have := srt_lt hj; omega)
theorem num_ok {L : List UInt8} {p w n q : Nat} (h : numI L p w = some (n, q)) : n ≤ maxI ∧ q = p + w ∧ q ≤ L.length := by
  unfold numI at h
  split at h
  · rename_i hx
    simp only [Option.some.injEq, Prod.mk.injEq] at h
    obtain ⟨rfl, rfl⟩ := h
    exact ⟨hx.2, rfl, hx.1⟩
  · cases h
theorem word_ok {L : List UInt8} (hL : L.length ≤ 4000) {n p : Nat} {t : VT} {q : Nat} (h : wordI L n p = some (t, q)) (f : Nat) : p ≤ q ∧ q ≤ L.length ∧ (layT (f + 1) t 0).length = 1 ∧ FitT (f + 1) t ∧ ∀ z, textOf t = some z → z.size ≤ L.length := by
  unfold wordI at h
  split at h
  · rename_i hx
    simp only [Option.some.injEq, Prod.mk.injEq] at h
    obtain ⟨rfl, rfl⟩ := h
    have hz := cutT_size hx
    refine ⟨by omega, hx, rfl, ⟨by decide, by decide, by omega, by simp, fun i hi => absurd hi (by simp), by simp, fun j hj => absurd hj (by simp)⟩, fun z e => ?_⟩
    simp [textOf, wordT] at e
    subst e
    omega
  · cases h
theorem leaf_ok {f : Nat} {k n : Int} (hk : 1 ≤ k ∧ k ≤ 6 ∧ k ≠ 4) (hn : -9223372036854775808 ≤ n ∧ n ≤ 9223372036854775807) : (layT (f + 1) (.mk k n ByteArray.empty [] []) 0).length = 1 ∧ FitT (f + 1) (.mk k n ByteArray.empty [] []) ∧ textOf (.mk k n ByteArray.empty [] []) = none :=
  ⟨rfl, ⟨⟨hk.1, hk.2.1⟩, hn, by decide, by simp, fun i hi => absurd hi (by simp), by simp, fun j hj => absurd hj (by simp)⟩, by simp [textOf, hk.2.2]⟩
theorem rdC_ok (L : List UInt8) (hL : L.length ≤ 4000) : ∀ f, RdOk f L (rdC L f) := by
  intro f
  induction f with
  | zero => intro p t q h; simp [rdC] at h
  | succ f ih =>
    intro p t q h
    have leaf : ∀ {k n : Int} {q' : Nat}, p < q' → q' ≤ L.length → (1 ≤ k ∧ k ≤ 6 ∧ k ≠ 4) → (-9223372036854775808 ≤ n ∧ n ≤ 9223372036854775807) → some ((VT.mk k n ByteArray.empty [] [] : VT), q') = some (t, q) → p < q ∧ q ≤ L.length ∧ (layT (f + 1) t 0).length ≤ q - p ∧ FitT (f + 1) t ∧ ∀ z, textOf t = some z → z.size ≤ L.length := fun {k n q'} h1 h2 hk hn h => by
      simp only [Option.some.injEq, Prod.mk.injEq] at h
      obtain ⟨rfl, rfl⟩ := h
      obtain ⟨l1, l2, l3⟩ := leaf_ok (f := f) hk hn
      exact ⟨h1, h2, by omega, l2, fun z hz => by rw [l3] at hz; cases hz⟩
    by_cases hp : p < L.length
    rotate_left
    · rw [rdC_end (by omega)] at h; cases h
    by_cases b0 : byAt L p = 246
    · rw [rdC_null hp b0] at h; exact leaf (by omega) (by omega) (by decide) (by decide) h
    by_cases b1 : byAt L p = 244
    · rw [rdC_no hp b1] at h; exact leaf (by omega) (by omega) (by decide) (by decide) h
    by_cases b2 : byAt L p = 245
    · rw [rdC_yes hp b2] at h; exact leaf (by omega) (by omega) (by decide) (by decide) h
    rw [rdC_head hp (by omega)] at h
    cases e : headI L p with
    | none => rw [e] at h; cases h
    | some x =>
      obtain ⟨n, z⟩ := x
      rw [e] at h
      simp only at h
      have hh : p < z ∧ z ≤ L.length ∧ n ≤ maxI := by
        unfold headI at e
        split at e
        · simp only [Option.some.injEq, Prod.mk.injEq] at e; unfold maxI; omega
        · split at e
          · obtain ⟨c1, c2, c3⟩ := num_ok e
            have := two_pos (byAt L p % 32 - 24)
            exact ⟨by rw [c2]; omega, c3, c1⟩
          · cases e
      obtain ⟨h1, h2, h3⟩ := hh
      unfold maxI at h3
      unfold kindI at h
      split at h
      · exact leaf h1 h2 (by decide) (by omega) h
      split at h
      · exact leaf h1 h2 (by decide) (by omega) h
      split at h
      · obtain ⟨c1, c2, c3, c4, c5⟩ := word_ok hL h f
        exact ⟨by omega, c2, by omega, c4, c5⟩
      split at h
      · obtain ⟨c1, c2, c3, c4, c5⟩ := row_ok ih hL h2 h
        exact ⟨by omega, c2, by omega, c4, c5⟩
      split at h
      · obtain ⟨c1, c2, c3, c4, c5⟩ := row_ok ih hL h2 h
        exact ⟨by omega, c2, by omega, c4, c5⟩
      · cases h
end Go.Proofs.YtokhindolimchaaGreat
