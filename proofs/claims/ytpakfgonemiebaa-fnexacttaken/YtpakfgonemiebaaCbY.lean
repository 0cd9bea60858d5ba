/-
  Plain: what is written as CBOR is read again.
-/
import Derived.Test.YtpakfgonemiebaaSit
import Derived.Test.YtpakfgonemiebaaCbR
import Derived.Test.YtpakfgonemiebaaCbT
namespace Go.Proofs.Ytpakfgonemiebaa
open Go.RowKit
set_option linter.unusedSimpArgs false
set_option linter.unusedVariables false

theorem two_step {st : Nat} (h : st ≤ 3) : 24 + st - 24 = st := by omega
theorem head_sit {L : List UInt8} {p k n : Nat} (hk : k ≤ 5) (hn : n ≤ 1000000000000000) (h : Sit L p (headC k (n : Int))) : p < L.length ∧ byAt L p / 32 = k ∧ headI L p = some (n, p + (headC k (n : Int)).length) ∧ byAt L p < 192 := by
  by_cases hl : (n : Int) < 24
  · rw [headC_low hl] at h ⊢
    have hb : byAt L (p + 0) = (byI ((32 : Int) * (k : Int) + (n : Int))).toNat := h.byte rfl
    rw [Nat.add_zero] at hb
    have h2 := byI_int ((32 : Int) * (k : Int) + (n : Int))
    have h3 := h.len
    rw [List.length_cons, List.length_nil] at h3 ⊢
    have e : byAt L p = 32 * k + n := by omega
    refine ⟨by omega, by omega, ?_, by omega⟩
    unfold headI
    rw [if_pos (by omega)]
    congr 2
    omega
  · obtain ⟨st, hst⟩ : ∃ st, stepI (n : Int) = st := ⟨_, rfl⟩
    have h3st : st ≤ 3 := by rw [← hst]; exact stepI_le _
    rw [headC_big hl hst rfl] at h ⊢
    have hb : byAt L (p + 0) = (byI ((32 : Int) * (k : Int) + 24 + (st : Int))).toNat := h.byte rfl
    rw [Nat.add_zero] at hb
    have h2 := byI_int ((32 : Int) * (k : Int) + 24 + (st : Int))
    have h3 := h.len
    rw [List.length_cons, bigB_len] at h3 ⊢
    have e : byAt L p = 32 * k + 24 + st := by omega
    have hs : Sit L (p + 1) (bigB (n : Int) (2 ^ st)) := Sit.right (A := [byI ((32 : Int) * (k : Int) + 24 + (st : Int))]) h
    have hbig := big_sit hs (by rw [← hst]; exact stepI_nat n hn)
    have e2 : byAt L p % 32 = 24 + st := by omega
    obtain ⟨P, hP⟩ : ∃ P, 2 ^ st = P := ⟨_, rfl⟩
    rw [hP] at h3 hbig ⊢
    refine ⟨by omega, by omega, ?_, by omega⟩
    unfold headI
    rw [if_neg (by omega), if_pos (by omega), e2, two_step h3st, hP]
    unfold numI
    rw [hbig, if_pos ⟨by omega, by unfold maxI; omega⟩, show p + 1 + P = p + (P + 1) by omega]
theorem num_sit {L : List UInt8} {p g : Nat} {n : Int} (h1 : -1000000000000000 ≤ n) (h2 : n ≤ 1000000000000000) (h : Sit L p (cborN n)) : rdC L (g + 1) p = some (numT n, p + (cborN n).length) := by
  unfold cborN at h ⊢
  by_cases hn : n < 0
  · rw [if_pos hn] at h ⊢
    obtain ⟨m, hm⟩ : ∃ m : Nat, -1 - n = m := ⟨(-1 - n).toNat, by omega⟩
    rw [hm] at h ⊢
    obtain ⟨a1, a2, a3, a4⟩ := head_sit (by omega) (by omega) h
    rw [rdC_head a1 (by omega), a3]
    show kindI L (rdC L g) (byAt L p / 32) m _ = _
    rw [a2]
    show some (numT (-1 - (m : Int)), _) = _
    rw [← hm, show (-1 - (-1 - n)) = n by omega]
  · rw [if_neg hn] at h ⊢
    obtain ⟨m, hm⟩ : ∃ m : Nat, n = m := ⟨n.toNat, by omega⟩
    rw [hm] at h ⊢
    obtain ⟨a1, a2, a3, a4⟩ := head_sit (by omega) (by omega) h
    rw [rdC_head a1 (by omega), a3]
    show kindI L (rdC L g) (byAt L p / 32) m _ = _
    rw [a2]
    rfl
theorem word_sit {L : List UInt8} {p g : Nat} {s : ByteArray} (hs : s.size ≤ 60) (h : Sit L p (cborW s)) : rdC L (g + 1) p = some (wordT s, p + (cborW s).length) := by
  unfold cborW at h ⊢
  have hl := len_is s
  obtain ⟨a1, a2, a3, a4⟩ := head_sit (by omega) (by omega) h.left
  have h2 := h.right
  have h3 := h2.len
  rw [rdC_head a1 (by omega), a3]
  show kindI L (rdC L g) (byAt L p / 32) s.size _ = _
  rw [a2]
  show wordI L s.size _ = _
  unfold wordI
  rw [if_pos (by omega), h2.cut, List.length_append, hl, Nat.add_assoc]
theorem list_sit {L : List UInt8} {R : Nat → Option (VT × Nat)} {F : VT → List UInt8} {kids : List VT} (H : ∀ j, j < kids.length → ∀ p, Sit L p (F (kidT kids j)) → R p = some (kidT kids j, p + (F (kidT kids j)).length)) {p : Nat} : ∀ k, k ≤ kids.length → Sit L p (cborL F kids k) → rdItems R k p = some (kids.take k, p + (cborL F kids k).length) := by
  intro k
  induction k with
  | zero => intro _ _; simp [rdItems, cborL]
  | succ k ih =>
    intro hk h
    rw [cborL] at h ⊢
    have h1 := ih (by omega) h.left
    have h2 := H k (by omega) _ h.right
    rw [items_snoc h1 h2, List.length_append, Nat.add_assoc]
    congr 2
    rw [List.take_add_one, List.getElem?_eq_getElem (by omega)]
    unfold kidT
    rw [List.getD_eq_getElem?_getD, List.getElem?_eq_getElem (by omega)]
    rfl
theorem pairs_sit {L : List UInt8} {R : Nat → Option (VT × Nat)} {F : VT → List UInt8} {keys : List ByteArray} {kids : List VT} : ∀ (ps : List Nat), (∀ j ∈ ps, ∀ p, Sit L p (F (kidT kids j)) → R p = some (kidT kids j, p + (F (kidT kids j)).length)) → (∀ j ∈ ps, ∀ p, Sit L p (cborW (keyAt keys j)) → R p = some (wordT (keyAt keys j), p + (cborW (keyAt keys j)).length)) → ∀ p, Sit L p (entC F keys kids ps) → rdPairs R ps.length p = some (ps.map (keyAt keys), ps.map (kidT kids), p + (entC F keys kids ps).length) := by
  intro ps
  induction ps with
  | nil => intro _ _ p _; simp [rdPairs, entC]
  | cons x ps ih =>
    intro H HW p h
    have e : entC F keys kids (x :: ps) = cborW (keyAt keys x) ++ (F (kidT kids x) ++ entC F keys kids ps) := by unfold entC; rw [List.flatMap_cons, List.append_assoc]
    rw [e] at h ⊢
    have h1 := HW x (by simp) p h.left
    have h2 := H x (by simp) _ h.right.left
    have h3 := ih (fun j hj => H j (by simp [hj])) (fun j hj => HW j (by simp [hj])) _ h.right.right
    rw [List.length_cons, rdPairs, h1]
    show (match textOf (wordT (keyAt keys x)) with | none => none | some s => _) = _
    rw [show textOf (wordT (keyAt keys x)) = some (keyAt keys x) from rfl]
    dsimp only
    rw [h2]
    dsimp only
    rw [h3]
    simp only [List.map_cons, List.length_append]
    congr 3
    omega
end Go.Proofs.Ytpakfgonemiebaa

/-
  Plain: a tree that is written as CBOR is read again.
-/
namespace Go.Proofs.Ytpakfgonemiebaa
open Go.RowKit
set_option linter.unusedSimpArgs false
set_option linter.unusedVariables false

theorem rise_at {keys : List ByteArray} (hr : riseB keys = true) {j : Nat} (hj : j < keys.length) : textB (keyAt keys j) = true ∧ (0 < j → lessB (keyAt keys (j - 1)) (keyAt keys j) = true) := by
  have := List.all_eq_true.1 hr j (List.mem_range.2 hj)
  unfold riseAt at this
  simp only [Bool.and_eq_true, Bool.or_eq_true, decide_eq_true_eq] at this
  exact ⟨this.1, fun h => this.2.resolve_left (by omega)⟩
theorem keys_less {keys : List ByteArray} (hr : riseB keys = true) : ∀ d a, a + d + 1 < keys.length → lessB (keyAt keys a) (keyAt keys (a + d + 1)) = true := by
  intro d
  induction d with
  | zero => intro a h; have := (rise_at hr h).2 (by omega); rwa [show a + 0 + 1 - 1 = a by omega] at this
  | succ d ih =>
    intro a h
    have h1 := ih a (by omega)
    have h2 := (rise_at hr h).2 (by omega)
    rw [show a + (d + 1) + 1 - 1 = a + d + 1 by omega] at h2
    exact less_trans h1 h2
theorem keyAt_map {keys : List ByteArray} {ps : List Nat} {j : Nat} (hj : j < ps.length) : keyAt (ps.map (keyAt keys)) j = keyAt keys (ps.getD j 0) := by
  conv => lhs; unfold keyAt
  rw [List.getD_eq_getElem?_getD, List.getElem?_map, List.getD_eq_getElem?_getD, List.getElem?_eq_getElem hj]
  rfl
theorem kidAt_map {kids : List VT} {ps : List Nat} {j : Nat} (hj : j < ps.length) : kidT (ps.map (kidT kids)) j = kidT kids (ps.getD j 0) := by
  conv => lhs; unfold kidT
  rw [List.getD_eq_getElem?_getD, List.getElem?_map, List.getD_eq_getElem?_getD, List.getElem?_eq_getElem hj]
  rfl
theorem range_keys (keys : List ByteArray) : (List.range keys.length).map (keyAt keys) = keys := by
  apply List.ext_getElem?
  intro i
  rw [List.getElem?_map]
  by_cases h : i < keys.length
  · rw [List.getElem?_range h, Option.map_some]
    unfold keyAt
    rw [List.getD_eq_getElem?_getD, List.getElem?_eq_getElem h]; rfl
  · rw [List.getElem?_eq_none (by simp; omega), List.getElem?_eq_none (by omega)]; rfl
theorem range_kids (kids : List VT) : (List.range kids.length).map (kidT kids) = kids := by
  apply List.ext_getElem?
  intro i
  rw [List.getElem?_map]
  by_cases h : i < kids.length
  · rw [List.getElem?_range h, Option.map_some]
    unfold kidT
    rw [List.getD_eq_getElem?_getD, List.getElem?_eq_getElem h]; rfl
  · rw [List.getElem?_eq_none (by simp; omega), List.getElem?_eq_none (by omega)]; rfl
theorem range_getD (ps : List Nat) : (List.range ps.length).map (fun j => ps.getD j 0) = ps := by
  apply List.ext_getElem?
  intro i
  rw [List.getElem?_map]
  by_cases h : i < ps.length
  · rw [List.getElem?_range h, Option.map_some, List.getD_eq_getElem?_getD, List.getElem?_eq_getElem h]; rfl
  · rw [List.getElem?_eq_none (by simp; omega), List.getElem?_eq_none (by omega)]; rfl
/-- A map whose entries came in another order. -/
theorem map_back {keys : List ByteArray} {kids : List VT} (hl : keys.length = kids.length) (hr : riseB keys = true) {ps : List Nat} (hp : ps.Perm (List.range keys.length)) : mapT (ps.map (keyAt keys)) (ps.map (kidT kids)) = .mk 6 0 ByteArray.empty keys kids := by
  have hpl : ps.length = keys.length := by rw [hp.length_eq]; simp
  have hnd : ps.Nodup := hp.nodup_iff.2 List.nodup_range
  obtain ⟨ks, hks⟩ : ∃ ks, ps.map (keyAt keys) = ks := ⟨_, rfl⟩
  have hkl : ks.length = keys.length := by rw [← hks, List.length_map, hpl]
  have hka : ∀ j, j < keys.length → keyAt ks j = keyAt keys (ps.getD j 0) := fun j hj => by rw [← hks]; exact keyAt_map (by omega)
  have hin : ∀ j, j < keys.length → ps.getD j 0 < keys.length := fun j hj => by
    have : ps.getD j 0 ∈ ps := by rw [List.getD_eq_getElem?_getD, List.getElem?_eq_getElem (show j < ps.length by omega)]; exact List.getElem_mem _
    exact List.mem_range.1 (hp.mem_iff.1 this)
  have hsm : ∀ x ∈ srt ks, x < keys.length := fun x hx => by rw [← hkl]; exact srt_mem.1 hx
  have hA1 : ((srt ks).map fun j => ps.getD j 0).Perm (List.range keys.length) := by
    have h1 := (srt_perm ks).map (fun j => ps.getD j 0)
    rw [hkl, ← hpl, range_getD] at h1
    exact h1.trans hp
  have hA2 : ((srt ks).map fun j => ps.getD j 0).Pairwise (· < ·) := by
    rw [List.pairwise_map]
    refine List.Pairwise.imp_of_mem (fun {a b} ha hb hab => ?_) (srt_rises ks)
    have ha' := hsm a ha
    have hb' := hsm b hb
    rcases Nat.lt_trichotomy (ps.getD a 0) (ps.getD b 0) with h | h | h
    · exact h
    · exfalso
      have e : a = b := by
        rw [List.getD_eq_getElem?_getD, List.getD_eq_getElem?_getD, List.getElem?_eq_getElem (show a < ps.length by omega), List.getElem?_eq_getElem (show b < ps.length by omega)] at h
        rcases Nat.lt_trichotomy a b with l | l | l
        · exact absurd h (List.pairwise_iff_getElem.1 hnd a b _ _ l)
        · exact l
        · exact absurd h.symm (List.pairwise_iff_getElem.1 hnd b a _ _ l)
      subst e
      exact (rk_tot ks).asym _ _ hab hab
    · exfalso
      have h2 := keys_less hr (ps.getD a 0 - ps.getD b 0 - 1) (ps.getD b 0) (by have := hin a ha'; omega)
      rw [show ps.getD b 0 + (ps.getD a 0 - ps.getD b 0 - 1) + 1 = ps.getD a 0 by omega, ← hka a ha', ← hka b hb'] at h2
      exact (rk_tot ks).asym _ _ hab (cfK_less h2)
  have hA : ((srt ks).map fun j => ps.getD j 0) = List.range keys.length :=
    List.Perm.eq_of_pairwise (fun a b _ _ h1 h2 => by omega) hA2 List.pairwise_lt_range hA1
  have e1 : (srt ks).map (keyAt ks) = keys := by
    rw [← range_keys keys, ← hA, List.map_map]
    refine List.map_congr_left fun j hj => ?_
    exact hka j (hsm j hj)
  have e2 : (srt ks).map (kidT (ps.map (kidT kids))) = kids := by
    have : ∀ j ∈ srt ks, kidT (ps.map (kidT kids)) j = kidT kids (ps.getD j 0) := fun j hj => kidAt_map (by have := hsm j hj; omega)
    rw [List.map_congr_left this]
    have h3 : (srt ks).map (fun j => kidT kids (ps.getD j 0)) = ((srt ks).map fun j => ps.getD j 0).map (kidT kids) := by rw [List.map_map]; rfl
    rw [h3, hA, hl, range_kids]
  rw [mapT, hks, e1, e2]
theorem empty_is {s : ByteArray} (h : s.toList = []) : s = ByteArray.empty := by
  exact str_eq (by rw [h, ByteArray.toList_eq]; rfl)
theorem nodeT_says {kind n : Int} {s : ByteArray} {keys : List ByteArray} {m : Nat} (h : nodeT kind n s keys m = true) :
    (kind = 1 ∧ n = 0 ∧ s = ByteArray.empty ∧ keys = [] ∧ m = 0) ∨ (kind = 2 ∧ (n = 0 ∨ n = 1) ∧ s = ByteArray.empty ∧ keys = [] ∧ m = 0) ∨ (kind = 3 ∧ (-1000000000000000 ≤ n ∧ n ≤ 1000000000000000) ∧ s = ByteArray.empty ∧ keys = [] ∧ m = 0) ∨
    (kind = 4 ∧ n = 0 ∧ s.size ≤ 60 ∧ keys = [] ∧ m = 0) ∨ (kind = 5 ∧ n = 0 ∧ s = ByteArray.empty ∧ keys = []) ∨ (kind = 6 ∧ n = 0 ∧ s = ByteArray.empty ∧ keys.length = m ∧ riseB keys = true) := by
  unfold nodeT nodeB unnamedB namedB at h
  simp only [Bool.and_eq_true, List.length_replicate] at h
  obtain ⟨⟨⟨⟨u1, u2⟩, u3⟩, u4⟩, v⟩ := h
  by_cases k1 : kind = 1
  · subst k1; simp at u1 u2 u3 u4; exact .inl ⟨rfl, u1, empty_is u2, u3, u4⟩
  by_cases k2 : kind = 2
  · subst k2; simp at u2 u3 u4 v; exact .inr (.inl ⟨rfl, v, empty_is u2, u3, u4⟩)
  by_cases k3 : kind = 3
  · subst k3; simp at u2 u3 u4 v; exact .inr (.inr (.inl ⟨rfl, v, empty_is u2, u3, u4⟩))
  by_cases k4 : kind = 4
  · subst k4; simp [textB] at u1 u3 u4 v; exact .inr (.inr (.inr (.inl ⟨rfl, u1, v.1, u3, u4⟩)))
  by_cases k5 : kind = 5
  · subst k5; simp at u1 u2 u3; exact .inr (.inr (.inr (.inr (.inl ⟨rfl, u1, empty_is u2, u3⟩))))
  by_cases k6 : kind = 6
  · subst k6; simp at u1 u2 v; exact .inr (.inr (.inr (.inr (.inr ⟨rfl, u1, empty_is u2, v.1, v.2⟩))))
  simp [k1, k2, k3, k4, k5, k6] at v
end Go.Proofs.Ytpakfgonemiebaa
