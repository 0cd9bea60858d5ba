/-
  Plain: what is written as CBOR is read again.
-/
import Derived.Test.YtpakfgonemiebaaSit
import Derived.Test.YtpakfgonemiebaaCbT
import Derived.Test.YtpakfgonemiebaaStbA
import Derived.Test.YtpakfgonemiebaaListP
import Derived.Test.YtpakfgonemiebaaSS
namespace Go.Proofs.Ytpakfgonemiebaa
open Go.RowKit
set_option linter.unusedSimpArgs false
set_option linter.unusedVariables false

theorem two_step {st : Nat} (h : st ≤ 3) : 24 + st - 24 = st := by omega
theorem head_sit {L : List UInt8} {p k n : Nat} (hk : k ≤ 5) (hn : n ≤ 1000000000000000) (h : Sit L p (headC k (n : Int))) : p < L.length ∧ byAt L p / 32 = k ∧ headI L p = some (n, p + (headC k (n : Int)).length) ∧ byAt L p < 192 := by
  by_cases hl : (n : Int) < 24
  · rw [headC_low hl] at h ⊢
    have hb : byAt L (p + 0) = (byI ((32 : Int) * (k : Int) + (n : Int))).toNat := h.byte rfl
    rw [Nat.add_zero] at hb
    have h2 := byI_int ((32 : Int) * (k : Int) + (n : Int))
    have h3 := h.len
    rw [List.length_cons, List.length_nil] at h3 ⊢
    have e : byAt L p = 32 * k + n := by omega
    refine ⟨by omega, by omega, ?_, by omega⟩
    unfold headI
    rw [if_pos (by omega)]
    congr 2
    omega
  · obtain ⟨st, hst⟩ : ∃ st, stepI (n : Int) = st := ⟨_, rfl⟩
    have h3st : st ≤ 3 := by rw [← hst]; exact stepI_le _
    rw [headC_big hl hst rfl] at h ⊢
    have hb : byAt L (p + 0) = (byI ((32 : Int) * (k : Int) + 24 + (st : Int))).toNat := h.byte rfl
    rw [Nat.add_zero] at hb
    have h2 := byI_int ((32 : Int) * (k : Int) + 24 + (st : Int))
    have h3 := h.len
    rw [List.length_cons, bigB_len] at h3 ⊢
    have e : byAt L p = 32 * k + 24 + st := by omega
    have hs : Sit L (p + 1) (bigB (n : Int) (2 ^ st)) := Sit.right (A := [byI ((32 : Int) * (k : Int) + 24 + (st : Int))]) h
    have hbig := big_sit hs (by rw [← hst]; exact stepI_nat n hn)
    have e2 : byAt L p % 32 = 24 + st := by omega
    obtain ⟨P, hP⟩ : ∃ P, 2 ^ st = P := ⟨_, rfl⟩
    rw [hP] at h3 hbig ⊢
    refine ⟨by omega, by omega, ?_, by omega⟩
    unfold headI
    rw [if_neg (by omega), if_pos (by omega), e2, two_step h3st, hP]
    unfold numI
    rw [hbig, if_pos ⟨by omega, by unfold maxI; omega⟩, show p + 1 + P = p + (P + 1) by omega]
theorem num_sit {L : List UInt8} {p g : Nat} {n : Int} (h1 : -1000000000000000 ≤ n) (h2 : n ≤ 1000000000000000) (h : Sit L p (cborN n)) : rdC L (g + 1) p = some (numT n, p + (cborN n).length) := by
  unfold cborN at h ⊢
  by_cases hn : n < 0
  · rw [if_pos hn] at h ⊢
    obtain ⟨m, hm⟩ : ∃ m : Nat, -1 - n = m := ⟨(-1 - n).toNat, by omega⟩
    rw [hm] at h ⊢
    obtain ⟨a1, a2, a3, a4⟩ := head_sit (by omega) (by omega) h
    rw [rdC_head a1 (by omega), a3]
    show kindI L (rdC L g) (byAt L p / 32) m _ = _
    rw [a2]
    show some (numT (-1 - (m : Int)), _) = _
    rw [← hm, show (-1 - (-1 - n)) = n by omega]
  · rw [if_neg hn] at h ⊢
    obtain ⟨m, hm⟩ : ∃ m : Nat, n = m := ⟨n.toNat, by omega⟩
    rw [hm] at h ⊢
    obtain ⟨a1, a2, a3, a4⟩ := head_sit (by omega) (by omega) h
    rw [rdC_head a1 (by omega), a3]
    show kindI L (rdC L g) (byAt L p / 32) m _ = _
    rw [a2]
    rfl
theorem word_sit {L : List UInt8} {p g : Nat} {s : ByteArray} (hs : s.size ≤ 60) (h : Sit L p (cborW s)) : rdC L (g + 1) p = some (wordT s, p + (cborW s).length) := by
  unfold cborW at h ⊢
  have hl := len_is s
  obtain ⟨a1, a2, a3, a4⟩ := head_sit (by omega) (by omega) h.left
  have h2 := h.right
  have h3 := h2.len
  rw [rdC_head a1 (by omega), a3]
  show kindI L (rdC L g) (byAt L p / 32) s.size _ = _
  rw [a2]
  show wordI L s.size _ = _
  unfold wordI
  rw [if_pos (by omega), h2.cut, List.length_append, hl, Nat.add_assoc]
theorem list_sit {L : List UInt8} {R : Nat → Option (VT × Nat)} {F : VT → List UInt8} {kids : List VT} (H : ∀ j, j < kids.length → ∀ p, Sit L p (F (kidT kids j)) → R p = some (kidT kids j, p + (F (kidT kids j)).length)) {p : Nat} : ∀ k, k ≤ kids.length → Sit L p (cborL F kids k) → rdItems R k p = some (kids.take k, p + (cborL F kids k).length) := by
  intro k
  induction k with
  | zero => intro _ _; simp [rdItems, cborL]
  | succ k ih =>
    intro hk h
    rw [cborL] at h ⊢
    have h1 := ih (by omega) h.left
    have h2 := H k (by omega) _ h.right
    rw [items_snoc h1 h2, List.length_append, Nat.add_assoc]
    congr 2
    rw [List.take_add_one, List.getElem?_eq_getElem (by omega)]
    unfold kidT
    rw [List.getD_eq_getElem?_getD, List.getElem?_eq_getElem (by omega)]
    rfl
theorem pairs_sit {L : List UInt8} {R : Nat → Option (VT × Nat)} {F : VT → List UInt8} {keys : List ByteArray} {kids : List VT} : ∀ (ps : List Nat), (∀ j ∈ ps, ∀ p, Sit L p (F (kidT kids j)) → R p = some (kidT kids j, p + (F (kidT kids j)).length)) → (∀ j ∈ ps, ∀ p, Sit L p (cborW (keyAt keys j)) → R p = some (wordT (keyAt keys j), p + (cborW (keyAt keys j)).length)) → ∀ p, Sit L p (entC F keys kids ps) → rdPairs R ps.length p = some (ps.map (keyAt keys), ps.map (kidT kids), p + (entC F keys kids ps).length) := by
  intro ps
  induction ps with
  | nil => intro _ _ p _; simp [rdPairs, entC]
  | cons x ps ih =>
    intro H HW p h
    have e : entC F keys kids (x :: ps) = cborW (keyAt keys x) ++ (F (kidT kids x) ++ entC F keys kids ps) := by unfold entC; rw [List.flatMap_cons, List.append_assoc]
    rw [e] at h ⊢
    have h1 := HW x (by simp) p h.left
    have h2 := H x (by simp) _ h.right.left
    have h3 := ih (fun j hj => H j (by simp [hj])) (fun j hj => HW j (by simp [hj])) _ h.right.right
    rw [List.length_cons, rdPairs, h1]
    show (match textOf (wordT (keyAt keys x)) with | none => none | some s => _) = _
    rw [show textOf (wordT (keyAt keys x)) = some (keyAt keys x) from rfl]
    dsimp only
    rw [h2]
    dsimp only
    rw [h3]
    simp only [List.map_cons, List.length_append]
    congr 3
    omega
end Go.Proofs.Ytpakfgonemiebaa

/-
  Plain: a tree that is written as CBOR is read again.
-/
namespace Go.Proofs.Ytpakfgonemiebaa
open Go.RowKit
set_option linter.unusedSimpArgs false
set_option linter.unusedVariables false

theorem rise_at {keys : List ByteArray} (hr : riseB keys = true) {j : Nat} (hj : j < keys.length) : textB (keyAt keys j) = true ∧ (0 < j → lessB (keyAt keys (j - 1)) (keyAt keys j) = true) := by
  have := List.all_eq_true.1 hr j (List.mem_range.2 hj)
  unfold riseAt at this
  simp only [Bool.and_eq_true, Bool.or_eq_true, decide_eq_true_eq] at this
  exact ⟨this.1, fun h => this.2.resolve_left (by omega)⟩
theorem keys_less {keys : List ByteArray} (hr : riseB keys = true) : ∀ d a, a + d + 1 < keys.length → lessB (keyAt keys a) (keyAt keys (a + d + 1)) = true := by
  intro d
  induction d with
  | zero => intro a h; have := (rise_at hr h).2 (by omega); rwa [show a + 0 + 1 - 1 = a by omega] at this
  | succ d ih =>
    intro a h
    have h1 := ih a (by omega)
    have h2 := (rise_at hr h).2 (by omega)
    rw [show a + (d + 1) + 1 - 1 = a + d + 1 by omega] at h2
    exact less_trans h1 h2
theorem keyAt_map {keys : List ByteArray} {ps : List Nat} {j : Nat} (hj : j < ps.length) : keyAt (ps.map (keyAt keys)) j = keyAt keys (ps.getD j 0) := by
  conv => lhs; unfold keyAt
  rw [List.getD_eq_getElem?_getD, List.getElem?_map, List.getD_eq_getElem?_getD, List.getElem?_eq_getElem hj]
  rfl
theorem kidAt_map {kids : List VT} {ps : List Nat} {j : Nat} (hj : j < ps.length) : kidT (ps.map (kidT kids)) j = kidT kids (ps.getD j 0) := by
  conv => lhs; unfold kidT
  rw [List.getD_eq_getElem?_getD, List.getElem?_map, List.getD_eq_getElem?_getD, List.getElem?_eq_getElem hj]
  rfl
theorem range_keys (keys : List ByteArray) : (List.range keys.length).map (keyAt keys) = keys := by
  apply List.ext_getElem?
  intro i
  rw [List.getElem?_map]
  by_cases h : i < keys.length
  · rw [List.getElem?_range h, Option.map_some]
    unfold keyAt
    rw [List.getD_eq_getElem?_getD, List.getElem?_eq_getElem h]; rfl
  · rw [List.getElem?_eq_none (by simp; omega), List.getElem?_eq_none (by omega)]; rfl
theorem range_kids (kids : List VT) : (List.range kids.length).map (kidT kids) = kids := by
  apply List.ext_getElem?
  intro i
  rw [List.getElem?_map]
  by_cases h : i < kids.length
  · rw [List.getElem?_range h, Option.map_some]
    unfold kidT
    rw [List.getD_eq_getElem?_getD, List.getElem?_eq_getElem h]; rfl
  · rw [List.getElem?_eq_none (by simp; omega), List.getElem?_eq_none (by omega)]; rfl
theorem range_getD (ps : List Nat) : (List.range ps.length).map (fun j => ps.getD j 0) = ps := by
  apply List.ext_getElem?
  intro i
  rw [List.getElem?_map]
  by_cases h : i < ps.length
  · rw [List.getElem?_range h, Option.map_some, List.getD_eq_getElem?_getD, List.getElem?_eq_getElem h]; rfl
  · rw [List.getElem?_eq_none (by simp; omega), List.getElem?_eq_none (by omega)]; rfl
/-- A map whose entries came in another order. -/
theorem map_back {keys : List ByteArray} {kids : List VT} (hl : keys.length = kids.length) (hr : riseB keys = true) {ps : List Nat} (hp : ps.Perm (List.range keys.length)) : mapT (ps.map (keyAt keys)) (ps.map (kidT kids)) = .mk 6 0 ByteArray.empty keys kids := by
  have hpl : ps.length = keys.length := by rw [hp.length_eq]; simp
  have hnd : ps.Nodup := hp.nodup_iff.2 List.nodup_range
  obtain ⟨ks, hks⟩ : ∃ ks, ps.map (keyAt keys) = ks := ⟨_, rfl⟩
  have hkl : ks.length = keys.length := by rw [← hks, List.length_map, hpl]
  have hka : ∀ j, j < keys.length → keyAt ks j = keyAt keys (ps.getD j 0) := fun j hj => by rw [← hks]; exact keyAt_map (by omega)
  have hin : ∀ j, j < keys.length → ps.getD j 0 < keys.length := fun j hj => by
    have : ps.getD j 0 ∈ ps := by rw [List.getD_eq_getElem?_getD, List.getElem?_eq_getElem (show j < ps.length by omega)]; exact List.getElem_mem _
    exact List.mem_range.1 (hp.mem_iff.1 this)
  have hsm : ∀ x ∈ srt ks, x < keys.length := fun x hx => by rw [← hkl]; exact srt_mem.1 hx
  have hA1 : ((srt ks).map fun j => ps.getD j 0).Perm (List.range keys.length) := by
    have h1 := (srt_perm ks).map (fun j => ps.getD j 0)
    rw [hkl, ← hpl, range_getD] at h1
    exact h1.trans hp
  have hA2 : ((srt ks).map fun j => ps.getD j 0).Pairwise (· < ·) := by
    rw [List.pairwise_map]
    refine List.Pairwise.imp_of_mem (fun {a b} ha hb hab => ?_) (srt_rises ks)
    have ha' := hsm a ha
    have hb' := hsm b hb
    rcases Nat.lt_trichotomy (ps.getD a 0) (ps.getD b 0) with h | h | h
    · exact h
    · exfalso
      have e : a = b := by
        rw [List.getD_eq_getElem?_getD, List.getD_eq_getElem?_getD, List.getElem?_eq_getElem (show a < ps.length by omega), List.getElem?_eq_getElem (show b < ps.length by omega)] at h
        rcases Nat.lt_trichotomy a b with l | l | l
        · exact absurd h (List.pairwise_iff_getElem.1 hnd a b _ _ l)
        · exact l
        · exact absurd h.symm (List.pairwise_iff_getElem.1 hnd b a _ _ l)
      subst e
      exact (rk_tot ks).asym _ _ hab hab
    · exfalso
      have h2 := keys_less hr (ps.getD a 0 - ps.getD b 0 - 1) (ps.getD b 0) (by have := hin a ha'; omega)
      rw [show ps.getD b 0 + (ps.getD a 0 - ps.getD b 0 - 1) + 1 = ps.getD a 0 by omega, ← hka a ha', ← hka b hb'] at h2
      exact (rk_tot ks).asym _ _ hab (cfK_less h2)
  have hA : ((srt ks).map fun j => ps.getD j 0) = List.range keys.length :=
    List.Perm.eq_of_pairwise (fun a b _ _ h1 h2 => by omega) hA2 List.pairwise_lt_range hA1
  have e1 : (srt ks).map (keyAt ks) = keys := by
    rw [← range_keys keys, ← hA, List.map_map]
    refine List.map_congr_left fun j hj => ?_
    exact hka j (hsm j hj)
  have e2 : (srt ks).map (kidT (ps.map (kidT kids))) = kids := by
    have : ∀ j ∈ srt ks, kidT (ps.map (kidT kids)) j = kidT kids (ps.getD j 0) := fun j hj => kidAt_map (by have := hsm j hj; omega)
    rw [List.map_congr_left this]
    have h3 : (srt ks).map (fun j => kidT kids (ps.getD j 0)) = ((srt ks).map fun j => ps.getD j 0).map (kidT kids) := by rw [List.map_map]; rfl
    rw [h3, hA, hl, range_kids]
  rw [mapT, hks, e1, e2]
theorem empty_is {s : ByteArray} (h : s.toList = []) : s = ByteArray.empty := by
  exact str_eq (by rw [h, ByteArray.toList_eq]; rfl)
theorem nodeT_says {kind n : Int} {s : ByteArray} {keys : List ByteArray} {m : Nat} (h : nodeT kind n s keys m = true) :
    (kind = 1 ∧ n = 0 ∧ s = ByteArray.empty ∧ keys = [] ∧ m = 0) ∨ (kind = 2 ∧ (n = 0 ∨ n = 1) ∧ s = ByteArray.empty ∧ keys = [] ∧ m = 0) ∨ (kind = 3 ∧ (-1000000000000000 ≤ n ∧ n ≤ 1000000000000000) ∧ s = ByteArray.empty ∧ keys = [] ∧ m = 0) ∨
    (kind = 4 ∧ n = 0 ∧ s.size ≤ 60 ∧ keys = [] ∧ m = 0) ∨ (kind = 5 ∧ n = 0 ∧ s = ByteArray.empty ∧ keys = []) ∨ (kind = 6 ∧ n = 0 ∧ s = ByteArray.empty ∧ keys.length = m ∧ riseB keys = true) := by
  unfold nodeT nodeB unnamedB namedB at h
  simp only [Bool.and_eq_true, List.length_replicate] at h
  obtain ⟨⟨⟨⟨u1, u2⟩, u3⟩, u4⟩, v⟩ := h
  by_cases k1 : kind = 1
  · subst k1; simp at u1 u2 u3 u4; exact .inl ⟨rfl, u1, empty_is u2, u3, u4⟩
  by_cases k2 : kind = 2
  · subst k2; simp at u2 u3 u4 v; exact .inr (.inl ⟨rfl, v, empty_is u2, u3, u4⟩)
  by_cases k3 : kind = 3
  · subst k3; simp at u2 u3 u4 v; exact .inr (.inr (.inl ⟨rfl, v, empty_is u2, u3, u4⟩))
  by_cases k4 : kind = 4
  · subst k4; simp [textB] at u1 u3 u4 v; exact .inr (.inr (.inr (.inl ⟨rfl, u1, v.1, u3, u4⟩)))
  by_cases k5 : kind = 5
  · subst k5; simp at u1 u2 u3; exact .inr (.inr (.inr (.inr (.inl ⟨rfl, u1, empty_is u2, u3⟩))))
  by_cases k6 : kind = 6
  · subst k6; simp at u1 u2 v; exact .inr (.inr (.inr (.inr (.inr ⟨rfl, u1, empty_is u2, v.1, v.2⟩))))
  simp [k1, k2, k3, k4, k5, k6] at v
end Go.Proofs.Ytpakfgonemiebaa

/-
  Plain: trees changed at the end of a path: a part taken or laid there, the rest as it was.
-/
namespace Go.Proofs.Ytpakfgonemiebaa
open Go.RowKit
set_option linter.unusedSimpArgs false
set_option linter.unusedVariables false

def kidsT : VT → List VT
  | .mk _ _ _ _ kids => kids
def stepT : VT → PS → Option Nat
  | .mk kind _ _ keys kids, x => stepTo kind keys kids.length x
def putKid (k : Nat) (u : VT) : VT → VT
  | .mk kind n s keys kids => .mk kind n s keys (kids.set k u)
def takeKid (k : Nat) : VT → VT
  | .mk kind n s keys kids => .mk kind n s (keys.eraseIdx k) (kids.eraseIdx k)
def takeG (t : VT) (x : PS) : Option VT := match stepT t x with
  | none => none
  | some k => some (takeKid k t)
/-- The part to which steps lead. -/
def folT : List PS → VT → Option VT
  | [], t => some t
  | x :: ps, t => match stepT t x with
    | none => none
    | some k => folT ps (kidT (kidsT t) k)
/-- The tree with another part there. -/
def plugT : List PS → VT → VT → VT
  | [], _, u => u
  | x :: ps, t, u => match stepT t x with
    | none => t
    | some k => putKid k (plugT ps (kidT (kidsT t) k) u) t
def updT (g : VT → PS → Option VT) : List PS → VT → Option VT
  | [], _ => none
  | [x], t => g t x
  | x :: y :: ps, t => match stepT t x with
    | none => none
    | some k => match updT g (y :: ps) (kidT (kidsT t) k) with
      | none => none
      | some u => some (putKid k u t)
theorem updT_snoc (g : VT → PS → Option VT) : ∀ (ps : List PS) (t : VT) (x : PS), updT g (ps ++ [x]) t = match folT ps t with | none => none | some s => match g s x with | none => none | some u => some (plugT ps t u) := by
  intro ps
  induction ps with
  | nil =>
    intro t x
    show g t x = _
    rw [folT]
    dsimp only
    cases g t x <;> rfl
  | cons y ps ih =>
    intro t x
    rw [folT]
    cases ps with
    | nil =>
      show (match stepT t y with | none => none | some k => match updT g [x] (kidT (kidsT t) k) with | none => none | some u => some (putKid k u t)) = _
      cases e : stepT t y with
      | none => rfl
      | some k =>
        dsimp only [updT, folT]
        cases e2 : g (kidT (kidsT t) k) x with
        | none => rfl
        | some u => simp only [plugT, e]
    | cons z ps =>
      show (match stepT t y with | none => none | some k => match updT g (z :: ps ++ [x]) (kidT (kidsT t) k) with | none => none | some u => some (putKid k u t)) = _
      cases e : stepT t y with
      | none => rfl
      | some k =>
        dsimp only
        rw [ih (kidT (kidsT t) k) x]
        cases e1 : folT (z :: ps) (kidT (kidsT t) k) with
        | none => rfl
        | some s =>
          dsimp only
          cases e2 : g s x with
          | none => rfl
          | some u =>
            dsimp only
            conv => rhs; rw [plugT, e]
/-! ### How many nodes, how deep -/
theorem cat_sumT (f : Nat) (kids : List VT) : ∀ k, k ≤ kids.length → (catNs (fun i => layT f (kidT kids i) 0) k).length = ((kids.take k).map fun t => (layT f t 0).length).sum := by
  intro k
  induction k with
  | zero => intro _; rfl
  | succ k ih =>
    intro hk
    rw [catNs_len, ih (by omega), take_kid (by omega), List.map_append, List.sum_append]
    simp
theorem lay_sum (f : Nat) (kind n : Int) (s : ByteArray) (keys : List ByteArray) (kids : List VT) : (layT (f + 1) (.mk kind n s keys kids) 0).length = (kids.map fun t => (layT f t 0).length).sum + 1 := by
  rw [layT_eq, (acc_cat f kids _ (Nat.le_refl _)).1, List.length_append, cat_sumT f kids _ (Nat.le_refl _), List.take_length]
  rfl
theorem sum_erase {F : VT → Nat} : ∀ {l : List VT} {k : Nat}, ((l.eraseIdx k).map F).sum ≤ (l.map F).sum := by
  intro l
  induction l with
  | nil => intro k; simp
  | cons x l ih =>
    intro k
    cases k with
    | zero => simp
    | succ k => have := @ih k; simp; omega
theorem sum_set {F : VT → Nat} : ∀ {l : List VT} {k : Nat} {u : VT}, F u ≤ F (kidT l k) → ((l.set k u).map F).sum ≤ (l.map F).sum := by
  intro l
  induction l with
  | nil => intro k u _; simp
  | cons x l ih =>
    intro k u h
    cases k with
    | zero => have h' : F u ≤ F x := h; rw [List.set_cons_zero, List.map_cons, List.map_cons, List.sum_cons, List.sum_cons]; omega
    | succ k => have := @ih k u h; rw [List.set_cons_succ, List.map_cons, List.map_cons, List.sum_cons, List.sum_cons]; omega
theorem kid_erase {l : List VT} {k j : Nat} : kidT (l.eraseIdx k) j = kidT l (if j < k then j else j + 1) := by
  unfold kidT
  rw [List.getD_eq_getElem?_getD, List.getD_eq_getElem?_getD, List.getElem?_eraseIdx]
  split <;> rfl
theorem key_erase {l : List ByteArray} {k j : Nat} : keyAt (l.eraseIdx k) j = keyAt l (if j < k then j else j + 1) := by
  unfold keyAt
  rw [List.getD_eq_getElem?_getD, List.getD_eq_getElem?_getD, List.getElem?_eraseIdx]
  split <;> rfl
theorem kid_set {l : List VT} {k j : Nat} {u : VT} (hk : k < l.length) : kidT (l.set k u) j = if j = k then u else kidT l j := by
  unfold kidT
  rw [List.getD_eq_getElem?_getD, List.getD_eq_getElem?_getD, List.getElem?_set]
  by_cases e : j = k
  · subst e; simp [hk]
  · rw [if_neg e, if_neg (fun h => e h.symm)]
/-- No more nodes, no deeper, and right if the other one is. -/
def NoMore (f : Nat) (u t : VT) : Prop := (layT f u 0).length ≤ (layT f t 0).length ∧ hiT f u ≤ hiT f t ∧ goodT f u
theorem erase_rise {keys : List ByteArray} (hr : riseB keys = true) (k : Nat) : riseB (keys.eraseIdx k) = true := by
  unfold riseB
  rw [List.all_eq_true]
  intro j hj
  have hj' := List.mem_range.1 hj
  have hl : (keys.eraseIdx k).length ≤ keys.length := by rw [List.length_eraseIdx]; split <;> omega
  have hin : (if j < k then j else j + 1) < keys.length := by
    rw [List.length_eraseIdx] at hj'
    split at hj' <;> (split <;> omega)
  unfold riseAt
  rw [key_erase, key_erase, (rise_at hr hin).1]
  simp only [Bool.true_and, Bool.or_eq_true, decide_eq_true_eq]
  by_cases e : j = 0
  · exact .inl e
  · right
    obtain ⟨a, b, hab, ea, eb⟩ : ∃ a b, a < b ∧ (if j - 1 < k then j - 1 else j - 1 + 1) = a ∧ (if j < k then j else j + 1) = b := ⟨_, _, by split <;> (split <;> omega), rfl, rfl⟩
    rw [ea, eb]
    rw [eb] at hin
    have := keys_less hr (b - a - 1) a (by omega)
    rwa [show a + (b - a - 1) + 1 = b by omega] at this
theorem node5 (m : Nat) : nodeT 5 0 ByteArray.empty [] m = true := by
  unfold nodeT nodeB unnamedB namedB
  simp
theorem node6T {keys : List ByteArray} {m : Nat} (hl : keys.length = m) (hr : riseB keys = true) : nodeT 6 0 ByteArray.empty keys m = true := by
  unfold nodeT nodeB unnamedB namedB
  simp [hl, hr]
theorem take_nomore {f : Nat} {t : VT} {k : Nat} (h : goodT (f + 1) t) (hk : k < (kidsT t).length) : NoMore (f + 1) (takeKid k t) t := by
  obtain ⟨kind, n, s, keys, kids⟩ := t
  have hk' : k < kids.length := hk
  obtain ⟨h1, h2⟩ := h
  have hel : (kids.eraseIdx k).length = kids.length - 1 := by rw [List.length_eraseIdx, if_pos hk']
  have hin : ∀ j, j < kids.length - 1 → (if j < k then j else j + 1) < kids.length := fun j hj => by split <;> omega
  refine ⟨?_, ?_, ?_, ?_⟩
  · show (layT (f + 1) (.mk kind n s (keys.eraseIdx k) (kids.eraseIdx k)) 0).length ≤ _
    rw [lay_sum, lay_sum]
    have := sum_erase (F := fun t => (layT f t 0).length) (l := kids) (k := k)
    omega
  · show hiT (f + 1) (.mk kind n s (keys.eraseIdx k) (kids.eraseIdx k)) ≤ _
    rw [hiT, hiT]
    have : hiK (hiT f) (kids.eraseIdx k) (kids.eraseIdx k).length ≤ hiK (hiT f) kids kids.length := hiK_bound (fun j hj => by rw [kid_erase]; exact hiK_le (hin j (by omega)))
    omega
  · show nodeT kind n s (keys.eraseIdx k) (kids.eraseIdx k).length = true
    rw [hel]
    rcases nodeT_says h1 with ⟨_, _, _, _, hm⟩ | ⟨_, _, _, _, hm⟩ | ⟨_, _, _, _, hm⟩ | ⟨_, _, _, _, hm⟩ | ⟨rfl, rfl, rfl, rfl⟩ | ⟨rfl, rfl, rfl, hm, hr⟩
    · omega
    · omega
    · omega
    · omega
    · exact node5 _
    · exact node6T (by rw [List.length_eraseIdx, if_pos (by omega), hm]) (erase_rise hr k)
  · intro j hj
    have hj' : j < (kids.eraseIdx k).length := hj
    show goodT f (kidT (kids.eraseIdx k) j)
    rw [kid_erase]
    exact h2 _ (hin j (by omega))
theorem put_nomore {f : Nat} {t u : VT} {k : Nat} (h : goodT (f + 1) t) (hk : k < (kidsT t).length) (hu : NoMore f u (kidT (kidsT t) k)) : NoMore (f + 1) (putKid k u t) t := by
  obtain ⟨kind, n, s, keys, kids⟩ := t
  have hk' : k < kids.length := hk
  obtain ⟨h1, h2⟩ := h
  obtain ⟨u1, u2, u3⟩ := hu
  refine ⟨?_, ?_, ?_, ?_⟩
  · show (layT (f + 1) (.mk kind n s keys (kids.set k u)) 0).length ≤ _
    rw [lay_sum, lay_sum]
    have := sum_set (F := fun t => (layT f t 0).length) (l := kids) (k := k) (u := u) u1
    omega
  · show hiT (f + 1) (.mk kind n s keys (kids.set k u)) ≤ _
    rw [hiT, hiT]
    have : hiK (hiT f) (kids.set k u) (kids.set k u).length ≤ hiK (hiT f) kids kids.length := hiK_bound (fun j hj => by
      rw [List.length_set] at hj
      rw [kid_set hk']
      split
      · rename_i e; subst e; exact Nat.le_trans u2 (hiK_le hk')
      · exact hiK_le hj)
    omega
  · show nodeT kind n s keys (kids.set k u).length = true
    rw [List.length_set]; exact h1
  · intro j hj
    have hj' : j < (kids.set k u).length := hj
    rw [List.length_set] at hj'
    show goodT f (kidT (kids.set k u) j)
    rw [kid_set hk']
    split
    · exact u3
    · exact h2 j hj'
theorem stepTo_lt {kind : Int} {keys : List ByteArray} {n : Nat} {x : PS} {k : Nat} (h0 : x.named = true ∨ 0 ≤ x.pl) (h6 : kind = 6 → keys.length = n) (h : stepTo kind keys n x = some k) : k < n := by
  unfold stepTo at h
  split at h
  · split at h
    · rename_i hh
      simp only [Option.some.injEq] at h
      have := hh.2
      unfold hasK at this
      simp only [Bool.and_eq_true, decide_eq_true_eq] at this
      have := h6 hh.1
      omega
    · cases h
  · split at h
    · simp only [Option.some.injEq] at h
      rename_i hn hh
      rcases h0 with h0 | h0
      · exact absurd h0 hn
      · omega
    · cases h
theorem stepT_lt {f : Nat} {t : VT} {x : PS} {k : Nat} (hg : goodT f t) (h0 : x.named = true ∨ 0 ≤ x.pl) (h : stepT t x = some k) : k < (kidsT t).length := by
  cases f with
  | zero => exact hg.elim
  | succ f =>
    obtain ⟨kind, n, s, keys, kids⟩ := t
    refine stepTo_lt h0 (fun e => ?_) h
    rcases nodeT_says hg.1 with ⟨e2, _⟩ | ⟨e2, _⟩ | ⟨e2, _⟩ | ⟨e2, _⟩ | ⟨e2, _⟩ | ⟨_, _, _, hm, _⟩
    · omega
    · omega
    · omega
    · omega
    · omega
    · exact hm
theorem good_kid {f : Nat} {t : VT} {k : Nat} (hg : goodT (f + 1) t) (hk : k < (kidsT t).length) : goodT f (kidT (kidsT t) k) := by
  obtain ⟨kind, n, s, keys, kids⟩ := t
  exact hg.2 k hk
/-- What is taken makes no more of it. -/
theorem taken_nomore : ∀ (ps : List PS) (f : Nat) (t u : VT), goodT f t → (∀ x ∈ ps, x.named = true ∨ 0 ≤ x.pl) → updT takeG ps t = some u → NoMore f u t
  | [], _, _, _, _, _, h => by cases h
  | [x], f, t, u, hg, h0, h => by
    have h' : takeG t x = some u := h
    unfold takeG at h'
    cases e : stepT t x with
    | none => rw [e] at h'; cases h'
    | some k =>
      rw [e] at h'
      simp only [Option.some.injEq] at h'
      subst h'
      have hk := stepT_lt hg (h0 x (by simp)) e
      cases f with
      | zero => exact hg.elim
      | succ f => exact take_nomore hg hk
  | x :: y :: ps, f, t, u, hg, h0, h => by
    rw [updT] at h
    cases e : stepT t x with
    | none => rw [e] at h; cases h
    | some k =>
      rw [e] at h
      dsimp only at h
      have hk := stepT_lt hg (h0 x (by simp)) e
      cases f with
      | zero => exact hg.elim
      | succ f =>
        cases e2 : updT takeG (y :: ps) (kidT (kidsT t) k) with
        | none => rw [e2] at h; cases h
        | some v =>
          rw [e2] at h
          simp only [Option.some.injEq] at h
          subst h
          exact put_nomore hg hk (taken_nomore (y :: ps) f _ v (good_kid hg hk) (fun z hz => h0 z (by simp at hz ⊢; exact .inr hz)) e2)
end Go.Proofs.Ytpakfgonemiebaa

/-
  spec.PartsOf: the rows of the parts' nodes.
-/
namespace Go.Proofs.Ytpakfgonemiebaa
open Go.RowKit
set_option linter.unusedSimpArgs false
set_option linter.unusedVariables false

theorem infoRow : (Try.prog.info? 24).map (fun i => (i.zero, i.size, i.bytes)) = some (some (.slice none 0 0), 1, 24) := by kernel_rfl

/-- The root's kids, and their nodes. -/
def rootKids (vs : List VN) : List Int := (nodeAt vs (vs.length - 1)).kids
def PL (vs : List VN) (i : Nat) : List VN := partOf vs (intAt (rootKids vs) i).toNat
def partsN (vs : List VN) : Nat := if okB vs = true then (rootKids vs).length else 0

theorem root_kid {vs : List VN} (hok : okB vs = true) {k : Nat} (hk : k < (rootKids vs).length) : ∃ q : Nat, intAt (rootKids vs) k = (q : Int) ∧ q + 1 < vs.length := by
  obtain ⟨p1, p2, _, _⟩ := okB_parts hok
  have := kidsIn_get (p2 (vs.length - 1) (by omega)).2 hk
  refine ⟨(intAt (rootKids vs) k).toNat, ?_, ?_⟩
  · unfold rootKids; omega
  · unfold rootKids; omega

theorem PL_few {vs : List VN} (hf : ∀ i, i < vs.length → Fits (nodeAt vs i)) : partsN vs ≤ 80 ∧ ∀ i, i < partsN vs → Few (PL vs i) ∧ ∀ j, j < (PL vs i).length → Fits (nodeAt (PL vs i) j) := by
  unfold partsN
  by_cases hok : okB vs = true
  · rw [if_pos hok]
    obtain ⟨p1, _, _, p4⟩ := okB_parts hok
    refine ⟨by have := p4 (vs.length - 1) (by omega); unfold rootKids; omega, fun i hi => ?_⟩
    obtain ⟨q, hq, hql⟩ := root_kid hok hi
    have e : PL vs i = partOf vs q := by unfold PL; rw [hq]; simp
    rw [e]
    have hp := part_fits hok hf (m := q) (by omega)
    exact ⟨⟨(lay_part hok (Nat.lt_succ_self q) (by omega)).2, fun j hj => (hp j hj).2⟩, fun j hj => (hp j hj).1⟩
  · rw [if_neg hok]
    exact ⟨by omega, fun i hi => absurd hi (by omega)⟩

set_option maxRecDepth 100000 in
set_option maxHeartbeats 3200000 in
theorem l1Parts_any (B : Nat) (v : Value) (vs : List VN) (w : World) (h : NodesAt B w v vs) (hB : B ≤ w.heap.size) (hok : okB vs = true) :
    Calls Try.prog 87 #[v] w fun e w' => ∃ r rs KV IV lo, e = .returned r ∧ Rows2 w.heap.size w' r (rootKids vs).length (PL vs) rs KV IV lo ∧ Below w.heap.size w w' := by
  have HV := hideIt h
  obtain ⟨hlen, av, cap, rfl, hcell⟩ := h
  obtain ⟨p1, _, p3, _⟩ := okB_parts hok
  obtain ⟨b0, o0, rfl, hb0, hc⟩ := hcell (by omega)
  obtain ⟨ka, ki, hn1⟩ := hc (vs.length - 1) (by omega)
  have HN1 := hideIt hn1
  have HP3 := hideIt p3
  have HKF := hideIt (keys_few hok)
  have HRK := hideIt (fun k hk => root_kid (k := k) hok hk)
  obtain ⟨i0, hi0, hz0, hs0, hy0⟩ := info_parts infoRow
  obtain ⟨_, hkb, aI, cI, eI, hki⟩ := hn1.inn.kids
  subst eI
  have hb1 : Below w.heap.size w (w.alloc (.cells #[] 24)) := (Below.refl _ _).alloc (Nat.le_refl _) _
  have c4 := (below_cell (o := o0 + (vs.length - 1) * 5 + 4) hb1 (show b0 < w.heap.size by omega)).trans hn1.c4
  have HKI := hideIt hki
  have p0 : ((vs.length : Int) - 1).toNat = vs.length - 1 := by omega
  have HR0 := hideIt (Rows2.start (base := w.heap.size) (World.ownsRow_lit w #[] 0 (Nat.le_refl _) (by simp [maxLen]) rfl) (by simp) (PL vs))
  have HB1 := hideIt hb1
  have hkl : (rootKids vs).length = (nodeAt vs (vs.length - 1)).kids.length := rfl
  have HKL := hideIt hkl
  have hk80 : (nodeAt vs (vs.length - 1)).kids.length ≤ 80 := (HKF.out (vs.length - 1) (by omega)).2.1
  obtain ⟨M, hM⟩ : ∃ M, (nodeAt vs (vs.length - 1)).kids.length = M := ⟨_, rfl⟩
  have HM := hideIt hM
  rw [hM] at c4 hk80
  clear hcell hc hn1 hki p3 hb1 hkl hM
  go_enter Try.func87, Try.ntmps87
  go_wp2_with fail
  go_loopw [3, 5] (fun o i wr => ∃ (k : Nat) (rs : Nat → Value) (KV IV : Nat → Nat → Value) (lo : Nat → Nat), k ≤ M ∧ i = .int .i64 k ∧ Rows2 w.heap.size wr o k (PL vs) rs KV IV lo ∧ Below w.heap.size w wr) (fun _ i _ => M - (intOf i).toNat)
  case atStart => exact ⟨0, _, _, _, _, Nat.zero_le _, rfl, HR0.out, HB1.out⟩
  case round =>
    obtain ⟨k, rs, KV, IV, lo, hk, rfl, hrows, hbl⟩ := hrel
    have HR := hideIt hrows
    have zs := hbl.size
    obtain ⟨ao, co, eo⟩ := own_slice hrows.row
    subst eo
    clear hrows
    by_cases hlt : k < M
    · obtain ⟨q, hq, hql⟩ := HRK.out k (by rw [HKL.out, HM.out]; exact hlt)
      obtain ⟨bk, ok, rfl, hbk, hck⟩ := HKI.out (by rw [HM.out]; omega)
      have hcq : wr.cell? ⟨bk, ok + k, none⟩ = some (.int .i64 (q : Int)) := by
        have := hck k (by rw [HM.out]; exact hlt)
        rw [← hq]
        exact (below_cell hbl (by omega)).trans this
      obtain ⟨⟨a0, h0⟩, htr⟩ := HP3.out q (by omega)
      have HTR := hideIt htr
      have HPL : Hid (run vs (-(a0 : Int)) a0 (q + 1 - a0) = PL vs k) := by rw [Hid]; unfold PL; rw [hq, Int.toNat_natCast, partOf, htr]; simp [trF]
      clear htr hq hck
      go_wp2_with fail
      refine (l1Part_any B _ vs q a0 h0 wr (HV.out.below (hbl.mono hB)) (by omega) p1.2 HKF.out (by omega) HTR.out).mono ?_
      rintro e w3 ⟨r, K, I, rfl, hn3, hb3⟩
      rw [HPL.out] at hn3
      have HN3 := hideIt hn3
      obtain ⟨ar, cr, er⟩ := own_slice hn3.row
      obtain ⟨Lk, hLk⟩ : ∃ Lk, (PL vs k).length = Lk := ⟨_, rfl⟩
      rw [hLk] at er
      subst er
      have HB3 := hideIt hb3
      have z3 := hb3.size
      have HROW := hideIt (HR.out.below hb3).row
      clear hn3 hb3 hLk
      go_wp2_with (at_builtin; refine wpList_append_own_at _ rfl _ _ 40 rfl w.heap.size 24 i0 (.slice none 0 0) 1 24 Try.underlying40 hi0 hz0 hs0 hy0 rfl (by decide) _ _ _ rfl (HROW.out.alloc _) ⟨w3.heap.size, 0, none⟩ 1 1 [.slice ar Lk cr] rfl rfl ?c1 ?c2 ?c3 ?c4 ?c5 ?_)
      case c1 => exact cell_one_new _ _ _
      case c2 => intro u hu; simp at hu; subst hu; rfl
      case c3 => unfold maxLen; omega
      case c4 => omega
      case c5 => simp; omega
      intro v' w5 hown hgrow _ _
      have HR5 := hideIt (HR.out.snoc HB3.out HN3.out hown hgrow)
      have HB5 : Hid (Below w.heap.size w w5) := ((hbl.trans (HB3.out.mono zs)).alloc (by omega) _).grown hgrow (by simp; omega) (fun x hx => (HROW.out.lt x hx).1)
      clear hown hgrow
      go_wp2_with fail
      go_roundw
      case rel => exact ⟨k + 1, _, _, _, _, by omega, by go_num, HR5.out, HB5.out⟩
      case measure => simp [intOf]; omega
    · obtain rfl : k = M := by omega
      go_wp2_with fail
      go_ret
      exact ⟨_, _, _, _, _, rfl, by rw [HKL.out, HM.out]; exact HR.out, hbl⟩

end Go.Proofs.Ytpakfgonemiebaa
