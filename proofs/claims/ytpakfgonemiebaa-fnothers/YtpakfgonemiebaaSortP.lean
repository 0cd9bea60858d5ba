/-
  Plain: a part laid at the end of a path.
-/
import Derived.Test.YtpakfgonemiebaaSParts
import Derived.Test.YtpakfgonemiebaaNdS
import Derived.Test.YtpakfgonemiebaaSS
namespace Go.Proofs.Ytpakfgonemiebaa
open Go.RowKit
set_option linter.unusedSimpArgs false
set_option linter.unusedVariables false

/-- A new part: at its key's place in a map, at the end of a list. -/
def insT (u : VT) (x : PS) : VT → Option VT
  | .mk kind n s keys kids =>
    if x.named = true then (if kind = 6 then some (.mk kind n s (keys.insertIdx (posK keys x.key) x.key) (kids.insertIdx (posK keys x.key) u)) else none)
    else (if kind = 5 ∧ x.pl = (kids.length : Int) then some (.mk kind n s keys (kids.insertIdx kids.length u)) else none)
def layG (u : VT) (t : VT) (x : PS) : Option VT := match stepT t x with
  | some k => some (putKid k u t)
  | none => insT u x t

theorem kid_ins {l : List VT} {k j : Nat} {u : VT} (hk : k ≤ l.length) : kidT (l.insertIdx k u) j = if j < k then kidT l j else if j = k then u else kidT l (j - 1) := by
  unfold kidT
  rw [List.getD_eq_getElem?_getD, List.getD_eq_getElem?_getD, List.getD_eq_getElem?_getD, List.getElem?_insertIdx]
  by_cases h1 : j < k
  · rw [if_pos h1, if_pos h1]
  · rw [if_neg h1, if_neg h1]
    by_cases h2 : j = k
    · rw [if_pos h2, if_pos h2, if_pos (by omega)]; rfl
    · rw [if_neg h2, if_neg h2]
theorem key_ins {l : List ByteArray} {k j : Nat} {u : ByteArray} (hk : k ≤ l.length) : keyAt (l.insertIdx k u) j = if j < k then keyAt l j else if j = k then u else keyAt l (j - 1) := by
  unfold keyAt
  rw [List.getD_eq_getElem?_getD, List.getD_eq_getElem?_getD, List.getD_eq_getElem?_getD, List.getElem?_insertIdx]
  by_cases h1 : j < k
  · rw [if_pos h1, if_pos h1]
  · rw [if_neg h1, if_neg h1]
    by_cases h2 : j = k
    · rw [if_pos h2, if_pos h2, if_pos (by omega)]; rfl
    · rw [if_neg h2, if_neg h2]
theorem ins_len {α : Type} {l : List α} {k : Nat} {u : α} (hk : k ≤ l.length) : (l.insertIdx k u).length = l.length + 1 := by
  rw [List.length_insertIdx, if_pos hk]
/-- Keys that rise, with one more at its place. -/
theorem rise_ins {keys : List ByteArray} {key : ByteArray} (hr : riseB keys = true) (ht : textB key = true) (hn : hasK keys key = false) : riseB (keys.insertIdx (posK keys key) key) = true := by
  obtain ⟨p1, p2, p3⟩ := posK_spec (l := keys) key
  have hR := riseB_rise hr
  have hnew : posK keys key < keys.length → lessB key (keyAt keys (posK keys key)) = true := fun h => by
    refine less_total (p3 h) (fun e => ?_)
    unfold hasK at hn
    simp [h, e] at hn
  obtain ⟨p, hp⟩ : ∃ p, posK keys key = p := ⟨_, rfl⟩
  rw [hp] at p1 p2 p3 hnew ⊢
  unfold riseB
  rw [List.all_eq_true]
  intro j hj
  have hj' := List.mem_range.1 hj
  rw [ins_len p1] at hj'
  unfold riseAt
  rw [key_ins p1, key_ins p1]
  simp only [Bool.and_eq_true, Bool.or_eq_true, decide_eq_true_eq]
  by_cases h1 : j < p
  · rw [if_pos h1, if_pos (show j - 1 < p by omega)]
    refine ⟨(rise_at hr (by omega)).1, ?_⟩
    by_cases e : j = 0
    · exact .inl e
    · exact .inr (hR (j - 1) j (by omega) (by omega))
  · rw [if_neg h1]
    by_cases h2 : j = p
    · rw [if_pos h2]
      refine ⟨ht, ?_⟩
      by_cases e : j = 0
      · exact .inl e
      · rw [if_pos (show j - 1 < p by omega)]
        exact .inr (p2 (j - 1) (by omega))
    · rw [if_neg h2]
      refine ⟨(rise_at hr (by omega)).1, .inr ?_⟩
      rw [if_neg (show ¬ j - 1 < p by omega)]
      by_cases h3 : j - 1 = p
      · rw [if_pos h3, h3]
        exact hnew (by omega)
      · rw [if_neg h3]
        exact hR (j - 1 - 1) (j - 1) (by omega) (by omega)
theorem goodT_more : ∀ {f g : Nat} {t : VT}, goodT f t → f ≤ g → goodT g t := by
  intro f
  induction f with
  | zero => intro g t h; exact h.elim
  | succ f ih =>
    intro g t h hg
    obtain ⟨kind, n, s, keys, kids⟩ := t
    cases g with
    | zero => omega
    | succ g => exact ⟨h.1, fun j hj => ih (h.2 j hj) (by omega)⟩
theorem put_good {f : Nat} {t u : VT} {k : Nat} (h : goodT (f + 1) t) (hk : k < (kidsT t).length) (hu : goodT f u) : goodT (f + 1) (putKid k u t) := by
  obtain ⟨kind, n, s, keys, kids⟩ := t
  have hk' : k < kids.length := hk
  refine ⟨by show nodeT kind n s keys (kids.set k u).length = true; rw [List.length_set]; exact h.1, fun j hj => ?_⟩
  have hj' : j < (kids.set k u).length := hj
  rw [List.length_set] at hj'
  show goodT f (kidT (kids.set k u) j)
  rw [kid_set hk']
  split
  · exact hu
  · exact h.2 j hj'
theorem ins_good {f : Nat} {t u v : VT} {x : PS} (h : goodT (f + 1) t) (hu : goodT f u) (hx : stepB x = true) (hs : stepT t x = none) (hi : insT u x t = some v) : goodT (f + 1) v := by
  obtain ⟨kind, n, s, keys, kids⟩ := t
  have hs' : stepTo kind keys kids.length x = none := hs
  rw [insT] at hi
  unfold stepTo at hs'
  unfold stepB at hx
  split at hi
  · rename_i hn
    rw [if_pos hn] at hs'
    split at hi
    · rename_i h6
      simp only [Option.some.injEq] at hi
      subst hi
      have hno : hasK keys x.key = false := by
        cases e : hasK keys x.key
        · rfl
        · rw [if_pos ⟨h6, e⟩] at hs'; cases hs'
      obtain ⟨hn0, hs0, hm, hr⟩ : n = 0 ∧ s = ByteArray.empty ∧ keys.length = kids.length ∧ riseB keys = true := by
        rcases nodeT_says h.1 with ⟨e2, _⟩ | ⟨e2, _⟩ | ⟨e2, _⟩ | ⟨e2, _⟩ | ⟨e2, _⟩ | ⟨_, a1, a2, a3, a4⟩
        · omega
        · omega
        · omega
        · omega
        · omega
        · exact ⟨a1, a2, a3, a4⟩
      have ht : textB x.key = true := by
        rw [hn] at hx
        simp at hx
        exact hx.1
      have hp := (posK_spec (l := keys) x.key).1
      have hp2 : posK keys x.key ≤ kids.length := by omega
      refine ⟨?_, fun j hj => ?_⟩
      · rw [h6, hn0, hs0]
        exact node6T (by rw [ins_len hp, ins_len hp2, hm]) (rise_ins hr ht hno)
      · rw [ins_len hp2] at hj
        rw [kid_ins hp2]
        split
        · exact h.2 j (by omega)
        · split
          · exact hu
          · exact h.2 (j - 1) (by omega)
    · cases hi
  · split at hi
    · rename_i h5
      simp only [Option.some.injEq] at hi
      subst hi
      obtain ⟨hn0, hs0, hk0⟩ : n = 0 ∧ s = ByteArray.empty ∧ keys = [] := by
        rcases nodeT_says h.1 with ⟨e2, _⟩ | ⟨e2, _⟩ | ⟨e2, _⟩ | ⟨e2, _⟩ | ⟨_, a1, a2, a3⟩ | ⟨e2, _⟩
        · have := h5.1; omega
        · have := h5.1; omega
        · have := h5.1; omega
        · have := h5.1; omega
        · exact ⟨a1, a2, a3⟩
        · have := h5.1; omega
      refine ⟨?_, fun j hj => ?_⟩
      · rw [h5.1, hn0, hs0, hk0]; exact node5 _
      · rw [ins_len (Nat.le_refl _)] at hj
        rw [kid_ins (Nat.le_refl _)]
        split
        · exact h.2 j (by omega)
        · split
          · exact hu
          · exact h.2 (j - 1) (by omega)
    · cases hi
theorem stepB_from {x : PS} (h : stepB x = true) : x.named = true ∨ 0 ≤ x.pl := by
  unfold stepB at h
  cases e : x.named
  · rw [e] at h; simp at h; exact .inr h.2.1
  · exact .inl rfl
/-- What is laid in a right tree, of a right part, is right but for its size. -/
theorem laid_good : ∀ (ps : List PS) (f g : Nat) (t u v : VT), goodT (f + g) t → goodT g u → ps.length ≤ f → (∀ x ∈ ps, stepB x = true) → updT (layG u) ps t = some v → goodT (f + g) v
  | [], _, _, _, _, _, _, _, _, _, h => by cases h
  | [x], f, g, t, u, v, hg, hu, hl, h0, h => by
    have h' : layG u t x = some v := h
    unfold layG at h'
    obtain ⟨f, rfl⟩ : ∃ f', f = f' + 1 := ⟨f - 1, by have : 1 ≤ f := hl; omega⟩
    rw [show f + 1 + g = f + g + 1 by omega] at hg ⊢
    have hu2 : goodT (f + g) u := goodT_more hu (by omega)
    cases e : stepT t x with
    | none => rw [e] at h'; exact ins_good hg hu2 (h0 x (by simp)) e h'
    | some k =>
      rw [e] at h'
      simp only [Option.some.injEq] at h'
      subst h'
      exact put_good hg (stepT_lt hg (stepB_from (h0 x (by simp))) e) hu2
  | x :: y :: ps, f, g, t, u, v, hg, hu, hl, h0, h => by
    rw [updT] at h
    obtain ⟨f, rfl⟩ : ∃ f', f = f' + 1 := ⟨f - 1, by simp at hl; omega⟩
    rw [show f + 1 + g = f + g + 1 by omega] at hg ⊢
    cases e : stepT t x with
    | none => rw [e] at h; cases h
    | some k =>
      rw [e] at h
      dsimp only at h
      have hk := stepT_lt hg (stepB_from (h0 x (by simp))) e
      cases e2 : updT (layG u) (y :: ps) (kidT (kidsT t) k) with
      | none => rw [e2] at h; cases h
      | some z =>
        rw [e2] at h
        simp only [Option.some.injEq] at h
        subst h
        exact put_good hg hk (laid_good (y :: ps) f g _ u z (good_kid hg hk) hu (by simp at hl ⊢; omega) (fun a ha => h0 a (by simp at ha ⊢; exact .inr ha)) e2)

theorem sum_set_c {F : VT → Nat} : ∀ {l : List VT} {k : Nat} {u : VT} {c : Nat}, F u ≤ F (kidT l k) + c → ((l.set k u).map F).sum ≤ (l.map F).sum + c := by
  intro l
  induction l with
  | nil => intro k u c _; simp
  | cons x l ih =>
    intro k u c h
    cases k with
    | zero => have h' : F u ≤ F x + c := h; rw [List.set_cons_zero, List.map_cons, List.map_cons, List.sum_cons, List.sum_cons]; omega
    | succ k => have := @ih k u c h; rw [List.set_cons_succ, List.map_cons, List.map_cons, List.sum_cons, List.sum_cons]; omega
theorem sum_ins {F : VT → Nat} : ∀ {l : List VT} {k : Nat} {u : VT}, ((l.insertIdx k u).map F).sum ≤ (l.map F).sum + F u := by
  intro l
  induction l with
  | nil =>
    intro k u
    cases k with
    | zero => simp
    | succ k => simp
  | cons x l ih =>
    intro k u
    cases k with
    | zero => rw [List.insertIdx_zero, List.map_cons, List.sum_cons]; omega
    | succ k => have := @ih k u; rw [List.insertIdx_succ_cons, List.map_cons, List.map_cons, List.sum_cons, List.sum_cons]; omega
theorem put_len {f c : Nat} {t u : VT} {k : Nat} (h : (layT f u 0).length ≤ (layT f (kidT (kidsT t) k) 0).length + c) : (layT (f + 1) (putKid k u t) 0).length ≤ (layT (f + 1) t 0).length + c := by
  obtain ⟨kind, n, s, keys, kids⟩ := t
  show (layT (f + 1) (.mk kind n s keys (kids.set k u)) 0).length ≤ _
  rw [lay_sum, lay_sum]
  have := sum_set_c (F := fun t => (layT f t 0).length) (l := kids) (k := k) (u := u) (c := c) h
  omega
theorem ins_lenT {f : Nat} {t u v : VT} {x : PS} (hi : insT u x t = some v) : (layT (f + 1) v 0).length ≤ (layT (f + 1) t 0).length + (layT f u 0).length := by
  obtain ⟨kind, n, s, keys, kids⟩ := t
  rw [insT] at hi
  split at hi
  · split at hi
    · simp only [Option.some.injEq] at hi
      subst hi
      rw [lay_sum, lay_sum]
      have := sum_ins (F := fun t => (layT f t 0).length) (l := kids) (k := posK keys x.key) (u := u)
      omega
    · cases hi
  · split at hi
    · simp only [Option.some.injEq] at hi
      subst hi
      rw [lay_sum, lay_sum]
      have := sum_ins (F := fun t => (layT f t 0).length) (l := kids) (k := kids.length) (u := u)
      omega
    · cases hi
/-- How many nodes there are then, at most. -/
theorem laid_len : ∀ (ps : List PS) (f g : Nat) (t u v : VT), goodT g u → ps.length ≤ f → updT (layG u) ps t = some v → (layT (f + g) v 0).length ≤ (layT (f + g) t 0).length + (layT g u 0).length
  | [], _, _, _, _, _, _, _, h => by cases h
  | [x], f, g, t, u, v, hu, hl, h => by
    have h' : layG u t x = some v := h
    unfold layG at h'
    obtain ⟨f, rfl⟩ : ∃ f', f = f' + 1 := ⟨f - 1, by have : 1 ≤ f := hl; omega⟩
    rw [show f + 1 + g = f + g + 1 by omega]
    have hm : layT (f + g) u 0 = layT g u 0 := layT_more hu.full (by omega) 0
    cases e : stepT t x with
    | none => rw [e] at h'; have := ins_lenT (f := f + g) h'; rw [hm] at this; exact this
    | some k =>
      rw [e] at h'
      simp only [Option.some.injEq] at h'
      subst h'
      exact put_len (by rw [hm]; omega)
  | x :: y :: ps, f, g, t, u, v, hu, hl, h => by
    rw [updT] at h
    obtain ⟨f, rfl⟩ : ∃ f', f = f' + 1 := ⟨f - 1, by simp at hl; omega⟩
    rw [show f + 1 + g = f + g + 1 by omega]
    cases e : stepT t x with
    | none => rw [e] at h; cases h
    | some k =>
      rw [e] at h
      dsimp only at h
      cases e2 : updT (layG u) (y :: ps) (kidT (kidsT t) k) with
      | none => rw [e2] at h; cases h
      | some z =>
        rw [e2] at h
        simp only [Option.some.injEq] at h
        subst h
        exact put_len (laid_len (y :: ps) f g _ u z hu (by simp at hl ⊢; omega) e2)
end Go.Proofs.Ytpakfgonemiebaa

/-
  Plain: trees whose nodes fit.
-/
namespace Go.Proofs.Ytpakfgonemiebaa
open Go.RowKit
set_option linter.unusedSimpArgs false
set_option linter.unusedVariables false

def FitT : Nat → VT → Prop
  | 0, _ => False
  | f + 1, .mk kind n s keys kids => (1 ≤ kind ∧ kind ≤ 6) ∧ (-9223372036854775808 ≤ n ∧ n ≤ 9223372036854775807) ∧ s.size ≤ 100000 ∧ keys.length ≤ 100000 ∧ (∀ i, i < keys.length → (keyAt keys i).size ≤ 100000) ∧ kids.length ≤ 100000 ∧ ∀ j, j < kids.length → FitT f (kidT kids j)
theorem FitT.full : ∀ {f : Nat} {t : VT}, FitT f t → FullT f t
  | 0, _, h => h.elim
  | f + 1, .mk _ _ _ _ _, h => fun j hj => (h.2.2.2.2.2.2 j hj).full
theorem ksT_get (f sh : Nat) {l : List VT} : ∀ {m j : Nat}, j < m → m ≤ l.length → intAt (ksT f sh l m) j = ((sh + (accT f sh l (j + 1)).length : Nat) : Int) - 1 := by
  intro m
  induction m with
  | zero => intro j h; omega
  | succ m ih =>
    intro j hj hm
    have hl := ksT_len f sh l (k := m) (by omega)
    rw [ksT_succ f sh (by omega)]
    by_cases e : j < m
    · have := ih e (by omega)
      unfold intAt at this ⊢
      rw [List.getD_eq_getElem?_getD, List.getElem?_append_left (by omega), ← List.getD_eq_getElem?_getD]
      exact this
    · obtain rfl : j = m := by omega
      unfold intAt
      rw [List.getD_eq_getElem?_getD, List.getElem?_append_right (by omega), hl, Nat.sub_self]
      rfl
theorem fits_lay : ∀ {f : Nat} {t : VT}, FitT f t → ∀ sh, sh + (layT f t sh).length ≤ 1000000 → ∀ j, j < (layT f t sh).length → Fits (nodeAt (layT f t sh) j) := by
  intro f
  induction f with
  | zero => intro t h; exact h.elim
  | succ f ih =>
    intro t h sh hn
    obtain ⟨kind, n, s, keys, kids⟩ := t
    obtain ⟨h1, h2, h3, h4, h5, h6, h7⟩ := h
    rw [layT_eq] at hn ⊢
    rw [List.length_append, List.length_cons, List.length_nil] at hn ⊢
    have ha := acc_nodes f sh kids Fits kids.length (Nat.le_refl _)
    have hall : ∀ j, j < (accT f sh kids kids.length).length → Fits (nodeAt (accT f sh kids kids.length) j) := ha.2 (fun i hi => by
      refine ih (h7 i hi) _ ?_
      have hle := accT_le f sh kids (i + 1)
      rw [accT_succ f sh hi, List.length_append] at hle
      omega)
    intro j hj
    by_cases e : j < (accT f sh kids kids.length).length
    · rw [nodeAt_left e]; exact hall j e
    · obtain rfl : j = (accT f sh kids kids.length).length := by omega
      rw [nodeAt_right (Nat.le_refl _), Nat.sub_self]
      have hkl := ksT_len f sh kids (Nat.le_refl _)
      refine ⟨by show keys.length ≤ _; omega, fun i hi => by have := h5 i hi; show (keyAt keys i).size ≤ _; omega, by show (ksT f sh kids kids.length).length ≤ _; omega, fun i hi => ?_, by show s.size ≤ _; omega, by show _ ≤ kind; omega, by show kind ≤ _; omega, by show _ ≤ n; omega, by show n ≤ _; omega⟩
      have hi' : i < kids.length := by have : i < (ksT f sh kids kids.length).length := hi; omega
      have := ksT_get f sh (l := kids) hi' (Nat.le_refl _)
      have hle := accT_le f sh kids (i + 1)
      show -9223372036854775808 ≤ intAt (ksT f sh kids kids.length) i ∧ intAt (ksT f sh kids kids.length) i ≤ 9223372036854775807
      rw [this]
      omega
end Go.Proofs.Ytpakfgonemiebaa

/-
  Plain: the nodes of a good tree fit, right or not.
-/
namespace Go.Proofs.Ytpakfgonemiebaa
open Go.RowKit
set_option linter.unusedSimpArgs false
set_option linter.unusedVariables false

theorem sum_ge {F : VT → Nat} : ∀ {l : List VT}, (∀ j, j < l.length → 1 ≤ F (kidT l j)) → l.length ≤ (l.map F).sum ∧ ∀ j, j < l.length → F (kidT l j) ≤ (l.map F).sum := by
  intro l
  induction l with
  | nil => intro _; exact ⟨by simp, fun j hj => absurd hj (by simp)⟩
  | cons x l ih =>
    intro h
    have h0 : 1 ≤ F x := h 0 (by simp)
    obtain ⟨h1, h2⟩ := ih (fun j hj => h (j + 1) (by simp; omega))
    rw [List.map_cons, List.sum_cons, List.length_cons]
    refine ⟨by omega, fun j hj => ?_⟩
    cases j with
    | zero => show F x ≤ _; omega
    | succ j =>
      have : F (kidT l j) ≤ (l.map F).sum := h2 j (by simp at hj; omega)
      show F (kidT l j) ≤ _
      omega
theorem good_fit : ∀ {f : Nat} {t : VT}, goodT f t → (layT f t 0).length ≤ 100000 → FitT f t := by
  intro f
  induction f with
  | zero => intro t h; exact h.elim
  | succ f ih =>
    intro t h hl
    obtain ⟨kind, n, s, keys, kids⟩ := t
    rw [lay_sum] at hl
    obtain ⟨s1, s2⟩ := sum_ge (F := fun t => (layT f t 0).length) (l := kids) (fun j hj => layT_len (h.2 j hj).full 0)
    have hk : kids.length ≤ 100000 := by omega
    have hem : ByteArray.empty.size = 0 := rfl
    have hkids : ∀ j, j < kids.length → FitT f (kidT kids j) := fun j hj => ih (h.2 j hj) (by have := s2 j hj; omega)
    rcases nodeT_says h.1 with ⟨a1, a2, a3, a4, _⟩ | ⟨a1, a2, a3, a4, _⟩ | ⟨a1, a2, a3, a4, _⟩ | ⟨a1, a2, a3, a4, _⟩ | ⟨a1, a2, a3, a4⟩ | ⟨a1, a2, a3, a4, a5⟩
    · exact ⟨by omega, by omega, by rw [a3]; omega, by rw [a4]; simp, fun i hi => by rw [a4] at hi; simp at hi, hk, hkids⟩
    · exact ⟨by omega, by omega, by rw [a3]; omega, by rw [a4]; simp, fun i hi => by rw [a4] at hi; simp at hi, hk, hkids⟩
    · exact ⟨by omega, by omega, by rw [a3]; omega, by rw [a4]; simp, fun i hi => by rw [a4] at hi; simp at hi, hk, hkids⟩
    · exact ⟨by omega, by omega, by omega, by rw [a4]; simp, fun i hi => by rw [a4] at hi; simp at hi, hk, hkids⟩
    · exact ⟨by omega, by omega, by rw [a3]; omega, by rw [a4]; simp, fun i hi => by rw [a4] at hi; simp at hi, hk, hkids⟩
    · refine ⟨by omega, by omega, by rw [a3]; omega, by omega, fun i hi => ?_, hk, hkids⟩
      have := (rise_at a5 hi).1
      unfold textB at this
      simp only [Bool.and_eq_true, decide_eq_true_eq] at this
      omega
theorem good_fits {f : Nat} {t : VT} (h : goodT f t) (hl : (layT f t 0).length ≤ 100000) : ∀ j, j < (layT f t 0).length → Fits (nodeAt (layT f t 0) j) := fits_lay (good_fit h hl) 0 (by omega)
end Go.Proofs.Ytpakfgonemiebaa

/-
  Keys with their places put in order, one behind the other. Plain mathematics, and slices of a row.
-/
namespace Go.Proofs.Ytpakfgonemiebaa
open Go.RowKit
set_option linter.unusedSimpArgs false
set_option linter.unusedVariables false

/-- The first i keys in order with their places; none: two are the same. -/
def sortIn (ks : List ByteArray) : Nat → Option (List ByteArray × List Nat)
  | 0 => some ([], [])
  | i + 1 => match sortIn ks i with
    | none => none
    | some (ns, ps) => if hasK ns (keyAt ks i) = true then none else some (ns.take (posK ns (keyAt ks i)) ++ [keyAt ks i] ++ ns.drop (posK ns (keyAt ks i)), ps.take (posK ns (keyAt ks i)) ++ [i] ++ ps.drop (posK ns (keyAt ks i)))

theorem sortIn_len {ks : List ByteArray} : ∀ {i : Nat} {ns : List ByteArray} {ps : List Nat}, sortIn ks i = some (ns, ps) → ns.length = i ∧ ps.length = i := by
  intro i
  induction i with
  | zero => intro ns ps h; simp [sortIn] at h; obtain ⟨rfl, rfl⟩ := h; exact ⟨rfl, rfl⟩
  | succ i ih =>
    intro ns ps h
    rw [sortIn] at h
    split at h
    · cases h
    · rename_i ns0 ps0 h0
      obtain ⟨h1, h2⟩ := ih h0
      split at h
      · cases h
      · injection h with h
        injection h with e1 e2
        subst e1 e2
        have := (posK_spec (l := ns0) (keyAt ks i)).1
        simp
        omega

theorem sortIn_mem {ks : List ByteArray} : ∀ {i : Nat} {ns : List ByteArray} {ps : List Nat}, sortIn ks i = some (ns, ps) → ∀ x ∈ ps, x < i := by
  intro i
  induction i with
  | zero => intro ns ps h; simp [sortIn] at h; obtain ⟨rfl, rfl⟩ := h; simp
  | succ i ih =>
    intro ns ps h
    rw [sortIn] at h
    split at h
    · cases h
    · rename_i ns0 ps0 h0
      split at h
      · cases h
      · injection h with h
        injection h with e1 e2
        subst e1 e2
        intro x hx
        simp only [List.mem_append, List.mem_singleton] at hx
        rcases hx with (hx | hx) | hx
        · have := ih h0 x (List.mem_of_mem_take hx); omega
        · omega
        · have := ih h0 x (List.mem_of_mem_drop hx); omega

theorem sortIn_none {ks : List ByteArray} {i j : Nat} (h : sortIn ks i = none) (hij : i ≤ j) : sortIn ks j = none := by
  obtain ⟨d, rfl⟩ : ∃ d, j = i + d := ⟨j - i, by omega⟩
  clear hij
  induction d with
  | zero => exact h
  | succ d ih => rw [← Nat.add_assoc, sortIn, ih]

theorem sortIn_put {ks : List ByteArray} {i j : Nat} {ns : List ByteArray} {ps : List Nat} (h : sortIn ks i = some (ns, ps)) (hj : posK ns (keyAt ks i) = j) (hn : hasK ns (keyAt ks i) = false) : sortIn ks (i + 1) = some (ns.take j ++ [keyAt ks i] ++ ns.drop j, ps.take j ++ [i] ++ ps.drop j) := by
  rw [sortIn, h]
  simp only [hn, hj]
  rfl

theorem sortIn_twice {ks : List ByteArray} {i : Nat} {ns : List ByteArray} {ps : List Nat} (h : sortIn ks i = some (ns, ps)) (hn : hasK ns (keyAt ks i) = true) : sortIn ks (i + 1) = none := by
  rw [sortIn, h]
  simp only [hn]
  rfl

theorem hasK_at {l : List ByteArray} {key : ByteArray} {j : Nat} (hj : posK l key = j) : hasK l key = (decide (j < l.length) && decide ((keyAt l j).toList = key.toList)) := by unfold hasK; rw [hj]

theorem keyAt_mapGet {l : List ByteArray} {j : Nat} (hj : j < l.length) : (l.map Value.string)[j]? = some (.string (keyAt l j)) := by
  rw [List.getElem?_map, List.getElem?_eq_getElem hj]
  simp [keyAt, hj]

/-- A row of rows, by its cells alone. -/
def CellsAt (B : Nat) (w : World) (v : Value) (m : Nat) (cs : Nat → Value) : Prop :=
  ∃ a cap, v = .slice a m cap ∧ (∀ i, i < m → ∃ a n c, cs i = .slice a n c) ∧ (0 < m → ∃ b o, a = some ⟨b, o, none⟩ ∧ b < B ∧ ∀ i, i < m → w.cell? ⟨b, o + i, none⟩ = some (cs i))

theorem own_some {w : World} {base e s n x : Nat} {v : Value} {xs : List Value} (h : w.ownsRow base e s v n xs) (hx : v.ownBlock = some x) : ∃ cap, v = .slice (some ⟨x, 0, none⟩) n cap ∧ n ≤ cap := by
  rcases h.2 with ⟨rfl, _⟩ | ⟨g, cap, cur, rfl, _, _, hnc, _⟩
  · simp [Value.ownBlock] at hx
  · simp [Value.ownBlock] at hx
    subst hx
    exact ⟨cap, rfl, hnc⟩

theorem elemStr : Try.prog.elem 75 = 9 := by kernel_rfl
theorem elemRow : Try.prog.elem 40 = 24 := by kernel_rfl
theorem sizeStr (w : World) : (sizeOf 9).run Try.prog w = .ok 1 w := by
  obtain ⟨i, hi, hz, hs, hy⟩ := info_parts infoStr
  simp [sizeOf, typeInfo, hi, hs]
theorem infoRowV : (Try.prog.info? 24).map (fun i => (i.zero, i.size, i.bytes)) = some (some (.slice none 0 0), 1, 24) := by kernel_rfl
theorem sizeRow (w : World) : (sizeOf 24).run Try.prog w = .ok 1 w := by
  obtain ⟨i, hi, hz, hs, hy⟩ := info_parts infoRowV
  simp [sizeOf, typeInfo, hi, hs]

theorem sliced_to (g j cap : Nat) : sliced (some ⟨g, 0, none⟩) 0 j cap 1 = .slice (some ⟨g, 0, none⟩) j cap := by
  unfold sliced
  split
  · rename_i h; subst h; simp
  · simp [Addr.add]
theorem sliced_from (g j n cap : Nat) : ∃ ad, sliced (some ⟨g, 0, none⟩) j n cap 1 = .slice (some ad) (n - j) (cap - j) ∧ (j < n → n ≤ cap → ad = ⟨g, j, none⟩) := by
  unfold sliced
  split
  · rename_i h; subst h; exact ⟨_, rfl, fun h1 h2 => by omega⟩
  · exact ⟨_, rfl, fun _ _ => by simp [Addr.add]; intro h; exact h.symm⟩

theorem strs_to (g n cap j : Nat) (hj : j ≤ cap) (w : World) : (Instr.slice 75 (.slice (some ⟨g, 0, none⟩) n cap) none (some (.int .i64 (j : Int))) none).run Try.prog w = .ok (.slice (some ⟨g, 0, none⟩) j cap) w := by
  rw [run_slice_h (P := Try.prog) (w := w) 75 (some ⟨g, 0, none⟩) n cap (by rw [elemStr]; exact Try.underlying75) .i64 j (by omega) (by omega), elemStr, sizeStr]
  simp only [Result.andThen, Int.toNat_natCast, sliced_to]
theorem rows_to (g n cap j : Nat) (hj : j ≤ cap) (w : World) : (Instr.slice 40 (.slice (some ⟨g, 0, none⟩) n cap) none (some (.int .i64 (j : Int))) none).run Try.prog w = .ok (.slice (some ⟨g, 0, none⟩) j cap) w := by
  rw [run_slice_h (P := Try.prog) (w := w) 40 (some ⟨g, 0, none⟩) n cap (by rw [elemRow]; exact Try.underlying40) .i64 j (by omega) (by omega), elemRow, sizeRow]
  simp only [Result.andThen, Int.toNat_natCast, sliced_to]
theorem strs_from (g n cap j : Nat) (hj : j ≤ n) : ∃ ad, (∀ w, (Instr.slice 75 (.slice (some ⟨g, 0, none⟩) n cap) (some (.int .i64 (j : Int))) none none).run Try.prog w = .ok (.slice (some ad) (n - j) (cap - j)) w) ∧ (j < n → n ≤ cap → ad = ⟨g, j, none⟩) := by
  obtain ⟨ad, h1, h2⟩ := sliced_from g j n cap
  refine ⟨ad, fun w => ?_, h2⟩
  rw [run_slice_l (P := Try.prog) (w := w) 75 (some ⟨g, 0, none⟩) n cap (by rw [elemStr]; exact Try.underlying75) .i64 j (by omega) (by omega), elemStr, sizeStr]
  simp only [Result.andThen, Int.toNat_natCast, h1]
theorem rows_from (g n cap j : Nat) (hj : j ≤ n) : ∃ ad, (∀ w, (Instr.slice 40 (.slice (some ⟨g, 0, none⟩) n cap) (some (.int .i64 (j : Int))) none none).run Try.prog w = .ok (.slice (some ad) (n - j) (cap - j)) w) ∧ (j < n → n ≤ cap → ad = ⟨g, j, none⟩) := by
  obtain ⟨ad, h1, h2⟩ := sliced_from g j n cap
  refine ⟨ad, fun w => ?_, h2⟩
  rw [run_slice_l (P := Try.prog) (w := w) 40 (some ⟨g, 0, none⟩) n cap (by rw [elemRow]; exact Try.underlying40) .i64 j (by omega) (by omega), elemRow, sizeRow]
  simp only [Result.andThen, Int.toNat_natCast, h1]
end Go.Proofs.Ytpakfgonemiebaa
