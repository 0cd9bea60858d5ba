/-
  The law's own comparison of two paths.
-/
import Derived.Test.YtpakfgonemiebaaPsZ
import Derived.Deep.QuietTactic
import Derived.BigQuiet
import Derived.Laws.StructEq
import Derived.Lib.Strings
import Derived.Test.YtpakfgonemiebaaLaidQ
import Derived.Test.YtpakfgonemiebaaMarkN
import Derived.Test.YtpakfgonemiebaaProg
import Derived.Laws.Closers25b
import Derived.Laws.DeepStrings4
namespace Go.Proofs.Ytpakfgonemiebaa
open Go.RowKit
set_option linter.unusedSimpArgs false
set_option linter.unusedVariables false

theorem steps_eq {a b : List PS} (hl : a.length = b.length) (h : ∀ j, j < a.length → stepAt a j = stepAt b j) : a = b := by
  refine List.ext_getElem hl fun i h1 h2 => ?_
  have := h i h1
  simpa [stepAt, h1, h2] using this

theorem key_eq {a b : ByteArray} (h : (a.toList == b.toList) = true) : a = b := by
  have e : a.toList = b.toList := eq_of_beq h
  rw [Lib.toList_data, Lib.toList_data] at e
  rw [← Lib.mk_data a, ← Lib.mk_data b, e]

theorem ps_eq {x y : PS} (h1 : x.named = y.named) (h2 : x.key = y.key) (h3 : x.pl = y.pl) : x = y := by
  cases x; cases y; simp_all

theorem steps_ne {a b : List PS} {k : Nat} (h : stepAt a k ≠ stepAt b k) : ¬ a = b := fun e => h (by rw [e])

theorem ret_noP {p : Prop} (h : ¬ p) : ∃ b, Ending.returned (.bool false) = .returned (.bool b) ∧ (b = true ↔ p) := ⟨false, rfl, by simp [h]⟩

set_option maxRecDepth 100000 in
set_option maxHeartbeats 3200000 in
theorem samePath_any (B : Nat) (v1 v2 : Value) (ps qs : List PS) (w : World) (h1 : StepsAt B w v1 ps) (h2 : StepsAt B w v2 qs) (hB : B ≤ w.heap.size) :
    Calls Try.prog 16 #[v1, v2] w fun e w' => (∃ b, e = .returned (.bool b) ∧ (b = true ↔ ps = qs)) ∧ Below w.heap.size w w' := by
  obtain ⟨hlen, hf1, a1, cap1, rfl, hcell1⟩ := h1
  obtain ⟨hlen2, hf2, a2, cap2, rfl, hcell2⟩ := h2
  have HC1 := hideIt hcell1
  have HC2 := hideIt hcell2
  clear hcell1 hcell2 hf1 hf2
  by_cases hl : ps.length = qs.length
  case neg =>
    have hne : ((ps.length : Int) != (qs.length : Int)) = true := by simp; omega
    have HO : Hid (¬ ps = qs) := fun e => hl (by rw [e])
    clear hl
    go_enter Try.func16, Try.ntmps16
    go_wp2_with fail
    go_ret
    exact ⟨ret_noP HO.out, Below.refl _ _⟩
  case pos =>
  obtain ⟨N, hN⟩ : ∃ N, ps.length = N := ⟨_, rfl⟩
  have HN1 := hideIt hN
  have HN2 := hideIt (hl.symm.trans hN)
  rw [← hl, hN]
  rw [hN] at hlen
  clear hl hN hlen2
  have hne : ((N : Int) != (N : Int)) = false := by simp
  go_enter Try.func16, Try.ntmps16
  go_wp2_with fail
  go_loopw [5] (fun i wr => ∃ k : Nat, k ≤ N ∧ i = .int .i64 k ∧ Hid (∀ j, j < k → stepAt ps j = stepAt qs j) ∧ Below w.heap.size w wr) (fun i _ => N - (intOf i).toNat)
  case atStart => exact ⟨0, Nat.zero_le _, rfl, fun j hj => absurd hj (by omega), Below.refl _ _⟩
  case round =>
    obtain ⟨k, hk, rfl, HE, hbel⟩ := hrel
    by_cases hlt : k < N
    case neg =>
      have HO : Hid (ps = qs) := steps_eq (HN1.out.trans HN2.out.symm) (fun j hj => HE.out j (by have := HN1.out; omega))
      go_wp2_with fail
      go_ret
      exact ⟨⟨true, rfl, by simp [HO.out]⟩, hbel⟩
    case pos =>
    obtain ⟨b1, o1, rfl, hb1, hc1⟩ := HC1.out (by have := HN1.out; omega)
    obtain ⟨b2, o2, rfl, hb2, hc2⟩ := HC2.out (by have := HN2.out; omega)
    obtain ⟨c0, c1, c2⟩ := hc1 k (by have := HN1.out; omega)
    obtain ⟨d0, d1, d2⟩ := hc2 k (by have := HN2.out; omega)
    clear hc1 hc2
    obtain ⟨x, hx⟩ : ∃ x, stepAt ps k = x := ⟨_, rfl⟩
    obtain ⟨y, hy⟩ : ∃ y, stepAt qs k = y := ⟨_, rfl⟩
    rw [hx] at c0 c1 c2
    rw [hy] at d0 d1 d2
    have c0 := (below_cell hbel (show b1 < w.heap.size by omega)).trans c0
    have c1 := (below_cell hbel (show b1 < w.heap.size by omega)).trans c1
    have c2 := (below_cell hbel (show b1 < w.heap.size by omega)).trans c2
    have d0 := (below_cell hbel (show b2 < w.heap.size by omega)).trans d0
    have d1 := (below_cell hbel (show b2 < w.heap.size by omega)).trans d1
    have d2 := (below_cell hbel (show b2 < w.heap.size by omega)).trans d2
    have HNE : Hid (x ≠ y → ¬ ps = qs) := fun h => steps_ne (k := k) (by rw [hx, hy]; exact h)
    have HEQ : Hid (x = y → ∀ j, j < k + 1 → stepAt ps j = stepAt qs j) := fun h j hj => by
      by_cases e : j = k
      · subst e; rw [hx, hy]; exact h
      · exact HE.out j (by omega)
    clear hx hy
    obtain ⟨xn, xk, xp⟩ := x
    obtain ⟨yn, yk, yp⟩ := y
    simp only at c0 c1 c2 d0 d1 d2
    by_cases q1 : xn = yn
    case neg =>
      have f1 : (xn == yn) = false := by simp [q1]
      have HO := hideIt (HNE.out (fun e => q1 (by injection e)))
      clear q1
      go_wp2_with fail
      go_quiet (fail)
      go_wp2_with fail
      go_ret
      exact ⟨ret_noP HO.out, below_drewN hbel nq⟩
    case pos =>
    subst q1
    by_cases q2 : (xk.toList == yk.toList) = true
    case neg =>
      have f2 : (xk.toList == yk.toList) = false := by simpa using q2
      have HO := hideIt (HNE.out (fun e => q2 (by injection e with _ e; rw [e]; simp)))
      clear q2
      go_wp2_with fail
      go_quiet (fail)
      go_wp2_with fail
      go_ret
      exact ⟨ret_noP HO.out, below_drewN hbel nq⟩
    case pos =>
    by_cases q3 : xp = yp
    case neg =>
      have f3 : (xp == yp) = false := by simp [q3]
      have HO := hideIt (HNE.out (fun e => q3 (by injection e)))
      clear q3
      go_wp2_with fail
      go_quiet (fail)
      go_wp2_with fail
      go_ret
      exact ⟨ret_noP HO.out, below_drewN hbel nq⟩
    case pos =>
    subst q3
    have HE2 := hideIt (HEQ.out (ps_eq rfl (key_eq q2) rfl))
    go_wp2_with fail
    go_quiet (fail)
    go_wp2_with fail
    go_roundw
    case rel => exact ⟨k + 1, by omega, by go_num, HE2, below_drewN hbel nq⟩
    case measure => simp [intOf]; omega
end Go.Proofs.Ytpakfgonemiebaa

/-
  Plain: what is laid at one path changes nothing of what stands at a path that does not begin with it nor it with that.
-/
namespace Go.Proofs.Ytpakfgonemiebaa
open Go.RowKit
set_option linter.unusedSimpArgs false
set_option linter.unusedVariables false

theorem bytes_same {a b : ByteArray} (h : a.toList = b.toList) : a = b := key_eq (by simp [h])
theorem has_at {l : List ByteArray} (hr : Rise l) {key : ByteArray} {i : Nat} (hi : i < l.length) (he : (keyAt l i).toList = key.toList) : hasK l key = true ∧ posK l key = i :=
  hasK_first hr hi he (fun j hj e => less_ne (hr j i hj hi) (e.trans he.symm))
theorem step_says {f : Nat} {kind n : Int} {s : ByteArray} {keys : List ByteArray} {kids : List VT} {x : PS} {k : Nat} (hg : goodT (f + 1) (.mk kind n s keys kids)) (hx : stepB x = true) (h : stepT (.mk kind n s keys kids) x = some k) :
    (x.named = true ∧ kind = 6 ∧ x.pl = 0 ∧ hasK keys x.key = true ∧ posK keys x.key = k ∧ (keyAt keys k).toList = x.key.toList ∧ keys.length = kids.length ∧ riseB keys = true) ∨ (x.named = false ∧ kind = 5 ∧ x.key.toList = [] ∧ x.pl = (k : Int) ∧ k < kids.length) := by
  have h' : stepTo kind keys kids.length x = some k := h
  unfold stepTo at h'
  unfold stepB at hx
  cases hn : x.named
  · rw [hn] at h' hx
    simp only [Bool.false_eq_true, if_false] at h'
    simp at hx
    split at h'
    · rename_i h5
      simp only [Option.some.injEq] at h'
      refine .inr ⟨rfl, h5.1, by simpa using hx.1, by omega, by omega⟩
    · cases h'
  · rw [hn] at h' hx
    simp only [if_true] at h'
    simp at hx
    split at h'
    · rename_i h6
      simp only [Option.some.injEq] at h'
      have hk := h6.2
      unfold hasK at hk
      simp only [Bool.and_eq_true, decide_eq_true_eq] at hk
      rw [h'] at hk
      rcases nodeT_says hg.1 with ⟨e2, _⟩ | ⟨e2, _⟩ | ⟨e2, _⟩ | ⟨e2, _⟩ | ⟨e2, _⟩ | ⟨_, a1, a2, hm, hr⟩
      · have := h6.1; omega
      · have := h6.1; omega
      · have := h6.1; omega
      · have := h6.1; omega
      · have := h6.1; omega
      · exact .inl ⟨rfl, h6.1, hx.2, h6.2, h', hk.2, hm, hr⟩
    · cases h'
theorem step_inj {f : Nat} {t : VT} {x y : PS} {k : Nat} (hg : goodT (f + 1) t) (hx : stepB x = true) (hy : stepB y = true) (h1 : stepT t x = some k) (h2 : stepT t y = some k) : x = y := by
  obtain ⟨kind, n, s, keys, kids⟩ := t
  obtain ⟨xn, xk, xp⟩ := x
  obtain ⟨yn, yk, yp⟩ := y
  rcases step_says hg hx h1 with ⟨a1, a2, a3, _, _, a4, _⟩ | ⟨a1, a2, a3, a4, _⟩
  · rcases step_says hg hy h2 with ⟨b1, b2, b3, _, _, b4, _⟩ | ⟨b1, b2, b3, b4, _⟩
    · dsimp only at a1 a3 a4 b1 b3 b4
      rw [bytes_same (a4.symm.trans b4), a1, b1, a3, b3]
    · omega
  · rcases step_says hg hy h2 with ⟨b1, b2, b3, _, _, b4, _⟩ | ⟨b1, b2, b3, b4, _⟩
    · omega
    · dsimp only at a1 a3 a4 b1 b3 b4
      rw [bytes_same (a3.trans b3.symm), a1, b1, a4, b4]
/-- Another step leads where it led. -/
theorem step_other {f : Nat} {t u v : VT} {x y : PS} {k : Nat} (hg : goodT (f + 1) t) (hx : stepB x = true) (hy : stepB y = true) (hne : x ≠ y) (h : layG u t x = some v) (hk : stepT t y = some k) : ∃ k', stepT v y = some k' ∧ kidT (kidsT v) k' = kidT (kidsT t) k := by
  obtain ⟨kind, n, s, keys, kids⟩ := t
  unfold layG at h
  cases e : stepT (.mk kind n s keys kids) x with
  | some j =>
    rw [e] at h
    simp only [Option.some.injEq] at h
    subst h
    have hj : j < kids.length := stepT_lt hg (stepB_from hx) e
    refine ⟨k, by rw [step_put]; exact hk, ?_⟩
    show kidT (kids.set j u) k = kidT kids k
    rw [kid_set hj, if_neg]
    rintro rfl
    exact hne (step_inj hg hx hy e hk)
  | none =>
    rw [e] at h
    have h' : insT u x (.mk kind n s keys kids) = some v := h
    have hsx : stepTo kind keys kids.length x = none := e
    unfold stepTo at hsx
    rw [insT] at h'
    split at h'
    · rename_i hn
      split at h'
      · rename_i h6
        simp only [Option.some.injEq] at h'
        subst h'
        rcases step_says hg hy hk with ⟨a1, a2, a3, a4, a5, a6, hm, hr⟩ | ⟨a1, a2, a3, a4, a5⟩
        · have hno : hasK keys x.key = false := by
            cases e3 : hasK keys x.key
            · rfl
            · rw [if_pos hn, if_pos ⟨h6, e3⟩] at hsx; cases hsx
          have htx : textB x.key = true := by
            unfold stepB at hx
            rw [hn] at hx
            simp at hx
            exact hx.1
          have hr' := riseB_rise (rise_ins hr htx hno)
          have hp := (posK_spec (l := keys) x.key).1
          have hpk : posK keys x.key ≤ kids.length := by omega
          have hkl : k < keys.length := by
            have := a4
            unfold hasK at this
            simp only [Bool.and_eq_true, decide_eq_true_eq] at this
            omega
          obtain ⟨p, hpp⟩ : ∃ p, posK keys x.key = p := ⟨_, rfl⟩
          rw [hpp] at hr' hp hpk ⊢
          obtain ⟨k', hk'⟩ : ∃ k', (if k < p then k else k + 1) = k' := ⟨_, rfl⟩
          have hkey : keyAt (keys.insertIdx p x.key) k' = keyAt keys k := by
            rw [key_ins hp, ← hk']
            by_cases c : k < p
            · rw [if_pos c, if_pos c]
            · rw [if_neg c, if_neg (by omega), if_neg (by omega), Nat.add_sub_cancel]
          have hkl' : k' < (keys.insertIdx p x.key).length := by rw [ins_len hp, ← hk']; split <;> omega
          obtain ⟨q1, q2⟩ := has_at hr' hkl' (key := y.key) (by rw [hkey]; exact a6)
          refine ⟨k', ?_, ?_⟩
          · show stepTo kind (keys.insertIdx p x.key) (kids.insertIdx p u).length y = _
            unfold stepTo
            rw [if_pos a1, if_pos ⟨a2, q1⟩, q2]
          · show kidT (kids.insertIdx p u) k' = kidT kids k
            rw [kid_ins hpk, ← hk']
            by_cases c : k < p
            · rw [if_pos c, if_pos c]
            · rw [if_neg c, if_neg (by omega), if_neg (by omega), Nat.add_sub_cancel]
        · omega
      · cases h'
    · rename_i hn
      split at h'
      · rename_i h5
        simp only [Option.some.injEq] at h'
        subst h'
        rcases step_says hg hy hk with ⟨a1, a2, a3, a4, a5, a6, hm, hr⟩ | ⟨a1, a2, a3, a4, a5⟩
        · have := h5.1; omega
        · refine ⟨k, ?_, ?_⟩
          · show stepTo kind keys (kids.insertIdx kids.length u).length y = _
            unfold stepTo
            rw [if_neg (by rw [a1]; simp), ins_len (Nat.le_refl _), if_pos ⟨a2, by omega⟩, a4]
            simp
          · show kidT (kids.insertIdx kids.length u) k = kidT kids k
            rw [kid_ins (Nat.le_refl _), if_pos a5]
      · cases h'
theorem others_tree : ∀ (ps qs : List PS) (f : Nat) (t u v : VT), goodT f t → (∀ x ∈ ps, stepB x = true) → (∀ x ∈ qs, stepB x = true) → updT (layG u) ps t = some v → (folT qs t).isSome = true → ps.take (min ps.length qs.length) ≠ qs.take (min ps.length qs.length) → folT qs v = folT qs t
  | [], _, _, _, _, _, _, _, _, h, _, _ => by cases h
  | _ :: _, [], _, _, _, _, _, _, _, _, _, hne => by simp at hne
  | [x], y :: qs, f, t, u, v, hg, hp, hq, h, hs, hne => by
    have hxy : x ≠ y := fun e => hne (by
      have e2 : min [x].length (y :: qs).length = 1 := by simp
      rw [e2, e]; simp)
    cases f with
    | zero => exact hg.elim
    | succ f =>
      have h' : layG u t x = some v := h
      rw [folT] at hs ⊢
      rw [folT]
      cases e : stepT t y with
      | none => rw [e] at hs; cases hs
      | some k =>
        obtain ⟨k', h1, h2⟩ := step_other hg (hp x (by simp)) (hq y (by simp)) hxy h' e
        rw [h1]
        dsimp only
        rw [h2]
  | x :: x2 :: ps, y :: qs, f, t, u, v, hg, hp, hq, h, hs, hne => by
    cases f with
    | zero => exact hg.elim
    | succ f =>
      rw [updT] at h
      cases ex : stepT t x with
      | none => rw [ex] at h; cases h
      | some j =>
        rw [ex] at h
        dsimp only at h
        have hj := stepT_lt hg (stepB_from (hp x (by simp))) ex
        cases eu : updT (layG u) (x2 :: ps) (kidT (kidsT t) j) with
        | none => rw [eu] at h; cases h
        | some z =>
          rw [eu] at h
          simp only [Option.some.injEq] at h
          subst h
          rw [folT] at hs ⊢
          rw [folT, step_put]
          cases ey : stepT t y with
          | none => simp [ey] at hs
          | some k =>
            rw [ey] at hs
            dsimp only at hs ⊢
            by_cases hxy : x = y
            · subst hxy
              rw [ex] at ey
              cases ey
              obtain ⟨kind, n, s, keys, kids⟩ := t
              have hj' : j < kids.length := hj
              have e1 : kidT (kidsT (putKid j z (.mk kind n s keys kids))) j = z := by
                show kidT (kids.set j z) j = z
                rw [kid_set hj', if_pos rfl]
              rw [e1]
              refine others_tree (x2 :: ps) qs f _ u z (good_kid hg hj) (fun a ha => hp a (by simp at ha ⊢; exact .inr ha)) (fun a ha => hq a (by simp [ha])) eu hs (fun e => hne ?_)
              have e2 : min (x :: x2 :: ps).length (x :: qs).length = min (x2 :: ps).length qs.length + 1 := by simp only [List.length_cons]; omega
              rw [e2, List.take_succ_cons, List.take_succ_cons, e]
            · obtain ⟨kind, n, s, keys, kids⟩ := t
              have hj' : j < kids.length := hj
              have e1 : kidT (kidsT (putKid j z (.mk kind n s keys kids))) k = kidT (kidsT (.mk kind n s keys kids)) k := by
                show kidT (kids.set j z) k = kidT kids k
                rw [kid_set hj', if_neg]
                rintro rfl
                exact hxy (step_inj hg (hp x (by simp)) (hq y (by simp)) ex ey)
              rw [e1]
theorem others_say {vs : List VN} {ps : List PS} {ws : List VN} {q : List PS} (h : laidB vs ps ws = true) (hq : gotB vs q = true) (hne : ps.take (min ps.length q.length) ≠ q.take (min ps.length q.length)) : gotB (laidNs vs ps ws) q = true ∧ gotNs (laidNs vs ps ws) q = gotNs vs q := by
  obtain ⟨V, hlt, hns, hokV, hgV, ok1, ok2, ok3⟩ := laid_ok h
  obtain ⟨⟨_, hqp⟩, _⟩ : (okB vs = true ∧ pathB q = true) ∧ _ := by
    have h' := hq
    unfold gotB at h'
    simpa using h'
  have hg := treeV_good ok1
  have hwl : layT vs.length (treeV vs) 0 = vs := whole_lay ok1
  obtain ⟨a1, a2⟩ := got_lay hg (by rw [hwl]; exact ok1) hqp
  rw [hwl, hq] at a1
  rw [hwl] at a2
  obtain ⟨s, hs⟩ : ∃ s, folT q (treeV vs) = some s := Option.isSome_iff_exists.1 a1.symm
  obtain ⟨fa, hga, hoka, ea⟩ := a2 s hs
  have hup : updT (layG (treeV ws)) ps (treeV vs) = some V := by
    have hlt' := hlt
    unfold laidT at hlt'
    rw [if_pos (by rw [ok1, ok2, ok3]; rfl)] at hlt'
    rw [if_neg] at hlt'
    · exact hlt'
    · intro e
      apply hne
      rw [e]; simp
  have hfv : folT q V = some s := by
    rw [others_tree ps q _ _ _ V hg (steps_all ok2) (steps_all hqp) hup (by rw [hs]; rfl) hne]
    exact hs
  obtain ⟨b1, b2⟩ := got_lay hgV hokV hqp
  obtain ⟨fb, hgb, hokb, eb⟩ := b2 s hfv
  rw [← hns] at b1 eb
  rw [hfv] at b1
  exact ⟨b1, by rw [eb, ea]; exact lay_same hgb.full hga.full⟩
end Go.Proofs.Ytpakfgonemiebaa

/-
  The reader of codes from which values are drawn: what each draw may answer, and that it turns nothing but its own place.
-/
namespace Go.Proofs.Ytpakfgonemiebaa
open Go.RowKit
set_option linter.unusedSimpArgs false
set_option linter.unusedVariables false

/-- A reader in block rb, of n bytes, at place p. -/
structure RdAt (w : World) (rb n p : Nat) : Prop where
  lt : rb < w.heap.size
  src : ∃ a cap, w.cell? ⟨rb, 0, none⟩ = some (.slice a n cap) ∧ (0 < n → ∃ b o, a = some ⟨b, o, none⟩ ∧ b < rb ∧ ∀ i, i < n → ∃ x : Nat, x < 256 ∧ w.cell? ⟨b, o + i, none⟩ = some (.int .u8 x))
  place : w.cell? ⟨rb, 1, none⟩ = some (.int .i64 p)
  le : p ≤ n
  few : n ≤ 1048576
  free : w.frozen? ⟨rb, 1, none⟩ = false

/-- What a draw leaves: the reader at some place, nothing else turned. -/
structure Drawn (rb n : Nat) (w w' : World) : Prop where
  rd : ∃ p, RdAt w' rb n p
  only : Only (fun c => c = rb) w w'
  below : Below rb w w'

theorem frozen_same {w w' : World} {b o : Nat} (h : w'.heap[b]? = w.heap[b]?) : w'.frozen? ⟨b, o, none⟩ = w.frozen? ⟨b, o, none⟩ := by
  unfold World.frozen?
  rw [show w'.heap[(⟨b, o, none⟩ : Addr).block]? = w.heap[(⟨b, o, none⟩ : Addr).block]? from h]

theorem RdAt.below {w w' : World} {rb n p : Nat} (h : RdAt w rb n p) (hb : Below w.heap.size w w') : RdAt w' rb n p := by
  have hl := h.lt
  refine ⟨by have := hb.size; omega, ?_, (below_cell hb hl).trans h.place, h.le, h.few, (frozen_same (hb.block rb hl)).trans h.free⟩
  obtain ⟨a, cap, h1, h2⟩ := h.src
  refine ⟨a, cap, (below_cell hb hl).trans h1, fun hp => ?_⟩
  obtain ⟨b, o, e, hlt, hx⟩ := h2 hp
  exact ⟨b, o, e, hlt, fun i hi => by obtain ⟨x, h3, h4⟩ := hx i hi; exact ⟨x, h3, (below_cell hb (by omega)).trans h4⟩⟩

theorem RdAt.step {w : World} {rb n p : Nat} (h : RdAt w rb n p) (hp : p < n) : RdAt (w.setCell ⟨rb, 1, none⟩ (.int .i64 ((p + 1 : Nat) : Int))) rb n (p + 1) := by
  refine ⟨by simpa using h.lt, ?_, World.cell?_setCell_same _ _ _ h.place, by omega, h.few, by rw [World.frozen?_setCell]; exact h.free⟩
  obtain ⟨a, cap, h1, h2⟩ := h.src
  refine ⟨a, cap, by rw [World.cell?_setCell_other (h := by simp)]; exact h1, fun hp => ?_⟩
  obtain ⟨b, o, e, hlt, hx⟩ := h2 hp
  refine ⟨b, o, e, hlt, fun i hi => ?_⟩
  obtain ⟨x, h3, h4⟩ := hx i hi
  exact ⟨x, h3, by rw [World.cell?_setCell_other (h := by intro e2; injection e2 with e3; omega)]; exact h4⟩

theorem Drawn.refl {rb n p : Nat} {w : World} (h : RdAt w rb n p) : Drawn rb n w w := ⟨⟨p, h⟩, Only.refl _ _, Below.refl _ _⟩
theorem Drawn.trans {rb n : Nat} {a b c : World} (h : Drawn rb n a b) (k : Drawn rb n b c) : Drawn rb n a c := ⟨k.rd, h.only.trans k.only, h.below.trans k.below⟩
theorem Drawn.next {rb n : Nat} {a b c : World} (h : Drawn rb n a b) (k : Below b.heap.size b c) : Drawn rb n a c := by
  obtain ⟨p, hp⟩ := h.rd
  exact ⟨⟨p, hp.below k⟩, h.only.trans (Only.of_below k), h.below.trans (k.mono (Nat.le_of_lt hp.lt))⟩

set_option maxRecDepth 100000 in
set_option maxHeartbeats 1600000 in
theorem rdNext_any (rb n p : Nat) (w : World) (h : RdAt w rb n p) :
    Calls Try.prog 103 #[.pointer (some ⟨rb, 0, none⟩)] w fun e w' => (∃ x : Nat, x < 256 ∧ e = .returned (.int .i64 x)) ∧ Drawn rb n w w' := by
  have H := hideIt h
  obtain ⟨a, cap, h1, h2⟩ := h.src
  have h3 := h.place
  have h4 := h.le
  have h5 := h.few
  have h6 := h.lt
  have HS := hideIt h2
  clear h h2
  by_cases hp : p < n
  · obtain ⟨b, o, rfl, hlt, hx⟩ := HS.out (by omega)
    obtain ⟨x, hx1, hx2⟩ := hx p hp
    have hfz := H.out.free
    clear hx
    go_enter Try.func103, Try.ntmps103
    go_wp2_with fail
    go_quiet (fail)
    have hd1 := below_drewN (Below.refl w.heap.size w) nq
    have HR1 := hideIt (H.out.below hd1)
    have k1 : (w.drewN nq).cell? ⟨rb, 1, none⟩ = some (.int .i64 p) := HR1.out.place
    have k2 : (w.drewN nq).frozen? ⟨rb, 1, none⟩ = false := HR1.out.free
    have k3 := (below_cell hd1 (by omega)).trans h1
    have k4 := (below_cell hd1 (by omega)).trans hx2
    have HD1 := hideIt hd1
    generalize w.drewN nq = W1 at hd1 HR1 HD1 k1 k2 k3 k4 ⊢
    clear nq h3 h1 hx2 hfz hd1
    have z1 := HD1.out.size
    go_wp2_with fail
    have HR2 := hideIt (HR1.out.step hp)
    have l1 : (W1.setCell ⟨rb, 1, none⟩ (.int .i64 ((p : Int) + 1))).cell? ⟨rb, 1, none⟩ = some (.int .i64 ((p : Int) + 1)) := World.cell?_setCell_same _ _ _ k1
    have l3 : (W1.setCell ⟨rb, 1, none⟩ (.int .i64 ((p : Int) + 1))).cell? ⟨rb, 0, none⟩ = some (.slice (some ⟨b, o, none⟩) n cap) := by rw [World.cell?_setCell_other (h := by simp)]; exact k3
    have l4 : (W1.setCell ⟨rb, 1, none⟩ (.int .i64 ((p : Int) + 1))).cell? ⟨b, o + p, none⟩ = some (.int .u8 x) := by rw [World.cell?_setCell_other (h := by intro e2; injection e2 with e3; omega)]; exact k4
    have HDR : Hid (Drawn rb n w (W1.setCell ⟨rb, 1, none⟩ (.int .i64 ((p : Int) + 1)))) := by
      refine ⟨⟨p + 1, HR2.out⟩, (Only.of_below HD1.out).trans (Only.set (P := fun c => c = rb) _ rfl _), (HD1.out.mono (Nat.le_of_lt h6)).setCell (Nat.le_refl _) _⟩
    have p1 : (p : Int) + 1 - 1 = (p : Int) := by omega
    clear HR2
    generalize W1.setCell ⟨rb, 1, none⟩ (.int .i64 ((p : Int) + 1)) = W2 at l1 l3 l4 HDR ⊢
    clear k1 k2 k3 k4 HD1 HR1
    go_quiet (fail)
    go_wp2_with fail
    go_ret
    exact ⟨⟨x, hx1, by simp⟩, HDR.out.next (below_drewN (Below.refl _ _) nq)⟩
  · have hnp : ¬ ((p : Int) < (n : Int)) := by omega
    go_enter Try.func103, Try.ntmps103
    go_wp2_with fail
    go_quiet (fail)
    go_wp2_with fail
    go_ret
    exact ⟨⟨0, by omega, rfl⟩, (Drawn.refl H.out).next (below_drewN (Below.refl _ _) nq)⟩

/-! ### Draws of numbers below a bound, and of yes or no -/
set_option maxRecDepth 100000 in
set_option maxHeartbeats 1600000 in
theorem rdBelow_any (rb n m : Nat) (w : World) (h : ∃ p, RdAt w rb n p) (hm : 1 ≤ m) (hM : m ≤ 1048577) :
    Calls Try.prog 66 #[.pointer (some ⟨rb, 0, none⟩), .int .i64 m] w fun e w' => (∃ x : Nat, x < m ∧ e = .returned (.int .i64 x)) ∧ Drawn rb n w w' := by
  obtain ⟨p, h⟩ := h
  have H := hideIt h
  clear h
  by_cases h1 : m ≤ 1
  · have h1' : (m : Int) ≤ 1 := by omega
    go_enter Try.func66, Try.ntmps66
    go_wp2_with fail
    go_ret
    exact ⟨⟨0, by omega, rfl⟩, Drawn.refl H.out⟩
  · have h1' : ¬ (m : Int) ≤ 1 := by omega
    have hm0 : ¬ (m : Int) = 0 := by omega
    have hmb : ((m : Int) == 0) = false := by simp; omega
    by_cases h2 : m ≤ 256
    · have h2' : (m : Int) ≤ 256 := by omega
      go_enter Try.func66, Try.ntmps66
      go_wp2_with fail
      refine (rdNext_any rb n p w H.out).mono ?_
      rintro e w1 ⟨⟨x, hx, rfl⟩, hd⟩
      have HD := hideIt hd
      clear hd
      go_wp2_with fail
      go_ret
      exact ⟨⟨x % m, Nat.mod_lt _ (by omega), by simp⟩, HD.out⟩
    · have h2' : ¬ (m : Int) ≤ 256 := by omega
      go_enter Try.func66, Try.ntmps66
      go_wp2_with fail
      refine (rdNext_any rb n p w H.out).mono ?_
      rintro e w1 ⟨⟨x, hx, rfl⟩, hd⟩
      have HD := hideIt hd
      obtain ⟨p2, hp2⟩ := hd.rd
      have H2 := hideIt hp2
      clear hd hp2
      go_wp2_with fail
      refine (rdNext_any rb n p2 w1 H2.out).mono ?_
      rintro e w2 ⟨⟨y, hy, rfl⟩, hd2⟩
      have HD2 := hideIt (HD.out.trans hd2)
      clear hd2
      go_wp2_with fail
      go_ret
      exact ⟨⟨(x * 256 + y) % m, Nat.mod_lt _ (by omega), by simp⟩, HD2.out⟩

set_option maxRecDepth 100000 in
set_option maxHeartbeats 1600000 in
theorem rdOnce_any (rb n m : Nat) (w : World) (h : ∃ p, RdAt w rb n p) (hm : 1 ≤ m) (hM : m ≤ 1048577) :
    Calls Try.prog 65 #[.pointer (some ⟨rb, 0, none⟩), .int .i64 m] w fun e w' => (∃ x : Bool, e = .returned (.bool x)) ∧ Drawn rb n w w' := by
  have H := hideIt h
  clear h
  go_enter Try.func65, Try.ntmps65
  go_wp2_with fail
  refine (rdBelow_any rb n m w H.out hm hM).mono ?_
  rintro e w1 ⟨⟨x, hx, rfl⟩, hd⟩
  have HD := hideIt hd
  clear hd
  go_wp2_with fail
  go_ret
  exact ⟨⟨_, rfl⟩, HD.out⟩
end Go.Proofs.Ytpakfgonemiebaa

/-
  Draws of words, of numbers in a range, and of numbers just outside; draws out of a table, of texts and of numbers.
-/
namespace Go.Proofs.Ytpakfgonemiebaa
open Go.RowKit
set_option linter.unusedSimpArgs false
set_option linter.unusedVariables false

theorem bits_u64 (op : BinOp) (a b : Int) : ∃ x : Nat, bits op .u64 a b = (x : Int) ∧ x < 18446744073709551616 := by
  have h := bits_within op .u64 a b
  have h1 : (0 : Int) ≤ bits op .u64 a b := h.1
  have h2 : bits op .u64 a b ≤ 18446744073709551615 := h.2
  exact ⟨(bits op .u64 a b).toNat, by omega, by omega⟩

set_option maxRecDepth 100000 in
set_option maxHeartbeats 1600000 in
theorem rdWord_any (rb n : Nat) (w : World) (h : ∃ p, RdAt w rb n p) :
    Calls Try.prog 114 #[.pointer (some ⟨rb, 0, none⟩)] w fun e w' => (∃ x : Nat, x < 18446744073709551616 ∧ e = .returned (.int .u64 x)) ∧ Drawn rb n w w' := by
  obtain ⟨p, h⟩ := h
  have H := hideIt h
  clear h
  go_enter Try.func114, Try.ntmps114
  go_wp2_with fail
  go_loopw [3, 4] (fun v i wr => ∃ (x k : Nat), k ≤ 8 ∧ i = .int .i64 k ∧ v = .int .u64 x ∧ x < 18446744073709551616 ∧ Drawn rb n w wr) (fun _ i _ => 8 - (intOf i).toNat)
  case atStart => exact ⟨0, 0, by omega, rfl, rfl, by omega, Drawn.refl H.out⟩
  case round =>
    obtain ⟨x, k, hk, rfl, rfl, hx, hd⟩ := hrel
    have HD := hideIt hd
    obtain ⟨p2, hp2⟩ := hd.rd
    have H2 := hideIt hp2
    clear hd hp2
    by_cases hlt : k < 8
    · have hlt' : (k : Int) < 8 := by omega
      go_wp2_with fail
      refine (rdNext_any rb n p2 wr H2.out).mono ?_
      rintro e w2 ⟨⟨y, hy, rfl⟩, hd2⟩
      have HD2 := hideIt (HD.out.trans hd2)
      clear hd2
      go_wp2_with fail
      obtain ⟨z, hz, hz2⟩ := bits_u64 .or (IntKind.u64.wrap ((x : Int) * 256)) (y : Int)
      go_roundw
      case rel => exact ⟨z, k + 1, by omega, by go_num, by rw [hz], hz2, HD2.out⟩
      case measure => simp [intOf]; omega
    · have hlt' : ¬ (k : Int) < 8 := by omega
      go_wp2_with fail
      go_ret
      exact ⟨⟨x, hx, rfl⟩, HD.out⟩

set_option maxRecDepth 100000 in
set_option maxHeartbeats 1600000 in
theorem rdNear_any (rb n : Nat) (low high : Int) (w : World) (h : ∃ p, RdAt w rb n p) (h1 : -10000000000000000 ≤ low) (h2 : low ≤ high) (h3 : high ≤ 10000000000000000) :
    Calls Try.prog 104 #[.pointer (some ⟨rb, 0, none⟩), .int .i64 low, .int .i64 high] w fun e w' => (∃ x : Int, low ≤ x ∧ x ≤ high ∧ e = .returned (.int .i64 x)) ∧ Drawn rb n w w' := by
  have H := hideIt h
  clear h
  go_enter Try.func104, Try.ntmps104
  go_wp2_with fail
  refine (rdBelow_any rb n 8 w H.out (by omega) (by omega)).mono ?_
  rintro e w1 ⟨⟨x, hx, rfl⟩, hd⟩
  have HD := hideIt hd
  clear hd
  by_cases hx0 : x = 0
  · subst hx0
    go_wp2_with fail
    go_ret
    exact ⟨⟨low, by omega, by omega, rfl⟩, HD.out⟩
  by_cases hx1 : x = 1
  · subst hx1
    go_wp2_with fail
    go_ret
    exact ⟨⟨high, by omega, by omega, rfl⟩, HD.out⟩
  have e0 : ((x : Int) == 0) = false := by simp; omega
  have e1 : ((x : Int) == 1) = false := by simp; omega
  have e2 : ¬ high < low := by omega
  obtain ⟨d, hd⟩ : ∃ d : Nat, high - low + 1 = (d : Int) := ⟨(high - low + 1).toNat, by omega⟩
  have hd1 : 1 ≤ d := by omega
  have hd2 : d ≤ 20000000000000001 := by omega
  have hdb : ((d : Int) == 0) = false := by simp; omega
  have hd0 : ¬ (d : Int) = 0 := by omega
  clear hx0 hx1
  go_wp2_with fail
  refine (rdWord_any rb n w1 HD.out.rd).mono ?_
  rintro e w2 ⟨⟨y, hy, rfl⟩, hdd⟩
  have HD2 := hideIt (HD.out.trans hdd)
  clear hdd
  obtain ⟨z, hz, hzd⟩ : ∃ z : Nat, (y : Int) / 2 % (d : Int) = (z : Int) ∧ z < d := ⟨y / 2 % d, by simp, Nat.mod_lt _ (by omega)⟩
  have HDZ := hideIt hd
  have hz1 : -9223372036854775808 ≤ low + (z : Int) := by omega
  have hz2 : low + (z : Int) ≤ 9223372036854775807 := by omega
  have hz3 : (z : Int) ≤ 9223372036854775807 := by omega
  have HZZ : Hid (low ≤ low + (z : Int) ∧ low + (z : Int) ≤ high) := by rw [Hid]; omega
  go_wp2_with fail
  go_ret
  exact ⟨⟨low + (z : Int), HZZ.out.1, HZZ.out.2, by simp⟩, HD2.out⟩

set_option maxRecDepth 100000 in
set_option maxHeartbeats 1600000 in
theorem rdOff_any (rb n : Nat) (low high : Int) (w : World) (h : ∃ p, RdAt w rb n p) (h1 : -10000000000000000 ≤ low) (h2 : low ≤ high) (h3 : high ≤ 10000000000000000) :
    Calls Try.prog 67 #[.pointer (some ⟨rb, 0, none⟩), .int .i64 low, .int .i64 high] w fun e w' => (∃ x : Int, -9223372036854775808 ≤ x ∧ x ≤ 9223372036854775807 ∧ e = .returned (.int .i64 x)) ∧ Drawn rb n w w' := by
  have H := hideIt h
  clear h
  go_enter Try.func67, Try.ntmps67
  go_wp2_with fail
  refine (rdOnce_any rb n 24 w H.out (by omega) (by omega)).mono ?_
  rintro e w1 ⟨⟨x, rfl⟩, hd⟩
  have HD := hideIt hd
  have zd := hd.only.1
  clear hd
  cases x
  · go_wp2_with fail
    refine (rdNear_any rb n low high w1 HD.out.rd h1 h2 h3).mono ?_
    rintro e w2 ⟨⟨y, hy1, hy2, rfl⟩, hd2⟩
    have HD2 := hideIt (HD.out.trans hd2)
    clear hd2
    go_wp2_with fail
    go_ret
    exact ⟨⟨y, by omega, by omega, rfl⟩, HD2.out⟩
  · go_wp2_with fail
    have hba : Below w1.heap.size w1 (w1.alloc (.cells #[.int .i64 (low - 1), .int .i64 (high + 1), .int .i64 (-9223372036854775808), .int .i64 9223372036854775807] 2)) := (Below.refl _ _).alloc (Nat.le_refl _) _
    have HDA := hideIt (HD.out.next hba)
    have HCE : Hid (∀ i : Nat, i < 4 → ∃ x : Int, -9223372036854775808 ≤ x ∧ x ≤ 9223372036854775807 ∧ (w1.alloc (.cells #[.int .i64 (low - 1), .int .i64 (high + 1), .int .i64 (-9223372036854775808), .int .i64 9223372036854775807] 2)).cell? ⟨w1.heap.size, i, none⟩ = some (.int .i64 x)) := by
      intro i hi
      match i, hi with
      | 0, _ => exact ⟨low - 1, by omega, by omega, by simp⟩
      | 1, _ => exact ⟨high + 1, by omega, by omega, by simp⟩
      | 2, _ => exact ⟨-9223372036854775808, by omega, by omega, by simp⟩
      | 3, _ => exact ⟨9223372036854775807, by omega, by omega, by simp⟩
    have hsz : (w1.alloc (.cells #[.int .i64 (low - 1), .int .i64 (high + 1), .int .i64 (-9223372036854775808), .int .i64 9223372036854775807] 2)).heap.size = w1.heap.size + 1 := by simp
    have HSZ := hideIt hsz
    clear hba hsz
    generalize w1.alloc (.cells #[.int .i64 (low - 1), .int .i64 (high + 1), .int .i64 (-9223372036854775808), .int .i64 9223372036854775807] 2) = W at HDA HCE HSZ ⊢
    refine (rdBelow_any rb n 4 W HDA.out.rd (by omega) (by omega)).mono ?_
    rintro e w2 ⟨⟨y, hy, rfl⟩, hd2⟩
    obtain ⟨z, hz1, hz2, hz3⟩ := HCE.out y hy
    have hrb : ¬ (w1.heap.size = rb) := by obtain ⟨p, hp⟩ := HD.out.rd; have := hp.lt; omega
    have hz4 : w2.cell? ⟨w1.heap.size, y, none⟩ = some (.int .i64 z) := (hd2.only.cell (by have := HSZ.out; omega) hrb).trans hz3
    have HD2 := hideIt (HDA.out.trans hd2)
    have hy' : (y : Int) < 4 := by omega
    clear hd2 hz3
    go_wp2_with fail
    go_ret
    exact ⟨⟨z, hz1, hz2, rfl⟩, HD2.out⟩
def tabStr (A : Array Value) (m : Nat) : Bool := (List.range m).all fun i => match A[i]? with | some (.string s) => decide (s.size ≤ 60) | _ => false
def tabInt (A : Array Value) (m : Nat) : Bool := (List.range m).all fun i => match A[i]? with | some (.int .i64 x) => decide (0 ≤ x) && decide (x ≤ 10000000000000000) | _ => false

theorem tabStr_at {A : Array Value} {m : Nat} (h : tabStr A m = true) {i : Nat} (hi : i < m) : ∃ s, A[i]? = some (.string s) ∧ s.size ≤ 60 := by
  have := List.all_eq_true.1 h i (List.mem_range.2 hi)
  split at this
  · rename_i s e; exact ⟨s, e, by simpa using this⟩
  · cases this
theorem tabInt_at {A : Array Value} {m : Nat} (h : tabInt A m = true) {i : Nat} (hi : i < m) : ∃ x, A[i]? = some (.int .i64 x) ∧ 0 ≤ x ∧ x ≤ 10000000000000000 := by
  have := List.all_eq_true.1 h i (List.mem_range.2 hi)
  split at this
  · rename_i x e; exact ⟨x, e, by simpa using this⟩
  · cases this

theorem cell_tab {w : World} {A : Array Value} {T i : Nat} {v : Value} (h : A[i]? = some v) : (w.alloc (.cells A T)).cell? ⟨w.heap.size, i, none⟩ = some v := by
  simp [h]

theorem rdTab {rb n m : Nat} {w : World} {o : Obj} (h : ∃ p, RdAt w rb n p) (hm : 1 ≤ m) (hM : m ≤ 1048577) :
    Calls Try.prog 66 #[.pointer (some ⟨rb, 0, none⟩), .int .i64 m] (w.alloc o) fun e w' => (∃ y : Nat, y < m ∧ e = .returned (.int .i64 y) ∧ w'.cell? ⟨w.heap.size, y, none⟩ = (w.alloc o).cell? ⟨w.heap.size, y, none⟩) ∧ Drawn rb n w w' := by
  obtain ⟨p, hp⟩ := h
  have hd := (Drawn.refl hp).next ((Below.refl _ _).alloc (Nat.le_refl _) o)
  refine (rdBelow_any rb n m _ hd.rd hm hM).mono ?_
  rintro e w2 ⟨⟨y, hy, rfl⟩, hd2⟩
  exact ⟨⟨y, hy, rfl, hd2.only.cell (by simp) (fun e => by have := hp.lt; omega)⟩, hd.trans hd2⟩

theorem rdTabS (rb n m : Nat) (A : Array Value) (T : TypeId) (w : World) (h : ∃ p, RdAt w rb n p) (hm : 1 ≤ m) (hM : m ≤ 1048577) (hA : tabStr A m = true) :
    Calls Try.prog 66 #[.pointer (some ⟨rb, 0, none⟩), .int .i64 m] (w.alloc (.cells A T)) fun e w' => (∃ (y : Nat) (s : ByteArray), y < m ∧ e = .returned (.int .i64 y) ∧ s.size ≤ 60 ∧ w'.cell? ⟨w.heap.size, y, none⟩ = some (.string s)) ∧ Drawn rb n w w' := by
  refine (rdTab h hm hM).mono ?_
  rintro e w2 ⟨⟨y, hy, rfl, hc⟩, hd⟩
  obtain ⟨s, h1, h2⟩ := tabStr_at hA hy
  exact ⟨⟨y, s, hy, rfl, h2, hc.trans (cell_tab h1)⟩, hd⟩
theorem rdTabI (rb n m : Nat) (A : Array Value) (T : TypeId) (w : World) (h : ∃ p, RdAt w rb n p) (hm : 1 ≤ m) (hM : m ≤ 1048577) (hA : tabInt A m = true) :
    Calls Try.prog 66 #[.pointer (some ⟨rb, 0, none⟩), .int .i64 m] (w.alloc (.cells A T)) fun e w' => (∃ (y : Nat) (x : Int), y < m ∧ e = .returned (.int .i64 y) ∧ 0 ≤ x ∧ x ≤ 10000000000000000 ∧ w'.cell? ⟨w.heap.size, y, none⟩ = some (.int .i64 x)) ∧ Drawn rb n w w' := by
  refine (rdTab h hm hM).mono ?_
  rintro e w2 ⟨⟨y, hy, rfl, hc⟩, hd⟩
  obtain ⟨x, h1, h2, h3⟩ := tabInt_at hA hy
  exact ⟨⟨y, x, hy, rfl, h2, h3, hc.trans (cell_tab h1)⟩, hd⟩

set_option maxRecDepth 100000 in
set_option maxHeartbeats 1600000 in
theorem rdText_any (rb n : Nat) (w : World) (h : ∃ p, RdAt w rb n p) :
    Calls Try.prog 69 #[.pointer (some ⟨rb, 0, none⟩)] w fun e w' => (∃ s : ByteArray, s.size ≤ 60 ∧ e = .returned (.string s)) ∧ Drawn rb n w w' := by
  have H := hideIt h
  clear h
  go_enter Try.func69, Try.ntmps69
  go_wp2_with fail
  refine (rdBelow_any rb n 10 w H.out (by omega) (by omega)).mono ?_
  rintro e w1 ⟨⟨x, hx, rfl⟩, hd⟩
  have HD := hideIt hd
  clear hd
  by_cases hx6 : x = 6
  · subst hx6
    go_wp2_with fail
    refine (rdTabS rb n 8 _ _ w1 HD.out.rd (by omega) (by omega) (by rfl)).mono ?_
    rintro e w2 ⟨⟨y, s, hy, rfl, hs, hc⟩, hd⟩
    have hy' : (y : Int) < 8 := by omega
    have HD2 := hideIt (HD.out.trans hd)
    clear hd
    go_wp2_with fail
    go_ret
    exact ⟨⟨s, hs, rfl⟩, HD2.out⟩
  by_cases hx7 : x = 7
  · subst hx7
    go_wp2_with fail
    refine (rdTabS rb n 8 _ _ w1 HD.out.rd (by omega) (by omega) (by rfl)).mono ?_
    rintro e w2 ⟨⟨y, s, hy, rfl, hs, hc⟩, hd⟩
    have hy' : (y : Int) < 8 := by omega
    have HD2 := hideIt (HD.out.trans hd)
    clear hd
    go_wp2_with fail
    go_ret
    exact ⟨⟨s, hs, rfl⟩, HD2.out⟩
  have e6 : ((x : Int) == 6) = false := by simp; omega
  have e7 : ((x : Int) == 7) = false := by simp; omega
  by_cases hx8 : x = 8
  · subst hx8
    go_wp2_with fail
    refine (rdBelow_any rb n 37 w1 HD.out.rd (by omega) (by omega)).mono ?_
    rintro e w2 ⟨⟨y, hy, rfl⟩, hd⟩
    have HD2 := hideIt (HD.out.trans hd)
    have hy' : (y : Int) ≤ 36 := by omega
    clear hd
    go_wp2_with fail
    go_ret
    exact ⟨⟨_, by simp only [ByteArray.size_extract]; omega, rfl⟩, HD2.out⟩
  have e8 : ((x : Int) == 8) = false := by simp; omega
  clear hx6 hx7 hx8
  go_wp2_with fail
  refine (rdTabS rb n 6 _ _ w1 HD.out.rd (by omega) (by omega) (by rfl)).mono ?_
  rintro e w2 ⟨⟨y, s, hy, rfl, hs, hc⟩, hd⟩
  have hy' : (y : Int) < 6 := by omega
  have HD2 := hideIt (HD.out.trans hd)
  clear hd
  go_wp2_with fail
  go_ret
  exact ⟨⟨s, hs, rfl⟩, HD2.out⟩

set_option maxRecDepth 100000 in
set_option maxHeartbeats 1600000 in
theorem rdNumber_any (rb n : Nat) (w : World) (h : ∃ p, RdAt w rb n p) :
    Calls Try.prog 73 #[.pointer (some ⟨rb, 0, none⟩)] w fun e w' => (∃ x : Int, -10000000000000000 ≤ x ∧ x ≤ 10000000000000000 ∧ e = .returned (.int .i64 x)) ∧ Drawn rb n w w' := by
  have H := hideIt h
  clear h
  go_enter Try.func73, Try.ntmps73
  go_wp2_with fail
  refine (rdBelow_any rb n 8 w H.out (by omega) (by omega)).mono ?_
  rintro e w1 ⟨⟨x, hx, rfl⟩, hd⟩
  have HD := hideIt hd
  clear hd
  by_cases hx5 : x = 5
  · subst hx5
    go_wp2_with fail
    refine (rdTabI rb n 10 _ _ w1 HD.out.rd (by omega) (by omega) (by rfl)).mono ?_
    rintro e w2 ⟨⟨y, z, hy, rfl, hz1, hz2, hc⟩, hd⟩
    have hy' : (y : Int) < 10 := by omega
    have HD2 := hideIt (HD.out.trans hd)
    clear hd
    go_wp2_with fail
    go_ret
    exact ⟨⟨z, by omega, hz2, rfl⟩, HD2.out⟩
  by_cases hx6 : x = 6
  · subst hx6
    go_wp2_with fail
    refine (rdTabI rb n 13 _ _ w1 HD.out.rd (by omega) (by omega) (by rfl)).mono ?_
    rintro e w2 ⟨⟨y, z, hy, rfl, hz1, hz2, hc⟩, hd⟩
    have hy' : (y : Int) < 13 := by omega
    have HD2 := hideIt (HD.out.trans hd)
    clear hd
    go_wp2_with fail
    go_ret
    exact ⟨⟨-z, by omega, by omega, rfl⟩, HD2.out⟩
  have e5 : ((x : Int) == 5) = false := by simp; omega
  have e6 : ((x : Int) == 6) = false := by simp; omega
  by_cases hx7 : x = 7
  · subst hx7
    go_wp2_with fail
    refine (rdNear_any rb n (-1000000000000000) 1000000000000000 w1 HD.out.rd (by omega) (by omega) (by omega)).mono ?_
    rintro e w2 ⟨⟨z, hz1, hz2, rfl⟩, hd⟩
    have HD2 := hideIt (HD.out.trans hd)
    clear hd
    go_wp2_with fail
    go_ret
    exact ⟨⟨z, by omega, by omega, rfl⟩, HD2.out⟩
  have e7 : ((x : Int) == 7) = false := by simp; omega
  clear hx5 hx6 hx7
  go_wp2_with fail
  refine (rdBelow_any rb n 7 w1 HD.out.rd (by omega) (by omega)).mono ?_
  rintro e w2 ⟨⟨y, hy, rfl⟩, hd⟩
  have HD2 := hideIt (HD.out.trans hd)
  clear hd
  go_wp2_with fail
  go_ret
  exact ⟨⟨(y : Int) - 2, by omega, by omega, rfl⟩, HD2.out⟩
end Go.Proofs.Ytpakfgonemiebaa
