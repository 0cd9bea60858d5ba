/-
  slices' symMerge: two rows that rise become one that rises.
-/
import Derived.Test.YtpfnkpkcjefelaaStbS2
namespace Go.Proofs.Ytpfnkpkcjefelaa
open Go.RowKit
set_option linter.unusedSimpArgs false
set_option linter.unusedVariables false

/-- What a merge gives. -/
def MergeOk (R : Int → Int → Prop) (cf : Int → Int → Int) (g N cap : Nat) (w0 : World) (c1 c2 : Value) (f : Nat → Int) (a m b : Nat) (w : World) : Prop :=
  Calls Try.prog 126 #[.slice (some ⟨g, 0, none⟩) N cap, .int .i64 a, .int .i64 m, .int .i64 b, .func (.func 116) #[] #[c1, c2]] w fun e w' => e = .returned (.tuple #[]) ∧ ∃ f', w'.rowIs g 3 N (nums f') ∧ Merged R f f' a b ∧ Sw g w0 w'

set_option maxRecDepth 100000 in
set_option maxHeartbeats 16000000 in
theorem symMerge_3 (R : Int → Int → Prop) (cf : Int → Int → Int) (g N cap : Nat) (w0 : World) (c1 c2 : Value) (f : Nat → Int) (a m b : Nat) (w : World) (h : Asked R cf g N w0 c1 c2 f a m b w) (hm : a + 1 < m) (hb : m + 1 < b)
    (ih : ∀ f' a' m' b' w', b' - a' < b - a → Asked R cf g N w0 c1 c2 f' a' m' b' w' → MergeOk R cf g N cap w0 c1 c2 f' a' m' b' w') : MergeOk R cf g N cap w0 c1 c2 f a m b w := by
  unfold MergeOk
  have H := hideIt h
  have IH := hideIt ih
  have hbN := h.bN
  have hNN := h.NN
  clear h ih
  have hone : ((m : Int) - (a : Int) == 1) = false := by rw [beq_eq_false_iff_ne]; omega
  have hone2 : ((b : Int) - (m : Int) == 1) = false := by rw [beq_eq_false_iff_ne]; omega
  obtain ⟨mid, hmid⟩ : ∃ mid : Nat, mid = (a + b) / 2 := ⟨_, rfl⟩
  have p0 : ((a : Int) + (b : Int)) / 2 = (mid : Int) := by omega
  have g1 : a < mid := by omega
  have g2 : mid < b := by omega
  have g3 : mid + mid ≤ a + b := by omega
  have HMO := hideIt (mid_of (show a < m by omega) (show m < b by omega) hmid)
  clear hmid
  obtain ⟨n, hn⟩ : ∃ n, n = mid + m := ⟨_, rfl⟩
  have en : (mid : Int) + (m : Int) = (n : Int) := by omega
  obtain ⟨n1, hn1⟩ : ∃ n1, n = n1 + 1 := ⟨n - 1, by omega⟩
  have en1 : (n : Int) - 1 = (n1 : Int) := by omega
  have hnN : n ≤ 2199023255552 := by omega
  have HN := hideIt hn
  have HN1 := hideIt hn1
  clear hn hn1
  obtain ⟨lo, hi, HM, hway⟩ : ∃ lo hi, Hid (MidS a m b lo hi n) ∧ (((mid : Int) < (m : Int) ∧ (n : Int) - (b : Int) = (lo : Int) ∧ Hid (hi = mid)) ∨ (¬ (mid : Int) < (m : Int) ∧ Hid (lo = a ∧ hi = m))) := by
    by_cases hmm : mid < m
    · refine ⟨mid + m - b, mid, ?_, .inl ⟨by omega, by have := HN.out; omega, rfl⟩⟩
      rw [Hid, HN.out]; exact HMO.out.1 hmm
    · refine ⟨a, m, ?_, .inr ⟨by omega, rfl, rfl⟩⟩
      rw [Hid, HN.out]; exact HMO.out.2 (by omega)
  rcases hway with ⟨hmm, elo, EW⟩ | ⟨hmm, EW⟩
  all_goals
    have u1 := HM.out.la
    have u2 := HM.out.hm
    have u3 := HM.out.le
    have u4 := HM.out.nm.1
    have u5 := HM.out.nm.2.1
    have u6 := HM.out.nm.2.2
    go_enter Try.func126, Try.ntmps126
    go_wp2_with fail
    go_loopw [20, 21] (fun vi vj wr => ∃ i j : Nat, vi = .int .i64 i ∧ vj = .int .i64 j ∧ lo ≤ i ∧ i ≤ j ∧ j ≤ hi ∧ Hid (∀ c, lo ≤ c → c < i → R (f c) (f (n - 1 - c))) ∧ Hid (∀ c, j ≤ c → c < hi → R (f (n - 1 - c)) (f c)) ∧ wr.rowIs g 3 N (nums f) ∧ Sw g w0 wr) (fun vi vj _ => (intOf vj).toNat - (intOf vi).toNat)
    case atStart => exact ⟨lo, hi, by first | go_num | rw [EW.out.1], by first | rw [EW.out] | rw [EW.out.2], Nat.le_refl _, u3, Nat.le_refl _, fun q h1 h2 => absurd h1 (by omega), fun q h1 h2 => absurd h1 (by omega), H.out.row, H.out.sw⟩
    case round =>
      obtain ⟨i, j, rfl, rfl, hai, hij, hjm, HL, HG, hrow, hsw⟩ := hrel
      by_cases hlt : i < j
      case pos =>
        obtain ⟨x, hx⟩ : ∃ x : Nat, x = (i + j) / 2 := ⟨_, rfl⟩
        have x1 : i ≤ x := by omega
        have x2 : x < j := by omega
        have px : ((i : Int) + (j : Int)) / 2 = (x : Int) := by omega
        have hup := HM.out.up x (by omega) (by omega)
        obtain ⟨y, hy⟩ : ∃ y, y = n - 1 - x := ⟨_, rfl⟩
        have ey : (n1 : Int) - (x : Int) = (y : Int) := by have := HN1.out; omega
        have hxN : x < N := by omega
        have hyN : y < N := by omega
        have d1 := hrow.cell hyN
        have d2 := hrow.cell hxN
        unfold nums at d1 d2
        obtain ⟨v11, v12⟩ := H.out.val y hyN
        obtain ⟨v21, v22⟩ := H.out.val x hxN
        have HLT := hideIt (H.out.cx x y (by omega) (by omega) (by omega) (by omega))
        have HCR := hideIt (H.out.cr (f x) (f y) HLT.out)
        have HY := hideIt hy
        have HROW := hideIt hrow
        have HSW := hideIt hsw
        clear hx hrow hsw hy hup
        by_cases hc : cf (f y) (f x) < 0
        · have HG2 : Hid (∀ c, x ≤ c → c < hi → R (f (n - 1 - c)) (f c)) := mid_right H.out.tot HM.out H.out.r1 H.out.r2 (by omega) (by omega) (by rw [← HY.out]; exact HCR.out.1 hc)
          go_wp2_with fail
          go_quiet ((go_at_call 116; exact Calls.quiet_of (H.out.cmp _ (HSW.out.drewN _) (f y) (f x) v11 v12 v21 v22)))
          go_wp2_with fail
          go_roundw
          case rel => exact ⟨i, x, rfl, rfl, hai, x1, by omega, HL, HG2, HROW.out, HSW.out.drewN nq⟩
          case measure => simp [intOf]; omega
        · have HL2 : Hid (∀ c, lo ≤ c → c < x + 1 → R (f c) (f (n - 1 - c))) := fun c h1 h2 => mid_left H.out.tot HM.out H.out.r1 H.out.r2 (c := x) (by omega) (by omega) (by rw [← HY.out]; exact not_ahead H.out.tot HLT.out (fun hr => hc (HCR.out.2 hr))) c h1 (by omega)
          have hcd : (!decide (cf (f y) (f x) < 0)) = true := by simp; omega
          go_wp2_with fail
          go_quiet ((go_at_call 116; exact Calls.quiet_of (H.out.cmp _ (HSW.out.drewN _) (f y) (f x) v11 v12 v21 v22)))
          go_wp2_with fail
          go_roundw
          case rel => exact ⟨x + 1, j, by go_num, rfl, by omega, by omega, hjm, HL2, HG, HROW.out, HSW.out.drewN nq⟩
          case measure => simp [intOf]; omega
      case neg =>
      obtain rfl : i = j := by omega
      have HP := hideIt (mid_parted H.out.tot HM.out H.out.r1 H.out.r2 hai hjm HL.out HG.out)
      obtain ⟨e, he⟩ : ∃ e, e = n - i := ⟨_, rfl⟩
      rw [← he] at HP
      have ee : (n : Int) - (i : Int) = (e : Int) := by omega
      have k1 := HP.out.ale
      have k2 := HP.out.sm
      have k3 := HP.out.me
      have k4 := HP.out.eb
      have HS : Hid (i + (e - m) = mid) := by have := HN.out; rw [Hid]; omega
      have HROW := hideIt hrow
      have HSW := hideIt hsw
      clear hrow hsw hlt he u1 u2 u3 u4 u5 u6
      have HRA : Hid (∀ (W : World), W.rowIs g 3 N (nums (rot i m e f)) → Sw g w0 W → (a < i ∧ i < mid → Asked R cf g N w0 c1 c2 (rot i m e f) a i mid W)) := fun W hr hs hc =>
        ⟨H.out.tot, H.out.cmp, H.out.cr, hr, hs, rot_vals H.out.val k2 k3 (by omega), hc.1, hc.2, by omega, hNN, HP.out.rise1 H.out.r1, by have := HP.out.rise2 H.out.r2; rw [HS.out] at this; exact this, by have := HP.out.cross1 H.out.cx; rw [HS.out] at this; exact this⟩
      have HRM1 : Hid (¬ (a < i ∧ i < mid) → Merged R (rot i m e f) (rot i m e f) a mid) := fun hc => by
        refine merged_self ?_
        by_cases c1 : a < i
        · have : i = mid := by have := HS.out; omega
          rw [← this]; exact HP.out.rise1 H.out.r1
        · have : i = a := by omega
          have h2 := HP.out.rise2 H.out.r2
          rw [HS.out, this] at h2
          rw [this]; exact h2
      have HRB : Hid (∀ (W : World) (f2 : Nat → Int), Merged R (rot i m e f) f2 a mid → W.rowIs g 3 N (nums f2) → Sw g w0 W → (mid < e ∧ e < b → Asked R cf g N w0 c1 c2 f2 mid e b W)) := fun W f2 hm hr hs hc => by
        have r3 := HP.out.rise3 H.out.r1
        have r4 := HP.out.rise4 H.out.r2
        have x2 := HP.out.cross2 H.out.cx
        rw [HS.out] at r3 x2
        exact ⟨H.out.tot, H.out.cmp, H.out.cr, hr, hs, hm.vals (rot_vals H.out.val k2 k3 (by omega)) (by omega), hc.1, hc.2, hbN, hNN,
          fun p q h1 h2 h3 => by rw [hm.out p (by omega), hm.out q (by omega)]; exact r3 p q h1 h2 h3,
          fun p q h1 h2 h3 => by rw [hm.out p (by omega), hm.out q (by omega)]; exact r4 p q h1 h2 h3,
          fun p q h1 h2 h3 h4 => by rw [hm.out p (by omega), hm.out q (by omega)]; exact x2 p q h1 h2 h3 h4⟩
      have HRM2 : Hid (∀ f2 : Nat → Int, Merged R (rot i m e f) f2 a mid → ¬ (mid < e ∧ e < b) → Merged R f2 f2 mid b) := fun f2 hm hc => by
        have r3 := HP.out.rise3 H.out.r1
        have r4 := HP.out.rise4 H.out.r2
        rw [HS.out] at r3
        have hmide : mid ≤ e := by have := HS.out; omega
        refine merged_self fun p q h1 h2 h3 => ?_
        rw [hm.out p (by omega), hm.out q (by omega)]
        by_cases c1 : mid < e
        · have : e = b := by omega
          rw [this] at r3 ⊢
          exact r3 p q h1 h2 h3
        · have : e = mid := by omega
          rw [this] at r4 ⊢
          exact r4 p q h1 h2 h3
      have HWH : Hid (∀ f2 f3 : Nat → Int, Merged R (rot i m e f) f2 a mid → Merged R f2 f3 mid b → Merged R f f3 a b) := fun f2 f3 h1 h2 => by
        refine HP.out.whole H.out.r1 H.out.r2 (f2 := f2) ?_ ?_
        · rw [HS.out]; exact h1
        · rw [HS.out]; exact h2
      rcases (show (i < m ∧ m < e) ∨ (¬ (i < m ∧ m < e)) by omega) with hA | hA
      all_goals
        first
        | have hA1 : (i : Int) < (m : Int) := by omega
          have hA2 : (m : Int) < (e : Int) := by omega
          go_wp2_with fail
          refine (rotate_any g N cap f i m e _ wr HROW.out hA.1 hA.2 (by omega) hNN).mono ?_
          rintro e7 w7 ⟨rfl, hr7, hs7⟩
          have HR7 := hideIt hr7
          have HS7 := hideIt (HSW.out.trans hs7)
          clear hr7 hs7
        | have HR7 : Hid (wr.rowIs g 3 N (nums (rot i m e f))) := HROW.out.congr fun p _ => by unfold nums; rw [rot_none (by omega) k2 k3]
          have HS7 := HSW
          rcases (show (i : Int) < (m : Int) ∧ ¬ (m : Int) < (e : Int) ∨ ¬ (i : Int) < (m : Int) by omega) with ⟨hA1, hA2⟩ | hA1
        all_goals
          rcases Classical.em (a < i ∧ i < mid) with hB | hB
          all_goals
            first
            | have HAA := hideIt (HRA.out _ HR7.out HS7.out hB)
              have hB1 : (a : Int) < (i : Int) := by omega
              have hB2 : (i : Int) < (mid : Int) := by omega
              go_wp2_with fail
              refine (IH.out _ a i mid _ (by omega) HAA.out).mono ?_
              rintro e8 w8 ⟨rfl, f8, hr8, hm8, hs8⟩
              have HR8 := hideIt hr8
              have HS8 := hideIt hs8
              have HM8 := hideIt hm8
              clear hr8 hs8 hm8
            | have HM8 := hideIt (HRM1.out hB)
              have HR8 := HR7
              have HS8 := HS7
              rcases (show (a : Int) < (i : Int) ∧ ¬ (i : Int) < (mid : Int) ∨ ¬ (a : Int) < (i : Int) by omega) with ⟨hB1, hB2⟩ | hB1
            all_goals
              rcases Classical.em (mid < e ∧ e < b) with hC | hC
              all_goals
                first
                | have HAB := hideIt (HRB.out _ _ HM8.out HR8.out HS8.out hC)
                  have hC1 : (mid : Int) < (e : Int) := by omega
                  have hC2 : (e : Int) < (b : Int) := by omega
                  go_wp2_with fail
                  all_goals
                    refine (IH.out _ mid e b _ (by omega) HAB.out).mono ?_
                    rintro e9 w9 ⟨rfl, f9, hr9, hm9, hs9⟩
                    have HW9 := hideIt (HWH.out _ _ HM8.out hm9)
                    go_wp2_with fail
                    exact ⟨rfl, .tuple #[], results_none rfl _ _ _, rfl, f9, hr9, HW9.out, hs9⟩
                | have HW9 := hideIt (HWH.out _ _ HM8.out (HRM2.out _ HM8.out hC))
                  rcases (show (mid : Int) < (e : Int) ∧ ¬ (e : Int) < (b : Int) ∨ ¬ (mid : Int) < (e : Int) by omega) with ⟨hC1, hC2⟩ | hC1
                  all_goals
                    go_wp2_with fail
                    all_goals exact ⟨rfl, .tuple #[], results_none rfl _ _ _, rfl, _, HR8.out, HW9.out, HS8.out⟩
end Go.Proofs.Ytpfnkpkcjefelaa

/-
  slices' insertionSort at rows of numbers, with the closure of sortedPlaces.
-/
namespace Go.Proofs.Ytpfnkpkcjefelaa
open Go.RowKit
set_option linter.unusedSimpArgs false
set_option linter.unusedVariables false

/-- What is asked of a sort of [a, b): the cells stand in the order of their numbers. -/
structure AskedI (R : Int → Int → Prop) (cf : Int → Int → Int) (g N : Nat) (w0 : World) (c1 c2 : Value) (f : Nat → Int) (a b : Nat) (w : World) : Prop where
  tot : Tot R
  cmp : CmpAt g N w0 c1 c2 cf
  cr : ∀ x y : Int, x < y → (cf y x < 0 ↔ R y x)
  row : w.rowIs g 3 N (nums f)
  sw : Sw g w0 w
  val : NumsIn f N
  ab : a ≤ b
  bN : b ≤ N
  NN : N ≤ 1099511627776
  up : ∀ p q, a ≤ p → p < q → q < b → f p < f q

/-- One more has been put into its place. -/
theorem ins_step {R : Int → Int → Prop} (hR : Tot R) {f fk : Nat → Int} {a i j : Nat} (h1 : a ≤ j) (h2 : j ≤ i) (hm : Merged R f fk a i) (hfi : ∀ p, i ≤ p → fk p = f p)
    (hbig : ∀ p, j ≤ p → p < i → R (f i) (fk p)) (hlow : a < j → R (fk (j - 1)) (f i)) : Merged R f (rot j i (i + 1) fk) a (i + 1) := by
  have hl : ∀ p, a ≤ p → p < j → R (fk p) (f i) := fun p hp hpj => by
    have := hlow (by omega)
    by_cases e : p = j - 1
    · rw [e]; exact this
    · exact hR.tr _ _ _ (hm.ris p (j - 1) hp (by omega) (by omega)) this
  have m2 : Merged R fk (rot j i (i + 1) fk) a (i + 1) := merged_2 h1 h2 (by omega) hm.ris (fun p q h1 h2 h3 => by omega) (fun p q h3 h4 h5 h6 => by
      obtain rfl : q = i := by omega
      rw [hfi q (Nat.le_refl _)]; exact hl p h3 h4) (fun p q h3 h4 h5 h6 => by
      obtain rfl : q = i := by omega
      rw [hfi q (Nat.le_refl _)]; exact hbig p h3 h4)
  refine ⟨fun p hp => ?_, fun p h3 h4 => ?_, m2.ris⟩
  · rw [m2.out p hp]
    rcases hp with c | c
    · exact hm.out p (Or.inl c)
    · exact hfi p (by omega)
  · obtain ⟨q, q1, q2, q3⟩ := m2.inn p h3 h4
    by_cases c : q < i
    · obtain ⟨r, r1, r2, r3⟩ := hm.inn q q1 c
      exact ⟨r, r1, by omega, by rw [q3, r3]⟩
    · exact ⟨q, q1, q2, by rw [q3, hfi q (by omega)]⟩

set_option maxRecDepth 100000 in
set_option maxHeartbeats 6400000 in
theorem insertion_any (R : Int → Int → Prop) (cf : Int → Int → Int) (g N cap : Nat) (w0 : World) (c1 c2 : Value) (f : Nat → Int) (a b : Nat) (w : World) (h : AskedI R cf g N w0 c1 c2 f a b w) :
    Calls Try.prog 125 #[.slice (some ⟨g, 0, none⟩) N cap, .int .i64 a, .int .i64 b, .func (.func 116) #[] #[c1, c2]] w fun e w' => e = .returned (.tuple #[]) ∧ ∃ f', w'.rowIs g 3 N (nums f') ∧ Merged R f f' a b ∧ Sw g w0 w' := by
  have H := hideIt h
  have hab := h.ab
  have hbN := h.bN
  have hNN := h.NN
  clear h
  go_enter Try.func125, Try.ntmps125
  go_wp2_with fail
  go_loopw [8] (fun vi wr => ∃ (i : Nat) (fk : Nat → Int), vi = .int .i64 i ∧ a < i ∧ i ≤ b + 1 ∧ wr.rowIs g 3 N (nums fk) ∧ Hid (Merged R f fk a (min i b)) ∧ Hid (∀ p, min i b ≤ p → fk p = f p) ∧ Sw g w0 wr) (fun vi _ => b + 1 - (intOf vi).toNat)
  case atStart =>
    refine ⟨a + 1, f, by go_num, by omega, by omega, H.out.row, merged_self fun p q h1 h2 h3 => ?_, fun p _ => rfl, H.out.sw⟩
    exfalso; omega
  case round =>
    obtain ⟨i, fk, rfl, hai, hib, hrow, HM, HF, hsw⟩ := hrel
    by_cases hlt : i < b
    case neg =>
      have hmin : min i b = b := by omega
      rw [hmin] at HM
      go_wp2_with fail
      exact ⟨rfl, .tuple #[], results_none rfl _ _ _, rfl, fk, hrow, HM.out, hsw⟩
    case pos =>
    have hmin : min i b = i := by omega
    rw [hmin] at HM HF
    clear hmin
    obtain ⟨W0, rfl⟩ : ∃ W0, W0 = wr := ⟨_, rfl⟩
    have HROW := hideIt hrow
    have HSW := hideIt hsw
    have HV := hideIt (HM.out.vals H.out.val (by omega))
    clear hrow hsw
    go_wp2_with fail
    go_loopw [9] (fun vj wr => ∃ j : Nat, vj = .int .i64 j ∧ a ≤ j ∧ j ≤ i ∧ wr.rowIs g 3 N (nums (rot j i (i + 1) fk)) ∧ Hid (∀ p, j ≤ p → p < i → R (f i) (fk p)) ∧ Sw g w0 wr) (fun vj _ => (intOf vj).toNat)
    case atStart => exact ⟨i, rfl, by omega, Nat.le_refl _, HROW.out.congr fun p _ => by unfold nums; rw [rot_none (Or.inl rfl) (Nat.le_refl _) (by omega)], fun p h1 h2 => absurd h1 (by omega), HSW.out⟩
    case round =>
      obtain ⟨j, rfl, haj, hji, hrow, HB, hsw⟩ := hrel
      by_cases hja : a < j
      case neg =>
        obtain rfl : j = a := by omega
        have hd : decide ((j : Int) < (j : Int)) = false := by simp
        have HM2 := hideIt (ins_step H.out.tot (Nat.le_refl _) hji HM.out HF.out HB.out (fun h => absurd h (by omega)))
        have HF2 : Hid (∀ p, i + 1 ≤ p → rot j i (i + 1) fk p = f p) := fun p hp => by rw [rot_lo (by omega) hji (by omega)]; exact HF.out p (by omega)
        have hjj : ¬ (j : Int) < (j : Int) := by omega
        go_wp2_with fail
        go_quiet (fail)
        go_wp2_with fail
        go_roundw
        case rel =>
          refine ⟨i + 1, rot j i (i + 1) fk, by go_num, by omega, by omega, hrow, ?_, ?_, hsw.drewN nq⟩
          · rw [show min (i + 1) b = i + 1 by omega]; exact HM2
          · rw [show min (i + 1) b = i + 1 by omega]; exact HF2
        case measure => simp [intOf]; omega
      case pos =>
      obtain ⟨z, hz⟩ : ∃ z, j = z + 1 := ⟨j - 1, by omega⟩
      have e1 : (j : Int) - 1 = (z : Int) := by omega
      have hjN : j < N := by omega
      have hzN : z < N := by omega
      have q1 := hrow.cell (i := j) hjN
      have q2 := hrow.cell (i := z) hzN
      have f1 := hrow.frozen j
      have f2 := hrow.frozen z
      unfold nums at q1 q2
      have HEJ : Hid (rot j i (i + 1) fk j = f i) := by rw [Hid, rot_1 (Nat.le_refl _) (by omega), show i + (j - j) = i by omega]; exact HF.out i (Nat.le_refl _)
      have HEZ : Hid (rot j i (i + 1) fk z = fk z) := by rw [Hid, rot_lo (by omega) hji (by omega)]
      rw [HEJ.out] at q1
      rw [HEZ.out] at q2
      obtain ⟨v11, v12⟩ := H.out.val i (by omega)
      obtain ⟨v21, v22⟩ := HV.out z hzN
      have HLT : Hid (fk z < f i) := by
        obtain ⟨r, r1, r2, r3⟩ := HM.out.inn z (by omega) (by omega)
        rw [Hid, r3]
        exact H.out.up r i r1 (by omega) hlt
      have HCR := hideIt (H.out.cr (fk z) (f i) HLT.out)
      have hjaI : (a : Int) < (j : Int) := by omega
      have hdec : decide ((a : Int) < (j : Int)) = true := by simp; omega
      by_cases hc : cf (f i) (fk z) < 0
      case pos =>
        have hne1 : j ≠ z := by omega
        have hne2 : z ≠ j := by omega
        have HNEW : Hid (∀ W : World, W.rowIs g 3 N (nums (rot j i (i + 1) fk)) → ((W.setCell ⟨g, j, none⟩ (.int .i64 (fk z))).setCell ⟨g, z, none⟩ (.int .i64 (f i))).drew.rowIs g 3 N (nums (rot z i (i + 1) fk))) := fun W hW => by
          refine (nums_set2 hW j z (fk z) (f i)).congr fun p _ => ?_
          unfold nums
          have d := rot_down (show z + 1 ≤ i by omega) fk p
          rw [← hz, HEJ.out, HEZ.out] at d
          rw [← d]
        have HB2 : Hid (∀ p, z ≤ p → p < i → R (f i) (fk p)) := fun p h1 h2 => by
          by_cases e : p = z
          · rw [e]; exact HCR.out.1 hc
          · exact HB.out p (by omega) h2
        have HZ := hideIt hz
        have HR1 := hideIt hrow
        have HS1 := hideIt hsw
        clear hz hrow hsw
        go_wp2_with fail
        go_quiet ((go_at_call 116; exact Calls.quiet_of (H.out.cmp _ (HS1.out.drewN _) (f i) (fk z) v11 v12 v21 v22)))
        have q1' : (wr.drewN nq).cell? ⟨g, j, none⟩ = some (.int .i64 (f i)) := q1
        have q2' : (wr.drewN nq).cell? ⟨g, z, none⟩ = some (.int .i64 (fk z)) := q2
        have f1' : (wr.drewN nq).frozen? ⟨g, j, none⟩ = false := f1
        have f2' : (wr.drewN nq).frozen? ⟨g, z, none⟩ = false := f2
        have HR2 : Hid ((wr.drewN nq).rowIs g 3 N (nums (rot j i (i + 1) fk))) := HR1.out
        have HS2 := hideIt (HS1.out.drewN nq)
        generalize wr.drewN nq = W1 at q1' q2' f1' f2' HR2 HS2 ⊢
        clear q1 q2 f1 f2
        have HN1 := hideIt (HNEW.out W1 HR2.out)
        have HO := hideIt ((HS2.out.set j (.int .i64 (fk z))).set z (.int .i64 (f i))).drew
        go_wp2_with fail
        go_region
        all_goals
          go_wp2_with fail
          go_roundw
          case rel => exact ⟨z, by go_num, by have := HZ.out; omega, by have := HZ.out; omega, HN1.out, HB2, HO.out⟩
          case measure => have := HZ.out; simp [intOf]; omega
      case neg =>
        have HM2 : Hid (Merged R f (rot j i (i + 1) fk) a (i + 1)) := ins_step H.out.tot haj hji HM.out HF.out HB.out (fun _ => by
          rw [show j - 1 = z by omega]
          exact not_ahead H.out.tot HLT.out (fun hr => hc (HCR.out.2 hr)))
        have HF2 : Hid (∀ p, i + 1 ≤ p → rot j i (i + 1) fk p = f p) := fun p hp => by rw [rot_lo (by omega) hji (by omega)]; exact HF.out p (by omega)
        have hcd : decide (cf (f i) (fk z) < 0) = false := by simp; omega
        have HR1 := hideIt hrow
        have HS1 := hideIt hsw
        have HZ := hideIt hz
        clear hz hrow hsw
        go_wp2_with fail
        go_quiet ((go_at_call 116; exact Calls.quiet_of (H.out.cmp _ (HS1.out.drewN _) (f i) (fk z) v11 v12 v21 v22)))
        go_wp2_with fail
        go_roundw
        case rel =>
          refine ⟨i + 1, rot j i (i + 1) fk, by go_num, by omega, by omega, HR1.out, ?_, ?_, HS1.out.drewN nq⟩
          · rw [show min (i + 1) b = i + 1 by omega]; exact HM2
          · rw [show min (i + 1) b = i + 1 by omega]; exact HF2
        case measure => simp [intOf]; omega
end Go.Proofs.Ytpfnkpkcjefelaa
