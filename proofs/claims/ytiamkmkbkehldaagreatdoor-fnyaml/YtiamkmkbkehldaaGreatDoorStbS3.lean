/-
  slices' symMerge: two rows that rise become one that rises.
-/
import Derived.Test.YtiamkmkbkehldaaGreatDoorStbS2
namespace Go.Proofs.YtiamkmkbkehldaaGreatDoor
open Go.RowKit
set_option linter.unusedSimpArgs false
set_option linter.unusedVariables false

/-- What a merge gives. -/
def MergeOk (R : Int → Int → Prop) (cf : Int → Int → Int) (g N cap : Nat) (w0 : World) (c1 c2 : Value) (f : Nat → Int) (a m b : Nat) (w : World) : Prop :=
  Calls Tryz.prog 223 #[.slice (some ⟨g, 0, none⟩) N cap, .int .i64 a, .int .i64 m, .int .i64 b, .func (.func 173) #[] #[c1, c2]] w fun e w' => e = .returned (.tuple #[]) ∧ ∃ f', w'.rowIs g 3 N (nums f') ∧ Merged R f f' a b ∧ Sw g w0 w'

set_option maxRecDepth 100000 in
set_option maxHeartbeats 16000000 in
theorem symMerge_3 (R : Int → Int → Prop) (cf : Int → Int → Int) (g N cap : Nat) (w0 : World) (c1 c2 : Value) (f : Nat → Int) (a m b : Nat) (w : World) (h : Asked R cf g N w0 c1 c2 f a m b w) (hm : a + 1 < m) (hb : m + 1 < b)
    (ih : ∀ f' a' m' b' w', b' - a' < b - a → Asked R cf g N w0 c1 c2 f' a' m' b' w' → MergeOk R cf g N cap w0 c1 c2 f' a' m' b' w') : MergeOk R cf g N cap w0 c1 c2 f a m b w := by
  unfold MergeOk
  have H := hideIt h
  have IH := hideIt ih
  have hbN := h.bN
  have hNN := h.NN
  clear h ih
  have hone : ((m : Int) - (a : Int) == 1) = false := by rw [beq_eq_false_iff_ne]; omega
  have hone2 : ((b : Int) - (m : Int) == 1) = false := by rw [beq_eq_false_iff_ne]; omega
  obtain ⟨mid, hmid⟩ : ∃ mid : Nat, mid = (a + b) / 2 := ⟨_, rfl⟩
  have p0 : ((a : Int) + (b : Int)) / 2 = (mid : Int) := by omega
  have g1 : a < mid := by omega
  have g2 : mid < b := by omega
  have g3 : mid + mid ≤ a + b := by omega
  have HMO := hideIt (mid_of (show a < m by omega) (show m < b by omega) hmid)
  clear hmid
  obtain ⟨n, hn⟩ : ∃ n, n = mid + m := ⟨_, rfl⟩
  have en : (mid : Int) + (m : Int) = (n : Int) := by omega
  obtain ⟨n1, hn1⟩ : ∃ n1, n = n1 + 1 := ⟨n - 1, by omega⟩
  have en1 : (n : Int) - 1 = (n1 : Int) := by omega
  have hnN : n ≤ 2199023255552 := by omega
  have HN := hideIt hn
  have HN1 := hideIt hn1
  clear hn hn1
  -- both ways into the search
  have HLOOP : Hid (∀ (lo hi : Nat), MidS a m b lo hi n → MidS a m b lo hi n) := fun _ _ h => h
  by_cases hmm : mid < m
  case pos =>
    have hmm' : (mid : Int) < (m : Int) := by omega
    obtain ⟨lo, hlo⟩ : ∃ lo, lo = mid + m - b := ⟨_, rfl⟩
    have elo : (n : Int) - (b : Int) = (lo : Int) := by have := HN.out; omega
    have HM : Hid (MidS a m b lo mid n) := by rw [Hid, hlo, HN.out]; exact HMO.out.1 hmm
    clear hlo
    have u1 := HM.out.la
    have u2 := HM.out.hm
    have u3 := HM.out.le
    have u4 := HM.out.nm.1
    have u5 := HM.out.nm.2.1
    have u6 := HM.out.nm.2.2
    go_enter Tryz.func223, Tryz.ntmps223
    go_wp2_with fail
    go_loopw [20, 21] (fun vi vj wr => ∃ i j : Nat, vi = .int .i64 i ∧ vj = .int .i64 j ∧ lo ≤ i ∧ i ≤ j ∧ j ≤ mid ∧ Hid (∀ c, lo ≤ c → c < i → R (f c) (f (n - 1 - c))) ∧ Hid (∀ c, j ≤ c → c < mid → R (f (n - 1 - c)) (f c)) ∧ wr.rowIs g 3 N (nums f) ∧ Sw g w0 wr) (fun vi vj _ => (intOf vj).toNat - (intOf vi).toNat)
    case atStart => exact ⟨lo, mid, by go_num, rfl, Nat.le_refl _, u3, Nat.le_refl _, fun q h1 h2 => absurd h1 (by omega), fun q h1 h2 => absurd h1 (by omega), H.out.row, H.out.sw⟩
    case round =>
      obtain ⟨i, j, rfl, rfl, hai, hij, hjm, HL, HG, hrow, hsw⟩ := hrel
      by_cases hlt : i < j
      case pos =>
        obtain ⟨x, hx⟩ : ∃ x : Nat, x = (i + j) / 2 := ⟨_, rfl⟩
        have x1 : i ≤ x := by omega
        have x2 : x < j := by omega
        have px : ((i : Int) + (j : Int)) / 2 = (x : Int) := by omega
        have hup := HM.out.up x (by omega) (by omega)
        obtain ⟨y, hy⟩ : ∃ y, y = n - 1 - x := ⟨_, rfl⟩
        have ey : (n1 : Int) - (x : Int) = (y : Int) := by have := HN1.out; omega
        have hxN : x < N := by omega
        have hyN : y < N := by omega
        have d1 := hrow.cell hyN
        have d2 := hrow.cell hxN
        unfold nums at d1 d2
        obtain ⟨v11, v12⟩ := H.out.val y hyN
        obtain ⟨v21, v22⟩ := H.out.val x hxN
        have HLT := hideIt (H.out.cx x y (by omega) (by omega) (by omega) (by omega))
        have HCR := hideIt (H.out.cr (f x) (f y) HLT.out)
        have HY := hideIt hy
        have HROW := hideIt hrow
        have HSW := hideIt hsw
        clear hx hrow hsw hy hup
        by_cases hc : cf (f y) (f x) < 0
        · have HG2 : Hid (∀ c, x ≤ c → c < mid → R (f (n - 1 - c)) (f c)) := mid_right H.out.tot HM.out H.out.r1 H.out.r2 (by omega) (by omega) (by rw [← HY.out]; exact HCR.out.1 hc)
          go_wp2_with fail
          go_quiet ((go_at_call 173; exact Calls.quiet_of (H.out.cmp _ (HSW.out.drewN _) (f y) (f x) v11 v12 v21 v22)))
          go_wp2_with fail
          go_roundw
          case rel => exact ⟨i, x, rfl, rfl, hai, x1, by omega, HL, HG2, HROW.out, HSW.out.drewN nq⟩
          case measure => simp [intOf]; omega
        · have HL2 : Hid (∀ c, lo ≤ c → c < x + 1 → R (f c) (f (n - 1 - c))) := fun c h1 h2 => mid_left H.out.tot HM.out H.out.r1 H.out.r2 (c := x) (by omega) (by omega) (by rw [← HY.out]; exact not_ahead H.out.tot HLT.out (fun hr => hc (HCR.out.2 hr))) c h1 (by omega)
          have hcd : (!decide (cf (f y) (f x) < 0)) = true := by simp; omega
          go_wp2_with fail
          go_quiet ((go_at_call 173; exact Calls.quiet_of (H.out.cmp _ (HSW.out.drewN _) (f y) (f x) v11 v12 v21 v22)))
          go_wp2_with fail
          go_roundw
          case rel => exact ⟨x + 1, j, by go_num, rfl, by omega, by omega, hjm, HL2, HG, HROW.out, HSW.out.drewN nq⟩
          case measure => simp [intOf]; omega
      case neg =>
      obtain rfl : i = j := by omega
      have HP := hideIt (mid_parted H.out.tot HM.out H.out.r1 H.out.r2 hai hjm HL.out HG.out)
      obtain ⟨e, he⟩ : ∃ e, e = n - i := ⟨_, rfl⟩
      rw [← he] at HP
      have ee : (n : Int) - (i : Int) = (e : Int) := by omega
      have k1 := HP.out.ale
      have k2 := HP.out.sm
      have k3 := HP.out.me
      have k4 := HP.out.eb
      have HS : Hid (i + (e - m) = mid) := by have := HN.out; rw [Hid]; omega
      have HROW := hideIt hrow
      have HSW := hideIt hsw
      clear hrow hsw hlt he u1 u2 u3 u4 u5 u6
      have HRA : Hid (∀ (W : World), W.rowIs g 3 N (nums (rot i m e f)) → Sw g w0 W → (a < i ∧ i < mid → Asked R cf g N w0 c1 c2 (rot i m e f) a i mid W)) := fun W hr hs hc =>
        ⟨H.out.tot, H.out.cmp, H.out.cr, hr, hs, rot_vals H.out.val k2 k3 (by omega), hc.1, hc.2, by omega, hNN, HP.out.rise1 H.out.r1, by have := HP.out.rise2 H.out.r2; rw [HS.out] at this; exact this, by have := HP.out.cross1 H.out.cx; rw [HS.out] at this; exact this⟩
      have HRM1 : Hid (¬ (a < i ∧ i < mid) → Merged R (rot i m e f) (rot i m e f) a mid) := fun hc => by
        refine merged_self ?_
        by_cases c1 : a < i
        · have : i = mid := by have := HS.out; omega
          rw [← this]; exact HP.out.rise1 H.out.r1
        · have : i = a := by omega
          have h2 := HP.out.rise2 H.out.r2
          rw [HS.out, this] at h2
          rw [this]; exact h2
      have HRB : Hid (∀ (W : World) (f2 : Nat → Int), Merged R (rot i m e f) f2 a mid → W.rowIs g 3 N (nums f2) → Sw g w0 W → (mid < e ∧ e < b → Asked R cf g N w0 c1 c2 f2 mid e b W)) := fun W f2 hm hr hs hc => by
        have r3 := HP.out.rise3 H.out.r1
        have r4 := HP.out.rise4 H.out.r2
        have x2 := HP.out.cross2 H.out.cx
        rw [HS.out] at r3 x2
        exact ⟨H.out.tot, H.out.cmp, H.out.cr, hr, hs, hm.vals (rot_vals H.out.val k2 k3 (by omega)) (by omega), hc.1, hc.2, hbN, hNN,
          fun p q h1 h2 h3 => by rw [hm.out p (by omega), hm.out q (by omega)]; exact r3 p q h1 h2 h3,
          fun p q h1 h2 h3 => by rw [hm.out p (by omega), hm.out q (by omega)]; exact r4 p q h1 h2 h3,
          fun p q h1 h2 h3 h4 => by rw [hm.out p (by omega), hm.out q (by omega)]; exact x2 p q h1 h2 h3 h4⟩
      have HRM2 : Hid (∀ f2 : Nat → Int, Merged R (rot i m e f) f2 a mid → ¬ (mid < e ∧ e < b) → Merged R f2 f2 mid b) := fun f2 hm hc => by
        have r3 := HP.out.rise3 H.out.r1
        have r4 := HP.out.rise4 H.out.r2
        rw [HS.out] at r3
        have hmide : mid ≤ e := by have := HS.out; omega
        refine merged_self fun p q h1 h2 h3 => ?_
        rw [hm.out p (by omega), hm.out q (by omega)]
        by_cases c1 : mid < e
        · have : e = b := by omega
          rw [this] at r3 ⊢
          exact r3 p q h1 h2 h3
        · have : e = mid := by omega
          rw [this] at r4 ⊢
          exact r4 p q h1 h2 h3
      have HWH : Hid (∀ f2 f3 : Nat → Int, Merged R (rot i m e f) f2 a mid → Merged R f2 f3 mid b → Merged R f f3 a b) := fun f2 f3 h1 h2 => by
        refine HP.out.whole H.out.r1 H.out.r2 (f2 := f2) ?_ ?_
        · rw [HS.out]; exact h1
        · rw [HS.out]; exact h2
      by_cases hA : i < m ∧ m < e
      case pos =>
        have hA1 : (i : Int) < (m : Int) := by omega
        have hA2 : (m : Int) < (e : Int) := by omega
        go_wp2_with fail
        refine (rotate_any g N cap f i m e _ wr HROW.out hA.1 hA.2 (by omega) hNN).mono ?_
        rintro e7 w7 ⟨rfl, hr7, hs7⟩
        have HR7 := hideIt hr7
        have HS7 := hideIt (HSW.out.trans hs7)
        clear hr7 hs7
        by_cases hB : a < i ∧ i < mid
        case pos =>
          have hB1 : (a : Int) < (i : Int) := by omega
          have hB2 : (i : Int) < (mid : Int) := by omega
          have HAA := hideIt (HRA.out _ HR7.out HS7.out hB)
          go_wp2_with fail
          refine (IH.out _ a i mid _ (by omega) HAA.out).mono ?_
          rintro e8 w8 ⟨rfl, f8, hr8, hm8, hs8⟩
          have HR8 := hideIt hr8
          have HS8 := hideIt hs8
          have HM8 := hideIt hm8
          clear hr8 hs8 hm8
          by_cases hC : mid < e ∧ e < b
          case pos =>
            have hC1 : (mid : Int) < (e : Int) := by omega
            have hC2 : (e : Int) < (b : Int) := by omega
            have HAB := hideIt (HRB.out _ _ HM8.out HR8.out HS8.out hC)
            go_wp2_with fail
            all_goals
              refine (IH.out _ mid e b _ (by omega) HAB.out).mono ?_
              rintro e9 w9 ⟨rfl, f9, hr9, hm9, hs9⟩
              have HW9 := hideIt (HWH.out _ _ HM8.out hm9)
              go_wp2_with fail
              exact ⟨rfl, .tuple #[], results_none rfl _ _ _, rfl, f9, hr9, HW9.out, hs9⟩
          case neg =>
            have HW9 := hideIt (HWH.out _ _ HM8.out (HRM2.out _ HM8.out hC))
            by_cases hC1 : mid < e
            · have hC1' : (mid : Int) < (e : Int) := by omega
              have hC2' : ¬ (e : Int) < (b : Int) := by omega
              go_wp2_with fail
              all_goals exact ⟨rfl, .tuple #[], results_none rfl _ _ _, rfl, _, HR8.out, HW9.out, HS8.out⟩
            · have hC1' : ¬ (mid : Int) < (e : Int) := by omega
              go_wp2_with fail
              all_goals exact ⟨rfl, .tuple #[], results_none rfl _ _ _, rfl, _, HR8.out, HW9.out, HS8.out⟩
        case neg =>
          have HM8 := hideIt (HRM1.out hB)
          by_cases hB1 : a < i
          · have hB1' : (a : Int) < (i : Int) := by omega
            have hB2' : ¬ (i : Int) < (mid : Int) := by omega
            by_cases hC : mid < e ∧ e < b
            case pos =>
              have hC1 : (mid : Int) < (e : Int) := by omega
              have hC2 : (e : Int) < (b : Int) := by omega
              have HAB := hideIt (HRB.out _ _ HM8.out HR7.out HS7.out hC)
              go_wp2_with fail
              all_goals
                refine (IH.out _ mid e b _ (by omega) HAB.out).mono ?_
                rintro e9 w9 ⟨rfl, f9, hr9, hm9, hs9⟩
                have HW9 := hideIt (HWH.out _ _ HM8.out hm9)
                go_wp2_with fail
                exact ⟨rfl, .tuple #[], results_none rfl _ _ _, rfl, f9, hr9, HW9.out, hs9⟩
            case neg =>
              have HW9 := hideIt (HWH.out _ _ HM8.out (HRM2.out _ HM8.out hC))
              by_cases hC1 : mid < e
              · have hC1' : (mid : Int) < (e : Int) := by omega
                have hC2' : ¬ (e : Int) < (b : Int) := by omega
                go_wp2_with fail
                all_goals exact ⟨rfl, .tuple #[], results_none rfl _ _ _, rfl, _, HR7.out, HW9.out, HS7.out⟩
              · have hC1' : ¬ (mid : Int) < (e : Int) := by omega
                go_wp2_with fail
                all_goals exact ⟨rfl, .tuple #[], results_none rfl _ _ _, rfl, _, HR7.out, HW9.out, HS7.out⟩
          · have hB1' : ¬ (a : Int) < (i : Int) := by omega
            by_cases hC : mid < e ∧ e < b
            case pos =>
              have hC1 : (mid : Int) < (e : Int) := by omega
              have hC2 : (e : Int) < (b : Int) := by omega
              have HAB := hideIt (HRB.out _ _ HM8.out HR7.out HS7.out hC)
              go_wp2_with fail
              all_goals
                refine (IH.out _ mid e b _ (by omega) HAB.out).mono ?_
                rintro e9 w9 ⟨rfl, f9, hr9, hm9, hs9⟩
                have HW9 := hideIt (HWH.out _ _ HM8.out hm9)
                go_wp2_with fail
                exact ⟨rfl, .tuple #[], results_none rfl _ _ _, rfl, f9, hr9, HW9.out, hs9⟩
            case neg =>
              have HW9 := hideIt (HWH.out _ _ HM8.out (HRM2.out _ HM8.out hC))
              by_cases hC1 : mid < e
              · have hC1' : (mid : Int) < (e : Int) := by omega
                have hC2' : ¬ (e : Int) < (b : Int) := by omega
                go_wp2_with fail
                all_goals exact ⟨rfl, .tuple #[], results_none rfl _ _ _, rfl, _, HR7.out, HW9.out, HS7.out⟩
              · have hC1' : ¬ (mid : Int) < (e : Int) := by omega
                go_wp2_with fail
                all_goals exact ⟨rfl, .tuple #[], results_none rfl _ _ _, rfl, _, HR7.out, HW9.out, HS7.out⟩
      case neg =>
        have HR7 : Hid (wr.rowIs g 3 N (nums (rot i m e f))) := HROW.out.congr fun p _ => by unfold nums; rw [rot_none (by omega) k2 k3]
        by_cases hA1 : i < m
        · have hA1' : (i : Int) < (m : Int) := by omega
          have hA2' : ¬ (m : Int) < (e : Int) := by omega
          by_cases hB : a < i ∧ i < mid
          case pos =>
            have hB1 : (a : Int) < (i : Int) := by omega
            have hB2 : (i : Int) < (mid : Int) := by omega
            have HAA := hideIt (HRA.out _ HR7.out HSW.out hB)
            go_wp2_with fail
            refine (IH.out _ a i mid _ (by omega) HAA.out).mono ?_
            rintro e8 w8 ⟨rfl, f8, hr8, hm8, hs8⟩
            have HR8 := hideIt hr8
            have HS8 := hideIt hs8
            have HM8 := hideIt hm8
            clear hr8 hs8 hm8
            by_cases hC : mid < e ∧ e < b
            case pos =>
              have hC1 : (mid : Int) < (e : Int) := by omega
              have hC2 : (e : Int) < (b : Int) := by omega
              have HAB := hideIt (HRB.out _ _ HM8.out HR8.out HS8.out hC)
              go_wp2_with fail
              all_goals
                refine (IH.out _ mid e b _ (by omega) HAB.out).mono ?_
                rintro e9 w9 ⟨rfl, f9, hr9, hm9, hs9⟩
                have HW9 := hideIt (HWH.out _ _ HM8.out hm9)
                go_wp2_with fail
                exact ⟨rfl, .tuple #[], results_none rfl _ _ _, rfl, f9, hr9, HW9.out, hs9⟩
            case neg =>
              have HW9 := hideIt (HWH.out _ _ HM8.out (HRM2.out _ HM8.out hC))
              by_cases hC1 : mid < e
              · have hC1' : (mid : Int) < (e : Int) := by omega
                have hC2' : ¬ (e : Int) < (b : Int) := by omega
                go_wp2_with fail
                all_goals exact ⟨rfl, .tuple #[], results_none rfl _ _ _, rfl, _, HR8.out, HW9.out, HS8.out⟩
              · have hC1' : ¬ (mid : Int) < (e : Int) := by omega
                go_wp2_with fail
                all_goals exact ⟨rfl, .tuple #[], results_none rfl _ _ _, rfl, _, HR8.out, HW9.out, HS8.out⟩
          case neg =>
            have HM8 := hideIt (HRM1.out hB)
            by_cases hB1 : a < i
            · have hB1' : (a : Int) < (i : Int) := by omega
              have hB2' : ¬ (i : Int) < (mid : Int) := by omega
              by_cases hC : mid < e ∧ e < b
              case pos =>
                have hC1 : (mid : Int) < (e : Int) := by omega
                have hC2 : (e : Int) < (b : Int) := by omega
                have HAB := hideIt (HRB.out _ _ HM8.out HR7.out HSW.out hC)
                go_wp2_with fail
                all_goals
                  refine (IH.out _ mid e b _ (by omega) HAB.out).mono ?_
                  rintro e9 w9 ⟨rfl, f9, hr9, hm9, hs9⟩
                  have HW9 := hideIt (HWH.out _ _ HM8.out hm9)
                  go_wp2_with fail
                  exact ⟨rfl, .tuple #[], results_none rfl _ _ _, rfl, f9, hr9, HW9.out, hs9⟩
              case neg =>
                have HW9 := hideIt (HWH.out _ _ HM8.out (HRM2.out _ HM8.out hC))
                by_cases hC1 : mid < e
                · have hC1' : (mid : Int) < (e : Int) := by omega
                  have hC2' : ¬ (e : Int) < (b : Int) := by omega
                  go_wp2_with fail
                  all_goals exact ⟨rfl, .tuple #[], results_none rfl _ _ _, rfl, _, HR7.out, HW9.out, HSW.out⟩
                · have hC1' : ¬ (mid : Int) < (e : Int) := by omega
                  go_wp2_with fail
                  all_goals exact ⟨rfl, .tuple #[], results_none rfl _ _ _, rfl, _, HR7.out, HW9.out, HSW.out⟩
            · have hB1' : ¬ (a : Int) < (i : Int) := by omega
              by_cases hC : mid < e ∧ e < b
              case pos =>
                have hC1 : (mid : Int) < (e : Int) := by omega
                have hC2 : (e : Int) < (b : Int) := by omega
                have HAB := hideIt (HRB.out _ _ HM8.out HR7.out HSW.out hC)
                go_wp2_with fail
                all_goals
                  refine (IH.out _ mid e b _ (by omega) HAB.out).mono ?_
                  rintro e9 w9 ⟨rfl, f9, hr9, hm9, hs9⟩
                  have HW9 := hideIt (HWH.out _ _ HM8.out hm9)
                  go_wp2_with fail
                  exact ⟨rfl, .tuple #[], results_none rfl _ _ _, rfl, f9, hr9, HW9.out, hs9⟩
              case neg =>
                have HW9 := hideIt (HWH.out _ _ HM8.out (HRM2.out _ HM8.out hC))
                by_cases hC1 : mid < e
                · have hC1' : (mid : Int) < (e : Int) := by omega
                  have hC2' : ¬ (e : Int) < (b : Int) := by omega
                  go_wp2_with fail
                  all_goals exact ⟨rfl, .tuple #[], results_none rfl _ _ _, rfl, _, HR7.out, HW9.out, HSW.out⟩
                · have hC1' : ¬ (mid : Int) < (e : Int) := by omega
                  go_wp2_with fail
                  all_goals exact ⟨rfl, .tuple #[], results_none rfl _ _ _, rfl, _, HR7.out, HW9.out, HSW.out⟩
        · have hA1' : ¬ (i : Int) < (m : Int) := by omega
          by_cases hB : a < i ∧ i < mid
          case pos =>
            have hB1 : (a : Int) < (i : Int) := by omega
            have hB2 : (i : Int) < (mid : Int) := by omega
            have HAA := hideIt (HRA.out _ HR7.out HSW.out hB)
            go_wp2_with fail
            refine (IH.out _ a i mid _ (by omega) HAA.out).mono ?_
            rintro e8 w8 ⟨rfl, f8, hr8, hm8, hs8⟩
            have HR8 := hideIt hr8
            have HS8 := hideIt hs8
            have HM8 := hideIt hm8
            clear hr8 hs8 hm8
            by_cases hC : mid < e ∧ e < b
            case pos =>
              have hC1 : (mid : Int) < (e : Int) := by omega
              have hC2 : (e : Int) < (b : Int) := by omega
              have HAB := hideIt (HRB.out _ _ HM8.out HR8.out HS8.out hC)
              go_wp2_with fail
              all_goals
                refine (IH.out _ mid e b _ (by omega) HAB.out).mono ?_
                rintro e9 w9 ⟨rfl, f9, hr9, hm9, hs9⟩
                have HW9 := hideIt (HWH.out _ _ HM8.out hm9)
                go_wp2_with fail
                exact ⟨rfl, .tuple #[], results_none rfl _ _ _, rfl, f9, hr9, HW9.out, hs9⟩
            case neg =>
              have HW9 := hideIt (HWH.out _ _ HM8.out (HRM2.out _ HM8.out hC))
              by_cases hC1 : mid < e
              · have hC1' : (mid : Int) < (e : Int) := by omega
                have hC2' : ¬ (e : Int) < (b : Int) := by omega
                go_wp2_with fail
                all_goals exact ⟨rfl, .tuple #[], results_none rfl _ _ _, rfl, _, HR8.out, HW9.out, HS8.out⟩
              · have hC1' : ¬ (mid : Int) < (e : Int) := by omega
                go_wp2_with fail
                all_goals exact ⟨rfl, .tuple #[], results_none rfl _ _ _, rfl, _, HR8.out, HW9.out, HS8.out⟩
          case neg =>
            have HM8 := hideIt (HRM1.out hB)
            by_cases hB1 : a < i
            · have hB1' : (a : Int) < (i : Int) := by omega
              have hB2' : ¬ (i : Int) < (mid : Int) := by omega
              by_cases hC : mid < e ∧ e < b
              case pos =>
                have hC1 : (mid : Int) < (e : Int) := by omega
                have hC2 : (e : Int) < (b : Int) := by omega
                have HAB := hideIt (HRB.out _ _ HM8.out HR7.out HSW.out hC)
                go_wp2_with fail
                all_goals
                  refine (IH.out _ mid e b _ (by omega) HAB.out).mono ?_
                  rintro e9 w9 ⟨rfl, f9, hr9, hm9, hs9⟩
                  have HW9 := hideIt (HWH.out _ _ HM8.out hm9)
                  go_wp2_with fail
                  exact ⟨rfl, .tuple #[], results_none rfl _ _ _, rfl, f9, hr9, HW9.out, hs9⟩
              case neg =>
                have HW9 := hideIt (HWH.out _ _ HM8.out (HRM2.out _ HM8.out hC))
                by_cases hC1 : mid < e
                · have hC1' : (mid : Int) < (e : Int) := by omega
                  have hC2' : ¬ (e : Int) < (b : Int) := by omega
                  go_wp2_with fail
                  all_goals exact ⟨rfl, .tuple #[], results_none rfl _ _ _, rfl, _, HR7.out, HW9.out, HSW.out⟩
                · have hC1' : ¬ (mid : Int) < (e : Int) := by omega
                  go_wp2_with fail
                  all_goals exact ⟨rfl, .tuple #[], results_none rfl _ _ _, rfl, _, HR7.out, HW9.out, HSW.out⟩
            · have hB1' : ¬ (a : Int) < (i : Int) := by omega
              by_cases hC : mid < e ∧ e < b
              case pos =>
                have hC1 : (mid : Int) < (e : Int) := by omega
                have hC2 : (e : Int) < (b : Int) := by omega
                have HAB := hideIt (HRB.out _ _ HM8.out HR7.out HSW.out hC)
                go_wp2_with fail
                all_goals
                  refine (IH.out _ mid e b _ (by omega) HAB.out).mono ?_
                  rintro e9 w9 ⟨rfl, f9, hr9, hm9, hs9⟩
                  have HW9 := hideIt (HWH.out _ _ HM8.out hm9)
                  go_wp2_with fail
                  exact ⟨rfl, .tuple #[], results_none rfl _ _ _, rfl, f9, hr9, HW9.out, hs9⟩
              case neg =>
                have HW9 := hideIt (HWH.out _ _ HM8.out (HRM2.out _ HM8.out hC))
                by_cases hC1 : mid < e
                · have hC1' : (mid : Int) < (e : Int) := by omega
                  have hC2' : ¬ (e : Int) < (b : Int) := by omega
                  go_wp2_with fail
                  all_goals exact ⟨rfl, .tuple #[], results_none rfl _ _ _, rfl, _, HR7.out, HW9.out, HSW.out⟩
                · have hC1' : ¬ (mid : Int) < (e : Int) := by omega
                  go_wp2_with fail
                  all_goals exact ⟨rfl, .tuple #[], results_none rfl _ _ _, rfl, _, HR7.out, HW9.out, HSW.out⟩
  case neg =>
    have hmm' : ¬ (mid : Int) < (m : Int) := by omega
    have HM : Hid (MidS a m b a m n) := by rw [Hid, HN.out]; exact HMO.out.2 (by omega)
    have u1 := HM.out.la
    have u2 := HM.out.hm
    have u3 := HM.out.le
    have u4 := HM.out.nm.1
    have u5 := HM.out.nm.2.1
    have u6 := HM.out.nm.2.2
    go_enter Tryz.func223, Tryz.ntmps223
    go_wp2_with fail
    go_loopw [20, 21] (fun vi vj wr => ∃ i j : Nat, vi = .int .i64 i ∧ vj = .int .i64 j ∧ a ≤ i ∧ i ≤ j ∧ j ≤ m ∧ Hid (∀ c, a ≤ c → c < i → R (f c) (f (n - 1 - c))) ∧ Hid (∀ c, j ≤ c → c < m → R (f (n - 1 - c)) (f c)) ∧ wr.rowIs g 3 N (nums f) ∧ Sw g w0 wr) (fun vi vj _ => (intOf vj).toNat - (intOf vi).toNat)
    case atStart => exact ⟨a, m, by go_num, rfl, Nat.le_refl _, u3, Nat.le_refl _, fun q h1 h2 => absurd h1 (by omega), fun q h1 h2 => absurd h1 (by omega), H.out.row, H.out.sw⟩
    case round =>
      obtain ⟨i, j, rfl, rfl, hai, hij, hjm, HL, HG, hrow, hsw⟩ := hrel
      by_cases hlt : i < j
      case pos =>
        obtain ⟨x, hx⟩ : ∃ x : Nat, x = (i + j) / 2 := ⟨_, rfl⟩
        have x1 : i ≤ x := by omega
        have x2 : x < j := by omega
        have px : ((i : Int) + (j : Int)) / 2 = (x : Int) := by omega
        have hup := HM.out.up x (by omega) (by omega)
        obtain ⟨y, hy⟩ : ∃ y, y = n - 1 - x := ⟨_, rfl⟩
        have ey : (n1 : Int) - (x : Int) = (y : Int) := by have := HN1.out; omega
        have hxN : x < N := by omega
        have hyN : y < N := by omega
        have d1 := hrow.cell hyN
        have d2 := hrow.cell hxN
        unfold nums at d1 d2
        obtain ⟨v11, v12⟩ := H.out.val y hyN
        obtain ⟨v21, v22⟩ := H.out.val x hxN
        have HLT := hideIt (H.out.cx x y (by omega) (by omega) (by omega) (by omega))
        have HCR := hideIt (H.out.cr (f x) (f y) HLT.out)
        have HY := hideIt hy
        have HROW := hideIt hrow
        have HSW := hideIt hsw
        clear hx hrow hsw hy hup
        by_cases hc : cf (f y) (f x) < 0
        · have HG2 : Hid (∀ c, x ≤ c → c < m → R (f (n - 1 - c)) (f c)) := mid_right H.out.tot HM.out H.out.r1 H.out.r2 (by omega) (by omega) (by rw [← HY.out]; exact HCR.out.1 hc)
          go_wp2_with fail
          go_quiet ((go_at_call 173; exact Calls.quiet_of (H.out.cmp _ (HSW.out.drewN _) (f y) (f x) v11 v12 v21 v22)))
          go_wp2_with fail
          go_roundw
          case rel => exact ⟨i, x, rfl, rfl, hai, x1, by omega, HL, HG2, HROW.out, HSW.out.drewN nq⟩
          case measure => simp [intOf]; omega
        · have HL2 : Hid (∀ c, a ≤ c → c < x + 1 → R (f c) (f (n - 1 - c))) := fun c h1 h2 => mid_left H.out.tot HM.out H.out.r1 H.out.r2 (c := x) (by omega) (by omega) (by rw [← HY.out]; exact not_ahead H.out.tot HLT.out (fun hr => hc (HCR.out.2 hr))) c h1 (by omega)
          have hcd : (!decide (cf (f y) (f x) < 0)) = true := by simp; omega
          go_wp2_with fail
          go_quiet ((go_at_call 173; exact Calls.quiet_of (H.out.cmp _ (HSW.out.drewN _) (f y) (f x) v11 v12 v21 v22)))
          go_wp2_with fail
          go_roundw
          case rel => exact ⟨x + 1, j, by go_num, rfl, by omega, by omega, hjm, HL2, HG, HROW.out, HSW.out.drewN nq⟩
          case measure => simp [intOf]; omega
      case neg =>
      obtain rfl : i = j := by omega
      have HP := hideIt (mid_parted H.out.tot HM.out H.out.r1 H.out.r2 hai hjm HL.out HG.out)
      obtain ⟨e, he⟩ : ∃ e, e = n - i := ⟨_, rfl⟩
      rw [← he] at HP
      have ee : (n : Int) - (i : Int) = (e : Int) := by omega
      have k1 := HP.out.ale
      have k2 := HP.out.sm
      have k3 := HP.out.me
      have k4 := HP.out.eb
      have HS : Hid (i + (e - m) = mid) := by have := HN.out; rw [Hid]; omega
      have HROW := hideIt hrow
      have HSW := hideIt hsw
      clear hrow hsw hlt he u1 u2 u3 u4 u5 u6
      have HRA : Hid (∀ (W : World), W.rowIs g 3 N (nums (rot i m e f)) → Sw g w0 W → (a < i ∧ i < mid → Asked R cf g N w0 c1 c2 (rot i m e f) a i mid W)) := fun W hr hs hc =>
        ⟨H.out.tot, H.out.cmp, H.out.cr, hr, hs, rot_vals H.out.val k2 k3 (by omega), hc.1, hc.2, by omega, hNN, HP.out.rise1 H.out.r1, by have := HP.out.rise2 H.out.r2; rw [HS.out] at this; exact this, by have := HP.out.cross1 H.out.cx; rw [HS.out] at this; exact this⟩
      have HRM1 : Hid (¬ (a < i ∧ i < mid) → Merged R (rot i m e f) (rot i m e f) a mid) := fun hc => by
        refine merged_self ?_
        by_cases c1 : a < i
        · have : i = mid := by have := HS.out; omega
          rw [← this]; exact HP.out.rise1 H.out.r1
        · have : i = a := by omega
          have h2 := HP.out.rise2 H.out.r2
          rw [HS.out, this] at h2
          rw [this]; exact h2
      have HRB : Hid (∀ (W : World) (f2 : Nat → Int), Merged R (rot i m e f) f2 a mid → W.rowIs g 3 N (nums f2) → Sw g w0 W → (mid < e ∧ e < b → Asked R cf g N w0 c1 c2 f2 mid e b W)) := fun W f2 hm hr hs hc => by
        have r3 := HP.out.rise3 H.out.r1
        have r4 := HP.out.rise4 H.out.r2
        have x2 := HP.out.cross2 H.out.cx
        rw [HS.out] at r3 x2
        exact ⟨H.out.tot, H.out.cmp, H.out.cr, hr, hs, hm.vals (rot_vals H.out.val k2 k3 (by omega)) (by omega), hc.1, hc.2, hbN, hNN,
          fun p q h1 h2 h3 => by rw [hm.out p (by omega), hm.out q (by omega)]; exact r3 p q h1 h2 h3,
          fun p q h1 h2 h3 => by rw [hm.out p (by omega), hm.out q (by omega)]; exact r4 p q h1 h2 h3,
          fun p q h1 h2 h3 h4 => by rw [hm.out p (by omega), hm.out q (by omega)]; exact x2 p q h1 h2 h3 h4⟩
      have HRM2 : Hid (∀ f2 : Nat → Int, Merged R (rot i m e f) f2 a mid → ¬ (mid < e ∧ e < b) → Merged R f2 f2 mid b) := fun f2 hm hc => by
        have r3 := HP.out.rise3 H.out.r1
        have r4 := HP.out.rise4 H.out.r2
        rw [HS.out] at r3
        have hmide : mid ≤ e := by have := HS.out; omega
        refine merged_self fun p q h1 h2 h3 => ?_
        rw [hm.out p (by omega), hm.out q (by omega)]
        by_cases c1 : mid < e
        · have : e = b := by omega
          rw [this] at r3 ⊢
          exact r3 p q h1 h2 h3
        · have : e = mid := by omega
          rw [this] at r4 ⊢
          exact r4 p q h1 h2 h3
      have HWH : Hid (∀ f2 f3 : Nat → Int, Merged R (rot i m e f) f2 a mid → Merged R f2 f3 mid b → Merged R f f3 a b) := fun f2 f3 h1 h2 => by
        refine HP.out.whole H.out.r1 H.out.r2 (f2 := f2) ?_ ?_
        · rw [HS.out]; exact h1
        · rw [HS.out]; exact h2
      by_cases hA : i < m ∧ m < e
      case pos =>
        have hA1 : (i : Int) < (m : Int) := by omega
        have hA2 : (m : Int) < (e : Int) := by omega
        go_wp2_with fail
        refine (rotate_any g N cap f i m e _ wr HROW.out hA.1 hA.2 (by omega) hNN).mono ?_
        rintro e7 w7 ⟨rfl, hr7, hs7⟩
        have HR7 := hideIt hr7
        have HS7 := hideIt (HSW.out.trans hs7)
        clear hr7 hs7
        by_cases hB : a < i ∧ i < mid
        case pos =>
          have hB1 : (a : Int) < (i : Int) := by omega
          have hB2 : (i : Int) < (mid : Int) := by omega
          have HAA := hideIt (HRA.out _ HR7.out HS7.out hB)
          go_wp2_with fail
          refine (IH.out _ a i mid _ (by omega) HAA.out).mono ?_
          rintro e8 w8 ⟨rfl, f8, hr8, hm8, hs8⟩
          have HR8 := hideIt hr8
          have HS8 := hideIt hs8
          have HM8 := hideIt hm8
          clear hr8 hs8 hm8
          by_cases hC : mid < e ∧ e < b
          case pos =>
            have hC1 : (mid : Int) < (e : Int) := by omega
            have hC2 : (e : Int) < (b : Int) := by omega
            have HAB := hideIt (HRB.out _ _ HM8.out HR8.out HS8.out hC)
            go_wp2_with fail
            all_goals
              refine (IH.out _ mid e b _ (by omega) HAB.out).mono ?_
              rintro e9 w9 ⟨rfl, f9, hr9, hm9, hs9⟩
              have HW9 := hideIt (HWH.out _ _ HM8.out hm9)
              go_wp2_with fail
              exact ⟨rfl, .tuple #[], results_none rfl _ _ _, rfl, f9, hr9, HW9.out, hs9⟩
          case neg =>
            have HW9 := hideIt (HWH.out _ _ HM8.out (HRM2.out _ HM8.out hC))
            by_cases hC1 : mid < e
            · have hC1' : (mid : Int) < (e : Int) := by omega
              have hC2' : ¬ (e : Int) < (b : Int) := by omega
              go_wp2_with fail
              all_goals exact ⟨rfl, .tuple #[], results_none rfl _ _ _, rfl, _, HR8.out, HW9.out, HS8.out⟩
            · have hC1' : ¬ (mid : Int) < (e : Int) := by omega
              go_wp2_with fail
              all_goals exact ⟨rfl, .tuple #[], results_none rfl _ _ _, rfl, _, HR8.out, HW9.out, HS8.out⟩
        case neg =>
          have HM8 := hideIt (HRM1.out hB)
          by_cases hB1 : a < i
          · have hB1' : (a : Int) < (i : Int) := by omega
            have hB2' : ¬ (i : Int) < (mid : Int) := by omega
            by_cases hC : mid < e ∧ e < b
            case pos =>
              have hC1 : (mid : Int) < (e : Int) := by omega
              have hC2 : (e : Int) < (b : Int) := by omega
              have HAB := hideIt (HRB.out _ _ HM8.out HR7.out HS7.out hC)
              go_wp2_with fail
              all_goals
                refine (IH.out _ mid e b _ (by omega) HAB.out).mono ?_
                rintro e9 w9 ⟨rfl, f9, hr9, hm9, hs9⟩
                have HW9 := hideIt (HWH.out _ _ HM8.out hm9)
                go_wp2_with fail
                exact ⟨rfl, .tuple #[], results_none rfl _ _ _, rfl, f9, hr9, HW9.out, hs9⟩
            case neg =>
              have HW9 := hideIt (HWH.out _ _ HM8.out (HRM2.out _ HM8.out hC))
              by_cases hC1 : mid < e
              · have hC1' : (mid : Int) < (e : Int) := by omega
                have hC2' : ¬ (e : Int) < (b : Int) := by omega
                go_wp2_with fail
                all_goals exact ⟨rfl, .tuple #[], results_none rfl _ _ _, rfl, _, HR7.out, HW9.out, HS7.out⟩
              · have hC1' : ¬ (mid : Int) < (e : Int) := by omega
                go_wp2_with fail
                all_goals exact ⟨rfl, .tuple #[], results_none rfl _ _ _, rfl, _, HR7.out, HW9.out, HS7.out⟩
          · have hB1' : ¬ (a : Int) < (i : Int) := by omega
            by_cases hC : mid < e ∧ e < b
            case pos =>
              have hC1 : (mid : Int) < (e : Int) := by omega
              have hC2 : (e : Int) < (b : Int) := by omega
              have HAB := hideIt (HRB.out _ _ HM8.out HR7.out HS7.out hC)
              go_wp2_with fail
              all_goals
                refine (IH.out _ mid e b _ (by omega) HAB.out).mono ?_
                rintro e9 w9 ⟨rfl, f9, hr9, hm9, hs9⟩
                have HW9 := hideIt (HWH.out _ _ HM8.out hm9)
                go_wp2_with fail
                exact ⟨rfl, .tuple #[], results_none rfl _ _ _, rfl, f9, hr9, HW9.out, hs9⟩
            case neg =>
              have HW9 := hideIt (HWH.out _ _ HM8.out (HRM2.out _ HM8.out hC))
              by_cases hC1 : mid < e
              · have hC1' : (mid : Int) < (e : Int) := by omega
                have hC2' : ¬ (e : Int) < (b : Int) := by omega
                go_wp2_with fail
                all_goals exact ⟨rfl, .tuple #[], results_none rfl _ _ _, rfl, _, HR7.out, HW9.out, HS7.out⟩
              · have hC1' : ¬ (mid : Int) < (e : Int) := by omega
                go_wp2_with fail
                all_goals exact ⟨rfl, .tuple #[], results_none rfl _ _ _, rfl, _, HR7.out, HW9.out, HS7.out⟩
      case neg =>
        have HR7 : Hid (wr.rowIs g 3 N (nums (rot i m e f))) := HROW.out.congr fun p _ => by unfold nums; rw [rot_none (by omega) k2 k3]
        by_cases hA1 : i < m
        · have hA1' : (i : Int) < (m : Int) := by omega
          have hA2' : ¬ (m : Int) < (e : Int) := by omega
          by_cases hB : a < i ∧ i < mid
          case pos =>
            have hB1 : (a : Int) < (i : Int) := by omega
            have hB2 : (i : Int) < (mid : Int) := by omega
            have HAA := hideIt (HRA.out _ HR7.out HSW.out hB)
            go_wp2_with fail
            refine (IH.out _ a i mid _ (by omega) HAA.out).mono ?_
            rintro e8 w8 ⟨rfl, f8, hr8, hm8, hs8⟩
            have HR8 := hideIt hr8
            have HS8 := hideIt hs8
            have HM8 := hideIt hm8
            clear hr8 hs8 hm8
            by_cases hC : mid < e ∧ e < b
            case pos =>
              have hC1 : (mid : Int) < (e : Int) := by omega
              have hC2 : (e : Int) < (b : Int) := by omega
              have HAB := hideIt (HRB.out _ _ HM8.out HR8.out HS8.out hC)
              go_wp2_with fail
              all_goals
                refine (IH.out _ mid e b _ (by omega) HAB.out).mono ?_
                rintro e9 w9 ⟨rfl, f9, hr9, hm9, hs9⟩
                have HW9 := hideIt (HWH.out _ _ HM8.out hm9)
                go_wp2_with fail
                exact ⟨rfl, .tuple #[], results_none rfl _ _ _, rfl, f9, hr9, HW9.out, hs9⟩
            case neg =>
              have HW9 := hideIt (HWH.out _ _ HM8.out (HRM2.out _ HM8.out hC))
              by_cases hC1 : mid < e
              · have hC1' : (mid : Int) < (e : Int) := by omega
                have hC2' : ¬ (e : Int) < (b : Int) := by omega
                go_wp2_with fail
                all_goals exact ⟨rfl, .tuple #[], results_none rfl _ _ _, rfl, _, HR8.out, HW9.out, HS8.out⟩
              · have hC1' : ¬ (mid : Int) < (e : Int) := by omega
                go_wp2_with fail
                all_goals exact ⟨rfl, .tuple #[], results_none rfl _ _ _, rfl, _, HR8.out, HW9.out, HS8.out⟩
          case neg =>
            have HM8 := hideIt (HRM1.out hB)
            by_cases hB1 : a < i
            · have hB1' : (a : Int) < (i : Int) := by omega
              have hB2' : ¬ (i : Int) < (mid : Int) := by omega
              by_cases hC : mid < e ∧ e < b
              case pos =>
                have hC1 : (mid : Int) < (e : Int) := by omega
                have hC2 : (e : Int) < (b : Int) := by omega
                have HAB := hideIt (HRB.out _ _ HM8.out HR7.out HSW.out hC)
                go_wp2_with fail
                all_goals
                  refine (IH.out _ mid e b _ (by omega) HAB.out).mono ?_
                  rintro e9 w9 ⟨rfl, f9, hr9, hm9, hs9⟩
                  have HW9 := hideIt (HWH.out _ _ HM8.out hm9)
                  go_wp2_with fail
                  exact ⟨rfl, .tuple #[], results_none rfl _ _ _, rfl, f9, hr9, HW9.out, hs9⟩
              case neg =>
                have HW9 := hideIt (HWH.out _ _ HM8.out (HRM2.out _ HM8.out hC))
                by_cases hC1 : mid < e
                · have hC1' : (mid : Int) < (e : Int) := by omega
                  have hC2' : ¬ (e : Int) < (b : Int) := by omega
                  go_wp2_with fail
                  all_goals exact ⟨rfl, .tuple #[], results_none rfl _ _ _, rfl, _, HR7.out, HW9.out, HSW.out⟩
                · have hC1' : ¬ (mid : Int) < (e : Int) := by omega
                  go_wp2_with fail
                  all_goals exact ⟨rfl, .tuple #[], results_none rfl _ _ _, rfl, _, HR7.out, HW9.out, HSW.out⟩
            · have hB1' : ¬ (a : Int) < (i : Int) := by omega
              by_cases hC : mid < e ∧ e < b
              case pos =>
                have hC1 : (mid : Int) < (e : Int) := by omega
                have hC2 : (e : Int) < (b : Int) := by omega
                have HAB := hideIt (HRB.out _ _ HM8.out HR7.out HSW.out hC)
                go_wp2_with fail
                all_goals
                  refine (IH.out _ mid e b _ (by omega) HAB.out).mono ?_
                  rintro e9 w9 ⟨rfl, f9, hr9, hm9, hs9⟩
                  have HW9 := hideIt (HWH.out _ _ HM8.out hm9)
                  go_wp2_with fail
                  exact ⟨rfl, .tuple #[], results_none rfl _ _ _, rfl, f9, hr9, HW9.out, hs9⟩
              case neg =>
                have HW9 := hideIt (HWH.out _ _ HM8.out (HRM2.out _ HM8.out hC))
                by_cases hC1 : mid < e
                · have hC1' : (mid : Int) < (e : Int) := by omega
                  have hC2' : ¬ (e : Int) < (b : Int) := by omega
                  go_wp2_with fail
                  all_goals exact ⟨rfl, .tuple #[], results_none rfl _ _ _, rfl, _, HR7.out, HW9.out, HSW.out⟩
                · have hC1' : ¬ (mid : Int) < (e : Int) := by omega
                  go_wp2_with fail
                  all_goals exact ⟨rfl, .tuple #[], results_none rfl _ _ _, rfl, _, HR7.out, HW9.out, HSW.out⟩
        · have hA1' : ¬ (i : Int) < (m : Int) := by omega
          by_cases hB : a < i ∧ i < mid
          case pos =>
            have hB1 : (a : Int) < (i : Int) := by omega
            have hB2 : (i : Int) < (mid : Int) := by omega
            have HAA := hideIt (HRA.out _ HR7.out HSW.out hB)
            go_wp2_with fail
            refine (IH.out _ a i mid _ (by omega) HAA.out).mono ?_
            rintro e8 w8 ⟨rfl, f8, hr8, hm8, hs8⟩
            have HR8 := hideIt hr8
            have HS8 := hideIt hs8
            have HM8 := hideIt hm8
            clear hr8 hs8 hm8
            by_cases hC : mid < e ∧ e < b
            case pos =>
              have hC1 : (mid : Int) < (e : Int) := by omega
              have hC2 : (e : Int) < (b : Int) := by omega
              have HAB := hideIt (HRB.out _ _ HM8.out HR8.out HS8.out hC)
              go_wp2_with fail
              all_goals
                refine (IH.out _ mid e b _ (by omega) HAB.out).mono ?_
                rintro e9 w9 ⟨rfl, f9, hr9, hm9, hs9⟩
                have HW9 := hideIt (HWH.out _ _ HM8.out hm9)
                go_wp2_with fail
                exact ⟨rfl, .tuple #[], results_none rfl _ _ _, rfl, f9, hr9, HW9.out, hs9⟩
            case neg =>
              have HW9 := hideIt (HWH.out _ _ HM8.out (HRM2.out _ HM8.out hC))
              by_cases hC1 : mid < e
              · have hC1' : (mid : Int) < (e : Int) := by omega
                have hC2' : ¬ (e : Int) < (b : Int) := by omega
                go_wp2_with fail
                all_goals exact ⟨rfl, .tuple #[], results_none rfl _ _ _, rfl, _, HR8.out, HW9.out, HS8.out⟩
              · have hC1' : ¬ (mid : Int) < (e : Int) := by omega
                go_wp2_with fail
                all_goals exact ⟨rfl, .tuple #[], results_none rfl _ _ _, rfl, _, HR8.out, HW9.out, HS8.out⟩
          case neg =>
            have HM8 := hideIt (HRM1.out hB)
            by_cases hB1 : a < i
            · have hB1' : (a : Int) < (i : Int) := by omega
              have hB2' : ¬ (i : Int) < (mid : Int) := by omega
              by_cases hC : mid < e ∧ e < b
              case pos =>
                have hC1 : (mid : Int) < (e : Int) := by omega
                have hC2 : (e : Int) < (b : Int) := by omega
                have HAB := hideIt (HRB.out _ _ HM8.out HR7.out HSW.out hC)
                go_wp2_with fail
                all_goals
                  refine (IH.out _ mid e b _ (by omega) HAB.out).mono ?_
                  rintro e9 w9 ⟨rfl, f9, hr9, hm9, hs9⟩
                  have HW9 := hideIt (HWH.out _ _ HM8.out hm9)
                  go_wp2_with fail
                  exact ⟨rfl, .tuple #[], results_none rfl _ _ _, rfl, f9, hr9, HW9.out, hs9⟩
              case neg =>
                have HW9 := hideIt (HWH.out _ _ HM8.out (HRM2.out _ HM8.out hC))
                by_cases hC1 : mid < e
                · have hC1' : (mid : Int) < (e : Int) := by omega
                  have hC2' : ¬ (e : Int) < (b : Int) := by omega
                  go_wp2_with fail
                  all_goals exact ⟨rfl, .tuple #[], results_none rfl _ _ _, rfl, _, HR7.out, HW9.out, HSW.out⟩
                · have hC1' : ¬ (mid : Int) < (e : Int) := by omega
                  go_wp2_with fail
                  all_goals exact ⟨rfl, .tuple #[], results_none rfl _ _ _, rfl, _, HR7.out, HW9.out, HSW.out⟩
            · have hB1' : ¬ (a : Int) < (i : Int) := by omega
              by_cases hC : mid < e ∧ e < b
              case pos =>
                have hC1 : (mid : Int) < (e : Int) := by omega
                have hC2 : (e : Int) < (b : Int) := by omega
                have HAB := hideIt (HRB.out _ _ HM8.out HR7.out HSW.out hC)
                go_wp2_with fail
                all_goals
                  refine (IH.out _ mid e b _ (by omega) HAB.out).mono ?_
                  rintro e9 w9 ⟨rfl, f9, hr9, hm9, hs9⟩
                  have HW9 := hideIt (HWH.out _ _ HM8.out hm9)
                  go_wp2_with fail
                  exact ⟨rfl, .tuple #[], results_none rfl _ _ _, rfl, f9, hr9, HW9.out, hs9⟩
              case neg =>
                have HW9 := hideIt (HWH.out _ _ HM8.out (HRM2.out _ HM8.out hC))
                by_cases hC1 : mid < e
                · have hC1' : (mid : Int) < (e : Int) := by omega
                  have hC2' : ¬ (e : Int) < (b : Int) := by omega
                  go_wp2_with fail
                  all_goals exact ⟨rfl, .tuple #[], results_none rfl _ _ _, rfl, _, HR7.out, HW9.out, HSW.out⟩
                · have hC1' : ¬ (mid : Int) < (e : Int) := by omega
                  go_wp2_with fail
                  all_goals exact ⟨rfl, .tuple #[], results_none rfl _ _ _, rfl, _, HR7.out, HW9.out, HSW.out⟩
end Go.Proofs.YtiamkmkbkehldaaGreatDoor
