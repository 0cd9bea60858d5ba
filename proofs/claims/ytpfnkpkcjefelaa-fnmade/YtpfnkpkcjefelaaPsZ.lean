/-
  slices' symMerge where the second row is of one cell.
-/
import Derived.Test.YtpfnkpkcjefelaaStbS
import Derived.Test.YtpfnkpkcjefelaaStbQ
import Derived.Test.YtpfnkpkcjefelaaProg
import Derived.Deep.OwnRows
import Derived.KernelRfl
import Derived.Deep.QuietTactic
import Derived.BigQuiet
import Derived.WalkSmall
import Derived.Deep.RegionWith
namespace Go.Proofs.Ytpfnkpkcjefelaa
open Go.RowKit
set_option linter.unusedSimpArgs false
set_option linter.unusedVariables false

set_option maxRecDepth 100000 in
set_option maxHeartbeats 6400000 in
theorem symMerge_2 (R : Int → Int → Prop) (cf : Int → Int → Int) (g N cap : Nat) (w0 : World) (c1 c2 : Value) (f : Nat → Int) (a m b : Nat) (w : World) (h : Asked R cf g N w0 c1 c2 f a m b w) (hm : a + 1 < m) (hb : b = m + 1) :
    Calls Try.prog 126 #[.slice (some ⟨g, 0, none⟩) N cap, .int .i64 a, .int .i64 m, .int .i64 b, .func (.func 116) #[] #[c1, c2]] w fun e w' => e = .returned (.tuple #[]) ∧ ∃ f', w'.rowIs g 3 N (nums f') ∧ Merged R f f' a b ∧ Sw g w0 w' := by
  have H := hideIt h
  have hab := h.mb
  have hbN := h.bN
  have hNN := h.NN
  clear h
  have hone : ((m : Int) - (a : Int) == 1) = false := by rw [beq_eq_false_iff_ne]; omega
  have hone2 : ((b : Int) - (m : Int) == 1) = true := by rw [beq_iff_eq]; omega
  have h1b : b ≤ m + 1 := by omega
  have HB1 := hideIt hb
  clear hb
  go_enter Try.func126, Try.ntmps126
  go_wp2_with fail
  go_loopw [14, 15] (fun vi vj wr => ∃ i j : Nat, vi = .int .i64 i ∧ vj = .int .i64 j ∧ a ≤ i ∧ i ≤ j ∧ j ≤ m ∧ Hid (∀ p, a ≤ p → p < i → R (f p) (f m)) ∧ Hid (∀ p, j ≤ p → p < m → R (f m) (f p)) ∧ wr.rowIs g 3 N (nums f) ∧ Sw g w0 wr) (fun vi vj _ => (intOf vj).toNat - (intOf vi).toNat)
  case atStart => exact ⟨a, m, rfl, rfl, Nat.le_refl _, by omega, Nat.le_refl _, fun q h1 h2 => absurd h1 (by omega), fun q h1 h2 => absurd h1 (by omega), H.out.row, H.out.sw⟩
  case round =>
    obtain ⟨i, j, rfl, rfl, hai, hij, hjm, HL, HG, hrow, hsw⟩ := hrel
    by_cases hlt : i < j
    case pos =>
      obtain ⟨x, hx⟩ : ∃ x : Nat, x = (i + j) / 2 := ⟨_, rfl⟩
      have x1 : i ≤ x := by omega
      have x2 : x < j := by omega
      have p0 : ((i : Int) + (j : Int)) / 2 = (x : Int) := by omega
      have hxN : x < N := by omega
      have hmN : m < N := by omega
      have d1 := hrow.cell hxN
      have d2 := hrow.cell hmN
      unfold nums at d1 d2
      obtain ⟨v11, v12⟩ := H.out.val x hxN
      obtain ⟨v21, v22⟩ := H.out.val m hmN
      have HLT := hideIt (H.out.cx x m (by omega) (by omega) (Nat.le_refl _) (by omega))
      have HCR := hideIt (H.out.cr (f x) (f m) HLT.out)
      have HROW := hideIt hrow
      have HSW := hideIt hsw
      clear hx hrow hsw
      by_cases hc : cf (f m) (f x) < 0
      · have HG2 : Hid (∀ p, x ≤ p → p < m → R (f m) (f p)) := fun p h1 h2 => (ris_le H.out.tot H.out.r1 (p := x) (q := p) (by omega) h1 h2).2 (HCR.out.1 hc)
        go_wp2_with fail
        go_quiet ((go_at_call 116; exact Calls.quiet_of (H.out.cmp _ (HSW.out.drewN _) (f m) (f x) v21 v22 v11 v12)))
        go_wp2_with fail
        go_roundw
        case rel => exact ⟨i, x, rfl, rfl, hai, x1, by omega, HL, HG2, HROW.out, HSW.out.drewN nq⟩
        case measure => simp [intOf]; omega
      · have HL2 : Hid (∀ p, a ≤ p → p < x + 1 → R (f p) (f m)) := fun p h1 h2 => (ris_le H.out.tot H.out.r1 (p := p) (q := x) h1 (by omega) (by omega)).1 (not_ahead H.out.tot HLT.out (fun hr => hc (HCR.out.2 hr)))
        have hcd : (!decide (cf (f m) (f x) < 0)) = true := by simp; omega
        go_wp2_with fail
        go_quiet ((go_at_call 116; exact Calls.quiet_of (H.out.cmp _ (HSW.out.drewN _) (f m) (f x) v21 v22 v11 v12)))
        go_wp2_with fail
        go_roundw
        case rel => exact ⟨x + 1, j, by go_num, rfl, by omega, by omega, hjm, HL2, HG, HROW.out, HSW.out.drewN nq⟩
        case measure => simp [intOf]; omega
    case neg =>
    obtain rfl : i = j := by omega
    have HM : Hid (Merged R f (rot i m b f) a b) := merged_2 hai hjm (by omega) H.out.r1 H.out.r2 (fun p q h1 h2 h3 h4 => by
        obtain rfl : q = m := by omega
        exact HL.out p h1 h2) (fun p q h1 h2 h3 h4 => by
        obtain rfl : q = m := by omega
        exact HG.out p h1 h2)
    obtain ⟨W0, rfl⟩ : ∃ W0, W0 = wr := ⟨_, rfl⟩
    have HROW := hideIt hrow
    have HSW := hideIt hsw
    clear hrow hsw hlt
    go_wp2_with fail
    go_loopw [17] (fun vk wr => ∃ k : Nat, vk = .int .i64 k ∧ i ≤ k ∧ k ≤ m ∧ wr.rowIs g 3 N (nums (rot k m (m + 1) f)) ∧ Sw g w0 wr) (fun vk _ => (intOf vk).toNat - i)
    case atStart => exact ⟨m, rfl, hjm, Nat.le_refl _, HROW.out.congr fun p _ => by unfold nums; rw [rot_none (Or.inl rfl) (Nat.le_refl _) (by omega)], HSW.out⟩
    case round =>
      obtain ⟨k, rfl, hik, hkm, hrow, hsw⟩ := hrel
      by_cases hlt : i < k
      · obtain ⟨z, hz⟩ : ∃ z, k = z + 1 := ⟨k - 1, by omega⟩
        have q1 := hrow.cell (i := k) (by omega)
        have q2 := hrow.cell (i := z) (by omega)
        have f1 := hrow.frozen k
        have f2 := hrow.frozen z
        unfold nums at q1 q2
        have hkN : k < N := by omega
        have hzN : z < N := by omega
        have e1 : (k : Int) - 1 = (z : Int) := by omega
        obtain ⟨u, hu⟩ : ∃ u, rot k m (m + 1) f k = u := ⟨_, rfl⟩
        obtain ⟨v, hv⟩ : ∃ v, rot k m (m + 1) f z = v := ⟨_, rfl⟩
        rw [hu] at q1
        rw [hv] at q2
        have hne1 : k ≠ z := by omega
        have hne2 : z ≠ k := by omega
        have HNEW : Hid (((wr.setCell ⟨g, k, none⟩ (.int .i64 v)).setCell ⟨g, z, none⟩ (.int .i64 u)).drew.rowIs g 3 N (nums (rot z m (m + 1) f))) := by
          refine (nums_set2 hrow k z v u).congr fun p _ => ?_
          unfold nums
          rw [hz] at hu hv ⊢
          rw [← rot_down (show z + 1 ≤ m by omega) f p, hu, hv]
        have HO := hideIt ((hsw.set k (.int .i64 v)).set z (.int .i64 u)).drew
        have HZ := hideIt hz
        clear hrow hsw hu hv hz
        go_wp2_with fail
        go_region
        all_goals
          go_wp2_with fail
          go_roundw
          case rel => exact ⟨z, by go_num, by have := HZ.out; omega, by have := HZ.out; omega, HNEW.out, HO.out⟩
          case measure => have := HZ.out; simp [intOf]; omega
      · obtain rfl : k = i := by omega
        go_wp2_with fail
        refine ⟨rfl, .tuple #[], results_none rfl _ _ _, rfl, _, hrow, ?_, hsw⟩
        rw [← HB1.out]
        exact HM.out
end Go.Proofs.Ytpfnkpkcjefelaa

/-
  slices' symMerge: two rows that rise become one that rises.
-/
namespace Go.Proofs.Ytpfnkpkcjefelaa
open Go.RowKit
set_option linter.unusedSimpArgs false
set_option linter.unusedVariables false

/-- What a merge gives. -/
def MergeOk (R : Int → Int → Prop) (cf : Int → Int → Int) (g N cap : Nat) (w0 : World) (c1 c2 : Value) (f : Nat → Int) (a m b : Nat) (w : World) : Prop :=
  Calls Try.prog 126 #[.slice (some ⟨g, 0, none⟩) N cap, .int .i64 a, .int .i64 m, .int .i64 b, .func (.func 116) #[] #[c1, c2]] w fun e w' => e = .returned (.tuple #[]) ∧ ∃ f', w'.rowIs g 3 N (nums f') ∧ Merged R f f' a b ∧ Sw g w0 w'

set_option maxRecDepth 100000 in
set_option maxHeartbeats 16000000 in
theorem symMerge_3 (R : Int → Int → Prop) (cf : Int → Int → Int) (g N cap : Nat) (w0 : World) (c1 c2 : Value) (f : Nat → Int) (a m b : Nat) (w : World) (h : Asked R cf g N w0 c1 c2 f a m b w) (hm : a + 1 < m) (hb : m + 1 < b)
    (ih : ∀ f' a' m' b' w', b' - a' < b - a → Asked R cf g N w0 c1 c2 f' a' m' b' w' → MergeOk R cf g N cap w0 c1 c2 f' a' m' b' w') : MergeOk R cf g N cap w0 c1 c2 f a m b w := by
  unfold MergeOk
  have H := hideIt h
  have IH := hideIt ih
  have hbN := h.bN
  have hNN := h.NN
  clear h ih
  have hone : ((m : Int) - (a : Int) == 1) = false := by rw [beq_eq_false_iff_ne]; omega
  have hone2 : ((b : Int) - (m : Int) == 1) = false := by rw [beq_eq_false_iff_ne]; omega
  obtain ⟨mid, hmid⟩ : ∃ mid : Nat, mid = (a + b) / 2 := ⟨_, rfl⟩
  have p0 : ((a : Int) + (b : Int)) / 2 = (mid : Int) := by omega
  have g1 : a < mid := by omega
  have g2 : mid < b := by omega
  have g3 : mid + mid ≤ a + b := by omega
  have HMO := hideIt (mid_of (show a < m by omega) (show m < b by omega) hmid)
  clear hmid
  obtain ⟨n, hn⟩ : ∃ n, n = mid + m := ⟨_, rfl⟩
  have en : (mid : Int) + (m : Int) = (n : Int) := by omega
  obtain ⟨n1, hn1⟩ : ∃ n1, n = n1 + 1 := ⟨n - 1, by omega⟩
  have en1 : (n : Int) - 1 = (n1 : Int) := by omega
  have hnN : n ≤ 2199023255552 := by omega
  have HN := hideIt hn
  have HN1 := hideIt hn1
  clear hn hn1
  obtain ⟨lo, hi, HM, hway⟩ : ∃ lo hi, Hid (MidS a m b lo hi n) ∧ (((mid : Int) < (m : Int) ∧ (n : Int) - (b : Int) = (lo : Int) ∧ Hid (hi = mid)) ∨ (¬ (mid : Int) < (m : Int) ∧ Hid (lo = a ∧ hi = m))) := by
    by_cases hmm : mid < m
    · refine ⟨mid + m - b, mid, ?_, .inl ⟨by omega, by have := HN.out; omega, rfl⟩⟩
      rw [Hid, HN.out]; exact HMO.out.1 hmm
    · refine ⟨a, m, ?_, .inr ⟨by omega, rfl, rfl⟩⟩
      rw [Hid, HN.out]; exact HMO.out.2 (by omega)
  rcases hway with ⟨hmm, elo, EW⟩ | ⟨hmm, EW⟩
  all_goals
    have u1 := HM.out.la
    have u2 := HM.out.hm
    have u3 := HM.out.le
    have u4 := HM.out.nm.1
    have u5 := HM.out.nm.2.1
    have u6 := HM.out.nm.2.2
    go_enter Try.func126, Try.ntmps126
    go_wp2_with fail
    go_loopw [20, 21] (fun vi vj wr => ∃ i j : Nat, vi = .int .i64 i ∧ vj = .int .i64 j ∧ lo ≤ i ∧ i ≤ j ∧ j ≤ hi ∧ Hid (∀ c, lo ≤ c → c < i → R (f c) (f (n - 1 - c))) ∧ Hid (∀ c, j ≤ c → c < hi → R (f (n - 1 - c)) (f c)) ∧ wr.rowIs g 3 N (nums f) ∧ Sw g w0 wr) (fun vi vj _ => (intOf vj).toNat - (intOf vi).toNat)
    case atStart => exact ⟨lo, hi, by first | go_num | rw [EW.out.1], by first | rw [EW.out] | rw [EW.out.2], Nat.le_refl _, u3, Nat.le_refl _, fun q h1 h2 => absurd h1 (by omega), fun q h1 h2 => absurd h1 (by omega), H.out.row, H.out.sw⟩
    case round =>
      obtain ⟨i, j, rfl, rfl, hai, hij, hjm, HL, HG, hrow, hsw⟩ := hrel
      by_cases hlt : i < j
      case pos =>
        obtain ⟨x, hx⟩ : ∃ x : Nat, x = (i + j) / 2 := ⟨_, rfl⟩
        have x1 : i ≤ x := by omega
        have x2 : x < j := by omega
        have px : ((i : Int) + (j : Int)) / 2 = (x : Int) := by omega
        have hup := HM.out.up x (by omega) (by omega)
        obtain ⟨y, hy⟩ : ∃ y, y = n - 1 - x := ⟨_, rfl⟩
        have ey : (n1 : Int) - (x : Int) = (y : Int) := by have := HN1.out; omega
        have hxN : x < N := by omega
        have hyN : y < N := by omega
        have d1 := hrow.cell hyN
        have d2 := hrow.cell hxN
        unfold nums at d1 d2
        obtain ⟨v11, v12⟩ := H.out.val y hyN
        obtain ⟨v21, v22⟩ := H.out.val x hxN
        have HLT := hideIt (H.out.cx x y (by omega) (by omega) (by omega) (by omega))
        have HCR := hideIt (H.out.cr (f x) (f y) HLT.out)
        have HY := hideIt hy
        have HROW := hideIt hrow
        have HSW := hideIt hsw
        clear hx hrow hsw hy hup
        by_cases hc : cf (f y) (f x) < 0
        · have HG2 : Hid (∀ c, x ≤ c → c < hi → R (f (n - 1 - c)) (f c)) := mid_right H.out.tot HM.out H.out.r1 H.out.r2 (by omega) (by omega) (by rw [← HY.out]; exact HCR.out.1 hc)
          go_wp2_with fail
          go_quiet ((go_at_call 116; exact Calls.quiet_of (H.out.cmp _ (HSW.out.drewN _) (f y) (f x) v11 v12 v21 v22)))
          go_wp2_with fail
          go_roundw
          case rel => exact ⟨i, x, rfl, rfl, hai, x1, by omega, HL, HG2, HROW.out, HSW.out.drewN nq⟩
          case measure => simp [intOf]; omega
        · have HL2 : Hid (∀ c, lo ≤ c → c < x + 1 → R (f c) (f (n - 1 - c))) := fun c h1 h2 => mid_left H.out.tot HM.out H.out.r1 H.out.r2 (c := x) (by omega) (by omega) (by rw [← HY.out]; exact not_ahead H.out.tot HLT.out (fun hr => hc (HCR.out.2 hr))) c h1 (by omega)
          have hcd : (!decide (cf (f y) (f x) < 0)) = true := by simp; omega
          go_wp2_with fail
          go_quiet ((go_at_call 116; exact Calls.quiet_of (H.out.cmp _ (HSW.out.drewN _) (f y) (f x) v11 v12 v21 v22)))
          go_wp2_with fail
          go_roundw
          case rel => exact ⟨x + 1, j, by go_num, rfl, by omega, by omega, hjm, HL2, HG, HROW.out, HSW.out.drewN nq⟩
          case measure => simp [intOf]; omega
      case neg =>
      obtain rfl : i = j := by omega
      have HP := hideIt (mid_parted H.out.tot HM.out H.out.r1 H.out.r2 hai hjm HL.out HG.out)
      obtain ⟨e, he⟩ : ∃ e, e = n - i := ⟨_, rfl⟩
      rw [← he] at HP
      have ee : (n : Int) - (i : Int) = (e : Int) := by omega
      have k1 := HP.out.ale
      have k2 := HP.out.sm
      have k3 := HP.out.me
      have k4 := HP.out.eb
      have HS : Hid (i + (e - m) = mid) := by have := HN.out; rw [Hid]; omega
      have HROW := hideIt hrow
      have HSW := hideIt hsw
      clear hrow hsw hlt he u1 u2 u3 u4 u5 u6
      have HRA : Hid (∀ (W : World), W.rowIs g 3 N (nums (rot i m e f)) → Sw g w0 W → (a < i ∧ i < mid → Asked R cf g N w0 c1 c2 (rot i m e f) a i mid W)) := fun W hr hs hc =>
        ⟨H.out.tot, H.out.cmp, H.out.cr, hr, hs, rot_vals H.out.val k2 k3 (by omega), hc.1, hc.2, by omega, hNN, HP.out.rise1 H.out.r1, by have := HP.out.rise2 H.out.r2; rw [HS.out] at this; exact this, by have := HP.out.cross1 H.out.cx; rw [HS.out] at this; exact this⟩
      have HRM1 : Hid (¬ (a < i ∧ i < mid) → Merged R (rot i m e f) (rot i m e f) a mid) := fun hc => by
        refine merged_self ?_
        by_cases c1 : a < i
        · have : i = mid := by have := HS.out; omega
          rw [← this]; exact HP.out.rise1 H.out.r1
        · have : i = a := by omega
          have h2 := HP.out.rise2 H.out.r2
          rw [HS.out, this] at h2
          rw [this]; exact h2
      have HRB : Hid (∀ (W : World) (f2 : Nat → Int), Merged R (rot i m e f) f2 a mid → W.rowIs g 3 N (nums f2) → Sw g w0 W → (mid < e ∧ e < b → Asked R cf g N w0 c1 c2 f2 mid e b W)) := fun W f2 hm hr hs hc => by
        have r3 := HP.out.rise3 H.out.r1
        have r4 := HP.out.rise4 H.out.r2
        have x2 := HP.out.cross2 H.out.cx
        rw [HS.out] at r3 x2
        exact ⟨H.out.tot, H.out.cmp, H.out.cr, hr, hs, hm.vals (rot_vals H.out.val k2 k3 (by omega)) (by omega), hc.1, hc.2, hbN, hNN,
          fun p q h1 h2 h3 => by rw [hm.out p (by omega), hm.out q (by omega)]; exact r3 p q h1 h2 h3,
          fun p q h1 h2 h3 => by rw [hm.out p (by omega), hm.out q (by omega)]; exact r4 p q h1 h2 h3,
          fun p q h1 h2 h3 h4 => by rw [hm.out p (by omega), hm.out q (by omega)]; exact x2 p q h1 h2 h3 h4⟩
      have HRM2 : Hid (∀ f2 : Nat → Int, Merged R (rot i m e f) f2 a mid → ¬ (mid < e ∧ e < b) → Merged R f2 f2 mid b) := fun f2 hm hc => by
        have r3 := HP.out.rise3 H.out.r1
        have r4 := HP.out.rise4 H.out.r2
        rw [HS.out] at r3
        have hmide : mid ≤ e := by have := HS.out; omega
        refine merged_self fun p q h1 h2 h3 => ?_
        rw [hm.out p (by omega), hm.out q (by omega)]
        by_cases c1 : mid < e
        · have : e = b := by omega
          rw [this] at r3 ⊢
          exact r3 p q h1 h2 h3
        · have : e = mid := by omega
          rw [this] at r4 ⊢
          exact r4 p q h1 h2 h3
      have HWH : Hid (∀ f2 f3 : Nat → Int, Merged R (rot i m e f) f2 a mid → Merged R f2 f3 mid b → Merged R f f3 a b) := fun f2 f3 h1 h2 => by
        refine HP.out.whole H.out.r1 H.out.r2 (f2 := f2) ?_ ?_
        · rw [HS.out]; exact h1
        · rw [HS.out]; exact h2
      rcases (show (i < m ∧ m < e) ∨ (¬ (i < m ∧ m < e)) by omega) with hA | hA
      all_goals
        first
        | have hA1 : (i : Int) < (m : Int) := by omega
          have hA2 : (m : Int) < (e : Int) := by omega
          go_wp2_with fail
          refine (rotate_any g N cap f i m e _ wr HROW.out hA.1 hA.2 (by omega) hNN).mono ?_
          rintro e7 w7 ⟨rfl, hr7, hs7⟩
          have HR7 := hideIt hr7
          have HS7 := hideIt (HSW.out.trans hs7)
          clear hr7 hs7
        | have HR7 : Hid (wr.rowIs g 3 N (nums (rot i m e f))) := HROW.out.congr fun p _ => by unfold nums; rw [rot_none (by omega) k2 k3]
          have HS7 := HSW
          rcases (show (i : Int) < (m : Int) ∧ ¬ (m : Int) < (e : Int) ∨ ¬ (i : Int) < (m : Int) by omega) with ⟨hA1, hA2⟩ | hA1
        all_goals
          rcases Classical.em (a < i ∧ i < mid) with hB | hB
          all_goals
            first
            | have HAA := hideIt (HRA.out _ HR7.out HS7.out hB)
              have hB1 : (a : Int) < (i : Int) := by omega
              have hB2 : (i : Int) < (mid : Int) := by omega
              go_wp2_with fail
              refine (IH.out _ a i mid _ (by omega) HAA.out).mono ?_
              rintro e8 w8 ⟨rfl, f8, hr8, hm8, hs8⟩
              have HR8 := hideIt hr8
              have HS8 := hideIt hs8
              have HM8 := hideIt hm8
              clear hr8 hs8 hm8
            | have HM8 := hideIt (HRM1.out hB)
              have HR8 := HR7
              have HS8 := HS7
              rcases (show (a : Int) < (i : Int) ∧ ¬ (i : Int) < (mid : Int) ∨ ¬ (a : Int) < (i : Int) by omega) with ⟨hB1, hB2⟩ | hB1
            all_goals
              rcases Classical.em (mid < e ∧ e < b) with hC | hC
              all_goals
                first
                | have HAB := hideIt (HRB.out _ _ HM8.out HR8.out HS8.out hC)
                  have hC1 : (mid : Int) < (e : Int) := by omega
                  have hC2 : (e : Int) < (b : Int) := by omega
                  go_wp2_with fail
                  all_goals
                    refine (IH.out _ mid e b _ (by omega) HAB.out).mono ?_
                    rintro e9 w9 ⟨rfl, f9, hr9, hm9, hs9⟩
                    have HW9 := hideIt (HWH.out _ _ HM8.out hm9)
                    go_wp2_with fail
                    exact ⟨rfl, .tuple #[], results_none rfl _ _ _, rfl, f9, hr9, HW9.out, hs9⟩
                | have HW9 := hideIt (HWH.out _ _ HM8.out (HRM2.out _ HM8.out hC))
                  rcases (show (mid : Int) < (e : Int) ∧ ¬ (e : Int) < (b : Int) ∨ ¬ (mid : Int) < (e : Int) by omega) with ⟨hC1, hC2⟩ | hC1
                  all_goals
                    go_wp2_with fail
                    all_goals exact ⟨rfl, .tuple #[], results_none rfl _ _ _, rfl, _, HR8.out, HW9.out, HS8.out⟩
end Go.Proofs.Ytpfnkpkcjefelaa

/-
  Paths that come in: what takes their sizes from a budget; what copies them into new memory; what holds two against each other.
-/
namespace Go.Proofs.Ytpfnkpkcjefelaa
open Go.RowKit
set_option linter.unusedSimpArgs false
set_option linter.unusedVariables false

abbrev RawSteps (B : Nat) (w : World) (v : Value) (ps : List PS) : Prop := StepsIn 9223372036854775807 9223372036854775807 B w v ps
abbrev StepsAt (B : Nat) (w : World) (v : Value) (ps : List PS) : Prop := StepsIn 1048576 1048576 B w v ps

def zeroStep : Value := .agg #[.bool false, .string ByteArray.empty, .int .i64 0]
theorem infoStep : (Try.prog.info? 49).map (fun i => (i.zero, i.size, i.bytes)) = some (some zeroStep, 3, 32) := by kernel_rfl
def madeSteps (n : Nat) : Array Value := madeCells zeroStep.cells (n * 3)
theorem size_madeSteps (n : Nat) : (madeSteps n).size = n * 3 := size_madeCells _ _

theorem run_make_steps (n : Nat) (hb : 32 * n ≤ 281474976710656) (w : World) :
    (Instr.makeSlice 50 (.int .i64 (n : Int)) (.int .i64 (n : Int))).run Try.prog w = .ok (.slice (some ⟨w.heap.size, 0, none⟩) n n) (w.alloc (.cells (madeSteps n) 49)) := by
  obtain ⟨i, hi, hzz⟩ := Option.map_eq_some_iff.1 infoStep
  simp only [Prod.mk.injEq] at hzz
  obtain ⟨hz, hs, hby⟩ := hzz
  have hr := run_make (P := Try.prog) w 50 49 i zeroStep Try.underlying50 hi hz .i64 .i64 n n (by omega) (Int.le_refl _) (by rw [hby]; omega) (by omega)
  simp only [Int.toNat_natCast, hs] at hr
  exact hr

def stepCell (ps : List PS) (j : Nat) : Value :=
  if j % 3 = 0 then .bool (stepAt ps (j / 3)).named
  else if j % 3 = 1 then .string (stepAt ps (j / 3)).key
  else .int .i64 (stepAt ps (j / 3)).pl
theorem stepCell0 (ps : List PS) (i : Nat) : stepCell ps (i * 3) = .bool (stepAt ps i).named := by
  unfold stepCell
  rw [if_pos (by omega), show i * 3 / 3 = i by omega]
theorem stepCell1 (ps : List PS) (i : Nat) : stepCell ps (i * 3 + 1) = .string (stepAt ps i).key := by
  unfold stepCell
  rw [if_neg (by omega), if_pos (by omega), show (i * 3 + 1) / 3 = i by omega]
theorem stepCell2 (ps : List PS) (i : Nat) : stepCell ps (i * 3 + 2) = .int .i64 (stepAt ps i).pl := by
  unfold stepCell
  rw [if_neg (by omega), if_neg (by omega), show (i * 3 + 2) / 3 = i by omega]

def fillStep (ps : List PS) (z : Nat → Value) (k j : Nat) : Value := if j < k * 3 then stepCell ps j else z j

theorem fillStep_step {w : World} {b t m k : Nat} {ps : List PS} {z : Nat → Value} (h : w.rowIs b t m (fillStep ps z k)) :
    (((w.setCell ⟨b, k * 3, none⟩ (.bool (stepAt ps k).named)).setCell ⟨b, k * 3 + 1, none⟩ (.string (stepAt ps k).key)).setCell ⟨b, k * 3 + 2, none⟩ (.int .i64 (stepAt ps k).pl)).rowIs b t m (fillStep ps z (k + 1)) := by
  refine (((h.set (k * 3) _).set (k * 3 + 1) _).set (k * 3 + 2) _).congr fun j _ => ?_
  by_cases e2 : j = k * 3 + 2
  · subst e2
    rw [if_pos rfl, fillStep, if_pos (by omega), stepCell2]
  rw [if_neg e2]
  by_cases e1 : j = k * 3 + 1
  · subst e1
    rw [if_pos rfl, fillStep, if_pos (by omega), stepCell1]
  rw [if_neg e1]
  by_cases e0 : j = k * 3
  · subst e0
    rw [if_pos rfl, fillStep, if_pos (by omega), stepCell0]
  rw [if_neg e0]
  unfold fillStep
  by_cases hj : j < k * 3
  · rw [if_pos hj, if_pos (by omega)]
  · rw [if_neg hj, if_neg (by omega)]

theorem rowIs_below' {B b t n : Nat} {w w' : World} {f : Nat → Value} (h : w.rowIs b t n f) (hb : Below B w w') (hB : b < B) : w'.rowIs b t n f := h.of_block (hb.block b hB)

theorem ownSteps {w : World} {b : Nat} {ps : List PS} (h : w.rowIs b 49 (ps.length * 3) (stepCell ps)) (h1 : ps.length ≤ 1048576) (h2 : ∀ i, i < ps.length → (stepAt ps i).key.size ≤ 1048576 ∧ -9223372036854775808 ≤ (stepAt ps i).pl ∧ (stepAt ps i).pl ≤ 9223372036854775807) :
    StepsAt w.heap.size w (.slice (some ⟨b, 0, none⟩) ps.length ps.length) ps := by
  refine ⟨h1, h2, _, _, rfl, fun _ => ⟨b, 0, rfl, h.lt, fun i hi => ?_⟩⟩
  rw [Nat.zero_add]
  refine ⟨?_, ?_, ?_⟩
  · rw [h.cell (by omega), stepCell0]
  · rw [h.cell (by omega), stepCell1]
  · rw [h.cell (by omega), stepCell2]

end Go.Proofs.Ytpfnkpkcjefelaa
