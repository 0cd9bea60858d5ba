/-
  slices' stable sort at rows of numbers that rise, with the closure of sortedPlaces.
-/
import Derived.Test.YtpfnkpkcjefelaaStbI
import Derived.Test.YtpfnkpkcjefelaaStbB
namespace Go.Proofs.Ytpfnkpkcjefelaa
open Go.RowKit
set_option linter.unusedSimpArgs false
set_option linter.unusedVariables false

theorem symMerge_any (R : Int → Int → Prop) (cf : Int → Int → Int) (g N cap : Nat) (w0 : World) (c1 c2 : Value) : ∀ (k : Nat) (f : Nat → Int) (a m b : Nat) (w : World), b - a ≤ k → Asked R cf g N w0 c1 c2 f a m b w → MergeOk R cf g N cap w0 c1 c2 f a m b w := by
  intro k
  induction k with
  | zero => intro f a m b w hk h; have := h.am; have := h.mb; omega
  | succ k ih =>
    intro f a m b w hk h
    have h1 := h.am
    have h2 := h.mb
    by_cases e1 : m = a + 1
    · exact symMerge_1 R cf g N cap w0 c1 c2 f a m b w h e1
    · by_cases e2 : b = m + 1
      · exact symMerge_2 R cf g N cap w0 c1 c2 f a m b w h (by omega) e2
      · exact symMerge_3 R cf g N cap w0 c1 c2 f a m b w h (by omega) (by omega) (fun f' a' m' b' w' hlt ha => ih f' a' m' b' w' (by omega) ha)

/-- What is asked of the sort: the numbers rise. -/
structure AskedS (R : Int → Int → Prop) (cf : Int → Int → Int) (g N : Nat) (w0 : World) (c1 c2 : Value) (f : Nat → Int) (w : World) : Prop where
  tot : Tot R
  cmp : CmpAt g N w0 c1 c2 cf
  cr : ∀ x y : Int, x < y → (cf y x < 0 ↔ R y x)
  row : w.rowIs g 3 N (nums f)
  sw : Sw g w0 w
  val : NumsIn f N
  NN : N ≤ 1048576
  up : ∀ p q, p < q → q < N → f p < f q

/-- Between two blocks: ahead of a all blocks are done, from a on nothing is. -/
theorem ins_block {R : Int → Int → Prop} {f fk fk' : Nat → Int} {a b : Nat} (he : ∀ p, a ≤ p → fk p = f p) (hm : Merged R fk fk' a b) : Blk R f fk' a b := by
  refine ⟨fun p h1 h2 => ?_, hm.ris⟩
  obtain ⟨q, q1, q2, q3⟩ := hm.inn p h1 h2
  exact ⟨q, q1, q2, by rw [q3, he q q1]⟩

theorem vals_of {R : Int → Int → Prop} {f fk : Nat → Int} {N : Nat} (hv : NumsIn f N) (h : ∀ p, p < N → ∃ q, q < N ∧ fk p = f q) : NumsIn fk N := fun p hp => by
  obtain ⟨q, q1, q2⟩ := h p hp
  rw [q2]; exact hv q q1

set_option maxRecDepth 100000 in
set_option maxHeartbeats 8000000 in
theorem stable_any (R : Int → Int → Prop) (cf : Int → Int → Int) (g N cap : Nat) (w0 : World) (c1 c2 : Value) (f : Nat → Int) (w : World) (h : AskedS R cf g N w0 c1 c2 f w) :
    Calls Try.prog 122 #[.slice (some ⟨g, 0, none⟩) N cap, .int .i64 N, .func (.func 116) #[] #[c1, c2]] w fun e w' => e = .returned (.tuple #[]) ∧ ∃ f', w'.rowIs g 3 N (nums f') ∧ Blk R f f' 0 N ∧ Sw g w0 w' := by
  have H := hideIt h
  have hNN := h.NN
  clear h
  go_enter Try.func122, Try.ntmps122
  go_wp2_with fail
  go_loopw [7, 8] (fun va vb wr => ∃ (a b : Nat) (fk : Nat → Int), va = .int .i64 a ∧ vb = .int .i64 b ∧ Hid (b = a + 20) ∧ a ≤ b ∧ b ≤ a + 20 ∧ Hid (20 ∣ a) ∧ a ≤ N ∧ wr.rowIs g 3 N (nums fk) ∧ Hid (Upto R f fk 20 a) ∧ Hid (∀ p, a ≤ p → fk p = f p) ∧ Hid (∀ p, p < N → ∃ q, q < N ∧ fk p = f q) ∧ Sw g w0 wr) (fun va _ _ => N - (intOf va).toNat)
  case atStart => exact ⟨0, 20, f, rfl, rfl, rfl, by omega, by omega, Nat.dvd_zero _, Nat.zero_le _, H.out.row, fun x _ h => absurd h (by omega), fun p _ => rfl, fun p hp => ⟨p, hp, rfl⟩, H.out.sw⟩
  case round =>
    obtain ⟨a, b, fk, rfl, rfl, HB20, hab1, hab2, HD, haN, hrow, HU, HE, HI, hsw⟩ := hrel
    have HROW := hideIt hrow
    have HSW := hideIt hsw
    clear hrow hsw
    by_cases hle : b ≤ N
    case pos =>
      have HA : Hid (AskedI R cf g N w0 c1 c2 fk a b wr) := ⟨H.out.tot, H.out.cmp, H.out.cr, HROW.out, HSW.out, vals_of (R := R) H.out.val HI.out, by omega, hle, by omega, fun p q h1 h2 h3 => by rw [HE.out p h1, HE.out q (by omega)]; exact H.out.up p q h2 (by omega)⟩
      go_wp2_with fail
      refine (insertion_any R cf g N cap w0 c1 c2 fk a b wr HA.out).mono ?_
      rintro e w1 ⟨rfl, f1, hr1, hm1, hs1⟩
      have HU2 : Hid (Upto R f f1 20 b) := by
        rw [Hid, HB20.out]
        exact HU.out.snoc HD.out (by have := ins_block HE.out hm1; rw [HB20.out] at this; exact this) (fun p hp => hm1.out p (Or.inl hp))
      have HE2 : Hid (∀ p, b ≤ p → f1 p = f p) := fun p hp => by rw [hm1.out p (Or.inr hp)]; exact HE.out p (by omega)
      have HI2 : Hid (∀ p, p < N → ∃ q, q < N ∧ f1 p = f q) := fun p hp => by
        by_cases c : a ≤ p ∧ p < b
        · obtain ⟨q, q1, q2, q3⟩ := hm1.inn p c.1 c.2
          exact ⟨q, by omega, by rw [q3, HE.out q q1]⟩
        · rw [hm1.out p (by omega)]; exact HI.out p hp
      have HD2 : Hid (20 ∣ b) := by rw [Hid, HB20.out]; exact Nat.dvd_add HD.out (Nat.dvd_refl _)
      have HR1 := hideIt hr1
      have HS1 := hideIt hs1
      clear hr1 hm1 hs1
      go_wp2_with fail
      go_roundw
      case rel => exact ⟨b, b + 20, f1, rfl, by go_num, rfl, by omega, by omega, HD2, hle, HR1.out, HU2, HE2, HI2, HS1.out⟩
      case measure => have := HB20.out; simp [intOf]; omega
    case neg =>
    have HA : Hid (AskedI R cf g N w0 c1 c2 fk a N wr) := ⟨H.out.tot, H.out.cmp, H.out.cr, HROW.out, HSW.out, vals_of (R := R) H.out.val HI.out, haN, Nat.le_refl _, by omega, fun p q h1 h2 h3 => by rw [HE.out p h1, HE.out q (by omega)]; exact H.out.up p q h2 h3⟩
    have hle' : ¬ (b : Int) ≤ (N : Int) := by omega
    go_wp2_with fail
    refine (insertion_any R cf g N cap w0 c1 c2 fk a N wr HA.out).mono ?_
    rintro e w1 ⟨rfl, f1, hr1, hm1, hs1⟩
    have HFR : Hid (From2 R f f1 20 0 N) := pass_end (fun x hx hlt => (HU.out x hx hlt).kept (fun p h1 h2 => hm1.out p (Or.inl (by have := dvd_next hx HD.out hlt; omega)))) HD.out haN (by have := HB20.out; omega) (fun _ => ins_block HE.out hm1)
    have HI1 : Hid (∀ p, p < N → ∃ q, q < N ∧ f1 p = f q) := fun p hp => by
      by_cases c : a ≤ p ∧ p < N
      · obtain ⟨q, q1, q2, q3⟩ := hm1.inn p c.1 c.2
        exact ⟨q, by omega, by rw [q3, HE.out q q1]⟩
      · rw [hm1.out p (by omega)]; exact HI.out p hp
    have HR1 := hideIt hr1
    have HS1 := hideIt hs1
    clear hr1 hm1 hs1 HROW HSW HU HE HI HD HA hle hle'
    obtain ⟨W0, rfl⟩ : ∃ W0, W0 = wr := ⟨_, rfl⟩
    go_wp2_with fail
    go_loopw [6, 7, 8, 9] (fun vs _ _ _ wr => ∃ (s : Nat) (fk : Nat → Int), vs = .int .i64 s ∧ 20 ≤ s ∧ s ≤ 2 * N + 20 ∧ wr.rowIs g 3 N (nums fk) ∧ Hid (From2 R f fk s 0 N) ∧ Hid (∀ p, p < N → ∃ q, q < N ∧ fk p = f q) ∧ Sw g w0 wr) (fun vs _ _ _ _ => N - (intOf vs).toNat)
    case atStart => exact ⟨20, f1, rfl, Nat.le_refl _, by omega, HR1.out, HFR, HI1, HS1.out⟩
    case round =>
      obtain ⟨s, fk, rfl, hs20, hsN, hrow, HF, HI, hsw⟩ := hrel
      have HROW := hideIt hrow
      have HSW := hideIt hsw
      clear hrow hsw
      by_cases hlt : s < N
      case neg =>
        have HB : Hid (Blk R f fk 0 N) := by
          by_cases c : 0 < N
          · have := HF.out 0 (Nat.dvd_zero _) (Nat.le_refl _) c
            rw [show min (0 + s) N = N by omega] at this
            exact this
          · exact ⟨fun p h1 h2 => by omega, fun p q h1 h2 h3 => by omega⟩
        go_wp2_with fail
        exact ⟨rfl, .tuple #[], results_none rfl _ _ _, rfl, fk, HROW.out, HB.out, HSW.out⟩
      case pos =>
      obtain ⟨W1, rfl⟩ : ∃ W1, W1 = wr := ⟨_, rfl⟩
      obtain ⟨D, hD⟩ : ∃ D, D = 2 * s := ⟨_, rfl⟩
      have eD : 2 * (s : Int) = (D : Int) := by omega
      have eD2 : (s : Int) * 2 = (D : Int) := by omega
      have hD1 : s < D := by omega
      have hD2 : D ≤ 4 * N := by omega
      have HDS := hideIt hD
      clear hD
      go_wp2_with fail
      go_loopw [7, 8] (fun va vb wr => ∃ (a b : Nat) (fk : Nat → Int), va = .int .i64 a ∧ vb = .int .i64 b ∧ Hid (b = a + D) ∧ a ≤ b ∧ b ≤ a + D ∧ Hid (D ∣ a) ∧ a ≤ N ∧ wr.rowIs g 3 N (nums fk) ∧ Hid (Upto R f fk D a) ∧ Hid (From2 R f fk s a N) ∧ Hid (∀ p, p < N → ∃ q, q < N ∧ fk p = f q) ∧ Sw g w0 wr) (fun va _ _ => N - (intOf va).toNat)
      case atStart => exact ⟨0, D, fk, rfl, by go_num, by rw [Hid]; omega, by omega, by omega, Nat.dvd_zero _, Nat.zero_le _, HROW.out, fun x _ h => absurd h (by omega), HF, HI, HSW.out⟩
      case round =>
        clear HROW HSW HF HI
        obtain ⟨a, b, fk, rfl, rfl, HBD, hab1, hab2, HD, haN, hrow, HU, HF, HI, hsw⟩ := hrel
        have HROW := hideIt hrow
        have HSW := hideIt hsw
        clear hrow hsw
        obtain ⟨m, hm⟩ : ∃ m, m = a + s := ⟨_, rfl⟩
        have em : (a : Int) + (s : Int) = (m : Int) := by omega
        have ham : a < m := by omega
        have HMS := hideIt hm
        have HDA : Hid (s ∣ a) := Nat.dvd_trans ⟨2, by rw [HDS.out]; omega⟩ HD.out
        have HDM : Hid (s ∣ m) := by rw [Hid, HMS.out]; exact Nat.dvd_add HDA.out (Nat.dvd_refl _)
        have hmb : m + s = b := by have := HBD.out; have := HDS.out; omega
        have HMB := hideIt hmb
        have hmlt : m < b := by omega
        clear hm hmb
        have HB1 : Hid (a < N → m ≤ N → Blk R f fk a m) := fun h1 h2 => by
          have := HF.out a HDA.out (Nat.le_refl _) h1
          rw [show min (a + s) N = m by have := HMS.out; omega] at this
          exact this
        have HB2 : Hid (m < N → Blk R f fk m (min b N)) := fun h1 => by
          have := HF.out m HDM.out (by omega) h1
          rw [HMB.out] at this
          exact this
        have HV := hideIt (vals_of (R := R) H.out.val HI.out)
        by_cases hle : b ≤ N
        case pos =>
          have k1 := HB1.out (by omega) (by omega)
          have k2 := HB2.out (by omega)
          rw [show min b N = b by omega] at k2
          have HA : Hid (Asked R cf g N w0 c1 c2 fk a m b wr) := ⟨H.out.tot, H.out.cmp, H.out.cr, HROW.out, HSW.out, HV.out, ham, hmlt, hle, by omega, k1.2, k2.2, blk_cross H.out.up k1 k2 hle⟩
          have HK1 := hideIt k1
          have HK2 := hideIt k2
          clear k1 k2
          go_wp2_with fail
          refine (symMerge_any R cf g N cap w0 c1 c2 (b - a) fk a m b wr (Nat.le_refl _) HA.out).mono ?_
          rintro e w2 ⟨rfl, f2, hr2, hm2, hs2⟩
          have HU2 : Hid (Upto R f f2 D b) := by
            have hb := blk_merged HK1.out HK2.out hm2 (by omega) (by omega)
            rw [HBD.out] at hb
            rw [Hid, HBD.out]
            exact HU.out.snoc HD.out hb (fun p hp => hm2.out p (Or.inl hp))
          have HF2 : Hid (From2 R f f2 s b N) := by
            intro x hx h1 h2
            exact (HF.out x hx (by omega) h2).kept (fun p h3 h4 => hm2.out p (Or.inr (by omega)))
          have HI2 : Hid (∀ p, p < N → ∃ q, q < N ∧ f2 p = f q) := fun p hp => by
            by_cases c : a ≤ p ∧ p < b
            · obtain ⟨q, q1, q2, q3⟩ := hm2.inn p c.1 c.2
              rw [q3]; exact HI.out q (by omega)
            · rw [hm2.out p (by omega)]; exact HI.out p hp
          have HD2 : Hid (D ∣ b) := by rw [Hid, HBD.out]; exact Nat.dvd_add HD.out (Nat.dvd_refl _)
          have HR2 := hideIt hr2
          have HS2 := hideIt hs2
          clear hr2 hm2 hs2
          go_wp2_with fail
          go_roundw
          case rel => exact ⟨b, b + D, f2, rfl, by go_num, rfl, by omega, by omega, HD2, hle, HR2.out, HU2, HF2, HI2, HS2.out⟩
          case measure => simp [intOf]; omega
        case neg =>
        have hle' : ¬ (b : Int) ≤ (N : Int) := by omega
        by_cases hmN : m < N
        case pos =>
          have hmN' : (m : Int) < (N : Int) := by omega
          have k1 := HB1.out (by omega) (by omega)
          have k2 := HB2.out hmN
          rw [show min b N = N by omega] at k2
          have HA : Hid (Asked R cf g N w0 c1 c2 fk a m N wr) := ⟨H.out.tot, H.out.cmp, H.out.cr, HROW.out, HSW.out, HV.out, ham, hmN, Nat.le_refl _, by omega, k1.2, k2.2, blk_cross H.out.up k1 k2 (Nat.le_refl _)⟩
          have HK1 := hideIt k1
          have HK2 := hideIt k2
          clear k1 k2
          go_wp2_with fail
          refine (symMerge_any R cf g N cap w0 c1 c2 (N - a) fk a m N wr (Nat.le_refl _) HA.out).mono ?_
          rintro e w2 ⟨rfl, f2, hr2, hm2, hs2⟩
          have HF2 : Hid (From2 R f f2 D 0 N) := pass_end (fun x hx hlt => (HU.out x hx hlt).kept (fun p h1 h2 => hm2.out p (Or.inl (by have := dvd_next hx HD.out hlt; omega)))) HD.out haN (by have := HBD.out; omega) (fun _ => blk_merged HK1.out HK2.out hm2 (by omega) (by omega))
          have HI2 : Hid (∀ p, p < N → ∃ q, q < N ∧ f2 p = f q) := fun p hp => by
            by_cases c : a ≤ p ∧ p < N
            · obtain ⟨q, q1, q2, q3⟩ := hm2.inn p c.1 c.2
              rw [q3]; exact HI.out q (by omega)
            · rw [hm2.out p (by omega)]; exact HI.out p hp
          have HR2 := hideIt hr2
          have HS2 := hideIt hs2
          clear hr2 hm2 hs2
          go_wp2_with fail
          go_roundw
          case rel => exact ⟨D, f2, by go_num, by omega, by have := HDS.out; omega, HR2.out, HF2, HI2, HS2.out⟩
          case measure => simp [intOf]; omega
        case neg =>
          have hmN' : ¬ (m : Int) < (N : Int) := by omega
          have HF2 : Hid (From2 R f fk D 0 N) := pass_end HU.out HD.out haN (by have := HBD.out; omega) (fun h => by
            have := HF.out a HDA.out (Nat.le_refl _) h
            rw [show min (a + s) N = N by have := HMS.out; omega] at this
            exact this)
          go_wp2_with fail
          go_roundw
          case rel => exact ⟨D, fk, by go_num, by omega, by have := HDS.out; omega, HROW.out, HF2, HI, HSW.out⟩
          case measure => simp [intOf]; omega
end Go.Proofs.Ytpfnkpkcjefelaa
