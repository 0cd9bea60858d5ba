/-
  slices' insertionSort at rows of numbers, with the closure of sortedPlaces.
-/
import Derived.Test.YtnnofahlmlikcaaStbS2
namespace Go.Proofs.Ytnnofahlmlikcaa
open Go.RowKit
set_option linter.unusedSimpArgs false
set_option linter.unusedVariables false

/-- What is asked of a sort of [a, b): the cells stand in the order of their numbers. -/
structure AskedI (R : Int → Int → Prop) (cf : Int → Int → Int) (g N : Nat) (w0 : World) (c1 c2 : Value) (f : Nat → Int) (a b : Nat) (w : World) : Prop where
  tot : Tot R
  cmp : CmpAt g N w0 c1 c2 cf
  cr : ∀ x y : Int, x < y → (cf y x < 0 ↔ R y x)
  row : w.rowIs g 3 N (nums f)
  sw : Sw g w0 w
  val : NumsIn f N
  ab : a ≤ b
  bN : b ≤ N
  NN : N ≤ 1099511627776
  up : ∀ p q, a ≤ p → p < q → q < b → f p < f q

/-- One more has been put into its place. -/
theorem ins_step {R : Int → Int → Prop} (hR : Tot R) {f fk : Nat → Int} {a i j : Nat} (h1 : a ≤ j) (h2 : j ≤ i) (hm : Merged R f fk a i) (hfi : ∀ p, i ≤ p → fk p = f p)
    (hbig : ∀ p, j ≤ p → p < i → R (f i) (fk p)) (hlow : a < j → R (fk (j - 1)) (f i)) : Merged R f (rot j i (i + 1) fk) a (i + 1) := by
  have hl : ∀ p, a ≤ p → p < j → R (fk p) (f i) := fun p hp hpj => by
    have := hlow (by omega)
    by_cases e : p = j - 1
    · rw [e]; exact this
    · exact hR.tr _ _ _ (hm.ris p (j - 1) hp (by omega) (by omega)) this
  have m2 : Merged R fk (rot j i (i + 1) fk) a (i + 1) := merged_2 h1 h2 (by omega) hm.ris (fun p q h1 h2 h3 => by omega) (fun p q h3 h4 h5 h6 => by
      obtain rfl : q = i := by omega
      rw [hfi q (Nat.le_refl _)]; exact hl p h3 h4) (fun p q h3 h4 h5 h6 => by
      obtain rfl : q = i := by omega
      rw [hfi q (Nat.le_refl _)]; exact hbig p h3 h4)
  refine ⟨fun p hp => ?_, fun p h3 h4 => ?_, m2.ris⟩
  · rw [m2.out p hp]
    rcases hp with c | c
    · exact hm.out p (Or.inl c)
    · exact hfi p (by omega)
  · obtain ⟨q, q1, q2, q3⟩ := m2.inn p h3 h4
    by_cases c : q < i
    · obtain ⟨r, r1, r2, r3⟩ := hm.inn q q1 c
      exact ⟨r, r1, by omega, by rw [q3, r3]⟩
    · exact ⟨q, q1, q2, by rw [q3, hfi q (by omega)]⟩

set_option maxRecDepth 100000 in
set_option maxHeartbeats 6400000 in
theorem insertion_any (R : Int → Int → Prop) (cf : Int → Int → Int) (g N cap : Nat) (w0 : World) (c1 c2 : Value) (f : Nat → Int) (a b : Nat) (w : World) (h : AskedI R cf g N w0 c1 c2 f a b w) :
    Calls Try.prog 69 #[.slice (some ⟨g, 0, none⟩) N cap, .int .i64 a, .int .i64 b, .func (.func 53) #[] #[c1, c2]] w fun e w' => e = .returned (.tuple #[]) ∧ ∃ f', w'.rowIs g 3 N (nums f') ∧ Merged R f f' a b ∧ Sw g w0 w' := by
  have H := hideIt h
  have hab := h.ab
  have hbN := h.bN
  have hNN := h.NN
  clear h
  go_enter Try.func69, Try.ntmps69
  go_wp2_with fail
  go_loopw [8] (fun vi wr => ∃ (i : Nat) (fk : Nat → Int), vi = .int .i64 i ∧ a < i ∧ i ≤ b + 1 ∧ wr.rowIs g 3 N (nums fk) ∧ Hid (Merged R f fk a (min i b)) ∧ Hid (∀ p, min i b ≤ p → fk p = f p) ∧ Sw g w0 wr) (fun vi _ => b + 1 - (intOf vi).toNat)
  case atStart =>
    refine ⟨a + 1, f, by go_num, by omega, by omega, H.out.row, merged_self fun p q h1 h2 h3 => ?_, fun p _ => rfl, H.out.sw⟩
    exfalso; omega
  case round =>
    obtain ⟨i, fk, rfl, hai, hib, hrow, HM, HF, hsw⟩ := hrel
    by_cases hlt : i < b
    case neg =>
      have hmin : min i b = b := by omega
      rw [hmin] at HM
      go_wp2_with fail
      exact ⟨rfl, .tuple #[], results_none rfl _ _ _, rfl, fk, hrow, HM.out, hsw⟩
    case pos =>
    have hmin : min i b = i := by omega
    rw [hmin] at HM HF
    clear hmin
    obtain ⟨W0, rfl⟩ : ∃ W0, W0 = wr := ⟨_, rfl⟩
    have HROW := hideIt hrow
    have HSW := hideIt hsw
    have HV := hideIt (HM.out.vals H.out.val (by omega))
    clear hrow hsw
    go_wp2_with fail
    go_loopw [9] (fun vj wr => ∃ j : Nat, vj = .int .i64 j ∧ a ≤ j ∧ j ≤ i ∧ wr.rowIs g 3 N (nums (rot j i (i + 1) fk)) ∧ Hid (∀ p, j ≤ p → p < i → R (f i) (fk p)) ∧ Sw g w0 wr) (fun vj _ => (intOf vj).toNat)
    case atStart => exact ⟨i, rfl, by omega, Nat.le_refl _, HROW.out.congr fun p _ => by unfold nums; rw [rot_none (Or.inl rfl) (Nat.le_refl _) (by omega)], fun p h1 h2 => absurd h1 (by omega), HSW.out⟩
    case round =>
      obtain ⟨j, rfl, haj, hji, hrow, HB, hsw⟩ := hrel
      by_cases hja : a < j
      case neg =>
        obtain rfl : j = a := by omega
        have hd : decide ((j : Int) < (j : Int)) = false := by simp
        have HM2 := hideIt (ins_step H.out.tot (Nat.le_refl _) hji HM.out HF.out HB.out (fun h => absurd h (by omega)))
        have HF2 : Hid (∀ p, i + 1 ≤ p → rot j i (i + 1) fk p = f p) := fun p hp => by rw [rot_lo (by omega) hji (by omega)]; exact HF.out p (by omega)
        have hjj : ¬ (j : Int) < (j : Int) := by omega
        go_wp2_with fail
        go_quiet (fail)
        go_wp2_with fail
        go_roundw
        case rel =>
          refine ⟨i + 1, rot j i (i + 1) fk, by go_num, by omega, by omega, hrow, ?_, ?_, hsw.drewN nq⟩
          · rw [show min (i + 1) b = i + 1 by omega]; exact HM2
          · rw [show min (i + 1) b = i + 1 by omega]; exact HF2
        case measure => simp [intOf]; omega
      case pos =>
      obtain ⟨z, hz⟩ : ∃ z, j = z + 1 := ⟨j - 1, by omega⟩
      have e1 : (j : Int) - 1 = (z : Int) := by omega
      have hjN : j < N := by omega
      have hzN : z < N := by omega
      have q1 := hrow.cell (i := j) hjN
      have q2 := hrow.cell (i := z) hzN
      have f1 := hrow.frozen j
      have f2 := hrow.frozen z
      unfold nums at q1 q2
      have HEJ : Hid (rot j i (i + 1) fk j = f i) := by rw [Hid, rot_1 (Nat.le_refl _) (by omega), show i + (j - j) = i by omega]; exact HF.out i (Nat.le_refl _)
      have HEZ : Hid (rot j i (i + 1) fk z = fk z) := by rw [Hid, rot_lo (by omega) hji (by omega)]
      rw [HEJ.out] at q1
      rw [HEZ.out] at q2
      obtain ⟨v11, v12⟩ := H.out.val i (by omega)
      obtain ⟨v21, v22⟩ := HV.out z hzN
      have HLT : Hid (fk z < f i) := by
        obtain ⟨r, r1, r2, r3⟩ := HM.out.inn z (by omega) (by omega)
        rw [Hid, r3]
        exact H.out.up r i r1 (by omega) hlt
      have HCR := hideIt (H.out.cr (fk z) (f i) HLT.out)
      have hjaI : (a : Int) < (j : Int) := by omega
      have hdec : decide ((a : Int) < (j : Int)) = true := by simp; omega
      by_cases hc : cf (f i) (fk z) < 0
      case pos =>
        have hne1 : j ≠ z := by omega
        have hne2 : z ≠ j := by omega
        have HNEW : Hid (∀ W : World, W.rowIs g 3 N (nums (rot j i (i + 1) fk)) → ((W.setCell ⟨g, j, none⟩ (.int .i64 (fk z))).setCell ⟨g, z, none⟩ (.int .i64 (f i))).drew.rowIs g 3 N (nums (rot z i (i + 1) fk))) := fun W hW => by
          refine (nums_set2 hW j z (fk z) (f i)).congr fun p _ => ?_
          unfold nums
          have d := rot_down (show z + 1 ≤ i by omega) fk p
          rw [← hz, HEJ.out, HEZ.out] at d
          rw [← d]
        have HB2 : Hid (∀ p, z ≤ p → p < i → R (f i) (fk p)) := fun p h1 h2 => by
          by_cases e : p = z
          · rw [e]; exact HCR.out.1 hc
          · exact HB.out p (by omega) h2
        have HZ := hideIt hz
        have HR1 := hideIt hrow
        have HS1 := hideIt hsw
        clear hz hrow hsw
        go_wp2_with fail
        go_quiet ((go_at_call 53; exact Calls.quiet_of (H.out.cmp _ (HS1.out.drewN _) (f i) (fk z) v11 v12 v21 v22)))
        have q1' : (wr.drewN nq).cell? ⟨g, j, none⟩ = some (.int .i64 (f i)) := q1
        have q2' : (wr.drewN nq).cell? ⟨g, z, none⟩ = some (.int .i64 (fk z)) := q2
        have f1' : (wr.drewN nq).frozen? ⟨g, j, none⟩ = false := f1
        have f2' : (wr.drewN nq).frozen? ⟨g, z, none⟩ = false := f2
        have HR2 : Hid ((wr.drewN nq).rowIs g 3 N (nums (rot j i (i + 1) fk))) := HR1.out
        have HS2 := hideIt (HS1.out.drewN nq)
        generalize wr.drewN nq = W1 at q1' q2' f1' f2' HR2 HS2 ⊢
        clear q1 q2 f1 f2
        have HN1 := hideIt (HNEW.out W1 HR2.out)
        have HO := hideIt ((HS2.out.set j (.int .i64 (fk z))).set z (.int .i64 (f i))).drew
        go_wp2_with fail
        go_region
        all_goals
          go_wp2_with fail
          go_roundw
          case rel => exact ⟨z, by go_num, by have := HZ.out; omega, by have := HZ.out; omega, HN1.out, HB2, HO.out⟩
          case measure => have := HZ.out; simp [intOf]; omega
      case neg =>
        have HM2 : Hid (Merged R f (rot j i (i + 1) fk) a (i + 1)) := ins_step H.out.tot haj hji HM.out HF.out HB.out (fun _ => by
          rw [show j - 1 = z by omega]
          exact not_ahead H.out.tot HLT.out (fun hr => hc (HCR.out.2 hr)))
        have HF2 : Hid (∀ p, i + 1 ≤ p → rot j i (i + 1) fk p = f p) := fun p hp => by rw [rot_lo (by omega) hji (by omega)]; exact HF.out p (by omega)
        have hcd : decide (cf (f i) (fk z) < 0) = false := by simp; omega
        have HR1 := hideIt hrow
        have HS1 := hideIt hsw
        have HZ := hideIt hz
        clear hz hrow hsw
        go_wp2_with fail
        go_quiet ((go_at_call 53; exact Calls.quiet_of (H.out.cmp _ (HS1.out.drewN _) (f i) (fk z) v11 v12 v21 v22)))
        go_wp2_with fail
        go_roundw
        case rel =>
          refine ⟨i + 1, rot j i (i + 1) fk, by go_num, by omega, by omega, HR1.out, ?_, ?_, HS1.out.drewN nq⟩
          · rw [show min (i + 1) b = i + 1 by omega]; exact HM2
          · rw [show min (i + 1) b = i + 1 by omega]; exact HF2
        case measure => simp [intOf]; omega
end Go.Proofs.Ytnnofahlmlikcaa
