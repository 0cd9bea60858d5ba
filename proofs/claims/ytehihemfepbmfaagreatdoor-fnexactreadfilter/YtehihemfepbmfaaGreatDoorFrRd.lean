/-
  The program's filterReader: a whole filter. (Made by mkrwh.py.)
-/
import Derived.Test.YtehihemfepbmfaaGreatDoorFrZ
import Derived.Test.YtehihemfepbmfaaGreatDoorMkG
import Derived.Test.YtehihemfepbmfaaGreatDoorSgSb
namespace Go.Proofs.YtehihemfepbmfaaGreatDoor
open Go.RowKit
set_option linter.unusedSimpArgs false
set_option linter.unusedVariables false
set_option linter.unusedSectionVars false

theorem isByF {L : List UInt8} {p c : Nat} (hc : c ≠ 0) : isAt L p c = true ↔ byAt L p = c := by
  rw [isAt_yes]
  refine ⟨fun h => h.2, fun h => ⟨?_, h⟩⟩
  rcases Nat.lt_or_ge p L.length with h' | h'
  · exact h'
  · have := byAt_past h'; omega
theorem digAt_by (L : List UInt8) (p : Nat) : digAt L p = digN (byAt L p) := by
  unfold digAt
  by_cases h : p < L.length
  · rw [decide_eq_true h, Bool.true_and]
  · rw [decide_eq_false h, Bool.false_and, byAt_past (by omega)]; rfl
theorem letAt_by (L : List UInt8) (p : Nat) : letAt L p = letN (byAt L p) := by
  unfold letAt
  by_cases h : p < L.length
  · rw [decide_eq_true h, Bool.true_and]
  · rw [decide_eq_false h, Bool.false_and, byAt_past (by omega)]; rfl
section
variable {R : RD} {f rb mb base : Nat} {s : ByteArray} (HR : RdsF R f rb mb base s) (HG : Goes s.data.toList R)
include HR HG
set_option maxRecDepth 100000 in
set_option maxHeartbeats 6400000 in
theorem readWhole_any {p : Nat} {Z : Nat → Prop} {fs : List FN} {w : World} (h : FrAt w rb mb base Z s p fs) (hZ : ∀ x, Z x → x < w.heap.size) (hs : s.size ≤ 1000) (hl : fs.length ≤ p) (hf : s.size ≤ p + f) :
    Calls Tryz.prog 110 #[.pointer (some ⟨rb, 0, none⟩)] w (FrOr (wholeF WPr R s.data.toList fs p) rb mb base Z s w) := by
  have HLN := hideB (len_is s)
  have hps := h.le
  have HPK := hideB (fPeek_any h (by omega))
  have HZ : Hid (∀ x, Z x → x < w.heap.size) := hZ
  have HHR := hideB HR
  have HHG := hideB HG
  have HIS : Hid (∀ x : Nat, x ≠ 0 → (isAt s.data.toList p x = true ↔ byAt s.data.toList p = x)) := fun x hx => isByF hx
  have hc256 := byAt_lt s.data.toList p
  obtain ⟨c, hc⟩ : ∃ c, byAt s.data.toList p = c := ⟨_, rfl⟩
  have HC := hideB hc
  rw [hc] at HPK hc256 HIS
  clear h hZ HR HG hc
  by_cases n46 : c = 46
  · have hat : isAt s.data.toList p 46 = true := (HIS.out 46 (by decide)).2 n46
    have hpl : p < s.size := by rw [← HLN.out]; exact (isAt_yes.1 hat).1
    have HE : Hid (wholeF WPr R s.data.toList fs p = pointF WPr s.data.toList fs (p + 1)) := by rw [Hid]; unfold wholeF; rw [if_pos hat]
    have HAT := hideB hat
    subst n46
    clear hat HIS 
    go_enter Tryz.func110, Tryz.ntmps110
    go_wp2_with fail
    refine HPK.out.mono ?_
    rintro e w1 ⟨rfl, h1, b1⟩
    have HF1 := hideB h1
    have HB1 := hideB b1
    have HZ1 : Hid (∀ x, Z x → x < w1.heap.size) := fun x hx => Nat.lt_of_lt_of_le (HZ.out x hx) b1.size
    clear h1 b1
    have HCC := hideB (readPoint_any HF1.out (by omega) (by omega) hpl)
    go_wp2_with fail
    refine HCC.out.mono ?_
    rintro e w2 ⟨b2, ⟨n2, fs2, q2, hr, rfl, h2⟩ | ⟨hr, rfl⟩⟩
    · have HB2 := hideB (HB1.out.trans b2)
      have HF2 := hideB h2
      have HR2 := hideB hr
      clear b2 h2 hr
      go_wp2_with fail
      go_ret
      exact ⟨HB2.out, .inl ⟨n2, fs2, q2, by rw [HE.out]; exact HR2.out, rfl, HF2.out⟩⟩
    · have HB2 := hideB (HB1.out.trans b2)
      have HR2 := hideB hr
      clear b2 hr
      unfold gup
      go_wp2_with fail
      exact ⟨rfl, FrOr.no (by rw [HE.out]; exact HR2.out) HB2.out⟩
  by_cases n40 : c = 40
  · have hat : isAt s.data.toList p 40 = true := (HIS.out 40 (by decide)).2 n40
    have hpl : p < s.size := by rw [← HLN.out]; exact (isAt_yes.1 hat).1
    have HE : Hid (wholeF WPr R s.data.toList fs p = aroundF R s.data.toList 41 fs (skF s.data.toList (p + 1))) := by rw [Hid]; unfold wholeF; rw [if_neg (fun e => n46 ((HIS.out 46 (by decide)).1 e)), if_pos hat]
    have HAT := hideB hat
    subst n40
    clear hat HIS 
    go_enter Tryz.func110, Tryz.ntmps110
    go_wp2_with fail
    refine HPK.out.mono ?_
    rintro e w1 ⟨rfl, h1, b1⟩
    have HF1 := hideB h1
    have HB1 := hideB b1
    have HZ1 : Hid (∀ x, Z x → x < w1.heap.size) := fun x hx => Nat.lt_of_lt_of_le (HZ.out x hx) b1.size
    clear h1 b1
    have HCC := hideB (readAround_any HHR.out HHG.out HF1.out HZ1.out (by omega) hl (by omega))
    go_wp2_with fail
    refine HCC.out.mono ?_
    rintro e w2 ⟨b2, ⟨n2, fs2, q2, hr, rfl, h2⟩ | ⟨hr, rfl⟩⟩
    · have HB2 := hideB (HB1.out.trans b2)
      have HF2 := hideB h2
      have HR2 := hideB hr
      clear b2 h2 hr
      go_wp2_with fail
      go_ret
      exact ⟨HB2.out, .inl ⟨n2, fs2, q2, by rw [HE.out]; exact (mustF_y HAT.out).symm.trans HR2.out, rfl, HF2.out⟩⟩
    · have HB2 := hideB (HB1.out.trans b2)
      have HR2 := hideB hr
      clear b2 hr
      unfold gup
      go_wp2_with fail
      exact ⟨rfl, FrOr.no (by rw [HE.out]; exact (mustF_y HAT.out).symm.trans HR2.out) HB2.out⟩
  by_cases n91 : c = 91
  · have hat : isAt s.data.toList p 91 = true := (HIS.out 91 (by decide)).2 n91
    have hpl : p < s.size := by rw [← HLN.out]; exact (isAt_yes.1 hat).1
    have HE : Hid (wholeF WPr R s.data.toList fs p = listF WPr R s.data.toList fs (skF s.data.toList (p + 1))) := by rw [Hid]; unfold wholeF; rw [if_neg (fun e => n46 ((HIS.out 46 (by decide)).1 e)), if_neg (fun e => n40 ((HIS.out 40 (by decide)).1 e)), if_pos hat]
    have HAT := hideB hat
    subst n91
    clear hat HIS 
    go_enter Tryz.func110, Tryz.ntmps110
    go_wp2_with fail
    refine HPK.out.mono ?_
    rintro e w1 ⟨rfl, h1, b1⟩
    have HF1 := hideB h1
    have HB1 := hideB b1
    have HZ1 : Hid (∀ x, Z x → x < w1.heap.size) := fun x hx => Nat.lt_of_lt_of_le (HZ.out x hx) b1.size
    clear h1 b1
    have HCC := hideB (readFList_any HHR.out HHG.out HF1.out HZ1.out hs hl (by omega) HAT.out)
    go_wp2_with fail
    refine HCC.out.mono ?_
    rintro e w2 ⟨b2, ⟨n2, fs2, q2, hr, rfl, h2⟩ | ⟨hr, rfl⟩⟩
    · have HB2 := hideB (HB1.out.trans b2)
      have HF2 := hideB h2
      have HR2 := hideB hr
      clear b2 h2 hr
      go_wp2_with fail
      go_ret
      exact ⟨HB2.out, .inl ⟨n2, fs2, q2, by rw [HE.out]; exact HR2.out, rfl, HF2.out⟩⟩
    · have HB2 := hideB (HB1.out.trans b2)
      have HR2 := hideB hr
      clear b2 hr
      unfold gup
      go_wp2_with fail
      exact ⟨rfl, FrOr.no (by rw [HE.out]; exact HR2.out) HB2.out⟩
  by_cases n123 : c = 123
  · have hat : isAt s.data.toList p 123 = true := (HIS.out 123 (by decide)).2 n123
    have hpl : p < s.size := by rw [← HLN.out]; exact (isAt_yes.1 hat).1
    have HE : Hid (wholeF WPr R s.data.toList fs p = mapF WPr R s.data.toList fs (skF s.data.toList (p + 1))) := by rw [Hid]; unfold wholeF; rw [if_neg (fun e => n46 ((HIS.out 46 (by decide)).1 e)), if_neg (fun e => n40 ((HIS.out 40 (by decide)).1 e)), if_neg (fun e => n91 ((HIS.out 91 (by decide)).1 e)), if_pos hat]
    have HAT := hideB hat
    subst n123
    clear hat HIS 
    go_enter Tryz.func110, Tryz.ntmps110
    go_wp2_with fail
    refine HPK.out.mono ?_
    rintro e w1 ⟨rfl, h1, b1⟩
    have HF1 := hideB h1
    have HB1 := hideB b1
    have HZ1 : Hid (∀ x, Z x → x < w1.heap.size) := fun x hx => Nat.lt_of_lt_of_le (HZ.out x hx) b1.size
    clear h1 b1
    have HCC := hideB (readFMap_any HHR.out HHG.out HF1.out HZ1.out hs hl (by omega) HAT.out)
    go_wp2_with fail
    refine HCC.out.mono ?_
    rintro e w2 ⟨b2, ⟨n2, fs2, q2, hr, rfl, h2⟩ | ⟨hr, rfl⟩⟩
    · have HB2 := hideB (HB1.out.trans b2)
      have HF2 := hideB h2
      have HR2 := hideB hr
      clear b2 h2 hr
      go_wp2_with fail
      go_ret
      exact ⟨HB2.out, .inl ⟨n2, fs2, q2, by rw [HE.out]; exact HR2.out, rfl, HF2.out⟩⟩
    · have HB2 := hideB (HB1.out.trans b2)
      have HR2 := hideB hr
      clear b2 hr
      unfold gup
      go_wp2_with fail
      exact ⟨rfl, FrOr.no (by rw [HE.out]; exact HR2.out) HB2.out⟩
  by_cases n34 : c = 34
  · have hat : isAt s.data.toList p 34 = true := (HIS.out 34 (by decide)).2 n34
    have hpl : p < s.size := by rw [← HLN.out]; exact (isAt_yes.1 hat).1
    have HE : Hid (wholeF WPr R s.data.toList fs p = match txJ s.data.toList (p + 1) with | none => none | some (t, q) => addF WPr (nodeC ⟨4, 0, txt t, [], []⟩) fs (skF s.data.toList q)) := by rw [Hid]; unfold wholeF; rw [if_neg (fun e => n46 ((HIS.out 46 (by decide)).1 e)), if_neg (fun e => n40 ((HIS.out 40 (by decide)).1 e)), if_neg (fun e => n91 ((HIS.out 91 (by decide)).1 e)), if_neg (fun e => n123 ((HIS.out 123 (by decide)).1 e)), if_pos hat]; rfl
    have HAT := hideB hat
    subst n34
    clear hat HIS
    go_enter Tryz.func110, Tryz.ntmps110
    go_wp2_with fail
    refine HPK.out.mono ?_
    rintro e w1 ⟨rfl, h1, b1⟩
    have HF1 := hideB h1
    have HB1 := hideB b1
    have HZ1 : Hid (∀ x, Z x → x < w1.heap.size) := fun x hx => Nat.lt_of_lt_of_le (HZ.out x hx) b1.size
    clear h1 b1
    have HTX := hideB (fText_at HF1.out (by omega) HAT.out)
    go_wp2_with fail
    refine HTX.out.mono ?_
    rintro e w5 ⟨b5, ⟨l, q, ht, rfl, h5⟩ | ⟨ht, rfl⟩⟩
    rotate_left
    · have HB5 := hideB (HB1.out.trans b5)
      have HT5 := hideB ht
      clear b5 ht
      unfold gup
      go_wp2_with fail
      exact ⟨rfl, FrOr.no (by rw [HE.out, HT5.out]) HB5.out⟩
    have HB5 := hideB (HB1.out.trans b5)
    have HT5 := hideB ht
    obtain ⟨T, hT⟩ : ∃ T, txt l = T := ⟨_, rfl⟩
    have HTT := hideB hT
    rw [hT]
    have HCC := hideB (addConst_any h5 (fun x hx => Nat.lt_of_lt_of_le (HZ1.out x hx) b5.size) (by omega) (by omega) 4 0 T)
    clear b5 ht h5 hT
    go_wp2_with fail
    refine HCC.out.mono ?_
    rintro e w2 ⟨b2, ⟨n2, fs2, q2, hr, rfl, h2⟩ | ⟨hr, rfl⟩⟩
    · have HB2 := hideB (HB5.out.trans b2)
      have HF2 := hideB h2
      have HR2 := hideB hr
      clear b2 h2 hr
      go_wp2_with fail
      go_ret
      exact ⟨HB2.out, .inl ⟨n2, fs2, q2, by rw [HE.out]; exact (by rw [HT5.out]; simp only; rw [HTT.out]; exact HR2.out), rfl, HF2.out⟩⟩
    · have HB2 := hideB (HB5.out.trans b2)
      have HR2 := hideB hr
      clear b2 hr
      unfold gup
      go_wp2_with fail
      exact ⟨rfl, FrOr.no (by rw [HE.out]; exact (by rw [HT5.out]; simp only; rw [HTT.out]; exact HR2.out)) HB2.out⟩
  have HNO : Hid (¬ isAt s.data.toList p 46 = true ∧ ¬ isAt s.data.toList p 40 = true ∧ ¬ isAt s.data.toList p 91 = true ∧ ¬ isAt s.data.toList p 123 = true ∧ ¬ isAt s.data.toList p 34 = true) := ⟨fun e => n46 ((HIS.out 46 (by decide)).1 e), fun e => n40 ((HIS.out 40 (by decide)).1 e), fun e => n91 ((HIS.out 91 (by decide)).1 e), fun e => n123 ((HIS.out 123 (by decide)).1 e), fun e => n34 ((HIS.out 34 (by decide)).1 e)⟩
  have z46 : ((c : Int) == 46) = false := by simp; omega
  have zz46 : ¬ (c : Int) = 46 := by omega
  have z40 : ((c : Int) == 40) = false := by simp; omega
  have zz40 : ¬ (c : Int) = 40 := by omega
  have z91 : ((c : Int) == 91) = false := by simp; omega
  have zz91 : ¬ (c : Int) = 91 := by omega
  have z123 : ((c : Int) == 123) = false := by simp; omega
  have zz123 : ¬ (c : Int) = 123 := by omega
  have z34 : ((c : Int) == 34) = false := by simp; omega
  have zz34 : ¬ (c : Int) = 34 := by omega
  have HDA : Hid (digAt s.data.toList p = digN c) := by rw [Hid, ← HC.out]; exact digAt_by _ _
  have HLA : Hid (letAt s.data.toList p = letN c) := by rw [Hid, ← HC.out]; exact letAt_by _ _
  by_cases n45 : c = 45
  · have HE : Hid (wholeF WPr R s.data.toList fs p = decF WPr s.data.toList p fun n q => addF WPr (nodeC ⟨3, n, ByteArray.empty, [], []⟩) fs q) := by
      rw [Hid]; unfold wholeF
      rw [if_neg HNO.out.1, if_neg HNO.out.2.1, if_neg HNO.out.2.2.1, if_neg HNO.out.2.2.2.1, if_neg HNO.out.2.2.2.2, if_neg (by rw [HLA.out, n45]; decide), if_pos (.inl ((HIS.out 45 (by decide)).2 n45))]
    subst n45
    clear HIS
    go_enter Tryz.func110, Tryz.ntmps110
    go_wp2_with fail
    refine HPK.out.mono ?_
    rintro e w1 ⟨rfl, h1, b1⟩
    have HF1 := hideB h1
    have HB1 := hideB b1
    have HZ1 : Hid (∀ x, Z x → x < w1.heap.size) := fun x hx => Nat.lt_of_lt_of_le (HZ.out x hx) b1.size
    clear h1 b1
    have HI := hideB (readInt_any HF1.out (by omega))
    go_wp2_with fail
    refine HI.out.mono ?_
    rintro e w5 ⟨b5, ⟨v, hd, rfl, h5⟩ | ⟨hd, rfl⟩⟩
    rotate_left
    · have HB5 := hideB (HB1.out.trans b5)
      have HD5 := hideB hd
      clear b5 hd
      unfold gup
      go_wp2_with fail
      exact ⟨rfl, FrOr.no (by rw [HE.out]; unfold decF; rw [show WPr.dec = decW from rfl, HD5.out]) HB5.out⟩
    have HB5 := hideB (HB1.out.trans b5)
    have HD5 := hideB hd
    have HCC := hideB (addConst_any h5 (fun x hx => Nat.lt_of_lt_of_le (HZ1.out x hx) b5.size) (by omega) (by omega) 3 v ByteArray.empty)
    clear b5 hd h5
    go_wp2_with fail
    refine HCC.out.mono ?_
    rintro e w2 ⟨b2, ⟨n2, fs2, q2, hr, rfl, h2⟩ | ⟨hr, rfl⟩⟩
    · have HB2 := hideB (HB5.out.trans b2)
      have HF2 := hideB h2
      have HR2 := hideB hr
      clear b2 h2 hr
      go_wp2_with fail
      go_ret
      exact ⟨HB2.out, .inl ⟨n2, fs2, q2, by rw [HE.out]; exact (by unfold decF; rw [show WPr.dec = decW from rfl, HD5.out]; simp only; rw [skF_idem] at HR2; exact HR2.out), rfl, HF2.out⟩⟩
    · have HB2 := hideB (HB5.out.trans b2)
      have HR2 := hideB hr
      clear b2 hr
      unfold gup
      go_wp2_with fail
      exact ⟨rfl, FrOr.no (by rw [HE.out]; exact (by unfold decF; rw [show WPr.dec = decW from rfl, HD5.out]; simp only; rw [skF_idem] at HR2; exact HR2.out)) HB2.out⟩
  have z45 : ((c : Int) == 45) = false := by simp; omega
  have zz45 : ¬ (c : Int) = 45 := by omega
  cases hd : digN c
  rotate_left
  · have HE : Hid (wholeF WPr R s.data.toList fs p = decF WPr s.data.toList p fun n q => addF WPr (nodeC ⟨3, n, ByteArray.empty, [], []⟩) fs q) := by
      rw [Hid]; unfold wholeF
      have hnl : letN c = false := by
        unfold digN at hd; unfold letN
        simp only [Bool.and_eq_true, decide_eq_true_eq] at hd
        rw [Bool.or_eq_false_iff, Bool.or_eq_false_iff, Bool.and_eq_false_iff, Bool.and_eq_false_iff]
        simp only [decide_eq_false_iff_not]
        omega
      rw [if_neg HNO.out.1, if_neg HNO.out.2.1, if_neg HNO.out.2.2.1, if_neg HNO.out.2.2.2.1, if_neg HNO.out.2.2.2.2, if_neg (by rw [HLA.out, hnl]; decide), if_pos (.inr (by rw [HDA.out]; exact hd))]
    have HDG := hideB (isDigit_any c)
    rw [hd] at HDG
    clear HIS hd
    go_enter Tryz.func110, Tryz.ntmps110
    go_wp2_with fail
    refine HPK.out.mono ?_
    rintro e w1 ⟨rfl, h1, b1⟩
    have HF1 := hideB h1
    have HB1 := hideB b1
    have HZ1 : Hid (∀ x, Z x → x < w1.heap.size) := fun x hx => Nat.lt_of_lt_of_le (HZ.out x hx) b1.size
    clear h1 b1
    go_wp2_with fail
    refine (HDG.out w1 hc256).mono ?_
    rintro e w4 ⟨rfl, rfl⟩
    have HI := hideB (readInt_any HF1.out (by omega))
    go_wp2_with fail
    refine HI.out.mono ?_
    rintro e w5 ⟨b5, ⟨v, hd, rfl, h5⟩ | ⟨hd, rfl⟩⟩
    rotate_left
    · have HB5 := hideB (HB1.out.trans b5)
      have HD5 := hideB hd
      clear b5 hd
      unfold gup
      go_wp2_with fail
      exact ⟨rfl, FrOr.no (by rw [HE.out]; unfold decF; rw [show WPr.dec = decW from rfl, HD5.out]) HB5.out⟩
    have HB5 := hideB (HB1.out.trans b5)
    have HD5 := hideB hd
    have HCC := hideB (addConst_any h5 (fun x hx => Nat.lt_of_lt_of_le (HZ1.out x hx) b5.size) (by omega) (by omega) 3 v ByteArray.empty)
    clear b5 hd h5
    go_wp2_with fail
    refine HCC.out.mono ?_
    rintro e w2 ⟨b2, ⟨n2, fs2, q2, hr, rfl, h2⟩ | ⟨hr, rfl⟩⟩
    · have HB2 := hideB (HB5.out.trans b2)
      have HF2 := hideB h2
      have HR2 := hideB hr
      clear b2 h2 hr
      go_wp2_with fail
      go_ret
      exact ⟨HB2.out, .inl ⟨n2, fs2, q2, by rw [HE.out]; exact (by unfold decF; rw [show WPr.dec = decW from rfl, HD5.out]; simp only; rw [skF_idem] at HR2; exact HR2.out), rfl, HF2.out⟩⟩
    · have HB2 := hideB (HB5.out.trans b2)
      have HR2 := hideB hr
      clear b2 hr
      unfold gup
      go_wp2_with fail
      exact ⟨rfl, FrOr.no (by rw [HE.out]; exact (by unfold decF; rw [show WPr.dec = decW from rfl, HD5.out]; simp only; rw [skF_idem] at HR2; exact HR2.out)) HB2.out⟩
  have HDG := hideB (isDigit_any c)
  rw [hd] at HDG
  have HE : Hid (wholeF WPr R s.data.toList fs p = namedF WPr R s.data.toList (nameF s.data.toList p) fs (skF s.data.toList (nmJ s.data.toList p))) := by
    rw [Hid]; unfold wholeF
    rw [if_neg HNO.out.1, if_neg HNO.out.2.1, if_neg HNO.out.2.2.1, if_neg HNO.out.2.2.2.1, if_neg HNO.out.2.2.2.2]
    cases hlt : letN c
    · rw [if_neg (by rw [HLA.out, hlt]; decide), if_neg (by rintro (e | e); exact n45 ((HIS.out 45 (by decide)).1 e); rw [HDA.out, hd] at e; cases e)]
      have hnm : nameF s.data.toList p = [] := by
        have h0 : nmJ s.data.toList p = p := runJ_no (fun e => by have h1 := e.2; rw [HC.out] at h1; unfold nmC at h1; rw [hlt, hd] at h1; cases h1)
        unfold nameF
        rw [h0, Nat.sub_self]; rfl
      rw [hnm]; rfl
    · rw [if_pos (by rw [HLA.out]; exact hlt)]
  clear HIS hd n46 n40 n91 n123 n34 n45
  go_enter Tryz.func110, Tryz.ntmps110
  go_wp2_with fail
  refine HPK.out.mono ?_
  rintro e w1 ⟨rfl, h1, b1⟩
  have HF1 := hideB h1
  have HB1 := hideB b1
  have HZ1 : Hid (∀ x, Z x → x < w1.heap.size) := fun x hx => Nat.lt_of_lt_of_le (HZ.out x hx) b1.size
  clear h1 b1
  go_wp2_with fail
  refine (HDG.out w1 hc256).mono ?_
  rintro e w4 ⟨rfl, rfl⟩
  have HCC := hideB (readFWord_any HHR.out HHG.out HF1.out HZ1.out hs hl hf)
  go_wp2_with fail
  refine HCC.out.mono ?_
  rintro e w2 ⟨b2, ⟨n2, fs2, q2, hr, rfl, h2⟩ | ⟨hr, rfl⟩⟩
  · have HB2 := hideB (HB1.out.trans b2)
    have HF2 := hideB h2
    have HR2 := hideB hr
    clear b2 h2 hr
    go_wp2_with fail
    go_ret
    exact ⟨HB2.out, .inl ⟨n2, fs2, q2, by rw [HE.out]; exact HR2.out, rfl, HF2.out⟩⟩
  · have HB2 := hideB (HB1.out.trans b2)
    have HR2 := hideB hr
    clear b2 hr
    unfold gup
    go_wp2_with fail
    exact ⟨rfl, FrOr.no (by rw [HE.out]; exact HR2.out) HB2.out⟩
end
end Go.Proofs.YtehihemfepbmfaaGreatDoor

/-
  The program's filterReader: read.
-/
namespace Go.Proofs.YtehihemfepbmfaaGreatDoor
open Go.RowKit
set_option linter.unusedSimpArgs false
set_option linter.unusedVariables false
set_option linter.unusedSectionVars false

theorem jointHere_any {rb mb base p : Nat} {Z : Nat → Prop} {s : ByteArray} {fs : List FN} {w : World} (h : FrAt w rb mb base Z s p fs) (hs : s.size ≤ 4000) :
    Calls Tryz.prog 111 #[.pointer (some ⟨rb, 0, none⟩)] w fun e w' => e = .returned (jhV (jntF s.data.toList p)) ∧ Below w.heap.size w w' := by
  by_cases hq : p + 1 < s.size
  · exact jointHere_two h hs hq
  · exact jointHere_one h hs hq
theorem ButF.box {rb base jb : Nat} {a b : World} {cs : Array Value} {T : TypeId} {z : Nat × Nat} (h : ButF rb base a b) (hx : a.heap[jb]? = some (.cells cs T z)) (hT : T ≠ 51) (hr : jb ≠ rb) : b.heap[jb]? = some (.cells cs T z) :=
  (h.block jb (ltHF hx) hr (fun _ ⟨cs', z', e⟩ => by rw [hx] at e; simp at e; exact hT e.2.1)).trans hx
section
variable {R : RD} {f rb mb base : Nat} {s : ByteArray} (HR : RdsF R f rb mb base s) (HG : Goes s.data.toList R) (HW : WGood WPr s.data.toList)
include HR HG HW
set_option maxRecDepth 100000 in
set_option maxHeartbeats 12800000 in
theorem readF_any {least : Int} {p : Nat} {Z : Nat → Prop} {fs : List FN} {w : World} (h1 : 1 ≤ least) (h6 : least ≤ 6) (hZ : ∀ x, Z x → x < w.heap.size) (h : FrAt w rb mb base Z s p fs) (hs : s.size ≤ 1000) (hl : fs.length ≤ p) (hf : s.size ≤ p + f) :
    Calls Tryz.prog 75 #[.pointer (some ⟨rb, 0, none⟩), .int .i64 least] w (FrOr (bindF (wholeF WPr R s.data.toList fs p) fun n fs q => loopF R s.data.toList WPr (s.data.toList.length + 1) least 7 n fs q) rb mb base Z s w) := by
  obtain ⟨i1, hi1, hz1, hs1, hy1⟩ := info_parts infoI7
  have HLN := hideB (len_is s)
  have hps := h.le
  have hrbw : rb < w.heap.size := h.cells.2.2.2
  have hbw : base ≤ w.heap.size := h.box.sz
  have HWH := hideB (readWhole_any HR HG h hZ hs hl hf)
  have HZ : Hid (∀ x, Z x → x < w.heap.size) := hZ
  have HHR := hideB HR
  have HHG := hideB HG
  have HHW := hideB HW
  clear h hZ HR HG HW
  obtain ⟨r0, hr0⟩ : ∃ r0, (bindF (wholeF WPr R s.data.toList fs p) fun n fs q => loopF R s.data.toList WPr (s.data.toList.length + 1) least 7 n fs q) = r0 := ⟨_, rfl⟩
  have HR0 := hideB hr0
  rw [hr0]
  clear hr0
  go_enter Tryz.func75, Tryz.ntmps75
  go_wp2_with fail
  refine HWH.out.mono ?_
  rintro e w1 ⟨b1, ⟨n1, fs1, q1, hr, rfl, h1'⟩ | ⟨hr, rfl⟩⟩
  rotate_left
  · have HB1 := hideB b1
    have HR1 := hideB hr
    clear b1 hr
    unfold gup
    go_wp2_with fail
    exact ⟨rfl, FrOr.no (by rw [← HR0.out]; exact bindF_n HR1.out) HB1.out⟩
  have wt := whole_went HHG.out HHW.out (by rw [HLN.out]; exact hps) hr
  have wlt := wt.lt
  have wcn := wt.cnt
  have HF1 := hideB h1'
  have HB1 := hideB b1
  have HEQ1 : Hid (r0 = loopF R s.data.toList WPr (s.size + 1) least 7 n1 fs1 q1) := by rw [Hid, ← HR0.out, bindF_y hr, HLN.out]
  clear h1' b1 hr wt HR0 HWH
  go_wp2_with fail
  go_loopw [5, 6] (fun pv bv wr => ∃ (g y : Nat) (n bd : Int) (fs' : List FN), pv = .int .i64 n ∧ bv = .int .i64 bd ∧ FrAt wr rb mb base Z s y fs' ∧ ButF rb base w wr ∧ p < y ∧ fs'.length ≤ y ∧ s.size < y + g ∧ -100 ≤ bd ∧ bd ≤ 100 ∧ Hid (r0 = loopF R s.data.toList WPr g least bd n fs' y)) (fun _ _ wr => s.size + 1 - placeOf wr rb)
  case atStart => exact ⟨s.size + 1, q1, n1, 7, fs1, rfl, rfl, HF1.out, HB1.out, wlt, by omega, by omega, by omega, by omega, HEQ1.out⟩
  case round =>
    obtain ⟨g, y, n, bd, fs', rfl, rfl, hfr, hbt, hpy, hfl, hgy, hbd1, hbd2, HEQ⟩ := hrel
    have hys := hfr.le
    obtain ⟨g, rfl⟩ : ∃ g', g = g' + 1 := ⟨g - 1, by omega⟩
    have HS := hideB hfr
    have HBT := hideB hbt
    have HJH := hideB (jointHere_any hfr (by omega))
    clear hfr hbt
    cases hj : jntF s.data.toList y with
    | none =>
      rw [hj] at HJH
      have HE : Hid (r0 = some (n, fs', y)) := by rw [Hid, HEQ.out, loopF, hj]
      unfold jhV at HJH
      simp only at HJH
      clear hj
      go_wp2_with fail
      refine HJH.out.mono ?_
      rintro e w2 ⟨rfl, b2⟩
      have HF2 := hideB (HS.out.below b2)
      have hba : Below w2.heap.size w2 (w2.alloc (.cells #[.int .i64 0, .string ⟨#[]⟩, .int .i64 0, .int .i64 0, .int .i64 0] 91)) := (Below.refl _ _).alloc (Nat.le_refl _) _
      have HF3 := hideB (HF2.out.below hba)
      have HB3 := hideB ((HBT.out.trans (ButF.of_below b2)).trans (ButF.of_below hba))
      clear b2 hba
      go_wp2_with fail
      go_ret
      exact ⟨HB3.out, .inl ⟨n, fs', y, HE.out, rfl, HF3.out⟩⟩
    | some kl =>
      obtain ⟨k, len⟩ := kl
      obtain ⟨j1, j2, j3, j4⟩ := jnt_says hj
      rw [HLN.out] at j2
      rw [hj] at HJH
      have HKS : Hid (k = 6 ∨ k = 7 ∨ k = 21 ∨ k = 17 ∨ k = 18 ∨ k = 20 ∨ k = 19 ∨ k = 15 ∨ k = 16 ∨ k = 23) := jnt_kinds hj
      have HE : Hid (r0 = if levF k < least then some (n, fs', y) else if bd < lftJ k then none else bindF (eatF R s.data.toList WPr k len n fs' y) fun n fs q => loopF R s.data.toList WPr g least (levF k) n fs q) := by rw [Hid, HEQ.out, loopF, hj]; rfl
      unfold jhV at HJH
      simp only at HJH
      have hlen0 : ((len : Int) == 0) = false := by simp; omega
      have hlen1 : ¬ (len : Int) = 0 := by omega
      have hrr : (k = 23 ∧ rgtJ k = 0) ∨ (k ≠ 23 ∧ 1 ≤ rgtJ k ∧ rgtJ k ≤ 6 ∧ rgtJ k = rgtF k) := by
        rcases HKS.out with rfl | rfl | rfl | rfl | rfl | rfl | rfl | rfl | rfl | rfl <;> first | (exact .inl ⟨rfl, rfl⟩) | (exact .inr ⟨by decide, by decide, by decide, rfl⟩)
      obtain ⟨lv, hlv⟩ : ∃ l, levF k = l := ⟨_, rfl⟩
      obtain ⟨lf, hlf⟩ : ∃ l, lftJ k = l := ⟨_, rfl⟩
      obtain ⟨rg, hrg⟩ : ∃ l, rgtJ k = l := ⟨_, rfl⟩
      obtain ⟨tx, htx⟩ : ∃ t, txt (sgnJ k) = t := ⟨_, rfl⟩
      rw [hlv, hlf, hrg, htx] at HJH
      rw [hlv, hlf] at HE
      rw [hlv] at j3 j4
      rw [hrg] at hrr
      have HRR := hideB hrr
      clear hj hlv hlf hrg htx hrr
      go_wp2_with fail
      refine HJH.out.mono ?_
      rintro e w2 ⟨rfl, b2⟩
      obtain ⟨W3, hW3⟩ : ∃ W3, w2.alloc (.cells #[.int .i64 k, .string tx, .int .i64 lv, .int .i64 lf, .int .i64 rg] 91) = W3 := ⟨_, rfl⟩
      have hba : Below w2.heap.size w2 W3 := by rw [← hW3]; exact (Below.refl _ _).alloc (Nat.le_refl _) _
      have hx3 : W3.heap[w2.heap.size]? = some (.cells #[.int .i64 k, .string tx, .int .i64 lv, .int .i64 lf, .int .i64 rg] 91 (0, 0)) := by rw [← hW3]; exact heap_alloc_new w2 _
      have HF3 := hideB ((HS.out.below b2).below hba)
      have HB3 := hideB ((HBT.out.trans (ButF.of_below b2)).trans (ButF.of_below hba))
      have HX3 := hideB hx3
      have HW3 := hideB hW3
      have hne : w2.heap.size ≠ rb := by have := (HS.out.below b2).cells.2.2.2; omega
      have HNE := hideB hne
      have x0 := cellAt hx3 (i := 0) rfl
      have x2 := cellAt hx3 (i := 2) rfl
      have x3 := cellAt hx3 (i := 3) rfl
      have x4 := cellAt hx3 (i := 4) rfl
      have hzz := HB3.out.size
      clear b2 hba hx3 hW3 hne
      by_cases hlow : lv < least
      · have HE2 : Hid (r0 = some (n, fs', y)) := by rw [Hid, HE.out, if_pos hlow]
        go_wp2_with fail
        (try rw [HW3.out])
        go_ret
        exact ⟨HB3.out, .inl ⟨n, fs', y, HE2.out, rfl, HF3.out⟩⟩
      by_cases hbl : bd < lf
      · have HE2 : Hid (r0 = none) := by rw [Hid, HE.out, if_neg hlow, if_pos hbl]
        go_wp2_with fail
        (try rw [HW3.out])
        exact ⟨rfl, FrOr.no HE2.out HB3.out⟩
      have HE2 : Hid (r0 = bindF (eatF R s.data.toList WPr k len n fs' y) fun n fs q => loopF R s.data.toList WPr g least lv n fs q) := by rw [Hid, HE.out, if_neg hlow, if_neg hbl]
      clear HE
      have hZ3 : ∀ x, Z x → x < W3.heap.size := fun x hx => by have := HZ.out x hx; omega
      have HZ3 := hideB hZ3
      have e1 : ((y + len : Nat) : Int) = (y : Int) + (len : Int) := by omega
      obtain ⟨c0, c1, f1, lt0⟩ := HF3.out.cells
      have h4 := HF3.out.to (q := y + len) j2
      rw [e1] at h4
      obtain ⟨W4, hW4⟩ : ∃ W4, W3.setCell ⟨rb, 1, none⟩ (.int .i64 ((y : Int) + (len : Int))) = W4 := ⟨_, rfl⟩
      rw [hW4] at h4
      have hb4 : ButF rb base W3 W4 := by rw [← hW4]; exact ButF.of_set _ _
      have HX4 := hideB (hb4.box HX3.out (by decide) HNE.out)
      have HB4 := hideB (HB3.out.trans hb4)
      have z4 := hb4.size
      have HSK := hideB (fSkip_any h4 (by omega))
      obtain ⟨y2, hy2⟩ : ∃ y2, skF s.data.toList (y + len) = y2 := ⟨_, rfl⟩
      have hyy : y + len ≤ y2 := by rw [← hy2]; exact skF_ge _ _
      have HY2 := hideB hy2
      rw [hy2] at HSK
      have HW4 := hideB hW4
      clear h4 hb4 hZ3 e1 hy2 hW4
      go_upto_region 4 with fail
      rw [HW3.out]
      go_upto_region 9 with fail
      rw [HW4.out]
      clear x0 x2 x3 x4 c0 c1 f1 lt0
      go_upto_region 10 with (go_at_call 74; refine HSK.out.mono ?_; rintro e w5 ⟨rfl, h5, b5⟩)
      have HF5 := hideB h5
      have HB5 := hideB (HB4.out.trans b5)
      have hx5 := b5.box HX4.out (by decide) HNE.out
      have z5 := b5.size
      have hj5 := ltHF hx5
      have HZ5 : Hid (∀ x, Z x → x < w5.heap.size) := fun x hx => by have := HZ3.out x hx; omega
      obtain ⟨W6, hW6⟩ : ∃ W6, w5.alloc (.cells #[.int .i64 n] 2) = W6 := ⟨_, rfl⟩
      have hba : Below w5.heap.size w5 W6 := by rw [← hW6]; exact (Below.refl _ _).alloc (Nat.le_refl _) _
      have hx6 : W6.heap[w2.heap.size]? = _ := (hba.block _ (ltHF hx5)).trans hx5
      have HX6 := hideB hx6
      have x0 := cellAt hx6 (i := 0) rfl
      have x2 := cellAt hx6 (i := 2) rfl
      have x4 := cellAt hx6 (i := 4) rfl
      have hy2s := h5.le
      clear h5 b5 hx5 hx6
      rcases HRR.out with ⟨rfl, rfl⟩ | ⟨hk23, hr1, hr6, hrF⟩
      · have HA := hideB (addR_any HF5.out HZ5.out (by omega) 23 [n] (by simp))
        have HA2 : Hid (Calls Tryz.prog 112 #[.pointer (some ⟨rb, 0, none⟩), .agg #[.int .i64 23, .string ByteArray.empty, .int .i64 0, .slice none 0 0, .slice none 0 0, .slice none 0 0], .slice (some ⟨w5.heap.size, 0, none⟩) 1 1] W6 fun e w' => e = .returned (.int .i64 (fs'.length : Int)) ∧ FrAt w' rb mb base Z s y2 (fs' ++ [nodeR 23 [n]]) ∧ ButF rb base w5 w') := by rw [Hid, ← hW6]; exact HA.out
        have HEA : Hid (r0 = loopF R s.data.toList WPr g least lv (fs'.length : Int) (fs' ++ [nodeR 23 [n]]) y2) := by rw [Hid, HE2.out]; unfold eatF; rw [if_pos rfl, HY2.out, addF_P]; rfl
        have HW6 := hideB hW6
        clear hW6 hba HA
        go_upto_region 11 with fail
        rw [HW6.out]
        go_wp2_with fail
        refine HA2.out.mono ?_
        rintro e w7 ⟨rfl, h7, b7⟩
        have HF7 := hideB h7
        have HB7 := hideB (HB5.out.trans b7)
        have hx7 : w7.heap[w2.heap.size]? = some (.cells #[.int .i64 23, .string tx, .int .i64 lv, .int .i64 lf, .int .i64 0] 91 (0, 0)) := b7.box (by have h0 := HX6.out; rw [← HW6.out] at h0; rw [← h0]; exact (heap_alloc_old w5 _ hj5).symm) (by decide) HNE.out
        clear x0 x2 x4
        have x2 := cellAt hx7 (i := 2) rfl
        clear h7 b7 hx7
        go_wp2_with fail
        go_roundw
        case rel => exact ⟨g, y2, _, lv, _, rfl, rfl, HF7.out, HB7.out, by omega, by rw [List.length_append, List.length_singleton]; omega, by omega, by omega, by omega, HEA.out⟩
        case measure => rw [HS.out.place, HF7.out.place]; omega
      · have hlit := lit_ints w5 w5.heap.size [n] (Nat.le_refl _) (by simp)
        have hlit6 : W6.ownsRow w5.heap.size 2 1 (.slice (some ⟨w5.heap.size, 0, none⟩) 1 1) 1 [.int .i64 n] := by rw [← hW6]; exact hlit
        have HL6 := hideB hlit6
        have HF6 : Hid (FrAt W6 rb mb base (fun x => Z x ∨ x = w5.heap.size) s y2 fs') := HF5.out.fresh hba (fun x hx => by rcases hx with hx | hx; exact .inl hx; exact .inr (.inl (by omega)))
        have HB6 := hideB (HB5.out.trans (ButF.of_below hba))
        have z6 := hba.size
        have hl6 : w5.heap.size < W6.heap.size := by rw [← hW6]; simp
        have HRD := hideB (HHR.out rg (fun x => Z x ∨ x = w5.heap.size) fs' y2 W6 hr1 hr6 (fun x hx => by rcases hx with hx | hx; have := HZ5.out x hx; omega; omega) HF6.out (by omega) (by omega))
        have hrpos : (0 : Int) < rg := by omega
        have HW6 := hideB hW6
        have hbw5 : base ≤ w5.heap.size := HF5.out.box.sz
        have HRF := hideB hrF
        clear hW6 hba hlit hlit6 hrF
        go_upto_region 11 with fail
        rw [HW6.out]
        go_wp2_with fail
        refine HRD.out.mono ?_
        rintro e w7 ⟨b7, ⟨n2, fs2, q2, hr, rfl, h7⟩ | ⟨hr, rfl⟩⟩
        rotate_left
        · have HB7 := hideB (HB6.out.trans b7)
          have HR7 := hideB hr
          clear b7 hr
          unfold gup
          go_wp2_with fail
          exact ⟨rfl, FrOr.no (by rw [HE2.out]; refine bindF_n ?_; unfold eatF; rw [if_neg hk23, HY2.out, ← HRF.out]; exact bindF_n HR7.out) HB7.out⟩
        have wt := HHG.out _ _ _ _ _ _ (by rw [HLN.out]; exact hy2s) hr
        have w7lt := wt.lt
        have w7cn := wt.cnt
        have w7le := wt.le
        rw [HLN.out] at w7le
        have HR7 := hideB hr
        have HB7 := hideB (HB6.out.trans b7)
        have HF7 := hideB h7
        have HL7 := hideB (b7.own HL6.out (by decide) (by omega))
        have hx7 := b7.box HX6.out (by decide) HNE.out
        have HX7 := hideB hx7
        have z7 := b7.size
        clear x0 x2 x4 h7 b7 hr wt hx7
        go_wp2_with (at_builtin; refine wpList_append_own_at _ rfl _ _ 49 rfl w5.heap.size 2 i1 (.int .i64 0) 1 8 Tryz.underlying49 hi1 hz1 hs1 hy1 rfl (by decide) _ _ _ rfl (HL7.out.alloc _) ⟨w7.heap.size, 0, none⟩ 1 1 [.int .i64 n2] rfl rfl ?d1 ?d2 ?d3 ?d4 ?d5 ?_)
        case d1 => exact cell_one_new _ _ _
        case d2 => intro u hu; simp at hu; subst hu; rfl
        case d3 => unfold maxLen; omega
        case d4 => omega
        case d5 => simp; omega
        intro v8 w8 hown hgrow _ hat
        have hga := (World.grownBy_alloc w7 (.cells #[.int .i64 n2] 2) (Value.slice (some ⟨w5.heap.size, 0, none⟩) 1 1).ownBlock).trans hgrow
        have HF8 := hideB (HF7.out.grown HL7.out (by decide) hbw5 (fun x hx => by simp [Value.ownBlock] at hx; exact .inl (.inr hx.symm)) hga)
        have HB8 := hideB (HB7.out.grownN hga (fun x hx => by simp [Value.ownBlock] at hx; have := HB5.out.size; omega))
        have HK8 : Hid (w8.ownsRow w5.heap.size 2 1 v8 [n, n2].length ([n, n2].map (.int .i64))) := hown
        have HVB : Hid (∀ x, v8.ownBlock = some x → (x = w5.heap.size ∨ w7.heap.size ≤ x)) := fun x hx => by
          rcases hat with e | e
          · rw [e] at hx; simp [Value.ownBlock] at hx; exact .inl hx.symm
          · rw [e] at hx; simp at hx; exact .inr (by omega)
        have hx8 : w8.heap[w2.heap.size]? = some (.cells #[.int .i64 k, .string tx, .int .i64 lv, .int .i64 lf, .int .i64 rg] 91 (0, 0)) := (hga.block _ (ltHF HX7.out) (fun e => by
          have e2 : w2.heap.size = w5.heap.size := by simpa [Value.ownBlock] using e
          omega)).trans HX7.out
        have HX8 := hideB hx8
        have x0 := cellAt hx8 (i := 0) rfl
        have x2 := cellAt hx8 (i := 2) rfl
        obtain ⟨a8, c8, ev⟩ := own_sl hown
        subst ev
        have HA := hideB (frAdd_any (Z' := Z) (x := nodeR k [n, n2]) (kc := .slice none 0 0) (kn := .slice none 0 0) (ki := .slice a8 2 c8) (k0 := .slice none 0 0) HF8.out (nestNil _ _) (World.ownsRow_nil _ _ _ _) (ownB HK8.out hbw5) (fun x hx => by
          rcases hx with hx | hx | hx
          · cases hx
          · cases hx
          · rcases HVB.out x hx with e | e
            · exact .inl (.inr e)
            · exact .inr e) (fun x hx => ⟨.inl (.inl hx), fun e => by
          have h0 := HZ5.out x hx
          rcases e with e | e | e
          · cases e
          · cases e
          · rcases HVB.out x e with e | e <;> omega⟩) (by omega))
        have HEA : Hid (r0 = loopF R s.data.toList WPr g least lv (fs2.length : Int) (fs2 ++ [nodeR k [n, n2]]) q2) := by
          rw [Hid, HE2.out]
          refine bindF_y (n := (fs2.length : Int)) (fs := fs2 ++ [nodeR k [n, n2]]) (q := q2) ?_
          unfold eatF
          rw [if_neg hk23, HY2.out, ← HRF.out, bindF_y HR7.out, addF_P]
        clear hown hgrow hat hga hx8
        go_wp2_with fail
        refine HA.out.mono ?_
        rintro e w9 ⟨rfl, h9, b9⟩
        have HF9 := hideB h9
        have HB9 := hideB (HB8.out.trans b9)
        have hx9 := b9.box HX8.out (by decide) HNE.out
        clear x0 x2
        have x2 := cellAt hx9 (i := 2) rfl
        clear h9 b9 hx9
        go_wp2_with fail
        go_roundw
        case rel => exact ⟨g, q2, _, lv, _, rfl, rfl, HF9.out, HB9.out, by omega, by rw [List.length_append, List.length_singleton]; omega, by omega, by omega, by omega, HEA.out⟩
        case measure => rw [HS.out.place, HF9.out.place]; omega
end
/-- What 'read' does. -/
theorem readF_all {rb mb base : Nat} {s : ByteArray} (hs : s.size ≤ 1000) (HW : WGood WPr s.data.toList) : ∀ f, RdsF (readP WPr s.data.toList f) f rb mb base s := by
  intro f
  induction f with
  | zero =>
    intro least Z fs p w _ _ _ h _ hf
    have := h.le
    omega
  | succ f ih =>
    intro least Z fs p w h1 h6 hZ h hl hf
    rw [readP]
    exact readF_any ih (readP_goes HW f) HW h1 h6 hZ h hs hl (by omega)
end Go.Proofs.YtehihemfepbmfaaGreatDoor
