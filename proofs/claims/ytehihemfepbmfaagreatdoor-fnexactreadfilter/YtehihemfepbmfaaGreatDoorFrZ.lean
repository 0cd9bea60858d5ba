/-
  The program's filterReader: points; what stands between two signs; lists; if.
-/
import Derived.Test.YtehihemfepbmfaaGreatDoorFrSi
import Derived.Maps.AppendAt
import Derived.Test.YtehihemfepbmfaaGreatDoorIFy
namespace Go.Proofs.YtehihemfepbmfaaGreatDoor
open Go.RowKit
set_option linter.unusedSimpArgs false
set_option linter.unusedVariables false
set_option linter.unusedSectionVars false

/-- What 'read' does, for texts with less than f bytes left. -/
def RdsF (R : RD) (f rb mb base : Nat) (s : ByteArray) : Prop := ∀ (least : Int) (Z : Nat → Prop) (fs : List FN) (p : Nat) (w : World), 1 ≤ least → least ≤ 6 → (∀ x, Z x → x < w.heap.size) → FrAt w rb mb base Z s p fs → fs.length ≤ p → s.size < p + f → Calls Tryz.prog 75 #[.pointer (some ⟨rb, 0, none⟩), .int .i64 least] w (FrOr (R least fs p) rb mb base Z s w)
theorem bindF_y {a : RF} {k : Int → List FN → Nat → RF} {n : Int} {fs : List FN} {q : Nat} (h : a = some (n, fs, q)) : bindF a k = k n fs q := by rw [h]; rfl
theorem bindF_n {a : RF} {k : Int → List FN → Nat → RF} (h : a = none) : bindF a k = none := by rw [h]; rfl

set_option maxRecDepth 100000 in
set_option maxHeartbeats 3200000 in
theorem readPoint_any {rb mb base p : Nat} {Z : Nat → Prop} {s : ByteArray} {fs : List FN} {w : World} (h : FrAt w rb mb base Z s p fs) (hs : s.size ≤ 4000) (hl : fs.length ≤ 4000) (hp : p < s.size) :
    Calls Tryz.prog 144 #[.pointer (some ⟨rb, 0, none⟩)] w (FrOr (pointF WPr s.data.toList fs (p + 1)) rb mb base Z s w) := by
  have HLN := hideB (len_is s)
  obtain ⟨c0, c1, f1, lt0⟩ := h.cells
  have e1 : ((p + 1 : Nat) : Int) = (p : Int) + 1 := by omega
  have h1 := h.to (q := p + 1) hp
  rw [e1] at h1
  obtain ⟨W1, hW1⟩ : ∃ W1, w.setCell ⟨rb, 1, none⟩ (.int .i64 ((p : Int) + 1)) = W1 := ⟨_, rfl⟩
  rw [hW1] at h1
  have HF1 := hideB h1
  have HB1 : Hid (ButF rb base w W1) := by rw [Hid, ← hW1]; exact ButF.of_set _ _
  have HPK := hideB (fPeek_any h1 hs)
  obtain ⟨c, hc⟩ : ∃ c, byAt s.data.toList (p + 1) = c := ⟨_, rfl⟩
  have hc256 : c < 256 := by rw [← hc]; exact byAt_lt _ _
  have HC := hideB hc
  rw [hc] at HPK
  clear h h1 hc e1
  go_enter Tryz.func144, Tryz.ntmps144
  go_wp2_with fail
  refine HPK.out.mono ?_
  rintro e w2 ⟨rfl, h2, b2⟩
  have HF2 := hideB h2
  have HB2 := hideB (HB1.out.trans b2)
  clear h2 b2
  go_wp2_with fail
  refine (beginsPlain_any c w2 hc256).mono ?_
  rintro e w3 ⟨rfl, rfl⟩
  cases hn : letN c
  · have HLA : Hid (¬ letAt s.data.toList (p + 1) = true) := by rw [Hid]; unfold letAt; rw [HC.out, hn]; simp
    have HT := hideB (fTook_any (c := 91) HF2.out hs (by omega))
    cases hi : isAt s.data.toList (p + 1) 91
    · rw [hi] at HT
      have HE : Hid (pointF WPr s.data.toList fs (p + 1) = addF WPr (nodeK 1) fs (skF s.data.toList (p + 1))) := by rw [Hid]; unfold pointF; rw [if_neg HLA.out, if_neg (by rw [hi]; simp)]
      clear hi hn
      go_wp2_with fail
      refine HT.out.mono ?_
      rintro e w4 ⟨rfl, h4, b4⟩
      have HB4 := hideB (HB2.out.trans b4)
      have HSK := hideB (fSkip_any (p := p + 1) h4 hs)
      clear h4 b4
      go_wp2_with fail
      refine HSK.out.mono ?_
      rintro e w5 ⟨rfl, h5, b5⟩
      have HB5 := hideB (HB4.out.trans b5)
      have HA := hideB (addK_any h5 hl 1 ByteArray.empty 0)
      clear h5 b5
      go_wp2_with fail
      refine HA.out.mono ?_
      rintro e w6 ⟨rfl, h6, b6⟩
      have HF6 := hideB h6
      have HB6 := hideB (HB5.out.trans b6)
      clear h6 b6
      go_wp2_with fail
      go_ret
      exact FrOr.of HE.out (FrOr.add HF6.out HB6.out)
    · rw [hi] at HT
      have HE : Hid (pointF WPr s.data.toList fs (p + 1) = placeF WPr s.data.toList fs (skF s.data.toList (p + 1 + 1))) := by rw [Hid]; unfold pointF; rw [if_neg HLA.out, if_pos hi]
      clear hi hn
      go_wp2_with fail
      refine HT.out.mono ?_
      rintro e w4 ⟨rfl, h4, b4⟩
      have HB4 := hideB (HB2.out.trans b4)
      have HP := hideB (readPlace_any (p := skF s.data.toList (p + 1 + 1)) h4 hs hl)
      clear h4 b4
      go_wp2_with fail
      refine HP.out.mono ?_
      rintro e w5 ⟨b5, ⟨n, fs', q, hr, rfl, h5⟩ | ⟨hr, rfl⟩⟩
      · have HF5 := hideB h5
        have HR := hideB hr
        have HB5 := hideB (HB4.out.trans b5)
        clear h5 b5 hr
        go_wp2_with fail
        go_ret
        exact ⟨HB5.out, .inl ⟨n, fs', q, by rw [HE.out]; exact HR.out, rfl, HF5.out⟩⟩
      · have HR := hideB hr
        have HB5 := hideB (HB4.out.trans b5)
        clear b5 hr
        unfold gup
        go_wp2_with fail
        exact ⟨rfl, FrOr.no (by rw [HE.out]; exact HR.out) HB5.out⟩
  · have HLA : Hid (letAt s.data.toList (p + 1) = true) := by
      rw [Hid]; unfold letAt; rw [HC.out, hn, Bool.and_true, decide_eq_true_eq]
      rcases Nat.lt_or_ge (p + 1) s.data.toList.length with h | h
      · exact h
      · exfalso
        have := byAt_past h
        rw [HC.out] at this
        subst this
        revert hn; decide
    have HE : Hid (pointF WPr s.data.toList fs (p + 1) = addF WPr ⟨2, txt (nameF s.data.toList (p + 1)), 0, [], [], []⟩ fs (skF s.data.toList (nmJ s.data.toList (p + 1)))) := by rw [Hid]; unfold pointF; rw [if_pos HLA.out]
    have HN := hideB (readName_any HF2.out hs)
    obtain ⟨T, hT⟩ : ∃ T, txt (nameF s.data.toList (p + 1)) = T := ⟨_, rfl⟩
    rw [hT] at HN HE
    clear hn hT
    go_wp2_with fail
    refine HN.out.mono ?_
    rintro e w4 ⟨rfl, h4, b4⟩
    have HB4 := hideB (HB2.out.trans b4)
    have HA := hideB (addK_any h4 hl 2 T 0)
    clear h4 b4
    go_wp2_with fail
    refine HA.out.mono ?_
    rintro e w6 ⟨rfl, h6, b6⟩
    have HF6 := hideB h6
    have HB6 := hideB (HB4.out.trans b6)
    clear h6 b6
    go_wp2_with fail
    go_ret
    exact FrOr.of HE.out (FrOr.add HF6.out HB6.out)

section
variable {R : RD} {f rb mb base : Nat} {s : ByteArray} (HR : RdsF R f rb mb base s) (HG : Goes s.data.toList R)
include HR HG
set_option maxRecDepth 100000 in
set_option maxHeartbeats 3200000 in
theorem readAround_any {p : Nat} {Z : Nat → Prop} {fs : List FN} {w : World} (h : FrAt w rb mb base Z s p fs) (hZ : ∀ x, Z x → x < w.heap.size) (hs : s.size ≤ 4000) (hl : fs.length ≤ p) (hf : s.size ≤ p + f) :
    Calls Tryz.prog 145 #[.pointer (some ⟨rb, 0, none⟩), .int .u8 40, .int .u8 41] w (FrOr (mustF s.data.toList p 40 fun q => aroundF R s.data.toList 41 fs q) rb mb base Z s w) := by
  have HM := hideB (fMust_any (c := 40) h hs (by omega))
  have HZ : Hid (∀ x, Z x → x < w.heap.size) := hZ
  have HHR := hideB HR
  have HHG := hideB HG
  clear h hZ HR HG
  go_enter Tryz.func145, Tryz.ntmps145
  go_wp2_with fail
  refine HM.out.mono ?_
  rintro e w1 ⟨b1, ⟨hi, rfl, h1⟩ | ⟨hi, rfl⟩⟩
  rotate_left
  · have HB1 := hideB b1
    have HI := hideB hi
    clear b1 hi
    unfold gup
    go_wp2_with fail
    exact ⟨rfl, FrOr.no (mustF_n HI.out) HB1.out⟩
  obtain ⟨q, hq⟩ : ∃ q, skF s.data.toList (p + 1) = q := ⟨_, rfl⟩
  have HQ := hideB hq
  have hpq : p + 1 ≤ q := by rw [← hq]; exact skF_ge _ _
  have HB1 := hideB b1
  have HI := hideB hi
  rw [hq] at h1
  have HRD := hideB (HHR.out 1 Z fs q w1 (by decide) (by decide) (fun x hx => Nat.lt_of_lt_of_le (HZ.out x hx) b1.size) h1 (by omega) (by omega))
  clear h1 b1 hi hq
  go_wp2_with fail
  refine HRD.out.mono ?_
  rintro e w2 ⟨b2, ⟨n, fs', q2, hr, rfl, h2⟩ | ⟨hr, rfl⟩⟩
  rotate_left
  · have HB2 := hideB (HB1.out.trans b2)
    have HRR := hideB hr
    clear b2 hr
    unfold gup
    go_wp2_with fail
    exact ⟨rfl, FrOr.no (by rw [mustF_y HI.out, HQ.out]; exact bindF_n HRR.out) HB2.out⟩
  have HB2 := hideB (HB1.out.trans b2)
  have HRR := hideB hr
  have HM2 := hideB (fMust_any (c := 41) h2 hs (by omega))
  clear h2 b2 hr
  go_wp2_with fail
  refine HM2.out.mono ?_
  rintro e w3 ⟨b3, ⟨hi, rfl, h3⟩ | ⟨hi, rfl⟩⟩
  rotate_left
  · have HB3 := hideB (HB2.out.trans b3)
    have HI3 := hideB hi
    clear b3 hi
    unfold gup
    go_wp2_with fail
    exact ⟨rfl, FrOr.no (by rw [mustF_y HI.out, HQ.out]; show aroundF R s.data.toList 41 fs q = none; unfold aroundF; rw [bindF_y HRR.out, mustF_n HI3.out]) HB3.out⟩
  have HB3 := hideB (HB2.out.trans b3)
  have HF3 := hideB h3
  have HI3 := hideB hi
  clear b3 hi h3
  go_wp2_with fail
  go_ret
  exact ⟨HB3.out, .inl ⟨n, fs', _, by rw [mustF_y HI.out, HQ.out]; show aroundF R s.data.toList 41 fs q = _; unfold aroundF; rw [bindF_y HRR.out, mustF_y HI3.out], rfl, HF3.out⟩⟩
set_option maxRecDepth 100000 in
set_option maxHeartbeats 3200000 in
theorem readFList_any {p : Nat} {Z : Nat → Prop} {fs : List FN} {w : World} (h : FrAt w rb mb base Z s p fs) (hZ : ∀ x, Z x → x < w.heap.size) (hs : s.size ≤ 1000) (hl : fs.length ≤ p) (hf : s.size ≤ p + f) (hi : isAt s.data.toList p 91 = true) :
    Calls Tryz.prog 146 #[.pointer (some ⟨rb, 0, none⟩)] w (FrOr (listF WPr R s.data.toList fs (skF s.data.toList (p + 1))) rb mb base Z s w) := by
  have HLN := hideB (len_is s)
  have hps : p < s.size := by rw [← HLN.out]; exact (isAt_yes.1 hi).1
  have HM := hideB (fMust_any (c := 91) h (by omega) (by omega))
  have HZ : Hid (∀ x, Z x → x < w.heap.size) := hZ
  have HHR := hideB HR
  have HHG := hideB HG
  have HI := hideB hi
  clear h hZ HR HG hi
  obtain ⟨q, hq⟩ : ∃ q, skF s.data.toList (p + 1) = q := ⟨_, rfl⟩
  have hpq : p + 1 ≤ q := by rw [← hq]; exact skF_ge _ _
  have hql : q ≤ s.size := by rw [← hq, ← HLN.out]; exact skF_le (by rw [HLN.out]; omega)
  rw [hq] at HM ⊢
  clear hq
  go_enter Tryz.func146, Tryz.ntmps146
  go_wp2_with fail
  refine HM.out.mono ?_
  rintro e w1 ⟨b1, ⟨hi, rfl, h1⟩ | ⟨hi, rfl⟩⟩
  rotate_left
  · exfalso; rw [HI.out] at hi; cases hi
  have HB1 := hideB b1
  have HT := hideB (fTook_any (c := 93) h1 (by omega) (by omega))
  have HZ1 : Hid (∀ x, Z x → x < w1.heap.size) := fun x hx => Nat.lt_of_lt_of_le (HZ.out x hx) b1.size
  clear h1 b1 hi
  cases h93 : isAt s.data.toList q 93
  · rw [h93] at HT
    have HE : Hid (listF WPr R s.data.toList fs q = bindF (R 1 fs q) fun n fs q => mustF s.data.toList q 93 fun q => addF WPr (nodeR 8 [n]) fs q) := by rw [Hid]; unfold listF; rw [if_neg (by rw [h93]; simp)]
    clear h93
    go_wp2_with fail
    refine HT.out.mono ?_
    rintro e w2 ⟨rfl, h2, b2⟩
    have HB2 := hideB (HB1.out.trans b2)
    have HZ2 : Hid (∀ x, Z x → x < w2.heap.size) := fun x hx => Nat.lt_of_lt_of_le (HZ1.out x hx) b2.size
    have HRD := hideB (HHR.out 1 Z fs q w2 (by decide) (by decide) HZ2.out h2 (by omega) (by omega))
    clear h2 b2
    go_wp2_with fail
    refine HRD.out.mono ?_
    rintro e w3 ⟨b3, ⟨n, fs', q2, hr, rfl, h3⟩ | ⟨hr, rfl⟩⟩
    rotate_left
    · have HB3 := hideB (HB2.out.trans b3)
      have HRR := hideB hr
      clear b3 hr
      unfold gup
      go_wp2_with fail
      exact ⟨rfl, FrOr.no (by rw [HE.out]; exact bindF_n HRR.out) HB3.out⟩
    have HB3 := hideB (HB2.out.trans b3)
    have wt := HHG.out 1 fs q n fs' q2 (by rw [HLN.out]; exact hql) hr
    have hcnt := wt.cnt
    have hle := wt.le
    rw [HLN.out] at hle
    have HRR := hideB hr
    have HM2 := hideB (fMust_any (c := 93) h3 (by omega) (by omega))
    have HZ3 : Hid (∀ x, Z x → x < w3.heap.size) := fun x hx => Nat.lt_of_lt_of_le (HZ2.out x hx) b3.size
    clear h3 b3 hr wt
    go_wp2_with fail
    refine HM2.out.mono ?_
    rintro e w4 ⟨b4, ⟨hi, rfl, h4⟩ | ⟨hi, rfl⟩⟩
    rotate_left
    · have HB4 := hideB (HB3.out.trans b4)
      have HI4 := hideB hi
      clear b4 hi
      unfold gup
      go_wp2_with fail
      exact ⟨rfl, FrOr.no (by rw [HE.out, bindF_y HRR.out, mustF_n HI4.out]) HB4.out⟩
    have HB4 := hideB (HB3.out.trans b4)
    have HI4 := hideB hi
    have HA := hideB (addR_any h4 (fun x hx => Nat.lt_of_lt_of_le (HZ3.out x hx) b4.size) (by omega) 8 [n] (by simp))
    clear b4 hi h4
    go_wp2_with fail
    refine HA.out.mono ?_
    rintro e w6 ⟨rfl, h6, b6⟩
    have HF6 := hideB h6
    have HB6 := hideB (HB4.out.trans b6)
    clear h6 b6
    go_wp2_with fail
    go_ret
    exact FrOr.of (by rw [HE.out, bindF_y HRR.out, mustF_y HI4.out]) (FrOr.add HF6.out HB6.out)
  · rw [h93] at HT
    have HE : Hid (listF WPr R s.data.toList fs q = addF WPr (nodeK 8) fs (skF s.data.toList (q + 1))) := by rw [Hid]; unfold listF; rw [if_pos h93]
    clear h93
    go_wp2_with fail
    refine HT.out.mono ?_
    rintro e w2 ⟨rfl, h2, b2⟩
    have HB2 := hideB (HB1.out.trans b2)
    have HA := hideB (addK_any h2 (by omega) 8 ByteArray.empty 0)
    clear h2 b2
    go_wp2_with fail
    refine HA.out.mono ?_
    rintro e w6 ⟨rfl, h6, b6⟩
    have HF6 := hideB h6
    have HB6 := hideB (HB2.out.trans b6)
    clear h6 b6
    go_wp2_with fail
    go_ret
    exact FrOr.of HE.out (FrOr.add HF6.out HB6.out)
end
end Go.Proofs.YtehihemfepbmfaaGreatDoor

/-
  The program's filterReader: if; maps.
-/
namespace Go.Proofs.YtehihemfepbmfaaGreatDoor
open Go.RowKit
set_option linter.unusedSimpArgs false
set_option linter.unusedVariables false
set_option linter.unusedSectionVars false
theorem infoS7 : (Tryz.prog.info? 9).map (fun i => (i.zero, i.size, i.bytes)) = some (some (.string ByteArray.empty), 1, 16) := by kernel_rfl
theorem infoI7 : (Tryz.prog.info? 2).map (fun i => (i.zero, i.size, i.bytes)) = some (some (.int .i64 0), 1, 8) := by kernel_rfl
theorem wordF_y {L : List UInt8} {w : List UInt8} {q : Nat} {k : Nat → RF} (h : nameF L q = w) : wordF L w q k = k (skF L (nmJ L q)) := by unfold wordF; rw [if_pos h]
theorem wordF_n {L : List UInt8} {w : List UInt8} {q : Nat} {k : Nat → RF} (h : nameF L q ≠ w) : wordF L w q k = none := by unfold wordF; rw [if_neg h]

section
variable {R : RD} {f rb mb base : Nat} {s : ByteArray} (HR : RdsF R f rb mb base s) (HG : Goes s.data.toList R)
include HR HG
set_option maxRecDepth 100000 in
set_option maxHeartbeats 3200000 in
theorem readIf_any {p : Nat} {Z : Nat → Prop} {fs : List FN} {w : World} (h : FrAt w rb mb base Z s p fs) (hZ : ∀ x, Z x → x < w.heap.size) (hs : s.size ≤ 1000) (hl : fs.length ≤ p) (hf : s.size < p + f) :
    Calls Tryz.prog 180 #[.pointer (some ⟨rb, 0, none⟩)] w (FrOr (ifF WPr R s.data.toList fs p) rb mb base Z s w) := by
  have HLN := hideB (len_is s)
  have hps := h.le
  have HHR := hideB HR
  have HHG := hideB HG
  have HRD := hideB (HR 1 Z fs p w (by decide) (by decide) hZ h hl hf)
  have HZ : Hid (∀ x, Z x → x < w.heap.size) := hZ
  clear h hZ HR HG
  go_enter Tryz.func180, Tryz.ntmps180
  go_wp2_with fail
  refine HRD.out.mono ?_
  rintro e w1 ⟨b1, ⟨a, fs1, q1, hr, rfl, h1⟩ | ⟨hr, rfl⟩⟩
  rotate_left
  · have HB1 := hideB b1
    have HR1 := hideB hr
    clear b1 hr
    unfold gup
    go_wp2_with fail
    exact ⟨rfl, FrOr.no (by unfold ifF; exact bindF_n HR1.out) HB1.out⟩
  have HB1 := hideB b1
  have HR1 := hideB hr
  have wt := HHG.out _ _ _ _ _ _ (by rw [HLN.out]; exact hps) hr
  have w1lt := wt.lt
  have w1cn := wt.cnt
  have HM := hideB (mustWord_any (u := ⟨#[116, 104, 101, 110]⟩) h1 (by omega))
  have HZ1 : Hid (∀ x, Z x → x < w1.heap.size) := fun x hx => Nat.lt_of_lt_of_le (HZ.out x hx) b1.size
  clear h1 b1 hr wt
  go_wp2_with fail
  refine HM.out.mono ?_
  rintro e w2 ⟨b2, ⟨hi, rfl, h2⟩ | ⟨hi, rfl⟩⟩
  rotate_left
  · have HB2 := hideB (HB1.out.trans b2)
    have HI2 := hideB hi
    clear b2 hi
    unfold gup
    go_wp2_with fail
    exact ⟨rfl, FrOr.no (by unfold ifF; rw [bindF_y HR1.out]; exact wordF_n HI2.out) HB2.out⟩
  have HB2 := hideB (HB1.out.trans b2)
  have HI2 := hideB hi
  obtain ⟨q2, hq2⟩ : ∃ q, skF s.data.toList (nmJ s.data.toList q1) = q := ⟨_, rfl⟩
  have HQ2 := hideB hq2
  have hq12 : q1 ≤ q2 := by rw [← hq2]; exact Nat.le_trans (runJ_ge _ _ _) (skF_ge _ _)
  rw [hq2] at h2
  have hle2 := h2.le
  have HZ2 : Hid (∀ x, Z x → x < w2.heap.size) := fun x hx => Nat.lt_of_lt_of_le (HZ1.out x hx) b2.size
  have HRD2 := hideB (HHR.out 1 Z fs1 q2 w2 (by decide) (by decide) HZ2.out h2 (by omega) (by omega))
  clear h2 b2 hi hq2
  go_wp2_with fail
  refine HRD2.out.mono ?_
  rintro e w3 ⟨b3, ⟨b, fs3, q3, hr, rfl, h3⟩ | ⟨hr, rfl⟩⟩
  rotate_left
  · have HB3 := hideB (HB2.out.trans b3)
    have HR3 := hideB hr
    clear b3 hr
    unfold gup
    go_wp2_with fail
    exact ⟨rfl, FrOr.no (by unfold ifF; rw [bindF_y HR1.out]; refine (wordF_y HI2.out).trans ?_; rw [HQ2.out]; exact bindF_n HR3.out) HB3.out⟩
  have HB3 := hideB (HB2.out.trans b3)
  have HR3 := hideB hr
  have wt := HHG.out _ _ _ _ _ _ (by rw [HLN.out]; exact hle2) hr
  have w3lt := wt.lt
  have w3cn := wt.cnt
  have HM2 := hideB (mustWord_any (u := ⟨#[101, 108, 115, 101]⟩) h3 (by omega))
  have HZ3 : Hid (∀ x, Z x → x < w3.heap.size) := fun x hx => Nat.lt_of_lt_of_le (HZ2.out x hx) b3.size
  clear h3 b3 hr wt
  go_wp2_with fail
  refine HM2.out.mono ?_
  rintro e w4 ⟨b4, ⟨hi, rfl, h4⟩ | ⟨hi, rfl⟩⟩
  rotate_left
  · have HB4 := hideB (HB3.out.trans b4)
    have HI4 := hideB hi
    clear b4 hi
    unfold gup
    go_wp2_with fail
    exact ⟨rfl, FrOr.no (by unfold ifF; rw [bindF_y HR1.out]; refine (wordF_y HI2.out).trans ?_; rw [HQ2.out, bindF_y HR3.out]; exact wordF_n HI4.out) HB4.out⟩
  have HB4 := hideB (HB3.out.trans b4)
  have HI4 := hideB hi
  obtain ⟨q4, hq4⟩ : ∃ q, skF s.data.toList (nmJ s.data.toList q3) = q := ⟨_, rfl⟩
  have HQ4 := hideB hq4
  have hq34 : q3 ≤ q4 := by rw [← hq4]; exact Nat.le_trans (runJ_ge _ _ _) (skF_ge _ _)
  rw [hq4] at h4
  have hle4 := h4.le
  have HZ4 : Hid (∀ x, Z x → x < w4.heap.size) := fun x hx => Nat.lt_of_lt_of_le (HZ3.out x hx) b4.size
  have HRD4 := hideB (HHR.out 1 Z fs3 q4 w4 (by decide) (by decide) HZ4.out h4 (by omega) (by omega))
  clear h4 b4 hi hq4
  go_wp2_with fail
  refine HRD4.out.mono ?_
  rintro e w5 ⟨b5, ⟨c, fs5, q5, hr, rfl, h5⟩ | ⟨hr, rfl⟩⟩
  rotate_left
  · have HB5 := hideB (HB4.out.trans b5)
    have HR5 := hideB hr
    clear b5 hr
    unfold gup
    go_wp2_with fail
    exact ⟨rfl, FrOr.no (by unfold ifF; rw [bindF_y HR1.out]; refine (wordF_y HI2.out).trans ?_; rw [HQ2.out, bindF_y HR3.out]; refine (wordF_y HI4.out).trans ?_; rw [HQ4.out]; exact bindF_n HR5.out) HB5.out⟩
  have HB5 := hideB (HB4.out.trans b5)
  have HR5 := hideB hr
  have wt := HHG.out _ _ _ _ _ _ (by rw [HLN.out]; exact hle4) hr
  have w5lt := wt.lt
  have w5cn := wt.cnt
  have w5le := wt.le
  rw [HLN.out] at w5le
  have HM3 := hideB (mustWord_any (u := ⟨#[101, 110, 100]⟩) h5 (by omega))
  have HZ5 : Hid (∀ x, Z x → x < w5.heap.size) := fun x hx => Nat.lt_of_lt_of_le (HZ4.out x hx) b5.size
  clear h5 b5 hr wt
  go_wp2_with fail
  refine HM3.out.mono ?_
  rintro e w6 ⟨b6, ⟨hi, rfl, h6⟩ | ⟨hi, rfl⟩⟩
  rotate_left
  · have HB6 := hideB (HB5.out.trans b6)
    have HI6 := hideB hi
    clear b6 hi
    unfold gup
    go_wp2_with fail
    exact ⟨rfl, FrOr.no (by unfold ifF; rw [bindF_y HR1.out]; refine (wordF_y HI2.out).trans ?_; rw [HQ2.out, bindF_y HR3.out]; refine (wordF_y HI4.out).trans ?_; rw [HQ4.out, bindF_y HR5.out]; exact wordF_n HI6.out) HB6.out⟩
  have HB6 := hideB (HB5.out.trans b6)
  have HI6 := hideB hi
  have HA := hideB (addR_any h6 (fun x hx => Nat.lt_of_lt_of_le (HZ5.out x hx) b6.size) (by omega) 22 [a, b, c] (by simp))
  clear h6 b6 hi
  go_wp2_with fail
  refine HA.out.mono ?_
  rintro e w7 ⟨rfl, h7, b7⟩
  have HF7 := hideB h7
  have HB7 := hideB (HB6.out.trans b7)
  clear h7 b7
  go_wp2_with fail
  go_ret
  exact FrOr.of (by unfold ifF; rw [bindF_y HR1.out]; refine (wordF_y HI2.out).trans ?_; rw [HQ2.out, bindF_y HR3.out]; refine (wordF_y HI4.out).trans ?_; rw [HQ4.out, bindF_y HR5.out]; exact wordF_y HI6.out) (FrOr.add HF7.out HB7.out)
end
end Go.Proofs.YtehihemfepbmfaaGreatDoor

/-
  The program's filterReader: maps.
-/
namespace Go.Proofs.YtehihemfepbmfaaGreatDoor
open Go.RowKit
set_option linter.unusedSimpArgs false
set_option linter.unusedVariables false
set_option linter.unusedSectionVars false

/-- A row that is new since w has grown. -/
theorem ButF.grownN {rb base : Nat} {w a b : World} {row : Option Nat} (h : ButF rb base w a) (hg : a.grownBy b row) (hr : ∀ x, row = some x → w.heap.size ≤ x) : ButF rb base w b :=
  ⟨hg.os.trans h.os, hg.tape.trans h.tape, hg.output.trans h.output, Nat.le_trans h.size hg.size, fun x hx hn ht => (hg.block x (Nat.lt_of_lt_of_le hx h.size) (fun e => by have := hr x e.symm; omega)).trans (h.block x hx hn ht)⟩
/-- .. and the reader stands. -/
theorem FrAt.grown {a b : World} {rb mb base b0 e0 s0 n0 : Nat} {Z : Nat → Prop} {s : ByteArray} {p : Nat} {fs : List FN} {v : Value} {xs : List Value} (h : FrAt a rb mb base Z s p fs) (hv : a.ownsRow b0 e0 s0 v n0 xs) (he : 51 ≠ e0) (hb : base ≤ b0) (hZ : ∀ x, v.ownBlock = some x → Z x ∨ a.heap.size ≤ x) (hg : a.grownBy b v.ownBlock) : FrAt b rb mb base (fun x => Z x ∨ a.heap.size ≤ x) s p fs := by
  have hrow : ∀ x, v.ownBlock = some x → base ≤ x := fun x hx => Nat.le_trans hb (hv.lt x hx).1
  have hbl : ∀ x, x < base → x < a.heap.size → b.heap[x]? = a.heap[x]? := fun x hx hxa => hg.block x hxa (fun e => by have := hrow x e.symm; omega)
  have bx := h.box
  have r1 := bx.rb_lt
  have r2 := bx.mb_lt
  have r3 := bx.sz
  obtain ⟨u, hs, C, N, I, hN, hS⟩ := h.ex
  refine ⟨⟨(hbl mb r2 (by omega)).trans bx.mp, bx.tb.next ⟨hg.os, hg.tape, hg.output, hg.size, fun x hx => hbl x (by omega) (by omega)⟩, r1, r2, bx.ne, Nat.le_trans r3 hg.size⟩, u, hs.keep (hbl rb r1 (by omega)) hg.size, C, N, I, hN.keep (fun x hx => hg.block x (hN.row.lt x hx).2 (fun e => ?_)) (fun x hx => hg.block x (hN.sub hx).2 (fun e => ?_)), fun x hx hz => ?_⟩
  · rcases own_apart hN.row hv he with e2 | e2
    · rw [hx] at e2; cases e2
    · exact e2 (hx.trans e)
  · rcases hZ x e.symm with h1 | h1
    · exact hS x hx h1
    · have := (hN.sub hx).2; omega
  · rcases hz with h1 | h1
    · exact hS x hx h1
    · have := (hN.sub hx).2; omega
section
variable {R : RD} {f rb mb base : Nat} {s : ByteArray} (HR : RdsF R f rb mb base s) (HG : Goes s.data.toList R)
include HR HG
set_option maxRecDepth 100000 in
set_option maxHeartbeats 6400000 in
theorem readFMap_any {p : Nat} {Z : Nat → Prop} {fs : List FN} {w : World} (h : FrAt w rb mb base Z s p fs) (hZ : ∀ x, Z x → x < w.heap.size) (hs : s.size ≤ 1000) (hl : fs.length ≤ p) (hf : s.size ≤ p + f) (hi : isAt s.data.toList p 123 = true) :
    Calls Tryz.prog 147 #[.pointer (some ⟨rb, 0, none⟩)] w (FrOr (mapF WPr R s.data.toList fs (skF s.data.toList (p + 1))) rb mb base Z s w) := by
  obtain ⟨i1, hi1, hz1, hs1, hy1⟩ := info_parts infoI7
  obtain ⟨j1, hj1, hzj, hsj, hyj⟩ := info_parts infoS7
  have HLN := hideB (len_is s)
  have hps : p < s.size := by rw [← HLN.out]; exact (isAt_yes.1 hi).1
  have HM := hideB (fMust_any (c := 123) h (by omega) (by omega))
  have HZ : Hid (∀ x, Z x → x < w.heap.size) := hZ
  have HHR := hideB HR
  have HHG := hideB HG
  have HI := hideB hi
  have hrb : rb < w.heap.size := h.cells.2.2.2
  have hbw : base ≤ w.heap.size := h.box.sz
  clear h hZ HR HG hi
  obtain ⟨q, hq⟩ : ∃ q, skF s.data.toList (p + 1) = q := ⟨_, rfl⟩
  have hpq : p + 1 ≤ q := by rw [← hq]; exact skF_ge _ _
  have hql : q ≤ s.size := by rw [← hq, ← HLN.out]; exact skF_le (by rw [HLN.out]; omega)
  rw [hq] at HM ⊢
  clear hq
  go_enter Tryz.func147, Tryz.ntmps147
  go_wp2_with fail
  refine HM.out.mono ?_
  rintro e w1 ⟨b1, ⟨hi, rfl, h1⟩ | ⟨hi, rfl⟩⟩
  rotate_left
  · exfalso; rw [HI.out] at hi; cases hi
  have HB1 := hideB b1
  have HT := hideB (fTook_any (c := 125) h1 (by omega) (by omega))
  clear h1 b1 hi
  cases h125 : isAt s.data.toList q 125
  rotate_left
  · rw [h125] at HT
    have HE : Hid (mapF WPr R s.data.toList fs q = addF WPr (nodeK 9) fs (skF s.data.toList (q + 1))) := by rw [Hid]; unfold mapF; rw [if_pos h125]
    clear h125
    go_wp2_with fail
    refine HT.out.mono ?_
    rintro e w2 ⟨rfl, h2, b2⟩
    have HB2 := hideB (HB1.out.trans b2)
    have HA := hideB (addK_any h2 (by omega) 9 ByteArray.empty 0)
    clear h2 b2
    go_wp2_with fail
    refine HA.out.mono ?_
    rintro e w6 ⟨rfl, h6, b6⟩
    have HF6 := hideB h6
    have HB6 := hideB (HB2.out.trans b6)
    clear h6 b6
    go_wp2_with fail
    go_ret
    exact FrOr.of HE.out (FrOr.add HF6.out HB6.out)
  rw [h125] at HT
  have HE : Hid (mapF WPr R s.data.toList fs q = rowsF WPr R s.data.toList (s.size + 1) [] [] fs q) := by rw [Hid]; unfold mapF; rw [if_neg (by rw [h125]; simp), HLN.out]
  clear h125
  go_wp2_with fail
  refine HT.out.mono ?_
  rintro e w2 ⟨rfl, h2, b2⟩
  have HF2 := hideB h2
  have HB2 := hideB (HB1.out.trans b2)
  clear h2 b2
  go_wp2_with fail
  go_loopw [3, 4] (fun kv it wr => ∃ (g y : Nat) (names : List ByteArray) (kids : List Int) (fs' : List FN), names.length + g = s.size + 1 ∧ names.length + (p + 1) ≤ y ∧ kids.length = names.length ∧ fs'.length ≤ y ∧ FrAt wr rb mb base (fun x => Z x ∨ kv.ownBlock = some x ∨ it.ownBlock = some x) s y fs' ∧ ButF rb base w wr ∧ wr.ownsRow w.heap.size 9 1 kv names.length (names.map .string) ∧ wr.ownsRow w.heap.size 2 1 it kids.length (kids.map (.int .i64)) ∧ Hid (mapF WPr R s.data.toList fs q = rowsF WPr R s.data.toList g names kids fs' y)) (fun _ _ wr => s.size + 1 - placeOf wr rb)
  case atStart => exact ⟨s.size + 1, q, [], [], fs, by simp, by simpa using hpq, rfl, by omega, HF2.out.more (fun x hx => by rcases hx with hx | hx | hx; exact .inl hx; cases hx; cases hx), HB2.out, World.ownsRow_nil _ _ _ _, World.ownsRow_nil _ _ _ _, HE.out⟩
  case round =>
    obtain ⟨g, y, names, kids, fs', hng, hny, hkl, hfl, hfr, hbt, hrn, hrk, HEQ⟩ := hrel
    have hys := hfr.le
    obtain ⟨g, rfl⟩ : ∃ g', g = g' + 1 := ⟨g - 1, by omega⟩
    have HS := hideIt hfr
    have HBT := hideIt hbt
    have HRN := hideIt hrn
    have HRK := hideIt hrk
    have zr := hbt.size
    obtain ⟨ak, ck, ek⟩ := own_sl hrn
    obtain ⟨ai, ci, ei⟩ := own_sl hrk
    obtain ⟨k, hlen⟩ : ∃ k, names.length = k := ⟨_, rfl⟩
    have HKL : Hid (kids.length = k) := by rw [Hid, hkl, hlen]
    rw [hkl, hlen] at ei
    rw [hlen] at ek hng hny hkl
    have HLEN := hideIt hlen
    subst ek ei
    have HNM := hideIt (readName_any hfr (by omega))
    have hnmle : nmJ s.data.toList y ≤ s.size := by rw [← HLN.out]; exact nm_le (by rw [HLN.out]; exact hys)
    have hnmge : y ≤ nmJ s.data.toList y := runJ_ge _ _ _
    obtain ⟨z, hz⟩ : ∃ z, txt (nameF s.data.toList y) = z := ⟨_, rfl⟩
    have HZZ := hideIt hz
    obtain ⟨y1, hy1'⟩ : ∃ y1, skF s.data.toList (nmJ s.data.toList y) = y1 := ⟨_, rfl⟩
    have hy1l : y ≤ y1 := by rw [← hy1']; exact Nat.le_trans hnmge (skF_ge _ _)
    have HY1 := hideIt hy1'
    rw [hz, hy1'] at HNM
    clear hfr hbt hrn hrk hlen hkl hz hy1' hnmle hnmge
    go_wp2_with fail
    refine HNM.out.mono ?_
    rintro e w3 ⟨rfl, h3, b3⟩
    have hrn3 := b3.own HRN.out (by decide) hrb
    have hrk3 := b3.own HRK.out (by decide) hrb
    have HB3 := hideIt (HBT.out.trans b3)
    have z3 := HB3.out.size
    have HF3 := hideIt h3
    have HK3 := hideIt hrk3
    have HRO : Hid (w3.ownsRow w.heap.size 9 1 (.slice ak k ck) k (names.map Value.string)) := by rw [HLEN.out] at hrn3; exact hrn3
    clear h3 b3 hrn3 hrk3
    go_wp2_with (at_builtin; refine wpList_append_own_at _ rfl _ _ 48 rfl w.heap.size 9 j1 (.string ByteArray.empty) 1 16 Tryz.underlying48 hj1 hzj hsj hyj rfl (by decide) _ _ _ rfl (HRO.out.alloc _) ⟨w3.heap.size, 0, none⟩ 1 1 [.string z] rfl rfl ?c1 ?c2 ?c3 ?c4 ?c5 ?_)
    case c1 => exact cell_one_new _ _ _
    case c2 => intro u hu; simp at hu; subst hu; rfl
    case c3 => unfold maxLen; omega
    case c4 => omega
    case c5 => simp; omega
    intro v' w5 hown hgrow _ hat
    have hga := (World.grownBy_alloc w3 (.cells #[.string z] 9) (Value.slice ak k ck).ownBlock).trans hgrow
    have HF5 := hideIt (HF3.out.grown HRO.out (by decide) hbw (fun x hx => .inl (.inr (.inl hx))) hga)
    have HB5 := hideIt (HB3.out.grownN hga (fun x hx => (HRO.out.lt x hx).1))
    have HK5 := hideIt (HK3.out.kept hga (own_apart HK3.out HRO.out (by decide)))
    have HN5 : Hid (w5.ownsRow w.heap.size 9 1 v' (names ++ [z]).length ((names ++ [z]).map .string)) := by rw [Hid, List.length_append, List.length_singleton, HLEN.out, List.map_append]; exact hown
    have HVB : Hid (∀ x, v'.ownBlock = some x → ((Value.slice ak k ck).ownBlock = some x ∨ w3.heap.size ≤ x)) := fun x hx => by
      rcases hat with e | e
      · exact .inl (by rw [← e]; exact hx)
      · rw [e] at hx; simp at hx; exact .inr (by omega)
    have z5 := HB5.out.size
    obtain ⟨av, cv, ev⟩ := own_sl hown
    subst ev
    clear hown hgrow hat hga
    have HF5' : Hid (FrAt w5 rb mb base (fun x => Z x ∨ (Value.slice av (k + 1) cv).ownBlock = some x ∨ (Value.slice ai k ci).ownBlock = some x) s y1 fs') := HF5.out.more (fun x hx => by
      rcases hx with hx | hx | hx
      · exact .inl (.inl (.inl hx))
      · rcases HVB.out x hx with h | h
        · exact .inl (.inl (.inr (.inl h)))
        · exact .inl (.inr h)
      · exact .inl (.inl (.inr (.inr hx))))
    have HM5 := hideIt (fMust_any (c := 58) HF5'.out (by omega) (by omega))
    go_wp2_with fail
    refine HM5.out.mono ?_
    rintro e w6 ⟨b6, ⟨hi6, rfl, h6⟩ | ⟨hi6, rfl⟩⟩
    rotate_left
    · have HB6 := hideB (HB5.out.trans b6)
      have HI6 := hideB hi6
      clear b6 hi6
      unfold gup
      go_wp2_with fail
      exact ⟨rfl, FrOr.no (by rw [HEQ.out, rowsF, show WPr.nam s.data.toList y = nmJ s.data.toList y from rfl, HY1.out]; exact mustF_n HI6.out) HB6.out⟩
    have HB6 := hideB (HB5.out.trans b6)
    have HI6 := hideB hi6
    have HN6 := hideB (b6.own HN5.out (by decide) hrb)
    have HK6 := hideB (b6.own HK5.out (by decide) hrb)
    have z6 := HB6.out.size
    obtain ⟨y2, hy2⟩ : ∃ y2, skF s.data.toList (y1 + 1) = y2 := ⟨_, rfl⟩
    have hy2l : y1 + 1 ≤ y2 := by rw [← hy2]; exact skF_ge _ _
    have HY2 := hideIt hy2
    rw [hy2] at h6
    have hy2s := h6.le
    have HRD := hideB (HHR.out 3 (fun x => Z x ∨ (Value.slice av (k + 1) cv).ownBlock = some x ∨ (Value.slice ai k ci).ownBlock = some x) fs' y2 w6 (by decide) (by decide) (fun x hx => by
      rcases hx with hx | hx | hx
      · have := HZ.out x hx; omega
      · exact (HN6.out.lt x hx).2
      · exact (HK6.out.lt x hx).2) h6 (by omega) (by omega))
    clear h6 b6 hi6 hy2
    go_wp2_with fail
    refine HRD.out.mono ?_
    rintro e w7 ⟨b7, ⟨n, fs7, y3, hr7, rfl, h7⟩ | ⟨hr7, rfl⟩⟩
    rotate_left
    · have HB7 := hideB (HB6.out.trans b7)
      have HR7 := hideB hr7
      clear b7 hr7
      unfold gup
      go_wp2_with fail
      exact ⟨rfl, FrOr.no (by rw [HEQ.out, rowsF, show WPr.nam s.data.toList y = nmJ s.data.toList y from rfl, HY1.out, mustF_y HI6.out, HY2.out]; exact bindF_n HR7.out) HB7.out⟩
    have wt := HHG.out _ _ _ _ _ _ (by rw [HLN.out]; exact hy2s) hr7
    have w7lt := wt.lt
    have w7cn := wt.cnt
    have w7le := wt.le
    rw [HLN.out] at w7le
    have HB7 := hideB (HB6.out.trans b7)
    have HR7 := hideB hr7
    have HN7 := hideB (b7.own HN6.out (by decide) hrb)
    have HF7 := hideB h7
    have z7 := HB7.out.size
    have HRO7 : Hid (w7.ownsRow w.heap.size 2 1 (.slice ai k ci) k (kids.map (Value.int .i64))) := by have := b7.own HK6.out (by decide) hrb; rw [HKL.out] at this; exact this
    clear h7 b7 hr7 wt
    go_wp2_with (at_builtin; refine wpList_append_own_at _ rfl _ _ 49 rfl w.heap.size 2 i1 (.int .i64 0) 1 8 Tryz.underlying49 hi1 hz1 hs1 hy1 rfl (by decide) _ _ _ rfl (HRO7.out.alloc _) ⟨w7.heap.size, 0, none⟩ 1 1 [.int .i64 n] rfl rfl ?d1 ?d2 ?d3 ?d4 ?d5 ?_)
    case d1 => exact cell_one_new _ _ _
    case d2 => intro u hu; simp at hu; subst hu; rfl
    case d3 => unfold maxLen; omega
    case d4 => omega
    case d5 => simp; omega
    intro v8 w8 hown hgrow _ hat
    have hga := (World.grownBy_alloc w7 (.cells #[.int .i64 n] 2) (Value.slice ai k ci).ownBlock).trans hgrow
    have HF8 := hideIt (HF7.out.grown HRO7.out (by decide) hbw (fun x hx => .inl (.inr (.inr hx))) hga)
    have HB8 := hideIt (HB7.out.grownN hga (fun x hx => (HRO7.out.lt x hx).1))
    have HN8 := hideIt (HN7.out.kept hga (own_apart HN7.out HRO7.out (by decide)))
    have HK8 : Hid (w8.ownsRow w.heap.size 2 1 v8 (kids ++ [n]).length ((kids ++ [n]).map (.int .i64))) := by rw [Hid, List.length_append, List.length_singleton, HKL.out, List.map_append]; exact hown
    have HVB8 : Hid (∀ x, v8.ownBlock = some x → ((Value.slice ai k ci).ownBlock = some x ∨ w7.heap.size ≤ x)) := fun x hx => by
      rcases hat with e | e
      · exact .inl (by rw [← e]; exact hx)
      · rw [e] at hx; simp at hx; exact .inr (by omega)
    have z8 := HB8.out.size
    obtain ⟨a8, c8, ev⟩ := own_sl hown
    subst ev
    clear hown hgrow hat hga
    have HF8' : Hid (FrAt w8 rb mb base (fun x => Z x ∨ (Value.slice av (k + 1) cv).ownBlock = some x ∨ (Value.slice a8 (k + 1) c8).ownBlock = some x) s y3 fs7) := HF8.out.more (fun x hx => by
      rcases hx with hx | hx | hx
      · exact .inl (.inl (.inl hx))
      · exact .inl (.inl (.inr (.inl hx)))
      · rcases HVB8.out x hx with h | h
        · exact .inl (.inl (.inr (.inr h)))
        · exact .inl (.inr h))
    have HSTEP : Hid (mapF WPr R s.data.toList fs q = if isAt s.data.toList y3 125 = true then addF WPr (nodeM (names ++ [z]) (kids ++ [n])) fs7 (skF s.data.toList (y3 + 1)) else mustF s.data.toList y3 44 fun q => rowsF WPr R s.data.toList g (names ++ [z]) (kids ++ [n]) fs7 q) := by
      rw [Hid, HEQ.out, rowsF, show WPr.nam s.data.toList y = nmJ s.data.toList y from rfl, HY1.out, mustF_y HI6.out, HY2.out, bindF_y HR7.out, ← HZZ.out]; rfl
    have HT8 := hideIt (fTook_any (c := 125) HF8'.out (by omega) (by omega))
    cases h125 : isAt s.data.toList y3 125
    · rw [h125] at HT8
      have HST : Hid (mapF WPr R s.data.toList fs q = mustF s.data.toList y3 44 fun q => rowsF WPr R s.data.toList g (names ++ [z]) (kids ++ [n]) fs7 q) := by rw [Hid, HSTEP.out, if_neg (by rw [h125]; simp)]
      clear h125 HSTEP
      go_wp2_with fail
      refine HT8.out.mono ?_
      rintro e w9 ⟨rfl, h9, b9⟩
      have HB9 := hideB (HB8.out.trans b9)
      have HN9 := hideB (b9.own HN8.out (by decide) hrb)
      have HK9 := hideB (b9.own HK8.out (by decide) hrb)
      have HM9 := hideB (fMust_any (p := y3) (c := 44) h9 (by omega) (by omega))
      clear h9 b9
      go_wp2_with fail
      refine HM9.out.mono ?_
      rintro e w10 ⟨b10, ⟨hi10, rfl, h10⟩ | ⟨hi10, rfl⟩⟩
      rotate_left
      · have HB10 := hideB (HB9.out.trans b10)
        have HI10 := hideB hi10
        clear b10 hi10
        unfold gup
        go_wp2_with fail
        exact ⟨rfl, FrOr.no (by rw [HST.out]; exact mustF_n HI10.out) HB10.out⟩
      have HB10 := hideB (HB9.out.trans b10)
      have HI10 := hideB hi10
      have HN10 := hideB (b10.own HN9.out (by decide) hrb)
      have HK10 := hideB (b10.own HK9.out (by decide) hrb)
      have hge := skF_ge s.data.toList (y3 + 1)
      have HF10 := hideB h10
      clear b10 hi10 h10
      go_wp2_with fail
      go_roundw
      case rel =>
        refine ⟨g, skF s.data.toList (y3 + 1), names ++ [z], kids ++ [n], fs7, ?_, ?_, ?_, by omega, HF10.out, HB10.out, HN10.out, HK10.out, ?_⟩
        · rw [List.length_append, List.length_singleton, HLEN.out]; omega
        · rw [List.length_append, List.length_singleton, HLEN.out]; omega
        · rw [List.length_append, List.length_append, List.length_singleton, List.length_singleton, HLEN.out, HKL.out]
        · rw [Hid, HST.out, mustF_y HI10.out]
      case measure => rw [HS.out.place, HF10.out.place]; have := HF10.out.le; omega
    · rw [h125] at HT8
      have HST : Hid (mapF WPr R s.data.toList fs q = addF WPr (nodeM (names ++ [z]) (kids ++ [n])) fs7 (skF s.data.toList (y3 + 1))) := by rw [Hid, HSTEP.out, if_pos h125]
      clear h125 HSTEP
      go_wp2_with fail
      refine HT8.out.mono ?_
      rintro e w9 ⟨rfl, h9, b9⟩
      have HB9 := hideB (HB8.out.trans b9)
      have hn9 := ownB (b9.own HN8.out (by decide) hrb) hbw
      have hk9 := ownB (b9.own HK8.out (by decide) hrb) hbw
      have HA := hideB (frAdd_any (p := skF s.data.toList (y3 + 1)) (Z' := Z) (x := nodeM (names ++ [z]) (kids ++ [n])) (kc := .slice none 0 0) (kn := .slice av (k + 1) cv) (ki := .slice a8 (k + 1) c8) (k0 := .slice none 0 0) h9 (nestNil _ _) hn9 hk9 (fun x hx => by
        rcases hx with hx | hx | hx
        · cases hx
        · exact .inr (.inl hx)
        · exact .inr (.inr hx)) (fun x hx => ⟨.inl hx, fun e => by
        have h0 := HZ.out x hx
        rcases e with e | e | e
        · cases e
        · have := (HN8.out.lt x e).1; omega
        · have := (HK8.out.lt x e).1; omega⟩) (by omega))
      clear h9 b9 hn9 hk9
      go_wp2_with fail
      refine HA.out.mono ?_
      rintro e w10 ⟨rfl, h10, b10⟩
      have HF10 := hideB h10
      have HB10 := hideB (HB9.out.trans b10)
      clear h10 b10
      go_wp2_with fail
      go_ret
      exact FrOr.of HST.out (FrOr.add HF10.out HB10.out)
end
end Go.Proofs.YtehihemfepbmfaaGreatDoor

/-
  The program's filterReader: what a word means. (Made by mkrw.py.)
-/
namespace Go.Proofs.YtehihemfepbmfaaGreatDoor
open Go.RowKit
set_option linter.unusedSimpArgs false
set_option linter.unusedVariables false
set_option linter.unusedSectionVars false

def wtL (i : Nat) : List UInt8 := [[108, 101, 110, 103, 116, 104], [107, 101, 121, 115], [110, 111, 116], [101, 109, 112, 116, 121]].getD i []
theorem wix_txt {J : Array Value} (hJ : wordC.toArray = J) {m : Nat} (hm : m < 4) : ∃ kk sg, (∀ W, (Instr.index 133 (.agg J) (.int .i64 (m : Int))).run Tryz.prog W = .ok (.agg #[.int .i64 kk, .string sg]) W) ∧ kk = wkF m ∧ sg = txt (wtL m) := by
  rw [← hJ]
  rcases (show m = 0 ∨ m = 1 ∨ m = 2 ∨ m = 3 by omega) with rfl | rfl | rfl | rfl
  · exact ⟨_, _, wix0, rfl, rfl⟩
  · exact ⟨_, _, wix1, rfl, rfl⟩
  · exact ⟨_, _, wix2, rfl, rfl⟩
  · exact ⟨_, _, wix3, rfl, rfl⟩
theorem named_word {R : RD} {L : List UInt8} {w : List UInt8} {fs : List FN} {p : Nat} {m : Nat} (hm : m < 4) (h : w = wtL m) : namedF WPr R L w fs p = addF WPr (nodeK (wkF m)) fs p := by
  subst h
  rcases (show m = 0 ∨ m = 1 ∨ m = 2 ∨ m = 3 by omega) with rfl | rfl | rfl | rfl <;> rfl
theorem named_none {R : RD} {L : List UInt8} {w : List UInt8} {fs : List FN} {p : Nat} (h1 : w ≠ nullW) (h2 : w ≠ trueW) (h3 : w ≠ falseW) (h4 : w ≠ [115, 101, 108, 101, 99, 116]) (h5 : w ≠ [105, 102]) (h : ∀ m, m < 4 → w ≠ wtL m) : namedF WPr R L w fs p = none := by
  unfold namedF
  rw [if_neg h1, if_neg h2, if_neg h3, if_neg h4, if_neg h5, if_neg (show w ≠ [108, 101, 110, 103, 116, 104] from h 0 (by omega)), if_neg (show w ≠ [107, 101, 121, 115] from h 1 (by omega)), if_neg (show w ≠ [110, 111, 116] from h 2 (by omega)), if_neg (show w ≠ [101, 109, 112, 116, 121] from h 3 (by omega))]
section
variable {R : RD} {f rb mb base : Nat} {s : ByteArray} (HR : RdsF R f rb mb base s) (HG : Goes s.data.toList R)
include HR HG
set_option maxRecDepth 100000 in
set_option maxHeartbeats 6400000 in
theorem readFWord_any {p : Nat} {Z : Nat → Prop} {fs : List FN} {w : World} (h : FrAt w rb mb base Z s p fs) (hZ : ∀ x, Z x → x < w.heap.size) (hs : s.size ≤ 1000) (hl : fs.length ≤ p) (hf : s.size ≤ p + f) :
    Calls Tryz.prog 151 #[.pointer (some ⟨rb, 0, none⟩)] w (FrOr (namedF WPr R s.data.toList (nameF s.data.toList p) fs (skF s.data.toList (nmJ s.data.toList p))) rb mb base Z s w) := by
  have HLN := hideB (len_is s)
  have hps := h.le
  have HN := hideB (readName_any h (by omega))
  have HZ : Hid (∀ x, Z x → x < w.heap.size) := hZ
  have HHR := hideB HR
  have HHG := hideB HG
  have hnge : p ≤ nmJ s.data.toList p := runJ_ge _ _ _
  have HNE : Hid (nameF s.data.toList p ≠ [] → p < nmJ s.data.toList p) := fun hne => by
    rcases Nat.lt_or_ge p (nmJ s.data.toList p) with h | h
    · exact h
    · exfalso; refine hne ?_; unfold nameF; rw [show nmJ s.data.toList p - p = 0 by omega]; rfl
  obtain ⟨L, hL⟩ : ∃ L, nameF s.data.toList p = L := ⟨_, rfl⟩
  obtain ⟨q, hq⟩ : ∃ q, skF s.data.toList (nmJ s.data.toList p) = q := ⟨_, rfl⟩
  have HNQ : Hid (L ≠ [] → p < q) := fun hne => by
    have h1 := HNE.out (by rw [hL]; exact hne)
    have h2 := skF_ge s.data.toList (nmJ s.data.toList p)
    rw [hq] at h2; omega
  have hpq : p ≤ q := by rw [← hq]; exact Nat.le_trans hnge (skF_ge _ _)
  have HIQ : Hid (skF s.data.toList q = q) := by rw [Hid, ← hq]; exact skF_idem _ _
  rw [hL, hq] at HN
  rw [hL, hq]
  obtain ⟨T, hT⟩ : ∃ T, txt L = T := ⟨_, rfl⟩
  have HT : Hid (T.toList = L) := by rw [Hid, ← hT, ByteArray.toList_eq, bytes_txt]
  rw [hT] at HN
  clear h hZ HR HG hT hL hq hnge HNE
  by_cases e_null : L = [110, 117, 108, 108]
  · have HNE := hideB (HNQ.out (by rw [e_null]; simp))
    have HE : Hid (namedF WPr R s.data.toList L fs q = addF WPr (nodeC ⟨1, 0, ByteArray.empty, [], []⟩) fs (skF s.data.toList q)) := by rw [Hid, HIQ.out, e_null]; rfl
    have q_null : (T.toList == [110, 117, 108, 108]) = true := by rw [HT.out, e_null]; rfl
    clear e_null 
    go_enter Tryz.func151, Tryz.ntmps151
    go_wp2_with fail
    refine HN.out.mono ?_
    rintro e w1 ⟨rfl, h1, b1⟩
    have HF1 := hideB h1
    have HB1 := hideB b1
    have HZ1 : Hid (∀ x, Z x → x < w1.heap.size) := fun x hx => Nat.lt_of_lt_of_le (HZ.out x hx) b1.size
    clear h1 b1
    have HC := hideB (addConst_any HF1.out HZ1.out (by omega) (by omega) 1 0 ByteArray.empty)
    go_wp2_with fail
    refine HC.out.mono ?_
    rintro e w2 ⟨b2, ⟨n2, fs2, q2, hr, rfl, h2⟩ | ⟨hr, rfl⟩⟩
    · have HB2 := hideB (HB1.out.trans b2)
      have HF2 := hideB h2
      have HR2 := hideB hr
      clear b2 h2 hr
      go_wp2_with fail
      go_ret
      exact ⟨HB2.out, .inl ⟨n2, fs2, q2, by rw [HE.out]; exact HR2.out, rfl, HF2.out⟩⟩
    · have HB2 := hideB (HB1.out.trans b2)
      have HR2 := hideB hr
      clear b2 hr
      unfold gup
      go_wp2_with fail
      exact ⟨rfl, FrOr.no (by rw [HE.out]; exact HR2.out) HB2.out⟩
  have n_null : L ≠ [110, 117, 108, 108] := e_null
  clear e_null
  by_cases e_false : L = [102, 97, 108, 115, 101]
  · have HNE := hideB (HNQ.out (by rw [e_false]; simp))
    have HE : Hid (namedF WPr R s.data.toList L fs q = addF WPr (nodeC ⟨2, 0, ByteArray.empty, [], []⟩) fs (skF s.data.toList q)) := by rw [Hid, HIQ.out, e_false]; rfl
    have q_null : (T.toList == [110, 117, 108, 108]) = false := by rw [HT.out]; exact beq_false_of_ne n_null
    have q_false : (T.toList == [102, 97, 108, 115, 101]) = true := by rw [HT.out, e_false]; rfl
    clear e_false n_null
    go_enter Tryz.func151, Tryz.ntmps151
    go_wp2_with fail
    refine HN.out.mono ?_
    rintro e w1 ⟨rfl, h1, b1⟩
    have HF1 := hideB h1
    have HB1 := hideB b1
    have HZ1 : Hid (∀ x, Z x → x < w1.heap.size) := fun x hx => Nat.lt_of_lt_of_le (HZ.out x hx) b1.size
    clear h1 b1
    have HC := hideB (addConst_any HF1.out HZ1.out (by omega) (by omega) 2 0 ByteArray.empty)
    go_wp2_with fail
    refine HC.out.mono ?_
    rintro e w2 ⟨b2, ⟨n2, fs2, q2, hr, rfl, h2⟩ | ⟨hr, rfl⟩⟩
    · have HB2 := hideB (HB1.out.trans b2)
      have HF2 := hideB h2
      have HR2 := hideB hr
      clear b2 h2 hr
      go_wp2_with fail
      go_ret
      exact ⟨HB2.out, .inl ⟨n2, fs2, q2, by rw [HE.out]; exact HR2.out, rfl, HF2.out⟩⟩
    · have HB2 := hideB (HB1.out.trans b2)
      have HR2 := hideB hr
      clear b2 hr
      unfold gup
      go_wp2_with fail
      exact ⟨rfl, FrOr.no (by rw [HE.out]; exact HR2.out) HB2.out⟩
  have n_false : L ≠ [102, 97, 108, 115, 101] := e_false
  clear e_false
  by_cases e_true : L = [116, 114, 117, 101]
  · have HNE := hideB (HNQ.out (by rw [e_true]; simp))
    have HE : Hid (namedF WPr R s.data.toList L fs q = addF WPr (nodeC ⟨2, 1, ByteArray.empty, [], []⟩) fs (skF s.data.toList q)) := by rw [Hid, HIQ.out, e_true]; rfl
    have q_null : (T.toList == [110, 117, 108, 108]) = false := by rw [HT.out]; exact beq_false_of_ne n_null
    have q_false : (T.toList == [102, 97, 108, 115, 101]) = false := by rw [HT.out]; exact beq_false_of_ne n_false
    have q_true : (T.toList == [116, 114, 117, 101]) = true := by rw [HT.out, e_true]; rfl
    clear e_true n_null n_false
    go_enter Tryz.func151, Tryz.ntmps151
    go_wp2_with fail
    refine HN.out.mono ?_
    rintro e w1 ⟨rfl, h1, b1⟩
    have HF1 := hideB h1
    have HB1 := hideB b1
    have HZ1 : Hid (∀ x, Z x → x < w1.heap.size) := fun x hx => Nat.lt_of_lt_of_le (HZ.out x hx) b1.size
    clear h1 b1
    have HC := hideB (addConst_any HF1.out HZ1.out (by omega) (by omega) 2 1 ByteArray.empty)
    go_wp2_with fail
    refine HC.out.mono ?_
    rintro e w2 ⟨b2, ⟨n2, fs2, q2, hr, rfl, h2⟩ | ⟨hr, rfl⟩⟩
    · have HB2 := hideB (HB1.out.trans b2)
      have HF2 := hideB h2
      have HR2 := hideB hr
      clear b2 h2 hr
      go_wp2_with fail
      go_ret
      exact ⟨HB2.out, .inl ⟨n2, fs2, q2, by rw [HE.out]; exact HR2.out, rfl, HF2.out⟩⟩
    · have HB2 := hideB (HB1.out.trans b2)
      have HR2 := hideB hr
      clear b2 hr
      unfold gup
      go_wp2_with fail
      exact ⟨rfl, FrOr.no (by rw [HE.out]; exact HR2.out) HB2.out⟩
  have n_true : L ≠ [116, 114, 117, 101] := e_true
  clear e_true
  by_cases e_select : L = [115, 101, 108, 101, 99, 116]
  · have HNE := hideB (HNQ.out (by rw [e_select]; simp))
    have HE : Hid (namedF WPr R s.data.toList L fs q = selF WPr R s.data.toList fs q) := by rw [Hid, e_select]; rfl
    have q_null : (T.toList == [110, 117, 108, 108]) = false := by rw [HT.out]; exact beq_false_of_ne n_null
    have q_false : (T.toList == [102, 97, 108, 115, 101]) = false := by rw [HT.out]; exact beq_false_of_ne n_false
    have q_true : (T.toList == [116, 114, 117, 101]) = false := by rw [HT.out]; exact beq_false_of_ne n_true
    have q_select : (T.toList == [115, 101, 108, 101, 99, 116]) = true := by rw [HT.out, e_select]; rfl
    clear e_select n_null n_false n_true
    go_enter Tryz.func151, Tryz.ntmps151
    go_wp2_with fail
    refine HN.out.mono ?_
    rintro e w1 ⟨rfl, h1, b1⟩
    have HF1 := hideB h1
    have HB1 := hideB b1
    have HZ1 : Hid (∀ x, Z x → x < w1.heap.size) := fun x hx => Nat.lt_of_lt_of_le (HZ.out x hx) b1.size
    clear h1 b1
    have hpq1 := HNE.out
    have HC := hideB (readAround_any HHR.out HHG.out HF1.out HZ1.out (by omega) (by omega) (by omega))
    go_wp2_with fail
    refine HC.out.mono ?_
    rintro e w2 ⟨b2, ⟨n2, fs2, q2, hr, rfl, h2⟩ | ⟨hr, rfl⟩⟩
    · have HB2 := hideB (HB1.out.trans b2)
      have hql := HF1.out.le
      have hcnt : fs2.length ≤ 4000 := by
        obtain ⟨ei, hr2⟩ := mustF_inv hr
        have e1 := (isAt_yes.1 ei).1
        have e2 := skF_ge s.data.toList (q + 1)
        have wt := (around_went HHG.out (p0 := q) (by omega) (skF_le (by omega)) hr2).1
        have := wt.cnt
        have := wt.le
        rw [HLN.out] at this
        omega
      have HR2 := hideB hr
      have HA := hideB (addR_any h2 (fun x hx => Nat.lt_of_lt_of_le (HZ1.out x hx) b2.size) hcnt 10 [n2] (by simp))
      clear b2 h2 hr hcnt
      go_wp2_with fail
      refine HA.out.mono ?_
      rintro e w3 ⟨rfl, h3, b3⟩
      have HF3 := hideB h3
      have HB3 := hideB (HB2.out.trans b3)
      clear h3 b3
      go_wp2_with fail
      go_ret
      refine FrOr.of ?_ (FrOr.add HF3.out HB3.out)
      rw [HE.out]
      obtain ⟨ei, hr2⟩ := mustF_inv HR2.out
      unfold selF
      rw [mustF_y ei, bindF_y hr2]
    · have HB2 := hideB (HB1.out.trans b2)
      have HR2 := hideB hr
      clear b2 hr
      unfold gup
      go_wp2_with fail
      refine ⟨rfl, FrOr.no ?_ HB2.out⟩
      rw [HE.out]
      unfold selF
      cases ei : isAt s.data.toList q 40
      · exact mustF_n ei
      · have h1 := HR2.out
        rw [mustF_y ei] at h1
        rw [mustF_y ei]
        exact bindF_n h1
  have n_select : L ≠ [115, 101, 108, 101, 99, 116] := e_select
  clear e_select
  by_cases e_if : L = [105, 102]
  · have HNE := hideB (HNQ.out (by rw [e_if]; simp))
    have HE : Hid (namedF WPr R s.data.toList L fs q = ifF WPr R s.data.toList fs q) := by rw [Hid, e_if]; rfl
    have q_null : (T.toList == [110, 117, 108, 108]) = false := by rw [HT.out]; exact beq_false_of_ne n_null
    have q_false : (T.toList == [102, 97, 108, 115, 101]) = false := by rw [HT.out]; exact beq_false_of_ne n_false
    have q_true : (T.toList == [116, 114, 117, 101]) = false := by rw [HT.out]; exact beq_false_of_ne n_true
    have q_select : (T.toList == [115, 101, 108, 101, 99, 116]) = false := by rw [HT.out]; exact beq_false_of_ne n_select
    have q_if : (T.toList == [105, 102]) = true := by rw [HT.out, e_if]; rfl
    clear e_if n_null n_false n_true n_select
    go_enter Tryz.func151, Tryz.ntmps151
    go_wp2_with fail
    refine HN.out.mono ?_
    rintro e w1 ⟨rfl, h1, b1⟩
    have HF1 := hideB h1
    have HB1 := hideB b1
    have HZ1 : Hid (∀ x, Z x → x < w1.heap.size) := fun x hx => Nat.lt_of_lt_of_le (HZ.out x hx) b1.size
    clear h1 b1
    have hpq1 := HNE.out
    have HC := hideB (readIf_any HHR.out HHG.out HF1.out HZ1.out hs (by omega) (by omega))
    go_wp2_with fail
    refine HC.out.mono ?_
    rintro e w2 ⟨b2, ⟨n2, fs2, q2, hr, rfl, h2⟩ | ⟨hr, rfl⟩⟩
    · have HB2 := hideB (HB1.out.trans b2)
      have HF2 := hideB h2
      have HR2 := hideB hr
      clear b2 h2 hr
      go_wp2_with fail
      go_ret
      exact ⟨HB2.out, .inl ⟨n2, fs2, q2, by rw [HE.out]; exact HR2.out, rfl, HF2.out⟩⟩
    · have HB2 := hideB (HB1.out.trans b2)
      have HR2 := hideB hr
      clear b2 hr
      unfold gup
      go_wp2_with fail
      exact ⟨rfl, FrOr.no (by rw [HE.out]; exact HR2.out) HB2.out⟩
  have n_if : L ≠ [105, 102] := e_if
  clear e_if
  have q_null : (T.toList == [110, 117, 108, 108]) = false := by rw [HT.out]; exact beq_false_of_ne n_null
  have q_false : (T.toList == [102, 97, 108, 115, 101]) = false := by rw [HT.out]; exact beq_false_of_ne n_false
  have q_true : (T.toList == [116, 114, 117, 101]) = false := by rw [HT.out]; exact beq_false_of_ne n_true
  have q_select : (T.toList == [115, 101, 108, 101, 99, 116]) = false := by rw [HT.out]; exact beq_false_of_ne n_select
  have q_if : (T.toList == [105, 102]) = false := by rw [HT.out]; exact beq_false_of_ne n_if
  have HNN : Hid (L ≠ nullW ∧ L ≠ trueW ∧ L ≠ falseW ∧ L ≠ [115, 101, 108, 101, 99, 116] ∧ L ≠ [105, 102]) := ⟨n_null, n_true, n_false, n_select, n_if⟩
  clear n_null n_true n_false n_select n_if
  go_enter Tryz.func151, Tryz.ntmps151
  go_upto_region 1 with fail
  go_upto_region 2 with (go_at_call 173; refine HN.out.mono ?_; rintro e w1 ⟨rfl, h1, b1⟩)
  have HF1 := hideB h1
  have HB1 := hideB b1
  clear h1 b1
  go_upto_region 13 with fail
  refine wp_region_lit ?_
  refine wpList_load_mid rfl 133 (.global 1) rfl 1 0 rfl wordC _ (HF1.out.box.tb.wd _ (Below.refl _ _)) w_und rfl w_inf ?_
  obtain ⟨J, hJ⟩ : ∃ J, wordC.toArray = J := ⟨_, rfl⟩
  rw [hJ]
  have HJ := hideB hJ
  clear hJ
  go_wp2_with fail
  go_loopw [5, 37] (fun _ i wr => ∃ m : Nat, m ≤ 4 ∧ i = .int .i64 m ∧ FrAt wr rb mb base Z s q fs ∧ ButF rb base w wr ∧ Hid (∀ j, j < m → L ≠ wtL j)) (fun _ i _ => 4 - (intOf i).toNat)
  case atStart => exact ⟨0, by omega, rfl, HF1.out, HB1.out, fun j hj => by omega⟩
  case round =>
    obtain ⟨m, hm, rfl, hfr, hbt, HNO⟩ := hrel
    have HF := hideB hfr
    have HB := hideB hbt
    clear hfr hbt
    rcases (show m = 4 ∨ m < 4 by omega) with rfl | hlt
    · have HE : Hid (namedF WPr R s.data.toList L fs q = none) := named_none HNN.out.1 HNN.out.2.1 HNN.out.2.2.1 HNN.out.2.2.2.1 HNN.out.2.2.2.2 HNO.out
      go_wp2_with fail
      exact ⟨rfl, FrOr.no HE.out HB.out⟩
    · have hlt' : (m : Int) < 4 := by omega
      obtain ⟨kk, sg, hix, hkk, hsg⟩ := wix_txt HJ.out hlt
      have HKK := hideB hkk
      have HSG : Hid (sg.toList = wtL m) := by rw [Hid, hsg, ByteArray.toList_eq, bytes_txt]
      have hba : Below wr.heap.size wr (wr.alloc (.cells #[.int .i64 kk, .string sg] 132)) := (Below.refl _ _).alloc (Nat.le_refl _) _
      have HF9 := hideB (HF.out.below hba)
      have HB9 := hideB (HB.out.trans (ButF.of_below hba))
      clear hkk hsg hba
      by_cases he : L = wtL m
      · have q9 : (sg.toList == T.toList) = true := by rw [HSG.out, HT.out, he]; exact beq_self_eq_true _
        have HE : Hid (namedF WPr R s.data.toList L fs q = addF WPr (nodeK kk) fs q) := by rw [Hid, HKK.out]; exact named_word hlt he
        have HA := hideB (addK_any HF9.out (by have := HF.out.le; omega) kk ByteArray.empty 0)
        clear he
        go_wp2_with fail
        refine HA.out.mono ?_
        rintro e w3 ⟨rfl, h3, b3⟩
        have HF3 := hideB h3
        have HB3 := hideB (HB9.out.trans b3)
        clear h3 b3
        go_wp2_with fail
        go_ret
        exact FrOr.of HE.out (FrOr.add HF3.out HB3.out)
      · have q9 : (sg.toList == T.toList) = false := by rw [HSG.out, HT.out]; exact beq_false_of_ne (fun e => he e.symm)
        have HNO2 : Hid (∀ j, j < m + 1 → L ≠ wtL j) := fun j hj => by
          by_cases e : j = m
          · subst e; exact he
          · exact HNO.out j (by omega)
        clear he
        go_wp2_with fail
        first
          | exact ⟨⟨m + 1, by omega, by go_num, HF9.out, HB9.out, HNO2.out⟩, by simp [intOf]; omega⟩
          | (go_roundw
             case rel => exact ⟨m + 1, by omega, by go_num, HF9.out, HB9.out, HNO2.out⟩
             case measure => simp [intOf]; omega)
end
end Go.Proofs.YtehihemfepbmfaaGreatDoor
