/-
  The law of LengthOf: the call returns true and turns nothing that was there.
-/
import Derived.Test.YtgmnihofkpjboaaDoorSz
import Derived.Test.YtgmnihofkpjboaaDoorEq
import Derived.Test.YtgmnihofkpjboaaDoorMarkO
import Derived.Test.YtgmnihofkpjboaaDoorILen
import Derived.Test.YtgmnihofkpjboaaDoorSLen
import Derived.Test.YtgmnihofkpjboaaDoorSS
namespace Go.Proofs.YtgmnihofkpjboaaDoor
open Go.RowKit
set_option linter.unusedSimpArgs false
set_option linter.unusedVariables false

theorem small_rowsL {x : VN} (h : Small x) : x.keys.length ≤ 1048576 ∧ x.kids.length ≤ 1048576 := ⟨h.kn, h.ki⟩

set_option maxRecDepth 100000 in
set_option maxHeartbeats 6400000 in
theorem lawLengthOf_walk (v : Value) (vs : List VN) (w : World) (h : RawNodes w.heap.size w v vs) (hE : Errs w) :
    Calls Tryd.prog 4 #[v] w fun e w' => e = .returned (.bool true) ∧ Below w.heap.size w w' := by
  have H := hideIt h
  have HE := hideIt hE
  clear hE
  obtain ⟨_, a, cap, rfl, _⟩ := h
  go_enter Tryd.func4, Tryd.ntmps4
  go_wp2_with fail
  refine (szVNodeS_any w.heap.size _ vs 1048576 _ H.out (Nat.le_refl _) (by omega) (by omega)).mono ?_
  rintro e w1 ⟨⟨q, rfl, hq, hs⟩, hb1⟩
  have HS := hideIt hs
  clear hs
  have z1 := hb1.size
  by_cases hq0 : q < 0
  · go_wp2_with fail
    go_ret
    exact ⟨rfl, hb1⟩
  have HSM := hideIt (HS.out (by omega))
  have HN := hideIt (H.out.fit HSM.out.1 HSM.out.2)
  have HF := hideIt HN.out.fits
  have HL := hideIt HN.out.1
  have HR := hideIt (len_few vs)
  have HB1 := hideIt hb1
  clear hb1
  go_wp2_with fail
  refine (toVNodeS_any w.heap.size _ vs _ (HN.out.below HB1.out) (by omega)).mono ?_
  rintro e w2 ⟨KB2, KI2, rfl, ho2, hb2⟩
  have HO2 := hideIt ho2
  have HB2 := hideIt (Below.next HB1.out hb2)
  have z2 := HB2.out.size
  clear ho2 hb2
  go_wp2_with fail
  refine (specLengthOf_any w2.heap.size _ vs _ (HO2.out.nodes HL.out HF.out) (Nat.le_refl _)).mono ?_
  rintro e w3 ⟨r0, base0, KV0, IV0, rfl, hbase0, hnest0, hb3⟩
  have HN0 := hideIt hnest0
  obtain ⟨a0, c0, hr0⟩ := own_slice hnest0.row
  obtain ⟨L, hL⟩ : ∃ L, (lenNs vs).length = L := ⟨_, rfl⟩
  have HLL := hideIt hL
  rw [hL] at hr0
  subst hr0
  obtain ⟨C, hC⟩ : ∃ C, lenC vs = C := ⟨_, rfl⟩
  have HCC := hideIt hC
  rw [hC]
  have HB3 := hideIt (Below.next HB2.out hb3)
  have z3 := HB3.out.size
  clear hnest0 hb3 hL hC
  go_wp2_with fail
  refine (toVNodeS_any w.heap.size _ vs _ (HN.out.below HB3.out) (by omega)).mono ?_
  rintro e w4 ⟨KB4, KI4, rfl, ho4, hb4⟩
  have HO4 := hideIt ho4
  have H34 := hideIt hb4
  have HB4 := hideIt (Below.next HB3.out hb4)
  have z4 := H34.out.size
  clear ho4 hb4
  go_wp2_with fail
  refine (implLengthOf_any w4.heap.size _ vs _ (HO4.out.nodes HL.out HF.out) (Nat.le_refl _) (HE.out.below HB4.out)).mono ?_
  rintro e w5 ⟨r5, base5, KV5, IV5, rfl, hbase5, hbase5', hnest5, hb5⟩
  have HN5 := hideIt hnest5
  obtain ⟨a5, c5, hr5⟩ := own_slice hnest5.row
  rw [HCC.out]
  rw [HLL.out] at hr5
  subst hr5
  have HO5 := hideIt (HO4.out.below hb5)
  have H35 := hideIt (Below.next H34.out hb5)
  have HB5 := hideIt (Below.next HB4.out hb5)
  have z5 := hb5.size
  clear hnest5 hb5
  have hpe : (C != C) = false := by simp
  have HR1 : Hid ((lenNs vs).length ≤ 1759218604416) := Nat.le_trans HR.out.1.1 (by omega)
  have HR2 : Hid (∀ i, i < (lenNs vs).length → Fits (nodeAt (lenNs vs) i)) := HR.out.2
  go_wp2_with fail
  refine (eqVNodeS_any w5.heap.size _ _ (lenNs vs) _ (HN5.out.nodes HR1.out HR2.out) ((HN0.out.below H35.out).nodes HR1.out HR2.out) (Nat.le_refl _)).mono ?_
  rintro e w6 ⟨rfl, hb6⟩
  have HO6 := hideIt (HO5.out.below hb6)
  have H36 := hideIt (Below.next H35.out hb6)
  have HB6 := hideIt (Below.next HB5.out hb6)
  have HFR6 := hideIt ((From.refl base5 w5).below hb6)
  have z6 := hb6.size
  clear hb6
  go_wp2_with fail
  refine (toVNodeS_any w.heap.size _ vs _ (HN.out.below HB6.out) (by omega)).mono ?_
  rintro e w7 ⟨KB7, KI7, rfl, ho7, hb7⟩
  have HO7 := hideIt ho7
  have HOx := hideIt (HO6.out.below hb7)
  have H37 := hideIt (Below.next H36.out hb7)
  have HB7 := hideIt (Below.next HB6.out hb7)
  have HFR7 := hideIt (HFR6.out.below hb7)
  have z7 := hb7.size
  clear ho7 hb7
  go_wp2_with fail
  refine (eqVNodeS_any w7.heap.size _ _ vs _ (HOx.out.nodes HL.out HF.out) (HO7.out.nodes HL.out HF.out) (Nat.le_refl _)).mono ?_
  rintro e w8 ⟨rfl, hb8⟩
  have HO8 := hideIt (HOx.out.below hb8)
  have H38 := hideIt (Below.next H37.out hb8)
  have HB8 := hideIt (Below.next HB7.out hb8)
  have HFR8 := hideIt (HFR7.out.below hb8)
  have z8 := hb8.size
  clear hb8
  have HKK : Hid (∀ i, i < vs.length → (nodeAt vs i).keys.length ≤ 1048576 ∧ (nodeAt vs i).kids.length ≤ 1048576) := fun i hi => small_rowsL (HSM.out.2 i hi)
  go_wp2_with fail
  refine (markVNodeS_any w3.heap.size w3.heap.size vs.length vs.length 1 (some ⟨w3.heap.size, 0, none⟩) _ _ KB4 KI4 w8 (fun _ => ⟨rfl, HO8.out.marky HSM.out.1 HKK.out⟩) (by omega) HSM.out.1 (by omega) (by omega)).mono ?_
  rintro e w9 ⟨rfl, _, hon9, hb9⟩
  have H39 := hideIt (H38.out.trans hb9)
  have HB9 := hideIt (HB8.out.trans (hb9.mono (by omega)))
  have HFR9 := hideIt (HFR8.out.only hon9 (fun c hc => by have := (HO4.out.marked hc).2; omega))
  have z9 := hb9.size
  clear hon9 hb9
  generalize off (fun i => (nodeAt vs i).keys.length) (fun i => (nodeAt vs i).kids.length) 1 vs.length = M9
  have hM9 : ¬ ((M9 : Int) < 0) := by omega
  go_wp2_with fail
  refine (eqVNodeS_any w9.heap.size _ _ (lenNs vs) _ ((HN5.out.from HFR9.out).nodes HR1.out HR2.out) ((HN0.out.below H39.out).nodes HR1.out HR2.out) (Nat.le_refl _)).mono ?_
  rintro e w10 ⟨rfl, hb10⟩
  have H310 := hideIt (Below.next H39.out hb10)
  have HB10 := hideIt (Below.next HB9.out hb10)
  have HN10 := hideIt (HN5.out.from (HFR9.out.below hb10))
  have z10 := hb10.size
  clear hb10
  have HMK := hideIt (HN10.out.mark HLL.out HR.out.1)
  have hLs : L ≤ 80 := by rw [← HLL.out]; exact HR.out.1.1
  go_wp2_with fail
  refine (markVNodeS_any base5 _ L c5 1 a5 _ _ _ _ w10 HMK.out (by omega) (by omega) (by omega) (by omega)).mono ?_
  rintro e w11 ⟨rfl, hh11, hon11, hb11⟩
  have H311 := hideIt (H310.out.trans (hb11.mono (by omega)))
  have HB11 := hideIt (HB10.out.trans (hb11.mono (by omega)))
  have HH11 := hideIt hh11
  have z11 := hb11.size
  clear hh11 hon11 hb11
  have HKR : Hid (∀ i, i < L → knOf (lenNs vs) i ≤ 1048576 ∧ inOf (lenNs vs) i ≤ 1048576) := fun i hi => by
    have := HR.out.1.2 i (by rw [HLL.out]; exact hi)
    unfold knOf inOf
    omega
  have HAD : Hid (0 < L → a5 = some ⟨blk (.slice a5 L c5), 0, none⟩) := fun hp => (HMK.out hp).1
  go_wp2_with fail
  refine (heldVNodeS_any _ L c5 1 a5 _ _ _ _ w11 HAD.out (by omega) HKR.out (by omega) (by omega) HH11.out).mono ?_
  rintro e w12 ⟨rfl, hb12⟩
  have H312 := hideIt (Below.next H311.out hb12)
  have HB12 := hideIt (Below.next HB11.out hb12)
  have H1112 := hideIt hb12
  have z12 := hb12.size
  clear hb12
  have HOFF : Hid (∃ M, off (knOf (lenNs vs)) (inOf (lenNs vs)) 1 L = M) := ⟨_, rfl⟩
  obtain ⟨M12, hM12⟩ := HOFF.out
  rw [hM12]
  have HM12 := hideIt hM12
  have hM0 : ¬ ((M12 : Int) < 0) := by omega
  clear hM12
  go_wp2_with fail
  refine (toVNodeS_any w.heap.size _ vs _ (HN.out.below HB12.out) (by omega)).mono ?_
  rintro e w13 ⟨KB13, KI13, rfl, ho13, hb13⟩
  have HO13 := hideIt ho13
  have H313 := hideIt (Below.next H312.out hb13)
  have HB13 := hideIt (Below.next HB12.out hb13)
  have H1113 := hideIt (Below.next H1112.out hb13)
  have z13 := hb13.size
  clear ho13 hb13
  go_wp2_with fail
  refine (implLengthOf_any w13.heap.size _ vs _ (HO13.out.nodes HL.out HF.out) (Nat.le_refl _) (HE.out.below HB13.out)).mono ?_
  rintro e w14 ⟨r14, base14, KV14, IV14, rfl, hbase14, hbase14', hnest14, hb14⟩
  have HN14 := hideIt hnest14
  obtain ⟨a14, c14, hr14⟩ := own_slice hnest14.row
  rw [HCC.out]
  rw [HLL.out] at hr14
  subst hr14
  have H314 := hideIt (Below.next H313.out hb14)
  have HB14 := hideIt (Below.next HB13.out hb14)
  have H1114 := hideIt (Below.next H1113.out hb14)
  have z14 := hb14.size
  clear hnest14 hb14
  go_wp2_with fail
  refine (eqVNodeS_any w14.heap.size _ _ (lenNs vs) _ (HN14.out.nodes HR1.out HR2.out) ((HN0.out.below H314.out).nodes HR1.out HR2.out) (Nat.le_refl _)).mono ?_
  rintro e w15 ⟨rfl, hb15⟩
  have HB15 := hideIt (Below.next HB14.out hb15)
  have H1115 := hideIt (Below.next H1114.out hb15)
  have z15 := hb15.size
  clear hb15
  go_wp2_with fail
  refine (heldVNodeS_any _ L c5 1 a5 _ _ _ _ w15 HAD.out (by omega) HKR.out (by omega) (by omega) (fun i hi => (HH11.out i hi).below H1115.out)).mono ?_
  rintro e w16 ⟨rfl, hb16⟩
  have HB16 := hideIt (Below.next HB15.out hb16)
  clear hb16
  rw [HM12.out]
  go_wp2_with fail
  go_ret
  exact ⟨rfl, HB16.out⟩
end Go.Proofs.YtgmnihofkpjboaaDoor
