/-
  The law of Got: the call returns true and turns nothing that was there.
-/
import Derived.Test.YtbclgogolimbgaaSz
import Derived.Test.YtbclgogolimbgaaEq
import Derived.Test.YtbclgogolimbgaaMarkO
import Derived.Test.YtbclgogolimbgaaIGot
import Derived.Test.YtbclgogolimbgaaPsK
namespace Go.Proofs.Ytbclgogolimbgaa
open Go.RowKit
set_option linter.unusedSimpArgs false
set_option linter.unusedVariables false

theorem small_rows2 {x : VN} (h : Small x) : x.keys.length ≤ 1048576 ∧ x.kids.length ≤ 1048576 := ⟨h.kn, h.ki⟩
theorem below_next {A : Nat} {a b c : World} (h : Below A a b) (h2 : Below b.heap.size b c) (hA : A ≤ b.heap.size) : Below A a c := h.trans (h2.mono hA)

set_option maxRecDepth 100000 in
set_option maxHeartbeats 12800000 in
theorem lawGot_walk (v u : Value) (vs : List VN) (ps : List PS) (w : World) (h : RawNodes w.heap.size w v vs) (hu : RawSteps w.heap.size w u ps) :
    Calls Try.prog 5 #[v, u] w fun e w' => e = .returned (.bool true) ∧ Below w.heap.size w w' := by
  have H := hideIt h
  have HU := hideIt hu
  obtain ⟨_, a, cap, rfl, _⟩ := h
  obtain ⟨_, _, au, cu, rfl, _⟩ := hu
  go_enter Try.func5, Try.ntmps5
  go_wp2_with fail
  refine (szVNodeS_any w.heap.size _ vs 1048576 _ H.out (Nat.le_refl _) (by omega) (by omega)).mono ?_
  rintro e w1 ⟨⟨q, rfl, hq, hs⟩, hb1⟩
  have HS := hideIt hs
  clear hs
  have z1 := hb1.size
  by_cases hq0 : q < 0
  · go_wp2_with fail
    go_ret
    exact ⟨rfl, hb1⟩
  have HB1 := hideIt hb1
  clear hb1
  go_wp2_with fail
  refine (szPStepS_any w.heap.size _ ps q _ (HU.out.below HB1.out) z1 (by omega) hq).mono ?_
  rintro e w1b ⟨⟨q', rfl, hq', hs'⟩, hb1b⟩
  have HS' := hideIt hs'
  have HB1b := hideIt (below_next HB1.out hb1b z1)
  clear hs' hb1b
  have z1b := HB1b.out.size
  by_cases hq0' : q' < 0
  · go_wp2_with fail
    go_ret
    exact ⟨rfl, HB1b.out⟩
  have HSM := hideIt (HS.out (by omega))
  have HSU := hideIt (HS'.out (by omega))
  have HN := hideIt (H.out.fit HSM.out.1 HSM.out.2)
  have HP := hideIt (HU.out.fit (M' := 1048576) (S' := 1048576) HSU.out.1 HSU.out.2)
  have HF := hideIt HN.out.fits
  have HL := hideIt HN.out.1
  have HPL := hideIt HP.out.1
  have HPF := hideIt HP.out.2.1
  have HR := hideIt (got_few (ps := ps) HF.out)
  go_wp2_with fail
  refine (toVNodeS_any w.heap.size _ vs _ (HN.out.below HB1b.out) (by omega)).mono ?_
  rintro e w2 ⟨KB2, KI2, rfl, ho2, hb2⟩
  have HO2 := hideIt ho2
  have HB2 := hideIt (below_next HB1b.out hb2 z1b)
  have z2 := HB2.out.size
  clear ho2 hb2
  go_wp2_with fail
  refine (toPStepS_any w.heap.size _ ps _ (HP.out.below HB2.out) (by omega)).mono ?_
  rintro e w2b ⟨rfl, hp2, hb2b⟩
  have HO2b := hideIt (HO2.out.below hb2b)
  have HP2 := hideIt hp2
  have HB2b := hideIt (below_next HB2.out hb2b z2)
  have z2b := HB2b.out.size
  clear hp2 hb2b
  go_wp2_with fail
  refine (specGot_any w2b.heap.size _ _ vs ps _ (HO2b.out.nodes HL.out HF.out) (ownSteps HP2.out HPL.out HPF.out) (Nat.le_refl _)).mono ?_
  rintro e w3 ⟨r0, base0, KV0, IV0, rfl, hbase0, hnest0, hb3⟩
  have HN0 := hideIt hnest0
  obtain ⟨a0, c0, hr0⟩ := own_slice hnest0.row
  obtain ⟨L, hL⟩ : ∃ L, (gotNs vs ps).length = L := ⟨_, rfl⟩
  have HLL := hideIt hL
  rw [hL] at hr0
  subst hr0
  have HB3 := hideIt (below_next HB2b.out hb3 z2b)
  have z3 := HB3.out.size
  clear hnest0 hb3 hL
  go_wp2_with fail
  refine (toVNodeS_any w.heap.size _ vs _ (HN.out.below HB3.out) (by omega)).mono ?_
  rintro e w4 ⟨KB4, KI4, rfl, ho4, hb4⟩
  have HO4 := hideIt ho4
  have H34 := hideIt hb4
  have HB4 := hideIt (below_next HB3.out hb4 z3)
  have z4 := H34.out.size
  clear ho4 hb4
  go_wp2_with fail
  refine (toPStepS_any w.heap.size _ ps _ (HP.out.below HB4.out) (by omega)).mono ?_
  rintro e w4b ⟨rfl, hp4, hb4b⟩
  have HO4b := hideIt (HO4.out.below hb4b)
  have HP4 := hideIt hp4
  have H34b := hideIt (below_next H34.out hb4b z4)
  have HB4b := hideIt (below_next HB4.out hb4b (by omega))
  have z4b := hb4b.size
  have hp4l := hp4.lt
  clear hp4 hb4b
  go_wp2_with fail
  refine (implGot_any w4b.heap.size _ _ vs ps _ (HO4b.out.nodes HL.out HF.out) (ownSteps HP4.out HPL.out HPF.out) (Nat.le_refl _)).mono ?_
  rintro e w5 ⟨r5, base5, KV5, IV5, rfl, hbase5, hbase5', hnest5, hb5⟩
  have HN5 := hideIt hnest5
  obtain ⟨a5, c5, hr5⟩ := own_slice hnest5.row
  rw [HLL.out] at hr5
  subst hr5
  have HO5 := hideIt (HO4b.out.below hb5)
  have HP5 := hideIt (rowIs_below' HP4.out hb5 hp4l)
  have H35 := hideIt (below_next H34b.out hb5 (by omega))
  have HB5 := hideIt (below_next HB4b.out hb5 (by omega))
  have z5 := hb5.size
  clear hnest5 hb5
  have hpe : (gotB vs ps != gotB vs ps) = false := by simp
  have HR1 : Hid ((gotNs vs ps).length ≤ 1759218604416) := Nat.le_trans HR.out.1.1 (by omega)
  have HR2 : Hid (∀ i, i < (gotNs vs ps).length → Fits (nodeAt (gotNs vs ps) i)) := HR.out.2
  go_wp2_with fail
  refine (eqVNodeS_any w5.heap.size _ _ (gotNs vs ps) _ (HN5.out.nodes HR1.out HR2.out) ((HN0.out.below H35.out).nodes HR1.out HR2.out) (Nat.le_refl _)).mono ?_
  rintro e w6 ⟨rfl, hb6⟩
  have HO6 := hideIt (HO5.out.below hb6)
  have HP6 := hideIt (rowIs_below' HP5.out hb6 (by omega))
  have H36 := hideIt (below_next H35.out hb6 (by omega))
  have HB6 := hideIt (below_next HB5.out hb6 (by omega))
  have HFR6 := hideIt ((From.refl base5 w5).below hb6)
  have z6 := hb6.size
  clear hb6
  go_wp2_with fail
  refine (toVNodeS_any w.heap.size _ vs _ (HN.out.below HB6.out) (by omega)).mono ?_
  rintro e w7 ⟨KB7, KI7, rfl, ho7, hb7⟩
  have HO7 := hideIt ho7
  have HOx := hideIt (HO6.out.below hb7)
  have HP7 := hideIt (rowIs_below' HP6.out hb7 (by omega))
  have H37 := hideIt (below_next H36.out hb7 (by omega))
  have HB7 := hideIt (below_next HB6.out hb7 (by omega))
  have HFR7 := hideIt (HFR6.out.below hb7)
  have z7 := hb7.size
  clear ho7 hb7
  go_wp2_with fail
  refine (eqVNodeS_any w7.heap.size _ _ vs _ (HOx.out.nodes HL.out HF.out) (HO7.out.nodes HL.out HF.out) (Nat.le_refl _)).mono ?_
  rintro e w8 ⟨rfl, hb8⟩
  have HO8 := hideIt (HOx.out.below hb8)
  have HP8 := hideIt (rowIs_below' HP7.out hb8 (by omega))
  have H38 := hideIt (below_next H37.out hb8 (by omega))
  have HB8 := hideIt (below_next HB7.out hb8 (by omega))
  have HFR8 := hideIt (HFR7.out.below hb8)
  have z8 := hb8.size
  clear hb8
  go_wp2_with fail
  refine (toPStepS_any w.heap.size _ ps _ (HP.out.below HB8.out) (by omega)).mono ?_
  rintro e w7b ⟨rfl, hp7, hb7b⟩
  have HPy := hideIt hp7
  have HO9 := hideIt (HO8.out.below hb7b)
  have HP9 := hideIt (rowIs_below' HP8.out hb7b (by omega))
  have H39 := hideIt (below_next H38.out hb7b (by omega))
  have HB9 := hideIt (below_next HB8.out hb7b (by omega))
  have HFR9 := hideIt (HFR8.out.below hb7b)
  have z9 := hb7b.size
  clear hp7 hb7b
  go_wp2_with fail
  refine (eqPStepS_any w7b.heap.size _ _ ps _ (ownSteps HP9.out HPL.out HPF.out) (ownSteps HPy.out HPL.out HPF.out) (Nat.le_refl _)).mono ?_
  rintro e w8b ⟨rfl, hb8b⟩
  have HOa := hideIt (HO9.out.below hb8b)
  have HPa := hideIt (rowIs_below' HP9.out hb8b (by omega))
  have H3a := hideIt (below_next H39.out hb8b (by omega))
  have HBa := hideIt (below_next HB9.out hb8b (by omega))
  have HFRa := hideIt (HFR9.out.below hb8b)
  have za := hb8b.size
  clear hb8b
  have HKK : Hid (∀ i, i < vs.length → (nodeAt vs i).keys.length ≤ 1048576 ∧ (nodeAt vs i).kids.length ≤ 1048576) := fun i hi => small_rows2 (HSM.out.2 i hi)
  go_wp2_with fail
  refine (markVNodeS_any w3.heap.size w3.heap.size vs.length vs.length 1 (some ⟨w3.heap.size, 0, none⟩) _ _ KB4 KI4 w8b (fun _ => ⟨rfl, HOa.out.marky HSM.out.1 HKK.out⟩) (by omega) HSM.out.1 (by omega) (by omega)).mono ?_
  rintro e wb ⟨rfl, _, honb, hbb⟩
  have H3b := hideIt (H3a.out.trans hbb)
  have HBb := hideIt (HBa.out.trans (hbb.mono (by omega)))
  have HFRb := hideIt (HFRa.out.only honb (fun c hc => by have := (HO4.out.marked hc).2; omega))
  have HPb : Hid (wb.rowIs w4.heap.size 82 (ps.length * 3) (stepCell ps)) := HPa.out.of_block (honb.2 _ (by omega) (fun hc => by have := (HO4.out.marked hc).2; omega))
  have zb := hbb.size
  clear honb hbb
  have hOL : off (fun i => (nodeAt vs i).keys.length) (fun i => (nodeAt vs i).kids.length) 1 vs.length ≤ 1 + vs.length * 2097155 := off_le _ _ _ _ (fun j hj => HKK.out j hj)
  have hOG : 1 ≤ off (fun i => (nodeAt vs i).keys.length) (fun i => (nodeAt vs i).kids.length) 1 vs.length := off_ge _ _ _ _
  have hvL := HSM.out.1
  generalize off (fun i => (nodeAt vs i).keys.length) (fun i => (nodeAt vs i).kids.length) 1 vs.length = M9 at *
  go_wp2_with fail
  refine (markPStepS_any w4.heap.size w4.heap.size ps.length ps.length M9 (some ⟨w4.heap.size, 0, none⟩) wb (fun _ => ⟨rfl, Nat.le_refl _, HPb.out.lt, fun j hj => ⟨⟨_, HPb.out.cell hj⟩, HPb.out.frozen j⟩⟩) (by omega) HPL.out hOG (by omega)).mono ?_
  rintro e wc ⟨rfl, _, honc, hbc⟩
  have H3c := hideIt (H3b.out.trans (hbc.mono (by omega)))
  have HBc := hideIt (HBb.out.trans (hbc.mono (by omega)))
  have HFRc := hideIt (HFRb.out.only honc (fun c hc => by have := hc.2; omega))
  have zc := hbc.size
  clear honc hbc
  have hM9 : ¬ (((M9 + ps.length * 3 : Nat) : Int) < 0) := by omega
  go_wp2_with fail
  refine (eqVNodeS_any wc.heap.size _ _ (gotNs vs ps) _ ((HN5.out.from HFRc.out).nodes HR1.out HR2.out) ((HN0.out.below H3c.out).nodes HR1.out HR2.out) (Nat.le_refl _)).mono ?_
  rintro e w10 ⟨rfl, hb10⟩
  have H310 := hideIt (below_next H3c.out hb10 (by omega))
  have HB10 := hideIt (below_next HBc.out hb10 (by omega))
  have HN10 := hideIt (HN5.out.from (HFRc.out.below hb10))
  have z10 := hb10.size
  clear hb10
  have HMK := hideIt (HN10.out.mark HLL.out HR.out.1)
  have hLs : L ≤ 80 := by rw [← HLL.out]; exact HR.out.1.1
  go_wp2_with fail
  refine (markVNodeS_any base5 _ L c5 1 a5 _ _ _ _ w10 HMK.out (by omega) (by omega) (by omega) (by omega)).mono ?_
  rintro e w11 ⟨rfl, hh11, hon11, hb11⟩
  have H311 := hideIt (H310.out.trans (hb11.mono (by omega)))
  have HB11 := hideIt (HB10.out.trans (hb11.mono (by omega)))
  have HH11 := hideIt hh11
  have z11 := hb11.size
  clear hh11 hon11 hb11
  have HKR : Hid (∀ i, i < L → knOf (gotNs vs ps) i ≤ 1048576 ∧ inOf (gotNs vs ps) i ≤ 1048576) := fun i hi => by
    have := HR.out.1.2 i (by rw [HLL.out]; exact hi)
    unfold knOf inOf
    omega
  have HAD : Hid (0 < L → a5 = some ⟨blk (.slice a5 L c5), 0, none⟩) := fun hp => (HMK.out hp).1
  go_wp2_with fail
  refine (heldVNodeS_any _ L c5 1 a5 _ _ _ _ w11 HAD.out (by omega) HKR.out (by omega) (by omega) HH11.out).mono ?_
  rintro e w12 ⟨rfl, hb12⟩
  have H312 := hideIt (below_next H311.out hb12 (by omega))
  have HB12 := hideIt (below_next HB11.out hb12 (by omega))
  have H1112 := hideIt hb12
  have z12 := hb12.size
  clear hb12
  have HOFF : Hid (∃ M, off (knOf (gotNs vs ps)) (inOf (gotNs vs ps)) 1 L = M) := ⟨_, rfl⟩
  obtain ⟨M12, hM12⟩ := HOFF.out
  rw [hM12]
  have HM12 := hideIt hM12
  have hM0 : ¬ ((M12 : Int) < 0) := by omega
  clear hM12
  go_wp2_with fail
  refine (toVNodeS_any w.heap.size _ vs _ (HN.out.below HB12.out) (by omega)).mono ?_
  rintro e w13 ⟨KB13, KI13, rfl, ho13, hb13⟩
  have HO13 := hideIt ho13
  have H313 := hideIt (below_next H312.out hb13 (by omega))
  have HB13 := hideIt (below_next HB12.out hb13 (by omega))
  have H1113 := hideIt (below_next H1112.out hb13 (by omega))
  have z13 := hb13.size
  clear ho13 hb13
  go_wp2_with fail
  refine (toPStepS_any w.heap.size _ ps _ (HP.out.below HB13.out) (by omega)).mono ?_
  rintro e w13b ⟨rfl, hp13, hb13b⟩
  have HP13 := hideIt hp13
  have HO13b := hideIt (HO13.out.below hb13b)
  have H313b := hideIt (below_next H313.out hb13b (by omega))
  have HB13b := hideIt (below_next HB13.out hb13b (by omega))
  have H1113b := hideIt (below_next H1113.out hb13b (by omega))
  have z13b := hb13b.size
  clear hp13 hb13b
  go_wp2_with fail
  refine (implGot_any w13b.heap.size _ _ vs ps _ (HO13b.out.nodes HL.out HF.out) (ownSteps HP13.out HPL.out HPF.out) (Nat.le_refl _)).mono ?_
  rintro e w14 ⟨r14, base14, KV14, IV14, rfl, hbase14, hbase14', hnest14, hb14⟩
  have HN14 := hideIt hnest14
  obtain ⟨a14, c14, hr14⟩ := own_slice hnest14.row
  rw [HLL.out] at hr14
  subst hr14
  have H314 := hideIt (below_next H313b.out hb14 (by omega))
  have HB14 := hideIt (below_next HB13b.out hb14 (by omega))
  have H1114 := hideIt (below_next H1113b.out hb14 (by omega))
  have z14 := hb14.size
  clear hnest14 hb14
  go_wp2_with fail
  refine (eqVNodeS_any w14.heap.size _ _ (gotNs vs ps) _ (HN14.out.nodes HR1.out HR2.out) ((HN0.out.below H314.out).nodes HR1.out HR2.out) (Nat.le_refl _)).mono ?_
  rintro e w15 ⟨rfl, hb15⟩
  have HB15 := hideIt (below_next HB14.out hb15 (by omega))
  have H1115 := hideIt (below_next H1114.out hb15 (by omega))
  have z15 := hb15.size
  clear hb15
  go_wp2_with fail
  refine (heldVNodeS_any _ L c5 1 a5 _ _ _ _ w15 HAD.out (by omega) HKR.out (by omega) (by omega) (fun i hi => (HH11.out i hi).below H1115.out)).mono ?_
  rintro e w16 ⟨rfl, hb16⟩
  have HB16 := hideIt (below_next HB15.out hb16 (by omega))
  clear hb16
  rw [HM12.out]
  go_wp2_with fail
  go_ret
  exact ⟨rfl, HB16.out⟩
end Go.Proofs.Ytbclgogolimbgaa
