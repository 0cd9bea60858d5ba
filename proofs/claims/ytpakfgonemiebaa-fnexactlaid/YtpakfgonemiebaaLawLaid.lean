/-
  The law of Laid: the call returns true and turns nothing that was there.
-/
import Derived.Test.YtpakfgonemiebaaEq
import Derived.Test.YtpakfgonemiebaaSpc2
import Derived.Test.YtpakfgonemiebaaPsK
namespace Go.Proofs.Ytpakfgonemiebaa
open Go.RowKit
set_option linter.unusedSimpArgs false
set_option linter.unusedVariables false

theorem rowIs_blkL {w w' : World} {b t n : Nat} {f : Nat → Value} (h : w.rowIs b t n f) (hz : b < w'.heap.size) (e : w'.heap[b]? = w.heap[b]?) : w'.rowIs b t n f := by
  unfold World.rowIs at h ⊢
  simpa [e] using h

theorem OwnAt.fromL {w w' : World} {b : Nat} {vs : List VN} {KB KI : Nat → Nat} (h : OwnAt w b vs KB KI) (hf : From b w w') : OwnAt w' b vs KB KI := by
  have hz := hf.1
  refine ⟨rowIs_blkL h.row (Nat.lt_of_lt_of_le h.row.lt hz) (hf.2 _ (Nat.le_refl _) h.row.lt), ⟨h.to.lo, fun i hi => ?_, fun i hi => ?_, h.to.mono⟩⟩
  · have := h.to.lo i hi
    exact rowIs_blkL (h.to.rk i hi) (Nat.lt_of_lt_of_le (h.to.rk i hi).lt hz) (hf.2 _ (by omega) (h.to.rk i hi).lt)
  · have := h.to.lo i hi
    exact rowIs_blkL (h.to.ri i hi) (Nat.lt_of_lt_of_le (h.to.ri i hi).lt hz) (hf.2 _ (by omega) (h.to.ri i hi).lt)
theorem small_rows2 {x : VN} (h : Small x) : x.keys.length ≤ 1048576 ∧ x.kids.length ≤ 1048576 := ⟨h.kn, h.ki⟩
theorem below_next {A : Nat} {a b c : World} (h : Below A a b) (h2 : Below b.heap.size b c) (hA : A ≤ b.heap.size) : Below A a c := h.trans (h2.mono hA)

set_option maxRecDepth 100000 in
set_option maxHeartbeats 12800000 in
theorem lawLaid_walk (v u z : Value) (vs : List VN) (ps : List PS) (ws : List VN) (w : World) (h : RawNodes w.heap.size w v vs) (hu : RawSteps w.heap.size w u ps) (hz : RawNodes w.heap.size w z ws) :
    Calls Try.prog 6 #[v, u, z] w fun e w' => e = .returned (.bool true) ∧ Below w.heap.size w w' := by
  have H := hideIt h
  have HU := hideIt hu
  have HZ := hideIt hz
  obtain ⟨_, a, cap, rfl, _⟩ := h
  obtain ⟨_, _, au, cu, rfl, _⟩ := hu
  obtain ⟨_, az, cz, rfl, _⟩ := hz
  go_enter Try.func6, Try.ntmps6
  go_wp2_with fail
  refine (szVNodeS_any w.heap.size _ vs 1048576 _ H.out (Nat.le_refl _) (by omega) (by omega)).mono ?_
  rintro e w1 ⟨⟨q, rfl, hq, hs⟩, hb1⟩
  have HS := hideIt hs
  clear hs
  have z1 := hb1.size
  by_cases hq0 : q < 0
  · go_wp2_with fail
    go_ret
    exact ⟨rfl, hb1⟩
  have HB1 := hideIt hb1
  clear hb1
  go_wp2_with fail
  refine (szPStepS_any w.heap.size _ ps q _ (HU.out.below HB1.out) z1 (by omega) hq).mono ?_
  rintro e w1b ⟨⟨q', rfl, hq', hs'⟩, hb1b⟩
  have HS' := hideIt hs'
  have HB1b := hideIt (below_next HB1.out hb1b z1)
  clear hs' hb1b
  have z1b := HB1b.out.size
  by_cases hq0' : q' < 0
  · go_wp2_with fail
    go_ret
    exact ⟨rfl, HB1b.out⟩
  go_wp2_with fail
  refine (szVNodeS_any w.heap.size _ ws q' _ (HZ.out.below HB1b.out) z1b (by omega) hq').mono ?_
  rintro e w1c ⟨⟨q2, rfl, hq2, hs2⟩, hb1c⟩
  have HS2 := hideIt hs2
  have HB1c := hideIt (below_next HB1b.out hb1c z1b)
  clear hs2 hb1c
  have z1c := HB1c.out.size
  by_cases hq02 : q2 < 0
  · go_wp2_with fail
    go_ret
    exact ⟨rfl, HB1c.out⟩
  have HSM := hideIt (HS.out (by omega))
  have HSW := hideIt (HS2.out (by omega))
  have HNW := hideIt (HZ.out.fit HSW.out.1 HSW.out.2)
  have HFW := hideIt HNW.out.fits
  have HLW := hideIt HNW.out.1
  have HSU := hideIt (HS'.out (by omega))
  have HN := hideIt (H.out.fit HSM.out.1 HSM.out.2)
  have HP := hideIt (HU.out.fit (M' := 1048576) (S' := 1048576) HSU.out.1 HSU.out.2)
  have HF := hideIt HN.out.fits
  have HL := hideIt HN.out.1
  have HPL := hideIt HP.out.1
  have HPF := hideIt HP.out.2.1
  have HR := hideIt (laid_few vs ps ws)
  go_wp2_with fail
  refine (toVNodeS_any w.heap.size _ vs _ (HN.out.below HB1c.out) (by omega)).mono ?_
  rintro e w2 ⟨KB2, KI2, rfl, ho2, hb2⟩
  have HO2 := hideIt ho2
  have HB2 := hideIt (below_next HB1c.out hb2 z1c)
  have z2 := HB2.out.size
  clear ho2 hb2
  go_wp2_with fail
  refine (toPStepS_any w.heap.size _ ps _ (HP.out.below HB2.out) (by omega)).mono ?_
  rintro e w2b ⟨rfl, hp2, hb2b⟩
  have HO2b := hideIt (HO2.out.below hb2b)
  have HP2 := hideIt hp2
  have HB2b := hideIt (below_next HB2.out hb2b z2)
  have z2b := HB2b.out.size
  have hp2l := hp2.lt
  clear hp2 hb2b
  go_wp2_with fail
  refine (toVNodeS_any w.heap.size _ ws _ (HNW.out.below HB2b.out) (by omega)).mono ?_
  rintro e w2c ⟨KB2c, KI2c, rfl, ho2c, hb2c⟩
  have HW2 := hideIt ho2c
  have HO2c := hideIt (HO2b.out.below hb2c)
  have HP2c := hideIt (rowIs_below' HP2.out hb2c hp2l)
  have HB2c := hideIt (below_next HB2b.out hb2c z2b)
  have z2c := HB2c.out.size
  clear ho2c hb2c
  go_wp2_with fail
  refine (specLaid_any w2c.heap.size _ _ _ vs ps ws _ (HO2c.out.nodes HL.out HF.out) (ownSteps HP2c.out HPL.out HPF.out) (fun a n c e => by cases e; exact Nat.le_refl _) (HW2.out.nodes HLW.out HFW.out) (Nat.le_refl _)).mono ?_
  rintro e w3 ⟨r0, base0, KV0, IV0, rfl, hbase0, hnest0, hb3⟩
  have HN0 := hideIt hnest0
  obtain ⟨a0, c0, hr0⟩ := own_slice hnest0.row
  obtain ⟨L, hL⟩ : ∃ L, (laidNs vs ps ws).length = L := ⟨_, rfl⟩
  have HLL := hideIt hL
  rw [hL] at hr0
  subst hr0
  have HB3 := hideIt (below_next HB2c.out hb3 z2c)
  have z3 := HB3.out.size
  clear hnest0 hb3 hL
  go_wp2_with fail
  refine (toVNodeS_any w.heap.size _ vs _ (HN.out.below HB3.out) (by omega)).mono ?_
  rintro e w4 ⟨KB4, KI4, rfl, ho4, hb4⟩
  have HO4 := hideIt ho4
  have H34 := hideIt hb4
  have HB4 := hideIt (below_next HB3.out hb4 z3)
  have z4 := H34.out.size
  clear ho4 hb4
  go_wp2_with fail
  refine (toPStepS_any w.heap.size _ ps _ (HP.out.below HB4.out) (by omega)).mono ?_
  rintro e w4b ⟨rfl, hp4, hb4b⟩
  have HO4b := hideIt (HO4.out.below hb4b)
  have HP4 := hideIt hp4
  have H34b := hideIt (below_next H34.out hb4b z4)
  have HB4b := hideIt (below_next HB4.out hb4b (by omega))
  have z4b := hb4b.size
  have hp4l := hp4.lt
  clear hp4 hb4b
  go_wp2_with fail
  refine (toVNodeS_any w.heap.size _ ws _ (HNW.out.below HB4b.out) (by omega)).mono ?_
  rintro e w4c ⟨KB4c, KI4c, rfl, ho4c, hb4c⟩
  have HW4 := hideIt ho4c
  have HO4c := hideIt (HO4b.out.below hb4c)
  have HP4c := hideIt (rowIs_below' HP4.out hb4c hp4l)
  have H34c := hideIt (below_next H34b.out hb4c (by omega))
  have HB4c := hideIt (below_next HB4b.out hb4c (by omega))
  have z4c := hb4c.size
  clear ho4c hb4c
  go_wp2_with fail
  refine (implLaid_any w4c.heap.size _ _ _ vs ps ws _ (HO4c.out.nodes HL.out HF.out) (ownSteps HP4c.out HPL.out HPF.out) (fun a n c e => by cases e; exact Nat.le_refl _) (HW4.out.nodes HLW.out HFW.out) (Nat.le_refl _)).mono ?_
  rintro e w5 ⟨r5, base5, KV5, IV5, rfl, hbase5, hbase5', hnest5, hb5⟩
  have HN5 := hideIt hnest5
  obtain ⟨a5, c5, hr5⟩ := own_slice hnest5.row
  rw [HLL.out] at hr5
  subst hr5
  have HO5 := hideIt (HO4c.out.below hb5)
  have HW5 := hideIt (HW4.out.below hb5)
  have HP5 := hideIt (rowIs_below' HP4c.out hb5 (by omega))
  have H35 := hideIt (below_next H34c.out hb5 (by omega))
  have HB5 := hideIt (below_next HB4c.out hb5 (by omega))
  have z5 := hb5.size
  clear hnest5 hb5
  have hpe : (laidB vs ps ws != laidB vs ps ws) = false := by simp
  have HR1 : Hid ((laidNs vs ps ws).length ≤ 1759218604416) := Nat.le_trans HR.out.1.1 (by omega)
  have HR2 : Hid (∀ i, i < (laidNs vs ps ws).length → Fits (nodeAt (laidNs vs ps ws) i)) := HR.out.2
  go_wp2_with fail
  refine (eqVNodeS_any w5.heap.size _ _ (laidNs vs ps ws) _ (HN5.out.nodes HR1.out HR2.out) ((HN0.out.below H35.out).nodes HR1.out HR2.out) (Nat.le_refl _)).mono ?_
  rintro e w6 ⟨rfl, hb6⟩
  have HO6 := hideIt (HO5.out.below hb6)
  have HW6 := hideIt (HW5.out.below hb6)
  have HP6 := hideIt (rowIs_below' HP5.out hb6 (by omega))
  have H36 := hideIt (below_next H35.out hb6 (by omega))
  have HB6 := hideIt (below_next HB5.out hb6 (by omega))
  have HFR6 := hideIt ((From.refl base5 w5).below hb6)
  have z6 := hb6.size
  clear hb6
  go_wp2_with fail
  refine (toVNodeS_any w.heap.size _ vs _ (HN.out.below HB6.out) (by omega)).mono ?_
  rintro e w7 ⟨KB7, KI7, rfl, ho7, hb7⟩
  have HO7 := hideIt ho7
  have HOx := hideIt (HO6.out.below hb7)
  have HW7 := hideIt (HW6.out.below hb7)
  have HP7 := hideIt (rowIs_below' HP6.out hb7 (by omega))
  have H37 := hideIt (below_next H36.out hb7 (by omega))
  have HB7 := hideIt (below_next HB6.out hb7 (by omega))
  have HFR7 := hideIt (HFR6.out.below hb7)
  have z7 := hb7.size
  clear ho7 hb7
  go_wp2_with fail
  refine (eqVNodeS_any w7.heap.size _ _ vs _ (HOx.out.nodes HL.out HF.out) (HO7.out.nodes HL.out HF.out) (Nat.le_refl _)).mono ?_
  rintro e w8 ⟨rfl, hb8⟩
  have HO8 := hideIt (HOx.out.below hb8)
  have HW8 := hideIt (HW7.out.below hb8)
  have HP8 := hideIt (rowIs_below' HP7.out hb8 (by omega))
  have H38 := hideIt (below_next H37.out hb8 (by omega))
  have HB8 := hideIt (below_next HB7.out hb8 (by omega))
  have HFR8 := hideIt (HFR7.out.below hb8)
  have z8 := hb8.size
  clear hb8
  go_wp2_with fail
  refine (toPStepS_any w.heap.size _ ps _ (HP.out.below HB8.out) (by omega)).mono ?_
  rintro e w7b ⟨rfl, hp7, hb7b⟩
  have HPy := hideIt hp7
  have HO9 := hideIt (HO8.out.below hb7b)
  have HW9 := hideIt (HW8.out.below hb7b)
  have HP9 := hideIt (rowIs_below' HP8.out hb7b (by omega))
  have H39 := hideIt (below_next H38.out hb7b (by omega))
  have HB9 := hideIt (below_next HB8.out hb7b (by omega))
  have HFR9 := hideIt (HFR8.out.below hb7b)
  have z9 := hb7b.size
  clear hp7 hb7b
  go_wp2_with fail
  refine (eqPStepS_any w7b.heap.size _ _ ps _ (ownSteps HP9.out HPL.out HPF.out) (ownSteps HPy.out HPL.out HPF.out) (Nat.le_refl _)).mono ?_
  rintro e w8b ⟨rfl, hb8b⟩
  have HOa0 := hideIt (HO9.out.below hb8b)
  have HWa0 := hideIt (HW9.out.below hb8b)
  have HPa0 := hideIt (rowIs_below' HP9.out hb8b (by omega))
  have H3a0 := hideIt (below_next H39.out hb8b (by omega))
  have HBa0 := hideIt (below_next HB9.out hb8b (by omega))
  have HFRa0 := hideIt (HFR9.out.below hb8b)
  have za0 := hb8b.size
  clear hb8b
  go_wp2_with fail
  refine (toVNodeS_any w.heap.size _ ws _ (HNW.out.below HBa0.out) (by omega)).mono ?_
  rintro e w7c ⟨KB7c, KI7c, rfl, ho7c, hb7c⟩
  have HWn := hideIt ho7c
  have HOa1 := hideIt (HOa0.out.below hb7c)
  have HWa1 := hideIt (HWa0.out.below hb7c)
  have HPa1 := hideIt (rowIs_below' HPa0.out hb7c (by omega))
  have H3a1 := hideIt (below_next H3a0.out hb7c (by omega))
  have HBa1 := hideIt (below_next HBa0.out hb7c (by omega))
  have HFRa1 := hideIt (HFRa0.out.below hb7c)
  have za1 := hb7c.size
  clear ho7c hb7c
  go_wp2_with fail
  refine (eqVNodeS_any w7c.heap.size _ _ ws _ (HWa1.out.nodes HLW.out HFW.out) (HWn.out.nodes HLW.out HFW.out) (Nat.le_refl _)).mono ?_
  rintro e w8c ⟨rfl, hb8c⟩
  have HOa := hideIt (HOa1.out.below hb8c)
  have HWa := hideIt (HWa1.out.below hb8c)
  have HPa := hideIt (rowIs_below' HPa1.out hb8c (by omega))
  have H3a := hideIt (below_next H3a1.out hb8c (by omega))
  have HBa := hideIt (below_next HBa1.out hb8c (by omega))
  have HFRa := hideIt (HFRa1.out.below hb8c)
  have za := hb8c.size
  clear hb8c
  have HKK : Hid (∀ i, i < vs.length → (nodeAt vs i).keys.length ≤ 1048576 ∧ (nodeAt vs i).kids.length ≤ 1048576) := fun i hi => small_rows2 (HSM.out.2 i hi)
  go_wp2_with fail
  refine (markVNodeS_any w3.heap.size w3.heap.size vs.length vs.length 1 (some ⟨w3.heap.size, 0, none⟩) _ _ KB4 KI4 w8c (fun _ => ⟨rfl, HOa.out.marky HSM.out.1 HKK.out⟩) (by omega) HSM.out.1 (by omega) (by omega)).mono ?_
  rintro e wb ⟨rfl, _, honb, hbb⟩
  have H3b := hideIt (H3a.out.trans hbb)
  have HBb := hideIt (HBa.out.trans (hbb.mono (by omega)))
  have HFRb := hideIt (HFRa.out.only honb (fun c hc => by have := (HO4.out.marked hc).2; omega))
  have HWb := hideIt (HWa.out.fromL ((From.refl w4b.heap.size w8c).only honb (fun c hc => by have := (HO4.out.marked hc).2; omega)))
  have HPb : Hid (wb.rowIs w4.heap.size 39 (ps.length * 3) (stepCell ps)) := HPa.out.of_block (honb.2 _ (by omega) (fun hc => by have := (HO4.out.marked hc).2; omega))
  have zb := hbb.size
  clear honb hbb
  have hOL : off (fun i => (nodeAt vs i).keys.length) (fun i => (nodeAt vs i).kids.length) 1 vs.length ≤ 1 + vs.length * 2097155 := off_le _ _ _ _ (fun j hj => HKK.out j hj)
  have hOG : 1 ≤ off (fun i => (nodeAt vs i).keys.length) (fun i => (nodeAt vs i).kids.length) 1 vs.length := off_ge _ _ _ _
  have hvL := HSM.out.1
  generalize off (fun i => (nodeAt vs i).keys.length) (fun i => (nodeAt vs i).kids.length) 1 vs.length = M9 at *
  go_wp2_with fail
  refine (markPStepS_any w4.heap.size w4.heap.size ps.length ps.length M9 (some ⟨w4.heap.size, 0, none⟩) wb (fun _ => ⟨rfl, Nat.le_refl _, HPb.out.lt, fun j hj => ⟨⟨_, HPb.out.cell hj⟩, HPb.out.frozen j⟩⟩) (by omega) HPL.out hOG (by omega)).mono ?_
  rintro e wc ⟨rfl, _, honc, hbc⟩
  have H3c := hideIt (H3b.out.trans (hbc.mono (by omega)))
  have HBc := hideIt (HBb.out.trans (hbc.mono (by omega)))
  have HFRc0 := hideIt (HFRb.out.only honc (fun c hc => by have := hc.2; omega))
  have HWc := hideIt (HWb.out.fromL ((From.refl w4b.heap.size wb).only honc (fun c hc => by have := hc.2; omega)))
  have zc := hbc.size
  clear honc hbc
  have HKW : Hid (∀ i, i < ws.length → (nodeAt ws i).keys.length ≤ 1048576 ∧ (nodeAt ws i).kids.length ≤ 1048576) := fun i hi => small_rows2 (HSW.out.2 i hi)
  have hPL := HPL.out
  obtain ⟨M10, hM10⟩ : ∃ M10, M9 + ps.length * 3 = M10 := ⟨_, rfl⟩
  have hM10b : 1 ≤ M10 ∧ M10 ≤ 10000000000000 := by omega
  rw [hM10]
  clear hM10 hPL hOL hvL
  go_wp2_with fail
  refine (markVNodeS_any w4b.heap.size w4b.heap.size ws.length ws.length M10 (some ⟨w4b.heap.size, 0, none⟩) _ _ KB4c KI4c wc (fun _ => ⟨rfl, HWc.out.marky HSW.out.1 HKW.out⟩) (by omega) HSW.out.1 hM10b.1 hM10b.2).mono ?_
  rintro e wd ⟨rfl, _, hond, hbd⟩
  have H3d := hideIt (H3c.out.trans (hbd.mono (by omega)))
  have HBd := hideIt (HBc.out.trans (hbd.mono (by omega)))
  have HFRc := hideIt (HFRc0.out.only hond (fun c hc => by have := (HW4.out.marked hc).2; omega))
  have zd := hbd.size
  clear hond hbd
  generalize off (fun i => (nodeAt ws i).keys.length) (fun i => (nodeAt ws i).kids.length) M10 ws.length = M11
  have hM11 : ¬ ((M11 : Int) < 0) := by omega
  go_wp2_with fail
  refine (eqVNodeS_any wd.heap.size _ _ (laidNs vs ps ws) _ ((HN5.out.from HFRc.out).nodes HR1.out HR2.out) ((HN0.out.below H3d.out).nodes HR1.out HR2.out) (Nat.le_refl _)).mono ?_
  rintro e w10 ⟨rfl, hb10⟩
  have H310 := hideIt (below_next H3d.out hb10 (by omega))
  have HB10 := hideIt (below_next HBd.out hb10 (by omega))
  have HN10 := hideIt (HN5.out.from (HFRc.out.below hb10))
  have z10 := hb10.size
  clear hb10
  have HMK := hideIt (HN10.out.mark HLL.out HR.out.1)
  have hLs : L ≤ 80 := by rw [← HLL.out]; exact HR.out.1.1
  go_wp2_with fail
  refine (markVNodeS_any base5 _ L c5 1 a5 _ _ _ _ w10 HMK.out (by omega) (by omega) (by omega) (by omega)).mono ?_
  rintro e w11 ⟨rfl, hh11, hon11, hb11⟩
  have H311 := hideIt (H310.out.trans (hb11.mono (by omega)))
  have HB11 := hideIt (HB10.out.trans (hb11.mono (by omega)))
  have HH11 := hideIt hh11
  have z11 := hb11.size
  clear hh11 hon11 hb11
  have HKR : Hid (∀ i, i < L → knOf (laidNs vs ps ws) i ≤ 1048576 ∧ inOf (laidNs vs ps ws) i ≤ 1048576) := fun i hi => by
    have := HR.out.1.2 i (by rw [HLL.out]; exact hi)
    unfold knOf inOf
    omega
  have HAD : Hid (0 < L → a5 = some ⟨blk (.slice a5 L c5), 0, none⟩) := fun hp => (HMK.out hp).1
  go_wp2_with fail
  refine (heldVNodeS_any _ L c5 1 a5 _ _ _ _ w11 HAD.out (by omega) HKR.out (by omega) (by omega) HH11.out).mono ?_
  rintro e w12 ⟨rfl, hb12⟩
  have H312 := hideIt (below_next H311.out hb12 (by omega))
  have HB12 := hideIt (below_next HB11.out hb12 (by omega))
  have H1112 := hideIt hb12
  have z12 := hb12.size
  clear hb12
  have HOFF : Hid (∃ M, off (knOf (laidNs vs ps ws)) (inOf (laidNs vs ps ws)) 1 L = M) := ⟨_, rfl⟩
  obtain ⟨M12, hM12⟩ := HOFF.out
  rw [hM12]
  have HM12 := hideIt hM12
  have hM0 : ¬ ((M12 : Int) < 0) := by omega
  clear hM12
  go_wp2_with fail
  refine (toVNodeS_any w.heap.size _ vs _ (HN.out.below HB12.out) (by omega)).mono ?_
  rintro e w13 ⟨KB13, KI13, rfl, ho13, hb13⟩
  have HO13 := hideIt ho13
  have H313 := hideIt (below_next H312.out hb13 (by omega))
  have HB13 := hideIt (below_next HB12.out hb13 (by omega))
  have H1113 := hideIt (below_next H1112.out hb13 (by omega))
  have z13 := hb13.size
  clear ho13 hb13
  go_wp2_with fail
  refine (toPStepS_any w.heap.size _ ps _ (HP.out.below HB13.out) (by omega)).mono ?_
  rintro e w13b ⟨rfl, hp13, hb13b⟩
  have HP13 := hideIt hp13
  have HO13b := hideIt (HO13.out.below hb13b)
  have H313b := hideIt (below_next H313.out hb13b (by omega))
  have HB13b := hideIt (below_next HB13.out hb13b (by omega))
  have H1113b := hideIt (below_next H1113.out hb13b (by omega))
  have z13b := hb13b.size
  have hp13l := hp13.lt
  clear hp13 hb13b
  go_wp2_with fail
  refine (toVNodeS_any w.heap.size _ ws _ (HNW.out.below HB13b.out) (by omega)).mono ?_
  rintro e w13c ⟨KB13c, KI13c, rfl, ho13c, hb13c⟩
  have HW13 := hideIt ho13c
  have HO13c := hideIt (HO13b.out.below hb13c)
  have HP13c := hideIt (rowIs_below' HP13.out hb13c hp13l)
  have H313c := hideIt (below_next H313b.out hb13c (by omega))
  have HB13c := hideIt (below_next HB13b.out hb13c (by omega))
  have H1113c := hideIt (below_next H1113b.out hb13c (by omega))
  have z13c := hb13c.size
  clear ho13c hb13c
  go_wp2_with fail
  refine (implLaid_any w13c.heap.size _ _ _ vs ps ws _ (HO13c.out.nodes HL.out HF.out) (ownSteps HP13c.out HPL.out HPF.out) (fun a n c e => by cases e; exact Nat.le_refl _) (HW13.out.nodes HLW.out HFW.out) (Nat.le_refl _)).mono ?_
  rintro e w14 ⟨r14, base14, KV14, IV14, rfl, hbase14, hbase14', hnest14, hb14⟩
  have HN14 := hideIt hnest14
  obtain ⟨a14, c14, hr14⟩ := own_slice hnest14.row
  rw [HLL.out] at hr14
  subst hr14
  have H314 := hideIt (below_next H313c.out hb14 (by omega))
  have HB14 := hideIt (below_next HB13c.out hb14 (by omega))
  have H1114 := hideIt (below_next H1113c.out hb14 (by omega))
  have z14 := hb14.size
  clear hnest14 hb14
  go_wp2_with fail
  refine (eqVNodeS_any w14.heap.size _ _ (laidNs vs ps ws) _ (HN14.out.nodes HR1.out HR2.out) ((HN0.out.below H314.out).nodes HR1.out HR2.out) (Nat.le_refl _)).mono ?_
  rintro e w15 ⟨rfl, hb15⟩
  have HB15 := hideIt (below_next HB14.out hb15 (by omega))
  have H1115 := hideIt (below_next H1114.out hb15 (by omega))
  have z15 := hb15.size
  clear hb15
  go_wp2_with fail
  refine (heldVNodeS_any _ L c5 1 a5 _ _ _ _ w15 HAD.out (by omega) HKR.out (by omega) (by omega) (fun i hi => (HH11.out i hi).below H1115.out)).mono ?_
  rintro e w16 ⟨rfl, hb16⟩
  have HB16 := hideIt (below_next HB15.out hb16 (by omega))
  clear hb16
  rw [HM12.out]
  go_wp2_with fail
  go_ret
  exact ⟨rfl, HB16.out⟩
end Go.Proofs.Ytpakfgonemiebaa
