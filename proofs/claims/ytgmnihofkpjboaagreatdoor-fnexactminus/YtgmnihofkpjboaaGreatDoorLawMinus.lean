/-
  The law of Minus: the call returns true and turns nothing that was there.
-/
import Derived.Test.YtgmnihofkpjboaaGreatDoorStepI
import Derived.Test.YtgmnihofkpjboaaGreatDoorEq
import Derived.Test.YtgmnihofkpjboaaGreatDoorStbA
import Derived.Test.YtgmnihofkpjboaaGreatDoorIMin
import Derived.Test.YtgmnihofkpjboaaGreatDoorSMinL
import Derived.Test.YtgmnihofkpjboaaGreatDoorKi
namespace Go.Proofs.YtgmnihofkpjboaaGreatDoor
open Go.RowKit
set_option linter.unusedSimpArgs false
set_option linter.unusedVariables false

theorem rowIs_blk {w w' : World} {b t n : Nat} {f : Nat → Value} (h : w.rowIs b t n f) (hz : b < w'.heap.size) (e : w'.heap[b]? = w.heap[b]?) : w'.rowIs b t n f := by
  unfold World.rowIs at h ⊢
  simpa [e] using h

theorem OwnAt.from {w w' : World} {b : Nat} {vs : List VN} {KB KI : Nat → Nat} (h : OwnAt w b vs KB KI) (hf : From b w w') : OwnAt w' b vs KB KI := by
  have hz := hf.1
  refine ⟨rowIs_blk h.row (Nat.lt_of_lt_of_le h.row.lt hz) (hf.2 _ (Nat.le_refl _) h.row.lt), ⟨h.to.lo, fun i hi => ?_, fun i hi => ?_, h.to.mono⟩⟩
  · have := h.to.lo i hi
    exact rowIs_blk (h.to.rk i hi) (Nat.lt_of_lt_of_le (h.to.rk i hi).lt hz) (hf.2 _ (by omega) (h.to.rk i hi).lt)
  · have := h.to.lo i hi
    exact rowIs_blk (h.to.ri i hi) (Nat.lt_of_lt_of_le (h.to.ri i hi).lt hz) (hf.2 _ (by omega) (h.to.ri i hi).lt)

set_option maxRecDepth 100000 in
set_option maxHeartbeats 1600000 in
theorem specMinus_any (B : Nat) (v1 v2 : Value) (us vs : List VN) (w : World) (hn1 : NodesAt B w v1 us) (hn2 : NodesAt B w v2 vs) (hB : B ≤ w.heap.size) :
    Calls Tryz.prog 5 #[v1, v2] w fun e w' => ∃ r base KV IV, e = .returned (.tuple #[r, .int .i64 (minC us vs)]) ∧ w.heap.size ≤ base ∧ Nest base w' r (minNs us vs) KV IV ∧ Below w.heap.size w w' := by
  have H1 := hideIt hn1
  have H2 := hideIt hn2
  obtain ⟨_, a1, c1, rfl, _⟩ := hn1
  obtain ⟨_, a2, c2, rfl, _⟩ := hn2
  have HNO : Hid (¬ (okB us = true ∧ okB vs = true) → minC us vs = 1 ∧ minNs us vs = []) := fun h => by unfold minC minNs; rw [if_neg h, if_neg h]; exact ⟨rfl, rfl⟩
  go_enter Tryz.func5, Tryz.ntmps5
  go_wp2_with fail
  refine (specOk_any B _ us _ H1.out hB).mono ?_
  rintro e w1 ⟨rfl, hb1⟩
  have HB1 := hideIt hb1
  have z1 := hb1.size
  clear hb1
  cases ok1 : okB us
  · have HN := hideIt (HNO.out (by rw [ok1]; simp))
    go_wp2_with fail
    go_ret2
    exact ⟨_, w.heap.size, fun _ => undef, fun _ => undef, by rw [HN.out.1]; rfl, Nat.le_refl _, by rw [HN.out.2]; exact Nest.nil _ _ _ _, HB1.out⟩
  · go_wp2_with fail
    refine (specOk_any B _ vs _ (H2.out.below (HB1.out.mono hB)) (by omega)).mono ?_
    rintro e w2 ⟨rfl, hb2⟩
    have HB2 := hideIt (HB1.out.trans (hb2.mono z1))
    have z2 := HB2.out.size
    clear hb2
    cases ok2 : okB vs
    · have HN := hideIt (HNO.out (by rw [ok2]; simp))
      go_wp2_with fail
      go_ret2
      exact ⟨_, w.heap.size, fun _ => undef, fun _ => undef, by rw [HN.out.1]; rfl, Nat.le_refl _, by rw [HN.out.2]; exact Nest.nil _ _ _ _, HB2.out⟩
    · have HC : Hid (Calls Tryz.prog 13 #[.slice a1 us.length c1, .slice a2 vs.length c2] w2 fun e w' => ∃ r base KV IV, e = .returned (.tuple #[r, .int .i64 (minC us vs)]) ∧ w2.heap.size ≤ base ∧ Nest base w' r (minNs us vs) KV IV ∧ Below w2.heap.size w2 w') := by
        by_cases h5 : (rootN us).kind = 5 ∧ (rootN vs).kind = 5
        · exact l8Minus_list B _ _ us vs w2 (H1.out.below (HB2.out.mono hB)) (H2.out.below (HB2.out.mono hB)) (by omega) ok1 ok2 h5.1 h5.2
        · exact l8Minus_flat B _ _ us vs w2 (H1.out.below (HB2.out.mono hB)) (H2.out.below (HB2.out.mono hB)) (by omega) ok1 ok2 h5
      go_wp2_with fail
      refine HC.out.mono ?_
      rintro e w3 ⟨r, base, KV, IV, rfl, hbase, hn, hb3⟩
      have HN := hideIt hn
      have HB3 := hideIt (HB2.out.trans (hb3.mono z2))
      obtain ⟨C, hC⟩ : ∃ C, minC us vs = C := ⟨_, rfl⟩
      have HCC := hideIt hC
      rw [hC]
      obtain ⟨ar, cr, er⟩ := own_slice hn.row
      obtain ⟨L, hL⟩ : ∃ L, (minNs us vs).length = L := ⟨_, rfl⟩
      rw [hL] at er
      subst er
      clear hn hb3 hL hC
      go_wp2_with fail
      go_ret2
      exact ⟨_, base, KV, IV, by rw [HCC.out]; rfl, by omega, HN.out, HB3.out⟩

theorem off_pos (KN IN : Nat → Nat) (k : Nat) : ∀ i, 1 ≤ k → 1 ≤ off KN IN k i := by
  intro i hk
  induction i with
  | zero => exact hk
  | succ i ih => rw [off]; omega

theorem small_rowsM {x : VN} (h : Small x) : x.keys.length ≤ 1048576 ∧ x.kids.length ≤ 1048576 := ⟨h.kn, h.ki⟩

set_option maxRecDepth 100000 in
set_option maxHeartbeats 6400000 in
theorem lawMinus_walk (v v' : Value) (us vs : List VN) (w : World) (h : RawNodes w.heap.size w v us) (h' : RawNodes w.heap.size w v' vs) (hE : Errs2 w) :
    Calls Tryz.prog 3 #[v, v'] w fun e w' => e = .returned (.bool true) ∧ Below w.heap.size w w' := by
  have H := hideIt h
  have H' := hideIt h'
  have HE := hideIt hE
  obtain ⟨_, a, cap, rfl, _⟩ := h
  obtain ⟨_, a', cap', rfl, _⟩ := h'
  clear hE
  go_enter Tryz.func3, Tryz.ntmps3
  go_wp2_with fail
  refine (szVNodeS_any w.heap.size _ us 1048576 _ H.out (Nat.le_refl _) (by omega) (by omega)).mono ?_
  rintro e w1 ⟨⟨q, rfl, hq, hs⟩, hb1⟩
  have HS := hideIt hs
  clear hs
  have z1 := hb1.size
  by_cases hq0 : q < 0
  · go_wp2_with fail
    go_ret
    exact ⟨rfl, hb1⟩
  have HSM := hideIt (HS.out (by omega))
  have HN := hideIt (H.out.fit HSM.out.1 HSM.out.2)
  have HF := hideIt HN.out.fits
  have HL := hideIt HN.out.1
  go_wp2_with fail
  refine (szVNodeS_any w.heap.size _ vs q _ (H'.out.below hb1) (by omega) (by omega) (by omega)).mono ?_
  rintro e w2 ⟨⟨q', rfl, hq', hs'⟩, hb2⟩
  have HS' := hideIt hs'
  clear hs'
  have HB2 := hideIt (Below.next hb1 hb2)
  have z2 := HB2.out.size
  clear hb2 hb1
  by_cases hq1 : q' < 0
  · go_wp2_with fail
    go_ret
    exact ⟨rfl, HB2.out⟩
  have HSM' := hideIt (HS'.out (by omega))
  have HN' := hideIt (H'.out.fit HSM'.out.1 HSM'.out.2)
  have HF' := hideIt HN'.out.fits
  have HL' := hideIt HN'.out.1
  have HR := hideIt (min_few (us := us) (vs := vs) HF.out)
  go_wp2_with fail
  refine (toVNodeS_any w.heap.size _ us _ (HN.out.below HB2.out) (by omega)).mono ?_
  rintro e w3 ⟨KB3, KI3, rfl, ho3, hb3⟩
  have HO3 := hideIt ho3
  have HB3 := hideIt (Below.next HB2.out hb3)
  have z3 := HB3.out.size
  clear ho3 hb3
  go_wp2_with fail
  refine (toVNodeS_any w.heap.size _ vs _ (HN'.out.below HB3.out) (by omega)).mono ?_
  rintro e w4 ⟨KB4, KI4, rfl, ho4, hb4⟩
  have HO4 := hideIt ho4
  have HO3' := hideIt (HO3.out.below hb4)
  have HB4 := hideIt (Below.next HB3.out hb4)
  have z4 := HB4.out.size
  clear ho4 hb4
  go_wp2_with fail
  refine (specMinus_any w4.heap.size _ _ us vs _ (HO3'.out.nodes HL.out HF.out) (HO4.out.nodes HL'.out HF'.out) (Nat.le_refl _)).mono ?_
  rintro e w5 ⟨r0, base0, KV0, IV0, rfl, hbase0, hnest0, hb5⟩
  have HN0 := hideIt hnest0
  obtain ⟨a0, c0, hr0⟩ := own_slice hnest0.row
  obtain ⟨L, hL⟩ : ∃ L, (minNs us vs).length = L := ⟨_, rfl⟩
  have HLL := hideIt hL
  rw [hL] at hr0
  subst hr0
  obtain ⟨C, hC⟩ : ∃ C, minC us vs = C := ⟨_, rfl⟩
  have HCC := hideIt hC
  rw [hC]
  have HB5 := hideIt (Below.next HB4.out hb5)
  have z5 := HB5.out.size
  clear hnest0 hb5 hL hC HO3 HO3' HO4
  go_wp2_with fail
  refine (toVNodeS_any w.heap.size _ us _ (HN.out.below HB5.out) (by omega)).mono ?_
  rintro e w6 ⟨KB6, KI6, rfl, ho6, hb6⟩
  have HO6 := hideIt ho6
  have H56 := hideIt hb6
  have HB6 := hideIt (Below.next HB5.out hb6)
  have z6 := hb6.size
  clear ho6 hb6
  go_wp2_with fail
  refine (toVNodeS_any w.heap.size _ vs _ (HN'.out.below HB6.out) (by omega)).mono ?_
  rintro e w7 ⟨KB7, KI7, rfl, ho7, hb7⟩
  have HO7 := hideIt ho7
  have HO67 := hideIt (HO6.out.below hb7)
  have H57 := hideIt (Below.next H56.out hb7)
  have HB7 := hideIt (Below.next HB6.out hb7)
  have z7 := hb7.size
  clear ho7 hb7
  go_wp2_with fail
  refine (implMinus_any w7.heap.size _ _ us vs _ (HO67.out.nodes HL.out HF.out) (HO7.out.nodes HL'.out HF'.out) (Nat.le_refl _) (HE.out.below HB7.out)).mono ?_
  rintro e w8 ⟨r8, base8, KV8, IV8, rfl, hbase8, hbase8', hnest8, hb8⟩
  rw [HCC.out]
  have HN8 := hideIt hnest8
  obtain ⟨a8, c8, hr8⟩ := own_slice hnest8.row
  rw [HLL.out] at hr8
  subst hr8
  have HO68 := hideIt (HO67.out.below hb8)
  have HO78 := hideIt (HO7.out.below hb8)
  have H58 := hideIt (Below.next H57.out hb8)
  have HB8 := hideIt (Below.next HB7.out hb8)
  have z8 := hb8.size
  clear hnest8 hb8
  have hpe : (C != C) = false := by simp
  have HR1 : Hid ((minNs us vs).length ≤ 1759218604416) := Nat.le_trans HR.out.1.1 (by omega)
  have HR2 : Hid (∀ i, i < (minNs us vs).length → Fits (nodeAt (minNs us vs) i)) := HR.out.2
  go_wp2_with fail
  refine (eqVNodeS_any w8.heap.size _ _ (minNs us vs) _ (HN8.out.nodes HR1.out HR2.out) ((HN0.out.below H58.out).nodes HR1.out HR2.out) (Nat.le_refl _)).mono ?_
  rintro e w9 ⟨rfl, hb9⟩
  have HO69 := hideIt (HO68.out.below hb9)
  have HO79 := hideIt (HO78.out.below hb9)
  have H59 := hideIt (Below.next H58.out hb9)
  have HB9 := hideIt (Below.next HB8.out hb9)
  have HFR9 := hideIt ((From.refl base8 w8).below hb9)
  have z9 := hb9.size
  clear hb9
  go_wp2_with fail
  refine (toVNodeS_any w.heap.size _ us _ (HN.out.below HB9.out) (by omega)).mono ?_
  rintro e w10 ⟨KB10, KI10, rfl, ho10, hb10⟩
  have HO10 := hideIt ho10
  have HO610 := hideIt (HO69.out.below hb10)
  have HO710 := hideIt (HO79.out.below hb10)
  have H510 := hideIt (Below.next H59.out hb10)
  have HB10 := hideIt (Below.next HB9.out hb10)
  have HFR10 := hideIt (HFR9.out.below hb10)
  have z10 := hb10.size
  clear ho10 hb10
  go_wp2_with fail
  refine (eqVNodeS_any w10.heap.size _ _ us _ (HO610.out.nodes HL.out HF.out) (HO10.out.nodes HL.out HF.out) (Nat.le_refl _)).mono ?_
  rintro e w11 ⟨rfl, hb11⟩
  have HO611 := hideIt (HO610.out.below hb11)
  have HO711 := hideIt (HO710.out.below hb11)
  have H511 := hideIt (Below.next H510.out hb11)
  have HB11 := hideIt (Below.next HB10.out hb11)
  have HFR11 := hideIt (HFR10.out.below hb11)
  have z11 := hb11.size
  clear hb11
  go_wp2_with fail
  refine (toVNodeS_any w.heap.size _ vs _ (HN'.out.below HB11.out) (by omega)).mono ?_
  rintro e w12 ⟨KB12, KI12, rfl, ho12, hb12⟩
  have HO12 := hideIt ho12
  have HO612 := hideIt (HO611.out.below hb12)
  have HO712 := hideIt (HO711.out.below hb12)
  have H512 := hideIt (Below.next H511.out hb12)
  have HB12 := hideIt (Below.next HB11.out hb12)
  have HFR12 := hideIt (HFR11.out.below hb12)
  have z12 := hb12.size
  clear ho12 hb12
  go_wp2_with fail
  refine (eqVNodeS_any w12.heap.size _ _ vs _ (HO712.out.nodes HL'.out HF'.out) (HO12.out.nodes HL'.out HF'.out) (Nat.le_refl _)).mono ?_
  rintro e w13 ⟨rfl, hb13⟩
  have HO613 := hideIt (HO612.out.below hb13)
  have HO713 := hideIt (HO712.out.below hb13)
  have H513 := hideIt (Below.next H512.out hb13)
  have HB13 := hideIt (Below.next HB12.out hb13)
  have HFR13 := hideIt (HFR12.out.below hb13)
  have z13 := hb13.size
  clear hb13 HO610 HO611 HO612 HO710 HO711 HO712
  have HKK : Hid (∀ i, i < us.length → (nodeAt us i).keys.length ≤ 1048576 ∧ (nodeAt us i).kids.length ≤ 1048576) := fun i hi => small_rowsM (HSM.out.2 i hi)
  have HKK' : Hid (∀ i, i < vs.length → (nodeAt vs i).keys.length ≤ 1048576 ∧ (nodeAt vs i).kids.length ≤ 1048576) := fun i hi => small_rowsM (HSM'.out.2 i hi)
  go_wp2_with fail
  refine (markVNodeS_any w5.heap.size w5.heap.size us.length us.length 1 (some ⟨w5.heap.size, 0, none⟩) _ _ KB6 KI6 w13 (fun _ => ⟨rfl, HO613.out.marky HSM.out.1 HKK.out⟩) (by omega) HSM.out.1 (by omega) (by omega)).mono ?_
  rintro e w14 ⟨rfl, _, hon14, hb14⟩
  have H514 := hideIt (H513.out.trans hb14)
  have HB14 := hideIt (HB13.out.trans (hb14.mono (by omega)))
  have HFR14 := hideIt (HFR13.out.only hon14 (fun c hc => by have := (HO6.out.marked hc).2; omega))
  have HO714 := hideIt (HO713.out.from ((From.refl w6.heap.size w13).only hon14 (fun c hc => (HO6.out.marked hc).2)))
  have z14 := hb14.size
  clear hon14 hb14
  have HOL := hideIt (off_le (fun i => (nodeAt us i).keys.length) (fun i => (nodeAt us i).kids.length) 1 us.length HKK.out)
  obtain ⟨M14, hM14⟩ : ∃ M, off (fun i => (nodeAt us i).keys.length) (fun i => (nodeAt us i).kids.length) 1 us.length = M := ⟨_, rfl⟩
  have hM14b : 1 ≤ M14 ∧ M14 ≤ 10000000000000 := by
    have h1 := HOL.out
    rw [hM14] at h1
    have h2 := HSM.out.1
    have h3 : us.length * 2097155 ≤ 1048576 * 2097155 := Nat.mul_le_mul_right _ h2
    refine ⟨?_, by omega⟩
    rw [← hM14]
    exact off_pos _ _ _ _ (Nat.le_refl _)
  rw [hM14]
  clear hM14 HOL
  go_wp2_with fail
  refine (markVNodeS_any w6.heap.size w6.heap.size vs.length vs.length M14 (some ⟨w6.heap.size, 0, none⟩) _ _ KB7 KI7 w14 (fun _ => ⟨rfl, HO714.out.marky HSM'.out.1 HKK'.out⟩) (by omega) HSM'.out.1 hM14b.1 hM14b.2).mono ?_
  rintro e w15 ⟨rfl, _, hon15, hb15⟩
  have H515 := hideIt (H514.out.trans (hb15.mono (by omega)))
  have HB15 := hideIt (HB14.out.trans (hb15.mono (by omega)))
  have HFR15 := hideIt (HFR14.out.only hon15 (fun c hc => by have := (HO7.out.marked hc).2; omega))
  have z15 := hb15.size
  clear hon15 hb15
  generalize off (fun i => (nodeAt vs i).keys.length) (fun i => (nodeAt vs i).kids.length) M14 vs.length = M15
  have hM15 : ¬ ((M15 : Int) < 0) := by omega
  go_wp2_with fail
  refine (eqVNodeS_any w15.heap.size _ _ (minNs us vs) _ ((HN8.out.from HFR15.out).nodes HR1.out HR2.out) ((HN0.out.below H515.out).nodes HR1.out HR2.out) (Nat.le_refl _)).mono ?_
  rintro e w16 ⟨rfl, hb16⟩
  have H516 := hideIt (Below.next H515.out hb16)
  have HB16 := hideIt (Below.next HB15.out hb16)
  have HN16 := hideIt (HN8.out.from (HFR15.out.below hb16))
  have z16 := hb16.size
  clear hb16
  have HMK := hideIt (HN16.out.mark HLL.out HR.out.1)
  have hLs : L ≤ 80 := by rw [← HLL.out]; exact HR.out.1.1
  go_wp2_with fail
  refine (markVNodeS_any base8 _ L c8 1 a8 _ _ _ _ w16 HMK.out (by omega) (by omega) (by omega) (by omega)).mono ?_
  rintro e w17 ⟨rfl, hh17, hon17, hb17⟩
  have H517 := hideIt (H516.out.trans (hb17.mono (by omega)))
  have HB17 := hideIt (HB16.out.trans (hb17.mono (by omega)))
  have HH17 := hideIt hh17
  have z17 := hb17.size
  clear hh17 hon17 hb17
  have HKR : Hid (∀ i, i < L → knOf (minNs us vs) i ≤ 1048576 ∧ inOf (minNs us vs) i ≤ 1048576) := fun i hi => by
    have := HR.out.1.2 i (by rw [HLL.out]; exact hi)
    unfold knOf inOf
    omega
  have HAD : Hid (0 < L → a8 = some ⟨blk (.slice a8 L c8), 0, none⟩) := fun hp => (HMK.out hp).1
  go_wp2_with fail
  refine (heldVNodeS_any _ L c8 1 a8 _ _ _ _ w17 HAD.out (by omega) HKR.out (by omega) (by omega) HH17.out).mono ?_
  rintro e w18 ⟨rfl, hb18⟩
  have H518 := hideIt (Below.next H517.out hb18)
  have HB18 := hideIt (Below.next HB17.out hb18)
  have H1718 := hideIt hb18
  have z18 := hb18.size
  clear hb18
  have HOFF : Hid (∃ M, off (knOf (minNs us vs)) (inOf (minNs us vs)) 1 L = M) := ⟨_, rfl⟩
  obtain ⟨M18, hM18⟩ := HOFF.out
  rw [hM18]
  have HM18 := hideIt hM18
  have hM0 : ¬ ((M18 : Int) < 0) := by omega
  clear hM18
  go_wp2_with fail
  refine (toVNodeS_any w.heap.size _ us _ (HN.out.below HB18.out) (by omega)).mono ?_
  rintro e w19 ⟨KB19, KI19, rfl, ho19, hb19⟩
  have HO19 := hideIt ho19
  have H519 := hideIt (Below.next H518.out hb19)
  have HB19 := hideIt (Below.next HB18.out hb19)
  have H1719 := hideIt (Below.next H1718.out hb19)
  have z19 := hb19.size
  clear ho19 hb19
  go_wp2_with fail
  refine (toVNodeS_any w.heap.size _ vs _ (HN'.out.below HB19.out) (by omega)).mono ?_
  rintro e w20 ⟨KB20, KI20, rfl, ho20, hb20⟩
  have HO20 := hideIt ho20
  have HO1920 := hideIt (HO19.out.below hb20)
  have H520 := hideIt (Below.next H519.out hb20)
  have HB20 := hideIt (Below.next HB19.out hb20)
  have H1720 := hideIt (Below.next H1719.out hb20)
  have z20 := hb20.size
  clear ho20 hb20
  go_wp2_with fail
  refine (implMinus_any w20.heap.size _ _ us vs _ (HO1920.out.nodes HL.out HF.out) (HO20.out.nodes HL'.out HF'.out) (Nat.le_refl _) (HE.out.below HB20.out)).mono ?_
  rintro e w21 ⟨r21, base21, KV21, IV21, rfl, hbase21, hbase21', hnest21, hb21⟩
  rw [HCC.out]
  have HN21 := hideIt hnest21
  obtain ⟨a21, c21, hr21⟩ := own_slice hnest21.row
  rw [HLL.out] at hr21
  subst hr21
  have H521 := hideIt (Below.next H520.out hb21)
  have HB21 := hideIt (Below.next HB20.out hb21)
  have H1721 := hideIt (Below.next H1720.out hb21)
  have z21 := hb21.size
  clear hnest21 hb21
  go_wp2_with fail
  refine (eqVNodeS_any w21.heap.size _ _ (minNs us vs) _ (HN21.out.nodes HR1.out HR2.out) ((HN0.out.below H521.out).nodes HR1.out HR2.out) (Nat.le_refl _)).mono ?_
  rintro e w22 ⟨rfl, hb22⟩
  have HB22 := hideIt (Below.next HB21.out hb22)
  have H1722 := hideIt (Below.next H1721.out hb22)
  have z22 := hb22.size
  clear hb22
  go_wp2_with fail
  refine (heldVNodeS_any _ L c8 1 a8 _ _ _ _ w22 HAD.out (by omega) HKR.out (by omega) (by omega) (fun i hi => (HH17.out i hi).below H1722.out)).mono ?_
  rintro e w23 ⟨rfl, hb23⟩
  have HB23 := hideIt (Below.next HB22.out hb23)
  clear hb23
  rw [HM18.out]
  go_wp2_with fail
  go_ret
  exact ⟨rfl, HB23.out⟩
end Go.Proofs.YtgmnihofkpjboaaGreatDoor
