/-
  The law of Plus: the call returns true and turns nothing that was there.
-/
import Derived.Test.YtfijafbpdlakaaaGreatDoorMarkO
import Derived.Test.YtfijafbpdlakaaaGreatDoorSMin
import Derived.Test.YtfijafbpdlakaaaGreatDoorSPlsN
import Derived.Test.YtfijafbpdlakaaaGreatDoorLawMinus
import Derived.Test.YtfijafbpdlakaaaGreatDoorVAt
import Derived.Test.YtfijafbpdlakaaaGreatDoorStbP
import Derived.Test.YtfijafbpdlakaaaGreatDoorProg
import Derived.Deep.Slices
import Derived.Deep.Strs
import Derived.KernelRfl
import Derived.OpenShut
import Derived.Test.YtfijafbpdlakaaaGreatDoorCards
import Derived.Test.YtfijafbpdlakaaaGreatDoorTie
import Derived.SevenTiedAt
namespace Go.Proofs.YtfijafbpdlakaaaGreatDoor
open Go.RowKit
set_option linter.unusedSimpArgs false
set_option linter.unusedVariables false

theorem okB_few {us : List VN} (h : okB us = true) : Few us := ⟨(okB_parts h).1.2, fun i hi => ⟨(keys_few h i hi).2.2, (keys_few h i hi).2.1⟩⟩

theorem join_sizes {us vs : List VN} (hfu : ∀ i, i < us.length → Fits (nodeAt us i)) (hfv : ∀ i, i < vs.length → Fits (nodeAt vs i)) (h1 : okB us = true) (h2 : okB vs = true) : ∀ i, i < (joinK us vs).length → (keyAt (joinK us vs) i).size ≤ 140737488355328 :=
  wkK_size (hfu (us.length - 1) (by have := (okB_parts h1).1; omega)).keysS (hfv (vs.length - 1) (by have := (okB_parts h2).1; omega)).keysS

theorem raw_fits {us vs : List VN} (h1 : okB us = true) (h2 : okB vs = true) (k : (rootN us).kind = (rootN vs).kind) (k1 : (rootN us).kind ≠ 1) (k2 : (rootN us).kind ≠ 2) (hfu : ∀ i, i < us.length → Fits (nodeAt us i)) (hfv : ∀ i, i < vs.length → Fits (nodeAt vs i)) : ∀ i, i < (rawPlus us vs).length → Fits (nodeAt (rawPlus us vs) i) := by
  rcases root_says h1 with q | q | ⟨q, a, b⟩ | ⟨q, a⟩ | ⟨q, _⟩ | ⟨q, _⟩
  · omega
  · omega
  · rw [raw_sum q]
    have := root_n h2 (by omega)
    exact (leaf_few _ (by omega) (by omega)).2
  · rw [raw_text q]
    have := root_s h2 (by omega)
    exact text_few _ (by rw [ByteArray.size_append]; omega)
  · rw [raw_both q]
    exact fun i hi => ((both_fits h1 h2 hfu hfv).2 i hi).1
  · rw [raw_join q]
    obtain ⟨ns, ps, hs, _⟩ := join_sorted h1 h2 q (by omega)
    have hsz := join_sizes hfu hfv h1 h2
    have hln := sortIn_len hs
    have hmp := sortIn_map hs
    exact fun i hi => ((join_bounds h1 h2 q (by omega) hfu hfv hs (fun j hj => by
      have e2 : keyAt ns j = keyAt (joinK us vs) (ps.getD j 0) := by
        rw [keyAt_get hj, List.getD_eq_getElem?_getD, List.getElem?_eq_getElem (show j < ps.length by omega)]
        subst hmp
        simp
      rw [e2]
      refine hsz _ (sortIn_mem hs _ ?_)
      rw [List.getD_eq_getElem?_getD, List.getElem?_eq_getElem (by omega)]
      exact List.getElem_mem _)).2.2.2 i hi).1

theorem plus_few {us vs : List VN} (hf : ∀ i, i < us.length → Fits (nodeAt us i)) (hfv : ∀ i, i < vs.length → Fits (nodeAt vs i)) : Few (plusNs us vs) ∧ ∀ i, i < (plusNs us vs).length → Fits (nodeAt (plusNs us vs) i) := by
  have hz : Few ([] : List VN) ∧ ∀ i, i < ([] : List VN).length → Fits (nodeAt ([] : List VN) i) := ⟨⟨by simp, fun i hi => absurd hi (by simp)⟩, fun i hi => absurd hi (by simp)⟩
  unfold plusNs
  split
  · rename_i h
    split
    · exact ⟨okB_few h.2, hfv⟩
    · rename_i k1
      split
      · exact ⟨okB_few h.1, hf⟩
      · split
        · rename_i k2 k3
          split
          · rename_i h4; exact ⟨okB_few h4, raw_fits h.1 h.2 k3.1 k1 k3.2 hf hfv⟩
          · exact hz
        · exact hz
  · exact hz

set_option maxRecDepth 100000 in
set_option maxHeartbeats 1600000 in
theorem specPlus_any (B : Nat) (v1 v2 : Value) (us vs : List VN) (w : World) (hn1 : NodesAt B w v1 us) (hn2 : NodesAt B w v2 vs) (hB : B ≤ w.heap.size) :
    Calls Tryz.prog 9 #[v1, v2] w fun e w' => ∃ r base KV IV, e = .returned (.tuple #[r, .int .i64 (plusC us vs)]) ∧ w.heap.size ≤ base ∧ Nest base w' r (plusNs us vs) KV IV ∧ Below w.heap.size w w' := by
  have H1 := hideIt hn1
  have H2 := hideIt hn2
  obtain ⟨_, a1, c1, rfl, _⟩ := hn1
  obtain ⟨_, a2, c2, rfl, _⟩ := hn2
  have HNO : Hid (¬ (okB us = true ∧ okB vs = true) → plusC us vs = 1 ∧ plusNs us vs = []) := fun h => by unfold plusC plusNs; rw [if_neg h, if_neg h]; exact ⟨rfl, rfl⟩
  go_enter Tryz.func9, Tryz.ntmps9
  go_wp2_with fail
  refine (specOk_any B _ us _ H1.out hB).mono ?_
  rintro e w1 ⟨rfl, hb1⟩
  have HB1 := hideIt hb1
  have z1 := hb1.size
  clear hb1
  cases ok1 : okB us
  · have HN := hideIt (HNO.out (by rw [ok1]; simp))
    go_wp2_with fail
    go_ret2
    exact ⟨_, w.heap.size, fun _ => undef, fun _ => undef, by rw [HN.out.1]; rfl, Nat.le_refl _, by rw [HN.out.2]; exact Nest.nil _ _ _ _, HB1.out⟩
  · go_wp2_with fail
    refine (specOk_any B _ vs _ (H2.out.below (HB1.out.mono hB)) (by omega)).mono ?_
    rintro e w2 ⟨rfl, hb2⟩
    have HB2 := hideIt (HB1.out.trans (hb2.mono z1))
    have z2 := HB2.out.size
    clear hb2
    cases ok2 : okB vs
    · have HN := hideIt (HNO.out (by rw [ok2]; simp))
      go_wp2_with fail
      go_ret2
      exact ⟨_, w.heap.size, fun _ => undef, fun _ => undef, by rw [HN.out.1]; rfl, Nat.le_refl _, by rw [HN.out.2]; exact Nest.nil _ _ _ _, HB2.out⟩
    · have HC : Hid (Calls Tryz.prog 26 #[.slice a1 us.length c1, .slice a2 vs.length c2] w2 fun e w' => ∃ r base KV IV, e = .returned (.tuple #[r, .int .i64 (plusC us vs)]) ∧ w2.heap.size ≤ base ∧ Nest base w' r (plusNs us vs) KV IV ∧ Below w2.heap.size w2 w') := by
        by_cases h5 : (rootN us).kind = 5 ∧ (rootN vs).kind = 5
        · exact l8Plus_list B _ _ us vs w2 (H1.out.below (HB2.out.mono hB)) (H2.out.below (HB2.out.mono hB)) (by omega) ok1 ok2 h5.1 h5.2
        · by_cases h6 : (rootN us).kind = 6 ∧ (rootN vs).kind = 6
          · exact l8Plus_map B _ _ us vs w2 (H1.out.below (HB2.out.mono hB)) (H2.out.below (HB2.out.mono hB)) (by omega) ok1 ok2 h6.1 h6.2
          · exact l8Plus_flat B _ _ us vs w2 (H1.out.below (HB2.out.mono hB)) (H2.out.below (HB2.out.mono hB)) (by omega) ok1 ok2 (by omega)
      go_wp2_with fail
      refine HC.out.mono ?_
      rintro e w3 ⟨r, base, KV, IV, rfl, hbase, hn, hb3⟩
      have HN := hideIt hn
      have HB3 := hideIt (HB2.out.trans (hb3.mono z2))
      obtain ⟨C, hC⟩ : ∃ C, plusC us vs = C := ⟨_, rfl⟩
      have HCC := hideIt hC
      rw [hC]
      obtain ⟨ar, cr, er⟩ := own_slice hn.row
      obtain ⟨L, hL⟩ : ∃ L, (plusNs us vs).length = L := ⟨_, rfl⟩
      rw [hL] at er
      subst er
      clear hn hb3 hL hC
      go_wp2_with fail
      go_ret2
      exact ⟨_, base, KV, IV, by rw [HCC.out]; rfl, by omega, HN.out, HB3.out⟩

set_option maxRecDepth 100000 in
set_option maxHeartbeats 6400000 in
theorem lawPlus_walk (v v' : Value) (us vs : List VN) (w : World) (h : RawNodes w.heap.size w v us) (h' : RawNodes w.heap.size w v' vs) (hE : Errs2 w) :
    Calls Tryz.prog 4 #[v, v'] w fun e w' => e = .returned (.bool true) ∧ Below w.heap.size w w' := by
  have H := hideIt h
  have H' := hideIt h'
  have HE := hideIt hE
  obtain ⟨_, a, cap, rfl, _⟩ := h
  obtain ⟨_, a', cap', rfl, _⟩ := h'
  clear hE
  go_enter Tryz.func4, Tryz.ntmps4
  go_wp2_with fail
  refine (szVNodeS_any w.heap.size _ us 1048576 _ H.out (Nat.le_refl _) (by omega) (by omega)).mono ?_
  rintro e w1 ⟨⟨q, rfl, hq, hs⟩, hb1⟩
  have HS := hideIt hs
  clear hs
  have z1 := hb1.size
  by_cases hq0 : q < 0
  · go_wp2_with fail
    go_ret
    exact ⟨rfl, hb1⟩
  have HSM := hideIt (HS.out (by omega))
  have HN := hideIt (H.out.fit HSM.out.1 HSM.out.2)
  have HF := hideIt HN.out.fits
  have HL := hideIt HN.out.1
  go_wp2_with fail
  refine (szVNodeS_any w.heap.size _ vs q _ (H'.out.below hb1) (by omega) (by omega) (by omega)).mono ?_
  rintro e w2 ⟨⟨q', rfl, hq', hs'⟩, hb2⟩
  have HS' := hideIt hs'
  clear hs'
  have HB2 := hideIt (Below.next hb1 hb2)
  have z2 := HB2.out.size
  clear hb2 hb1
  by_cases hq1 : q' < 0
  · go_wp2_with fail
    go_ret
    exact ⟨rfl, HB2.out⟩
  have HSM' := hideIt (HS'.out (by omega))
  have HN' := hideIt (H'.out.fit HSM'.out.1 HSM'.out.2)
  have HF' := hideIt HN'.out.fits
  have HL' := hideIt HN'.out.1
  have HR := hideIt (plus_few (us := us) (vs := vs) HF.out HF'.out)
  go_wp2_with fail
  refine (toVNodeS_any w.heap.size _ us _ (HN.out.below HB2.out) (by omega)).mono ?_
  rintro e w3 ⟨KB3, KI3, rfl, ho3, hb3⟩
  have HO3 := hideIt ho3
  have HB3 := hideIt (Below.next HB2.out hb3)
  have z3 := HB3.out.size
  clear ho3 hb3
  go_wp2_with fail
  refine (toVNodeS_any w.heap.size _ vs _ (HN'.out.below HB3.out) (by omega)).mono ?_
  rintro e w4 ⟨KB4, KI4, rfl, ho4, hb4⟩
  have HO4 := hideIt ho4
  have HO3' := hideIt (HO3.out.below hb4)
  have HB4 := hideIt (Below.next HB3.out hb4)
  have z4 := HB4.out.size
  clear ho4 hb4
  go_wp2_with fail
  refine (specPlus_any w4.heap.size _ _ us vs _ (HO3'.out.nodes HL.out HF.out) (HO4.out.nodes HL'.out HF'.out) (Nat.le_refl _)).mono ?_
  rintro e w5 ⟨r0, base0, KV0, IV0, rfl, hbase0, hnest0, hb5⟩
  have HN0 := hideIt hnest0
  obtain ⟨a0, c0, hr0⟩ := own_slice hnest0.row
  obtain ⟨L, hL⟩ : ∃ L, (plusNs us vs).length = L := ⟨_, rfl⟩
  have HLL := hideIt hL
  rw [hL] at hr0
  subst hr0
  obtain ⟨C, hC⟩ : ∃ C, plusC us vs = C := ⟨_, rfl⟩
  have HCC := hideIt hC
  rw [hC]
  have HB5 := hideIt (Below.next HB4.out hb5)
  have z5 := HB5.out.size
  clear hnest0 hb5 hL hC HO3 HO3' HO4
  go_wp2_with fail
  refine (toVNodeS_any w.heap.size _ us _ (HN.out.below HB5.out) (by omega)).mono ?_
  rintro e w6 ⟨KB6, KI6, rfl, ho6, hb6⟩
  have HO6 := hideIt ho6
  have H56 := hideIt hb6
  have HB6 := hideIt (Below.next HB5.out hb6)
  have z6 := hb6.size
  clear ho6 hb6
  go_wp2_with fail
  refine (toVNodeS_any w.heap.size _ vs _ (HN'.out.below HB6.out) (by omega)).mono ?_
  rintro e w7 ⟨KB7, KI7, rfl, ho7, hb7⟩
  have HO7 := hideIt ho7
  have HO67 := hideIt (HO6.out.below hb7)
  have H57 := hideIt (Below.next H56.out hb7)
  have HB7 := hideIt (Below.next HB6.out hb7)
  have z7 := hb7.size
  clear ho7 hb7
  go_wp2_with fail
  refine (implPlus_any w7.heap.size _ _ us vs _ (HO67.out.nodes HL.out HF.out) (HO7.out.nodes HL'.out HF'.out) (Nat.le_refl _) (HE.out.below HB7.out)).mono ?_
  rintro e w8 ⟨r8, base8, KV8, IV8, rfl, hbase8, hbase8', hnest8, hb8⟩
  rw [HCC.out]
  have HN8 := hideIt hnest8
  obtain ⟨a8, c8, hr8⟩ := own_slice hnest8.row
  rw [HLL.out] at hr8
  subst hr8
  have HO68 := hideIt (HO67.out.below hb8)
  have HO78 := hideIt (HO7.out.below hb8)
  have H58 := hideIt (Below.next H57.out hb8)
  have HB8 := hideIt (Below.next HB7.out hb8)
  have z8 := hb8.size
  clear hnest8 hb8
  have hpe : (C != C) = false := by simp
  have HR1 : Hid ((plusNs us vs).length ≤ 1759218604416) := Nat.le_trans HR.out.1.1 (by omega)
  have HR2 : Hid (∀ i, i < (plusNs us vs).length → Fits (nodeAt (plusNs us vs) i)) := HR.out.2
  go_wp2_with fail
  refine (eqVNodeS_any w8.heap.size _ _ (plusNs us vs) _ (HN8.out.nodes HR1.out HR2.out) ((HN0.out.below H58.out).nodes HR1.out HR2.out) (Nat.le_refl _)).mono ?_
  rintro e w9 ⟨rfl, hb9⟩
  have HO69 := hideIt (HO68.out.below hb9)
  have HO79 := hideIt (HO78.out.below hb9)
  have H59 := hideIt (Below.next H58.out hb9)
  have HB9 := hideIt (Below.next HB8.out hb9)
  have HFR9 := hideIt ((From.refl base8 w8).below hb9)
  have z9 := hb9.size
  clear hb9
  go_wp2_with fail
  refine (toVNodeS_any w.heap.size _ us _ (HN.out.below HB9.out) (by omega)).mono ?_
  rintro e w10 ⟨KB10, KI10, rfl, ho10, hb10⟩
  have HO10 := hideIt ho10
  have HO610 := hideIt (HO69.out.below hb10)
  have HO710 := hideIt (HO79.out.below hb10)
  have H510 := hideIt (Below.next H59.out hb10)
  have HB10 := hideIt (Below.next HB9.out hb10)
  have HFR10 := hideIt (HFR9.out.below hb10)
  have z10 := hb10.size
  clear ho10 hb10
  go_wp2_with fail
  refine (eqVNodeS_any w10.heap.size _ _ us _ (HO610.out.nodes HL.out HF.out) (HO10.out.nodes HL.out HF.out) (Nat.le_refl _)).mono ?_
  rintro e w11 ⟨rfl, hb11⟩
  have HO611 := hideIt (HO610.out.below hb11)
  have HO711 := hideIt (HO710.out.below hb11)
  have H511 := hideIt (Below.next H510.out hb11)
  have HB11 := hideIt (Below.next HB10.out hb11)
  have HFR11 := hideIt (HFR10.out.below hb11)
  have z11 := hb11.size
  clear hb11
  go_wp2_with fail
  refine (toVNodeS_any w.heap.size _ vs _ (HN'.out.below HB11.out) (by omega)).mono ?_
  rintro e w12 ⟨KB12, KI12, rfl, ho12, hb12⟩
  have HO12 := hideIt ho12
  have HO612 := hideIt (HO611.out.below hb12)
  have HO712 := hideIt (HO711.out.below hb12)
  have H512 := hideIt (Below.next H511.out hb12)
  have HB12 := hideIt (Below.next HB11.out hb12)
  have HFR12 := hideIt (HFR11.out.below hb12)
  have z12 := hb12.size
  clear ho12 hb12
  go_wp2_with fail
  refine (eqVNodeS_any w12.heap.size _ _ vs _ (HO712.out.nodes HL'.out HF'.out) (HO12.out.nodes HL'.out HF'.out) (Nat.le_refl _)).mono ?_
  rintro e w13 ⟨rfl, hb13⟩
  have HO613 := hideIt (HO612.out.below hb13)
  have HO713 := hideIt (HO712.out.below hb13)
  have H513 := hideIt (Below.next H512.out hb13)
  have HB13 := hideIt (Below.next HB12.out hb13)
  have HFR13 := hideIt (HFR12.out.below hb13)
  have z13 := hb13.size
  clear hb13 HO610 HO611 HO612 HO710 HO711 HO712
  have HKK : Hid (∀ i, i < us.length → (nodeAt us i).keys.length ≤ 1048576 ∧ (nodeAt us i).kids.length ≤ 1048576) := fun i hi => small_rowsM (HSM.out.2 i hi)
  have HKK' : Hid (∀ i, i < vs.length → (nodeAt vs i).keys.length ≤ 1048576 ∧ (nodeAt vs i).kids.length ≤ 1048576) := fun i hi => small_rowsM (HSM'.out.2 i hi)
  go_wp2_with fail
  refine (markVNodeS_any w5.heap.size w5.heap.size us.length us.length 1 (some ⟨w5.heap.size, 0, none⟩) _ _ KB6 KI6 w13 (fun _ => ⟨rfl, HO613.out.marky HSM.out.1 HKK.out⟩) (by omega) HSM.out.1 (by omega) (by omega)).mono ?_
  rintro e w14 ⟨rfl, _, hon14, hb14⟩
  have H514 := hideIt (H513.out.trans hb14)
  have HB14 := hideIt (HB13.out.trans (hb14.mono (by omega)))
  have HFR14 := hideIt (HFR13.out.only hon14 (fun c hc => by have := (HO6.out.marked hc).2; omega))
  have HO714 := hideIt (HO713.out.from ((From.refl w6.heap.size w13).only hon14 (fun c hc => (HO6.out.marked hc).2)))
  have z14 := hb14.size
  clear hon14 hb14
  have HOL := hideIt (off_le (fun i => (nodeAt us i).keys.length) (fun i => (nodeAt us i).kids.length) 1 us.length HKK.out)
  obtain ⟨M14, hM14⟩ : ∃ M, off (fun i => (nodeAt us i).keys.length) (fun i => (nodeAt us i).kids.length) 1 us.length = M := ⟨_, rfl⟩
  have hM14b : 1 ≤ M14 ∧ M14 ≤ 10000000000000 := by
    have h1 := HOL.out
    rw [hM14] at h1
    have h2 := HSM.out.1
    have h3 : us.length * 2097155 ≤ 1048576 * 2097155 := Nat.mul_le_mul_right _ h2
    refine ⟨?_, by omega⟩
    rw [← hM14]
    exact off_pos _ _ _ _ (Nat.le_refl _)
  rw [hM14]
  clear hM14 HOL
  go_wp2_with fail
  refine (markVNodeS_any w6.heap.size w6.heap.size vs.length vs.length M14 (some ⟨w6.heap.size, 0, none⟩) _ _ KB7 KI7 w14 (fun _ => ⟨rfl, HO714.out.marky HSM'.out.1 HKK'.out⟩) (by omega) HSM'.out.1 hM14b.1 hM14b.2).mono ?_
  rintro e w15 ⟨rfl, _, hon15, hb15⟩
  have H515 := hideIt (H514.out.trans (hb15.mono (by omega)))
  have HB15 := hideIt (HB14.out.trans (hb15.mono (by omega)))
  have HFR15 := hideIt (HFR14.out.only hon15 (fun c hc => by have := (HO7.out.marked hc).2; omega))
  have z15 := hb15.size
  clear hon15 hb15
  generalize off (fun i => (nodeAt vs i).keys.length) (fun i => (nodeAt vs i).kids.length) M14 vs.length = M15
  have hM15 : ¬ ((M15 : Int) < 0) := by omega
  go_wp2_with fail
  refine (eqVNodeS_any w15.heap.size _ _ (plusNs us vs) _ ((HN8.out.from HFR15.out).nodes HR1.out HR2.out) ((HN0.out.below H515.out).nodes HR1.out HR2.out) (Nat.le_refl _)).mono ?_
  rintro e w16 ⟨rfl, hb16⟩
  have H516 := hideIt (Below.next H515.out hb16)
  have HB16 := hideIt (Below.next HB15.out hb16)
  have HN16 := hideIt (HN8.out.from (HFR15.out.below hb16))
  have z16 := hb16.size
  clear hb16
  have HMK := hideIt (HN16.out.mark HLL.out HR.out.1)
  have hLs : L ≤ 80 := by rw [← HLL.out]; exact HR.out.1.1
  go_wp2_with fail
  refine (markVNodeS_any base8 _ L c8 1 a8 _ _ _ _ w16 HMK.out (by omega) (by omega) (by omega) (by omega)).mono ?_
  rintro e w17 ⟨rfl, hh17, hon17, hb17⟩
  have H517 := hideIt (H516.out.trans (hb17.mono (by omega)))
  have HB17 := hideIt (HB16.out.trans (hb17.mono (by omega)))
  have HH17 := hideIt hh17
  have z17 := hb17.size
  clear hh17 hon17 hb17
  have HKR : Hid (∀ i, i < L → knOf (plusNs us vs) i ≤ 1048576 ∧ inOf (plusNs us vs) i ≤ 1048576) := fun i hi => by
    have := HR.out.1.2 i (by rw [HLL.out]; exact hi)
    unfold knOf inOf
    omega
  have HAD : Hid (0 < L → a8 = some ⟨blk (.slice a8 L c8), 0, none⟩) := fun hp => (HMK.out hp).1
  go_wp2_with fail
  refine (heldVNodeS_any _ L c8 1 a8 _ _ _ _ w17 HAD.out (by omega) HKR.out (by omega) (by omega) HH17.out).mono ?_
  rintro e w18 ⟨rfl, hb18⟩
  have H518 := hideIt (Below.next H517.out hb18)
  have HB18 := hideIt (Below.next HB17.out hb18)
  have H1718 := hideIt hb18
  have z18 := hb18.size
  clear hb18
  have HOFF : Hid (∃ M, off (knOf (plusNs us vs)) (inOf (plusNs us vs)) 1 L = M) := ⟨_, rfl⟩
  obtain ⟨M18, hM18⟩ := HOFF.out
  rw [hM18]
  have HM18 := hideIt hM18
  have hM0 : ¬ ((M18 : Int) < 0) := by omega
  clear hM18
  go_wp2_with fail
  refine (toVNodeS_any w.heap.size _ us _ (HN.out.below HB18.out) (by omega)).mono ?_
  rintro e w19 ⟨KB19, KI19, rfl, ho19, hb19⟩
  have HO19 := hideIt ho19
  have H519 := hideIt (Below.next H518.out hb19)
  have HB19 := hideIt (Below.next HB18.out hb19)
  have H1719 := hideIt (Below.next H1718.out hb19)
  have z19 := hb19.size
  clear ho19 hb19
  go_wp2_with fail
  refine (toVNodeS_any w.heap.size _ vs _ (HN'.out.below HB19.out) (by omega)).mono ?_
  rintro e w20 ⟨KB20, KI20, rfl, ho20, hb20⟩
  have HO20 := hideIt ho20
  have HO1920 := hideIt (HO19.out.below hb20)
  have H520 := hideIt (Below.next H519.out hb20)
  have HB20 := hideIt (Below.next HB19.out hb20)
  have H1720 := hideIt (Below.next H1719.out hb20)
  have z20 := hb20.size
  clear ho20 hb20
  go_wp2_with fail
  refine (implPlus_any w20.heap.size _ _ us vs _ (HO1920.out.nodes HL.out HF.out) (HO20.out.nodes HL'.out HF'.out) (Nat.le_refl _) (HE.out.below HB20.out)).mono ?_
  rintro e w21 ⟨r21, base21, KV21, IV21, rfl, hbase21, hbase21', hnest21, hb21⟩
  rw [HCC.out]
  have HN21 := hideIt hnest21
  obtain ⟨a21, c21, hr21⟩ := own_slice hnest21.row
  rw [HLL.out] at hr21
  subst hr21
  have H521 := hideIt (Below.next H520.out hb21)
  have HB21 := hideIt (Below.next HB20.out hb21)
  have H1721 := hideIt (Below.next H1720.out hb21)
  have z21 := hb21.size
  clear hnest21 hb21
  go_wp2_with fail
  refine (eqVNodeS_any w21.heap.size _ _ (plusNs us vs) _ (HN21.out.nodes HR1.out HR2.out) ((HN0.out.below H521.out).nodes HR1.out HR2.out) (Nat.le_refl _)).mono ?_
  rintro e w22 ⟨rfl, hb22⟩
  have HB22 := hideIt (Below.next HB21.out hb22)
  have H1722 := hideIt (Below.next H1721.out hb22)
  have z22 := hb22.size
  clear hb22
  go_wp2_with fail
  refine (heldVNodeS_any _ L c8 1 a8 _ _ _ _ w22 HAD.out (by omega) HKR.out (by omega) (by omega) (fun i hi => (HH17.out i hi).below H1722.out)).mono ?_
  rintro e w23 ⟨rfl, hb23⟩
  have HB23 := hideIt (Below.next HB22.out hb23)
  clear hb23
  rw [HM18.out]
  go_wp2_with fail
  go_ret
  exact ⟨rfl, HB23.out⟩
end Go.Proofs.YtfijafbpdlakaaaGreatDoor

/-
  What the arguments read as: slices of nodes of the laws' own type.
-/
namespace Go.Proofs.YtfijafbpdlakaaaGreatDoor
open Go.RowKit Go.Deep Go.ChangeShapes Go.WideShapes
set_option linter.unusedSimpArgs false
set_option linter.unusedVariables false

theorem wf64 {n : Int} (h : (Lit.int .i64 n).wf = true) : -9223372036854775808 ≤ n ∧ n ≤ 9223372036854775807 := by
  simp [Lit.wf, IntKind.min, IntKind.max, IntKind.signed, IntKind.bits] at h
  omega

theorem cells1i : Tryz.prog.cellsOf 2 = 1 := by kernel_rfl
theorem cells1s : Tryz.prog.cellsOf 9 = 1 := by kernel_rfl
theorem cells1ks : Tryz.prog.cellsOf 31 = 1 := by kernel_rfl
theorem cells1ki : Tryz.prog.cellsOf 32 = 1 := by kernel_rfl
theorem cells5 : Tryz.prog.cellsOf 61 = 5 := by kernel_rfl

theorem lt_cell {w : World} {b o : Nat} {v : Value} (h : w.cell? ⟨b, o, none⟩ = some v) : b < w.heap.size := by
  unfold World.cell? at h
  cases hb : w.heap[b]? with
  | none => simp [hb] at h
  | some x => exact (Array.getElem?_eq_some_iff.1 hb).1

section
variable {H : Type} {enc : TypeId × Value → H} {W : World} {base : Nat} {spare : Nat → Bool} {held : Bool}

theorem raw_ints {fuel : Nat} {v : Value} {x : DataW H × List MemPlace} (h : DataW.trod enc Tryz.prog W base spare held fuel 32 [v] = some x) : ∃ l, RawInts W.heap.size W v l := by
  rcases open_ints Tryz.underlying32 Tryz.underlying2 cells1i h with ⟨hcs, _⟩ | ⟨a, len, cap, zs, hcs, _, hl, hm, hz, _, hcell, hwz⟩
  · refine ⟨[], by simp, fun i hi => absurd hi (by simp), none, 0, by simpa using hcs, fun hl => absurd hl (by simp)⟩
  · have hlen : len ≤ zs.length := by rw [hz]; split <;> omega
    have hlt : (zs.take len).length = len := by rw [List.length_take]; omega
    have hat : ∀ i, i < len → intAt (zs.take len) i = zs.getD i 0 := fun i hi => by simp [intAt, hi]
    have hm' : len ≤ 9223372036854775807 := by unfold maxLen at hm; omega
    refine ⟨zs.take len, by omega, fun i hi => ?_, some a, cap, by rw [hlt]; simpa using hcs, fun hl0 => ?_⟩
    · rw [hat i (by omega)]
      refine wf64 (hwz _ ?_)
      rw [List.getD_eq_getElem?_getD, List.getElem?_eq_getElem (by omega)]
      exact List.getElem_mem _
    · obtain ⟨b, o, spot⟩ := a
      have hc0 := hcell 0 (by omega)
      have hspot : spot = none := by simpa [Addr.add] using World.cell?_spot hc0
      subst hspot
      have hc' : ∀ i, i < len → W.cell? ⟨b, o + i, none⟩ = some (.int .i64 (zs.getD i 0)) := fun i hi => by
        have := hcell i (by omega)
        by_cases e : i = 0
        · subst e; simpa [Addr.add] using this
        · simpa [Addr.add, e] using this
      refine ⟨b, o, rfl, lt_cell (hc' 0 (by omega)), fun i hi => ?_⟩
      rw [hat i (by omega)]
      exact hc' i (by omega)

theorem raw_strs {fuel : Nat} {v : Value} {x : DataW H × List MemPlace} (h : DataW.trod enc Tryz.prog W base spare held fuel 31 [v] = some x) : ∃ l, RawStrs W.heap.size W v l := by
  rcases open_strs Tryz.underlying31 Tryz.underlying9 cells1s h with ⟨hcs, _⟩ | ⟨a, len, cap, m, Sx, hcs, _, hl, hm, hmm, _, hcell⟩
  · refine ⟨[], by simp, fun i hi => absurd hi (by simp), none, 0, by simpa using hcs, fun hl => absurd hl (by simp)⟩
  · have hlen : len ≤ m := by rw [hmm]; split <;> omega
    have hlt : ((List.range len).map Sx).length = len := by simp
    have hat : ∀ i, i < len → keyAt ((List.range len).map Sx) i = Sx i := fun i hi => by simp [keyAt, hi]
    have hm' : len ≤ 9223372036854775807 := by unfold maxLen at hm; omega
    refine ⟨(List.range len).map Sx, by omega, fun i hi => ?_, some a, cap, by rw [hlt]; simpa using hcs, fun hl0 => ?_⟩
    · rw [hat i (by omega)]
      have := (hcell i (by omega)).2
      unfold maxLen at this
      omega
    · obtain ⟨b, o, spot⟩ := a
      have hc0 := (hcell 0 (by omega)).1
      have hspot : spot = none := by simpa [Addr.add] using World.cell?_spot hc0
      subst hspot
      have hc' : ∀ i, i < len → W.cell? ⟨b, o + i, none⟩ = some (.string (Sx i)) := fun i hi => by
        have := (hcell i (by omega)).1
        by_cases e : i = 0
        · subst e; simpa [Addr.add] using this
        · simpa [Addr.add, e] using this
      refine ⟨b, o, rfl, lt_cell (hc' 0 (by omega)), fun i hi => ?_⟩
      rw [hat i (by omega)]
      exact hc' i (by omega)

set_option maxRecDepth 100000 in
theorem raw_node {fuel : Nat} {cs : List Value} {x : DataW H × List MemPlace} (h : DataW.trod enc Tryz.prog W base spare held fuel 61 cs = some x) :
    ∃ (y : VN) (ka ki : Value), cs = [.int .i64 y.kind, .int .i64 y.n, .string y.s, ka, ki] ∧ RawIn W.heap.size W y ka ki := by
  obtain ⟨xs, n, _, _, hl, hlen, hf⟩ := DataW.trod_struct Tryz.underlying61 h
  rw [cells5] at hl
  match cs, hl with
  | [v0, v1, v2, v3, v4], _ =>
    have f0 := hf 0 _ rfl
    have f1 := hf 1 _ rfl
    have f2 := hf 2 _ rfl
    have f3 := hf 3 _ rfl
    have f4 := hf 4 _ rfl
    match xs, hlen with
    | [y0, y1, y2, y3, y4], _ =>
      simp [cells1i, cells1s, cells1ks, cells1ki] at f0 f1 f2 f3 f4
      obtain ⟨k, e0, _, w0⟩ := DataW.trod_int Tryz.underlying2 f0
      obtain ⟨n', e1, _, w1⟩ := DataW.trod_int Tryz.underlying2 f1
      obtain ⟨s, e2, _, w2⟩ := DataW.trod_string Tryz.underlying9 f2
      obtain ⟨ks, r3⟩ := raw_strs f3
      obtain ⟨is, r4⟩ := raw_ints f4
      simp only [List.cons.injEq, and_true] at e0 e1 e2
      subst e0 e1 e2
      unfold maxLen at w2
      exact ⟨⟨k, n', s, ks, is⟩, v3, v4, rfl, r3, r4, by simp only; omega, (wf64 w0).1, (wf64 w0).2, (wf64 w1).1, (wf64 w1).2⟩

theorem raw_nodes {fuel : Nat} {v : Value} {x : DataW H × List MemPlace} (h : DataW.trod enc Tryz.prog W base spare held fuel 38 [v] = some x) : ∃ vs, RawNodes W.heap.size W v vs := by
  rcases open_slice Tryz.underlying38 h with ⟨hcs, _⟩ | ⟨a, len, cap, m, n, D, Pl, hcs, _, hl, hm, hmm, _, hx⟩
  · refine ⟨[], by simp, none, 0, by simpa using hcs, fun hl => absurd hl (by simp)⟩
  · have hlen : len ≤ m := by rw [hmm]; split <;> omega
    have hm' : len ≤ 9223372036854775807 := by unfold maxLen at hm; omega
    rw [cells5] at hx
    obtain ⟨f, hfx⟩ := @choose_lt (VN × Value × Value) ⟨(VN.zero, undef, undef)⟩ m (fun i q => RawIn W.heap.size W q.1 q.2.1 q.2.2 ∧ ∀ j, j < 5 → W.cell? ((a.add (i * 5)).add j) = [Value.int .i64 q.1.kind, .int .i64 q.1.n, .string q.1.s, q.2.1, q.2.2][j]?) (fun i hi => by
      obtain ⟨cs', h1, h2⟩ := hx i hi
      obtain ⟨y, ka, ki, e, hy⟩ := raw_node h2
      subst e
      exact ⟨(y, ka, ki), hy, (World.cells?_some h1).2.2⟩)
    have hat : ∀ i, i < len → nodeAt ((List.range len).map fun i => (f i).1) i = (f i).1 := fun i hi => by simp [nodeAt, hi]
    refine ⟨(List.range len).map fun i => (f i).1, by simp; omega, some a, cap, by simpa using hcs, fun hl0 => ?_⟩
    simp only [List.length_map, List.length_range] at hl0
    obtain ⟨b, o, spot⟩ := a
    have hspot : spot = none := by
      have h0 := (hfx 0 (by omega)).2 0 (by omega)
      have h0' : W.cell? ⟨b, o, spot⟩ = some (.int .i64 (f 0).1.kind) := by simpa [Addr.add] using h0
      exact World.cell?_spot h0'
    subst hspot
    have hadd : ∀ i j, (Addr.add (Addr.add ⟨b, o, none⟩ (i * 5)) j) = ⟨b, o + i * 5 + j, none⟩ := fun i j => by
      rw [add_add]
      by_cases e : i * 5 + j = 0
      · unfold Addr.add
        rw [if_pos e]
        congr 1
        omega
      · unfold Addr.add
        rw [if_neg e]
        congr 1
        show o + (i * 5 + j) = o + i * 5 + j
        omega
    have hc' : ∀ i, i < len → ∀ j, j < 5 → W.cell? ⟨b, o + i * 5 + j, none⟩ = [Value.int .i64 (f i).1.kind, .int .i64 (f i).1.n, .string (f i).1.s, (f i).2.1, (f i).2.2][j]? := fun i hi j hj => by
      rw [← hadd]; exact (hfx i (by omega)).2 j hj
    refine ⟨b, o, rfl, lt_cell (b := b) (o := o + 0 * 5 + 0) (hc' 0 (by omega) 0 (by omega)), fun i hi => ?_⟩
    simp only [List.length_map, List.length_range] at hi
    rw [hat i hi]
    exact ⟨(f i).2.1, (f i).2.2, hc' i hi 0 (by omega), hc' i hi 1 (by omega), hc' i hi 2 (by omega), hc' i hi 3 (by omega), hc' i hi 4 (by omega), (hfx i (by omega)).1⟩
end
end Go.Proofs.YtfijafbpdlakaaaGreatDoor

/-
  PROVED: for every two lists of nodes the law FnExactPlus returns true: the program's Plus answers as the specification's, writes into no argument, and its answer owns its memory. Conditions: the row's own (the three listed variables read as their initialisers lay them), tied to the program's text by the card.
-/
namespace Go.Proofs.YtfijafbpdlakaaaGreatDoor
open Go.ChangeShapes Go.WideShapes Go.ChangeAt Go.RowKit
set_option linter.unusedVariables false

theorem plus_met (os : Os) (args : Array Value) : laidMetH Tryz.prog Rows.fnExactPlusRow.laid ((World.doorLaid Tryz.prog 400 os).forCall (fun _ _ => 0) ⟨#[], args, []⟩).memory :=
  laidMetH_of_parts3 (fuel := 8) (laidMet_of_run' 8 (by kernel_rfl) (by kernel_rfl)) (by kernel_rfl) (by kernel_rfl)

set_option maxRecDepth 100000 in
theorem plus_lifted (os : Os) (started : os.Started) (H : Type) (enc : TypeId × Value → H) :
    ReturnsInHanded {} Tryz.checked os 4 .any (fun w args => (Rows.fnExactPlusSpec.pre enc Tryz.prog Tryz.f4 [] false w args ∧ laidMetH Tryz.prog Rows.fnExactPlusRow.laid w) ∧ sizedMet enc Tryz.prog Tryz.f4 (OpenSpec.ofChange Rows.fnExactPlusSpec) false w args)
      (Rows.fnExactPlusSpec.post enc Tryz.prog Tryz.f4 false true false false) := by
  refine returnsInHanded_of_change_and (C := Tryz.checked) (X := fun w _ => laidMetH Tryz.prog Rows.fnExactPlusRow.laid w) (fun _ _ _ hh h => h.of_heap hh) ev_own started (by kernel_rfl) Tryz.func4
    (ChangeSpec.witness_shaped (enc := enc) (C := Tryz.checked) (os := os) (X := fun w _ => laidMetH Tryz.prog Rows.fnExactPlusRow.laid w) false (World.doorLaid Tryz.prog 400 os) #[.slice none 0 0, .slice none 0 0] 8 rfl (World.shaped_of_RefB (by kernel_rfl) (by kernel_rfl)) (by kernel_rfl) (by kernel_rfl) (by kernel_rfl) (plus_met os _)) ?_
  intro W base args ds gs before hval0 hW _ _ hL _
  have hval : ∀ (j : Nat) t v, Tryz.f4.params[j]? = some t → args[j]? = some v → Value.okWide Tryz.prog W .any base t v := hval0
  have hW' := hW
  obtain ⟨p, q, hA0, hV0, rfl, hfz, hnd⟩ := hW
  have hA : DataW.TrodAll enc Tryz.prog W 0 (fun _ => true) true Tryz.f4.params.toList args.toList ds p := hA0
  have hV : DataW.TrodVars enc Tryz.prog W (fun _ => true) ["loop.example/g00345/impl.errKind", "loop.example/g00345/impl.errNotRight"] gs q := hV0
  rw [Tryz.params4] at hA hval
  obtain ⟨v0, vs0, d0, ds0, p0, q0, hargs, rfl, rfl, h0, r0⟩ := trodAll_cons hA
  obtain ⟨v1, vs1, d1, ds1, p1, q1, hargs1, rfl, rfl, h1, r1⟩ := trodAll_cons r0
  obtain ⟨rfl, rfl, rfl⟩ := trodAll_nil r1
  obtain rfl : args = #[v0, v1] := by cases args; simp_all
  have hL2 : laidMet Tryz.prog [("loop.example/g00345/impl.errKind", Rows.laid_loop_example_g00345_impl_errKind), ("loop.example/g00345/impl.errNotRight", Rows.laid_loop_example_g00345_impl_errNotRight)] W ∧ handlesMet Tryz.prog [("errors.errorType", Rows.laid_errors_errorType)] W := hL
  obtain ⟨hE, x0, x1, hv0, hv1⟩ := ev_errs2 hL2.1 hL2.2
  obtain ⟨rfl, rfl⟩ := hV.unique (ev_read2 enc hv0 hv1 _)
  obtain ⟨a0, len0, cap0, rfl⟩ := okWide_slice Tryz.underlying38 (hval 0 38 v0 rfl rfl)
  obtain ⟨a1, len1, cap1, rfl⟩ := okWide_slice Tryz.underlying38 (hval 1 38 v1 rfl rfl)
  have k0 := h0
  have k1 := h1
  have lt0 : ∀ x ∈ p0, x.block < W.heap.size := by obtain ⟨m, hm⟩ := k0; exact DataW.trod_lt m _ _ _ hm
  have lt1 : ∀ x ∈ p1, x.block < W.heap.size := by obtain ⟨m, hm⟩ := k1; exact DataW.trod_lt m _ _ _ hm
  obtain ⟨us, w0⟩ : ∃ us, RawNodes W.heap.size W (.slice a0 len0 cap0) us := by
    obtain ⟨fuel, hf⟩ := h0
    exact raw_nodes (by simpa [Value.cells] using hf)
  obtain ⟨vs, w1⟩ : ∃ vs, RawNodes W.heap.size W (.slice a1 len1 cap1) vs := by
    obtain ⟨fuel, hf⟩ := h1
    exact raw_nodes (by simpa [Value.cells] using hf)
  clear hA0 hV0 hval0
  refine (lawPlus_walk (.slice a0 len0 cap0) (.slice a1 len1 cap1) us vs W w0 w1 hE).mono fun e W' ⟨he, bel⟩ => ?_
  subst he
  exact ⟨_, rfl, _, _, _, [], _, [.cell 0 0, .cell 1 0], hW', trodAll_mk1 (shut_bool Tryz.underlying4 _), (trodAll_cons_mk (Below.trod ev_laidOut (by kernel_rfl) (of_decide_eq_true (by kernel_rfl)) k0 bel lt0) (trodAll_cons_mk (Below.trod ev_laidOut (by kernel_rfl) (of_decide_eq_true (by kernel_rfl)) k1 bel lt1) trodAll_mk0)), ev_read2 enc (ev_var_below bel ev_gk (cell_lt (ev_cell0 hv0)) hv0) (ev_var_below bel ev_gn (cell_lt (ev_cell1 hv1)) hv1) _, bel.frame _, fun h => by cases h⟩

theorem fnExactPlus_row : Rows.FnExactPlusSaid :=
  OpenClaim.holds_of_wide 4 Tryz.f4 rfl rfl rfl rfl rfl rfl rfl ⟨rfl, rfl, rfl, rfl, rfl⟩ rfl rfl rfl rfl rfl (by kernel_rfl) Tryz.func4 (by kernel_rfl)
    (of_decide_eq_true (by kernel_rfl)) (by unfold Func.isWrapper; first | (rw [if_pos (by decide +kernel)]; kernel_rfl) | (rw [if_neg (by decide +kernel)]; exact ⟨rfl, rfl⟩))
    (fun os started H enc _ => plus_lifted os started H enc)

theorem fnExactPlus_holds : Rows.FnExactPlusCardSaid :=
  Claim7.holds_tied_plain_at .later [] [.handle, .sentinel, .sentinel] true (true, "92744cdcb9753429913f57d317b108daa2e773134039842d87cb58014b1cbd94") true
    fnExactPlus_row (fun _ h => by cases h) (by kernel_rfl) (fun _ h => by cases h) fnExactPlus_row_tie rfl ⟨rfl, rfl⟩ (by kernel_rfl) rfl
    (fun f fn hf hfn => by
      obtain rfl : f = 4 := Option.some.inj ((show Tryz.prog.funcNamed "loop.example/g00345/laws.FnExactPlus" = some 4 by kernel_rfl).symm.trans hf) |>.symm
      obtain rfl : fn = Tryz.f4 := (Option.some.inj (Tryz.func4.symm.trans hfn)).symm
      exact ⟨by kernel_rfl, fun j t ht => by
        rw [Tryz.params4] at ht
        have h3 : t = 38 := by
          rcases j with _ | _ | j
          · simpa using ht.symm
          · simpa using ht.symm
          · simp at ht
        subst h3
        exact (show Tryz.prog.wantsStandIn 38 = false by kernel_rfl)⟩)
    (by kernel_rfl)
#print axioms fnExactPlus_holds
end Go.Proofs.YtfijafbpdlakaaaGreatDoor
