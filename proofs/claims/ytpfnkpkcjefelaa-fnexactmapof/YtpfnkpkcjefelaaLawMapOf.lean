/-
  The law of MapOf: the call returns true and turns nothing that was there.
-/
import Derived.Test.YtpfnkpkcjefelaaListP
import Derived.Test.YtpfnkpkcjefelaaMapF
import Derived.Test.YtpfnkpkcjefelaaSMapOf
namespace Go.Proofs.Ytpfnkpkcjefelaa
open Go.RowKit
set_option linter.unusedSimpArgs false
set_option linter.unusedVariables false

theorem toKeys (B : Nat) (v : Value) (l : List ByteArray) (N : Nat) (w : World) (h : StrsAt B w v l) (hB : B ≤ w.heap.size) (hN : l.length = N) :
    Calls Try.prog 43 #[v] w fun e w' => e = .returned (.slice (some ⟨w.heap.size, 0, none⟩) N N) ∧
      WRow w' w.heap.size N ∧ w.heap.size < w'.heap.size ∧ StrsAt w'.heap.size w' (.slice (some ⟨w.heap.size, 0, none⟩) N N) l ∧ Below w.heap.size w w' := by
  refine (toStringS_any B v l w h hB).mono ?_
  rintro e w' ⟨rfl, hr, hb⟩
  subst hN
  exact ⟨rfl, fun j hj => ⟨⟨_, hr.cell hj⟩, hr.frozen j⟩, hr.lt, rowStrs hr h.1 h.2.1 _ hr.lt, hb⟩

theorem Below.nextM {A : Nat} {a b c : World} (h : Below A a b) (h2 : Below b.heap.size b c) (hA : A ≤ b.heap.size) : Below A a c := h.trans (h2.mono hA)

set_option maxRecDepth 100000 in
set_option maxHeartbeats 12800000 in
theorem lawMapOf_walk (vk v : Value) (l : List ByteArray) (m : Nat) (L : Nat → List VN) (w : World) (hk : RawStrs w.heap.size w vk l) (h : RawRows w.heap.size w v m L) :
    Calls Try.prog 10 #[vk, v] w fun e w' => e = .returned (.bool true) ∧ Below w.heap.size w w' := by
  have H := hideIt h
  have HK := hideIt hk
  obtain ⟨N, hN⟩ : ∃ N, l.length = N := ⟨_, rfl⟩
  have HNN := hideIt hN
  obtain ⟨_, a, cap, rfl, _⟩ := h
  obtain ⟨_, _, ak, capk, rfl, _⟩ := hk
  rw [hN] at HK ⊢
  clear hN
  go_enter Try.func10, Try.ntmps10
  go_wp2_with fail
  refine (szStringS_w w.heap.size _ l 1048576 _ HK.out (by omega) (by omega)).mono ?_
  rintro e w0 ⟨⟨q1, rfl, hq1, hs1⟩, e0⟩
  have e0' := e0.symm
  clear e0
  subst e0'
  rw [HNN.out] at hs1
  have HS1 := hideIt hs1
  clear hs1
  by_cases hq10 : q1 < 0
  · go_wp2_with fail
    go_ret
    exact ⟨rfl, Below.refl _ _⟩
  have hN20 : (N : Int) ≤ 1048576 := by have := (HS1.out (by omega)).1; omega
  have hN2 : N ≤ 1048576 := by omega
  clear hN20
  have HKS : Hid (∀ i, i < l.length → (keyAt l i).size ≤ 1048576) := fun i hi => (HS1.out (by omega)).2 i (by rw [← HNN.out]; exact hi)
  have HSA : Hid (StrsAt w.heap.size w (.slice ak N capk) l) := HK.out.fit (by rw [HNN.out]; exact hN2) HKS.out
  go_wp2_with fail
  refine (szVNodeSS_w w.heap.size _ m L q1 _ H.out (Nat.le_refl _) (by omega) (by omega)).mono ?_
  rintro e w1 ⟨⟨q, rfl, hq, hs⟩, hb1⟩
  have HS := hideIt hs
  clear hs
  have z1 := hb1.size
  by_cases hq0 : q < 0
  · go_wp2_with fail
    go_ret
    exact ⟨rfl, hb1⟩
  have HSM := hideIt (HS.out (by omega))
  have hm := HSM.out.1
  have HW : Hid (wts L m ≤ 3145728) := by have := HSM.out.2.2; unfold Hid; omega
  have HN := hideIt (H.out.fit HSM.out.1 HSM.out.2.1)
  have HF := hideIt HN.out.fits
  have HR := hideIt (map_few (l := l) HSA.out.2.1 HF.out)
  have HLF : Hid (∀ i, i < m → (L i).length ≤ 1048576 ∧ ∀ j, j < (L i).length → Fits (nodeAt (L i) j)) := fun i hi => ⟨(HSM.out.2.1 i hi).1, HF.out i hi⟩
  have HB1 := hideIt hb1
  clear hb1
  go_wp2_with fail
  refine (toKeys w.heap.size _ l N w1 (HSA.out.below HB1.out) (by omega) HNN.out).mono ?_
  rintro e w2 ⟨rfl, _, t2, hst2, hb2⟩
  have HST2 := hideIt hst2
  have HB2 := hideIt (Below.nextM HB1.out hb2 z1)
  have z2 := HB2.out.size
  clear hst2 hb2
  go_wp2_with fail
  refine (toVNodeSS_any w.heap.size _ m L _ (HN.out.below HB2.out) HSM.out.2.1 (by omega)).mono ?_
  rintro e w3 ⟨rs3, KB3, KI3, lo3, rfl, ho3, hb3⟩
  have HO3 := hideIt ho3
  have HST3 := hideIt ((HST2.out.below hb3).wide hb3.size)
  have HB3 := hideIt (Below.nextM HB2.out hb3 z2)
  have z3 := HB3.out.size
  clear ho3 hb3
  go_wp2_with fail
  refine (specMapOf_any w3.heap.size _ _ l m L _ HST3.out (HO3.out.rowsAny hm HLF.out) (Nat.le_refl _) HF.out).mono ?_
  rintro e w4 ⟨r0, base0, KV0, IV0, rfl, hbase0, hnest0, hb4⟩
  have HN0 := hideIt hnest0
  obtain ⟨a0, c0, hr0⟩ := own_slice hnest0.row
  obtain ⟨M, hL⟩ : ∃ M, (mapNs l L m).length = M := ⟨_, rfl⟩
  have HLL := hideIt hL
  rw [hL] at hr0
  subst hr0
  have HB4 := hideIt (Below.nextM HB3.out hb4 z3)
  have z4 := HB4.out.size
  clear hnest0 hb4 hL t2
  go_wp2_with fail
  refine (toKeys w.heap.size _ l N w4 (HSA.out.below HB4.out) (by omega) HNN.out).mono ?_
  rintro e w5 ⟨rfl, hw5, t5, hst5, hb5⟩
  have HW5 := hideIt hw5
  have HST5 := hideIt hst5
  have H45 := hideIt hb5
  have HB5 := hideIt (Below.nextM HB4.out hb5 z4)
  have z5 := HB5.out.size
  clear hst5 hb5 hw5
  go_wp2_with fail
  refine (toVNodeSS_any w.heap.size _ m L _ (HN.out.below HB5.out) HSM.out.2.1 (by omega)).mono ?_
  rintro e w6 ⟨rs6, KB6, KI6, lo6, rfl, ho6, hb6⟩
  have HO6 := hideIt ho6
  have H56 := hideIt hb6
  have H46 := hideIt (Below.nextM H45.out hb6 (by omega))
  have HB6 := hideIt (Below.nextM HB5.out hb6 z5)
  have HST6 := hideIt ((HST5.out.below hb6).wide hb6.size)
  have z6 := hb6.size
  clear ho6 hb6
  go_wp2_with fail
  refine (implMapOf_any w6.heap.size _ _ l m L _ HST6.out (HO6.out.rowsAny hm HLF.out) (Nat.le_refl _) HF.out).mono ?_
  rintro e w7 ⟨r7, base7, KV7, IV7, rfl, hbase7, hbase7', hnest7, hb7⟩
  have HN7 := hideIt hnest7
  obtain ⟨a7, c7, hr7⟩ := own_slice hnest7.row
  rw [HLL.out] at hr7
  subst hr7
  have HO7 := hideIt (HO6.out.below hb7)
  have H57 := hideIt (Below.nextM H56.out hb7 (by omega))
  have H47 := hideIt (Below.nextM H46.out hb7 (by omega))
  have HB7 := hideIt (Below.nextM HB6.out hb7 (by omega))
  have z7 := hb7.size
  clear hnest7 hb7
  have hpe : (mapB l L m != mapB l L m) = false := by simp
  have HR1 : Hid ((mapNs l L m).length ≤ 1759218604416) := Nat.le_trans HR.out.1.1 (by omega)
  have HR2 : Hid (∀ i, i < (mapNs l L m).length → Fits (nodeAt (mapNs l L m) i)) := HR.out.2
  go_wp2_with fail
  refine (eqVNodeS_any w7.heap.size _ _ (mapNs l L m) _ (HN7.out.nodes HR1.out HR2.out) ((HN0.out.below H47.out).nodes HR1.out HR2.out) (Nat.le_refl _)).mono ?_
  rintro e w8 ⟨rfl, hb8⟩
  have HO8 := hideIt (HO7.out.below hb8)
  have H58 := hideIt (Below.nextM H57.out hb8 (by omega))
  have H48 := hideIt (Below.nextM H47.out hb8 (by omega))
  have HB8 := hideIt (Below.nextM HB7.out hb8 (by omega))
  have HFR8 := hideIt ((From.refl base7 w7).below hb8)
  have z8 := hb8.size
  clear hb8
  go_wp2_with fail
  refine (toKeys w.heap.size _ l N w8 (HSA.out.below HB8.out) (by omega) HNN.out).mono ?_
  rintro e w9 ⟨rfl, _, t9, hst9, hb9⟩
  have HST9 := hideIt hst9
  have HO9 := hideIt (HO8.out.below hb9)
  have H59 := hideIt (Below.nextM H58.out hb9 (by omega))
  have H49 := hideIt (Below.nextM H48.out hb9 (by omega))
  have HB9 := hideIt (Below.nextM HB8.out hb9 (by omega))
  have HFR9 := hideIt (HFR8.out.below hb9)
  have z9 := hb9.size
  clear hst9 hb9
  go_wp2_with fail
  refine (eqStringS_any w9.heap.size _ _ l _ ((HST5.out.below H59.out).wide (by omega)) HST9.out (Nat.le_refl _)).mono ?_
  rintro e w10 ⟨rfl, hb10⟩
  have HO10 := hideIt (HO9.out.below hb10)
  have H510 := hideIt (Below.nextM H59.out hb10 (by omega))
  have H410 := hideIt (Below.nextM H49.out hb10 (by omega))
  have HB10 := hideIt (Below.nextM HB9.out hb10 (by omega))
  have HFR10 := hideIt (HFR9.out.below hb10)
  have z10 := hb10.size
  clear hb10 t9
  go_wp2_with fail
  refine (toVNodeSS_any w.heap.size _ m L _ (HN.out.below HB10.out) HSM.out.2.1 (by omega)).mono ?_
  rintro e w11 ⟨rs11, KB11, KI11, lo11, rfl, ho11, hb11⟩
  have HO11 := hideIt ho11
  have HOx := hideIt (HO10.out.below hb11)
  have H511 := hideIt (Below.nextM H510.out hb11 (by omega))
  have H411 := hideIt (Below.nextM H410.out hb11 (by omega))
  have HB11 := hideIt (Below.nextM HB10.out hb11 (by omega))
  have HFR11 := hideIt (HFR10.out.below hb11)
  have z11 := hb11.size
  clear ho11 hb11
  go_wp2_with fail
  refine (eqVNodeSS_any w11.heap.size _ _ m L _ (HOx.out.rowsAny hm HLF.out) (HO11.out.rowsAny hm HLF.out) (Nat.le_refl _)).mono ?_
  rintro e w12 ⟨rfl, hb12⟩
  have HO12 := hideIt (HOx.out.below hb12)
  have H512 := hideIt (Below.nextM H511.out hb12 (by omega))
  have H412 := hideIt (Below.nextM H411.out hb12 (by omega))
  have HB12 := hideIt (Below.nextM HB11.out hb12 (by omega))
  have HFR12 := hideIt (HFR11.out.below hb12)
  have z12 := hb12.size
  clear hb12
  go_wp2_with fail
  refine (markStringS_any w4.heap.size w4.heap.size N N 1 _ w12 (fun _ => ⟨rfl, Nat.le_refl _, by omega, HW5.out.below H512.out t5⟩) (by omega) hN2 (by omega) (by omega)).mono ?_
  rintro e w13 ⟨rfl, _, _, hon13, hb13⟩
  have HFO : Hid (From w5.heap.size w12 w13) := (From.refl _ _).only hon13 (fun c hc => by omega)
  have HO13 := hideIt (HO12.out.from HFO.out)
  have H413 := hideIt (H412.out.trans hb13)
  have HB13 := hideIt (HB12.out.trans (hb13.mono (by omega)))
  have HFR13 := hideIt (HFR12.out.only hon13 (fun c hc => by omega))
  have z13 := hb13.size
  clear hon13 hb13
  go_wp2_with fail
  refine (markVNodeSS_from w5.heap.size (1 + N) _ m L rs6 KB6 KI6 lo6 w13 HO13.out hm HSM.out.2.1 HW.out (by omega) (by omega)).mono ?_
  rintro e w14 ⟨rfl, hb14, hf14⟩
  have H414 := hideIt (H413.out.trans (hb14.mono (by omega)))
  have HB14 := hideIt (HB13.out.trans (hb14.mono (by omega)))
  have HFR14 : Hid (From base7 w7 w14) := ⟨Nat.le_trans HFR13.out.1 hf14.1, fun c h1 h2 => (hf14.2 c (by have := HO6.out.top; omega) (by have := HFR13.out.1; omega)).trans (HFR13.out.2 c h1 h2)⟩
  have z14 := hb14.size
  clear hf14 hb14
  generalize off4 (1 + N) L m = M9
  have hM9 : ¬ ((M9 : Int) < 0) := by omega
  go_wp2_with fail
  refine (eqVNodeS_any w14.heap.size _ _ (mapNs l L m) _ ((HN7.out.from HFR14.out).nodes HR1.out HR2.out) ((HN0.out.below H414.out).nodes HR1.out HR2.out) (Nat.le_refl _)).mono ?_
  rintro e w15 ⟨rfl, hb15⟩
  have H415 := hideIt (Below.nextM H414.out hb15 (by omega))
  have HB15 := hideIt (Below.nextM HB14.out hb15 (by omega))
  have HN15 := hideIt (HN7.out.from (HFR14.out.below hb15))
  have z15 := hb15.size
  clear hb15
  have HMK := hideIt (HN15.out.mark HLL.out HR.out.1)
  have hLs : M ≤ 80 := by rw [← HLL.out]; exact HR.out.1.1
  go_wp2_with fail
  refine (markVNodeS_any base7 _ M c7 1 a7 _ _ _ _ w15 HMK.out (by omega) (by omega) (by omega) (by omega)).mono ?_
  rintro e w16 ⟨rfl, hh16, hon16, hb16⟩
  have H416 := hideIt (H415.out.trans (hb16.mono (by omega)))
  have HB16 := hideIt (HB15.out.trans (hb16.mono (by omega)))
  have HH16 := hideIt hh16
  have z16 := hb16.size
  clear hh16 hon16 hb16
  have HKR : Hid (∀ i, i < M → knOf (mapNs l L m) i ≤ 1048576 ∧ inOf (mapNs l L m) i ≤ 1048576) := fun i hi => by
    have := HR.out.1.2 i (by rw [HLL.out]; exact hi)
    unfold knOf inOf
    omega
  have HAD : Hid (0 < M → a7 = some ⟨blk (.slice a7 M c7), 0, none⟩) := fun hp => (HMK.out hp).1
  go_wp2_with fail
  refine (heldVNodeS_any _ M c7 1 a7 _ _ _ _ w16 HAD.out (by omega) HKR.out (by omega) (by omega) HH16.out).mono ?_
  rintro e w17 ⟨rfl, hb17⟩
  have H417 := hideIt (Below.nextM H416.out hb17 (by omega))
  have HB17 := hideIt (Below.nextM HB16.out hb17 (by omega))
  have H1617 := hideIt hb17
  have z17 := hb17.size
  clear hb17
  have HOFF : Hid (∃ Q, off (knOf (mapNs l L m)) (inOf (mapNs l L m)) 1 M = Q) := ⟨_, rfl⟩
  obtain ⟨M12, hM12⟩ := HOFF.out
  rw [hM12]
  have HM12 := hideIt hM12
  have hM0 : ¬ ((M12 : Int) < 0) := by omega
  clear hM12
  go_wp2_with fail
  refine (toKeys w.heap.size _ l N w17 (HSA.out.below HB17.out) (by omega) HNN.out).mono ?_
  rintro e w18 ⟨rfl, _, t18, hst18, hb18⟩
  have HST18 := hideIt hst18
  have H418 := hideIt (Below.nextM H417.out hb18 (by omega))
  have HB18 := hideIt (Below.nextM HB17.out hb18 (by omega))
  have H1618 := hideIt (Below.nextM H1617.out hb18 (by omega))
  have z18 := hb18.size
  clear hst18 hb18
  go_wp2_with fail
  refine (toVNodeSS_any w.heap.size _ m L _ (HN.out.below HB18.out) HSM.out.2.1 (by omega)).mono ?_
  rintro e w19 ⟨rs19, KB19, KI19, lo19, rfl, ho19, hb19⟩
  have HO19 := hideIt ho19
  have HST19 := hideIt ((HST18.out.below hb19).wide hb19.size)
  have H419 := hideIt (Below.nextM H418.out hb19 (by omega))
  have HB19 := hideIt (Below.nextM HB18.out hb19 (by omega))
  have H1619 := hideIt (Below.nextM H1618.out hb19 (by omega))
  have z19 := hb19.size
  clear ho19 hb19 t18
  go_wp2_with fail
  refine (implMapOf_any w19.heap.size _ _ l m L _ HST19.out (HO19.out.rowsAny hm HLF.out) (Nat.le_refl _) HF.out).mono ?_
  rintro e w20 ⟨r20, base20, KV20, IV20, rfl, hbase20, hbase20', hnest20, hb20⟩
  have HN20 := hideIt hnest20
  obtain ⟨a20, c20, hr20⟩ := own_slice hnest20.row
  rw [HLL.out] at hr20
  subst hr20
  have H420 := hideIt (Below.nextM H419.out hb20 (by omega))
  have HB20 := hideIt (Below.nextM HB19.out hb20 (by omega))
  have H1620 := hideIt (Below.nextM H1619.out hb20 (by omega))
  have z20 := hb20.size
  clear hnest20 hb20
  go_wp2_with fail
  refine (eqVNodeS_any w20.heap.size _ _ (mapNs l L m) _ (HN20.out.nodes HR1.out HR2.out) ((HN0.out.below H420.out).nodes HR1.out HR2.out) (Nat.le_refl _)).mono ?_
  rintro e w21 ⟨rfl, hb21⟩
  have HB21 := hideIt (Below.nextM HB20.out hb21 (by omega))
  have H1621 := hideIt (Below.nextM H1620.out hb21 (by omega))
  have z21 := hb21.size
  clear hb21
  go_wp2_with fail
  refine (heldVNodeS_any _ M c7 1 a7 _ _ _ _ w21 HAD.out (by omega) HKR.out (by omega) (by omega) (fun i hi => (HH16.out i hi).below H1621.out)).mono ?_
  rintro e w22 ⟨rfl, hb22⟩
  have HB22 := hideIt (Below.nextM HB21.out hb22 (by omega))
  clear hb22
  rw [HM12.out]
  go_wp2_with fail
  go_ret
  exact ⟨rfl, HB22.out⟩
end Go.Proofs.Ytpfnkpkcjefelaa
