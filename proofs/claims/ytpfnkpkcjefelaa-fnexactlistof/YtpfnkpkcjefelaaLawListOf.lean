/-
  The law of ListOf: the call returns true and turns nothing that was there.
-/
import Derived.Test.YtpfnkpkcjefelaaEqS2
import Derived.Test.YtpfnkpkcjefelaaToSS
import Derived.Test.YtpfnkpkcjefelaaIListOf
namespace Go.Proofs.Ytpfnkpkcjefelaa
open Go.RowKit
set_option linter.unusedSimpArgs false
set_option linter.unusedVariables false

theorem list_few {L : Nat → List VN} {m : Nat} (hf : ∀ i, i < m → ∀ j, j < (L i).length → Fits (nodeAt (L i) j)) : Few (listNs L m) ∧ ∀ i, i < (listNs L m).length → Fits (nodeAt (listNs L m) i) := by
  cases e : listB L m
  · have : listNs L m = [] := by unfold listNs; rw [e]; rfl
    rw [this]
    exact ⟨⟨by simp, fun i hi => absurd hi (by simp)⟩, fun i hi => absurd hi (by simp)⟩
  · have e2 : listNs L m = makeNs 5 [] L m := by unfold listNs; rw [e]; rfl
    unfold listB at e
    simp only [Bool.and_eq_true, decide_eq_true_eq] at e
    obtain ⟨⟨h1, h2⟩, h3⟩ := e
    have hn := make_nice h2 (allB_yes h1) hf (kind := 5) (by omega) (by omega) (keys := []) (by simp) (fun i hi => absurd hi (by simp))
    rw [e2]
    exact ⟨⟨(okB_parts h3).1.2, fun i hi => ⟨(hn.2 i hi).2.1, (hn.2 i hi).2.2.1⟩⟩, fun i hi => (hn.2 i hi).1⟩

theorem Below.next2 {A : Nat} {a b c : World} (h : Below A a b) (h2 : Below b.heap.size b c) (hA : A ≤ b.heap.size) : Below A a c := h.trans (h2.mono hA)

set_option maxRecDepth 100000 in
set_option maxHeartbeats 6400000 in
theorem lawListOf_walk (v : Value) (m : Nat) (L : Nat → List VN) (w : World) (h : RawRows w.heap.size w v m L) :
    Calls Try.prog 9 #[v] w fun e w' => e = .returned (.bool true) ∧ Below w.heap.size w w' := by
  have H := hideIt h
  obtain ⟨_, a, cap, rfl, _⟩ := h
  go_enter Try.func9, Try.ntmps9
  go_wp2_with fail
  refine (szVNodeSS_w w.heap.size _ m L 1048576 _ H.out (Nat.le_refl _) (by omega) (by omega)).mono ?_
  rintro e w1 ⟨⟨q, rfl, hq, hs⟩, hb1⟩
  have HS := hideIt hs
  clear hs
  have z1 := hb1.size
  by_cases hq0 : q < 0
  · go_wp2_with fail
    go_ret
    exact ⟨rfl, hb1⟩
  have HSM := hideIt (HS.out (by omega))
  have hm := HSM.out.1
  have HW : Hid (wts L m ≤ 3145728) := by have := HSM.out.2.2; unfold Hid; omega
  have HN := hideIt (H.out.fit HSM.out.1 HSM.out.2.1)
  have HF := hideIt HN.out.fits
  have HR := hideIt (list_few HF.out)
  have HLF : Hid (∀ i, i < m → (L i).length ≤ 1048576 ∧ ∀ j, j < (L i).length → Fits (nodeAt (L i) j)) := fun i hi => ⟨(HSM.out.2.1 i hi).1, HF.out i hi⟩
  have HB1 := hideIt hb1
  clear hb1
  go_wp2_with fail
  refine (toVNodeSS_any w.heap.size _ m L _ (HN.out.below HB1.out) HSM.out.2.1 (by omega)).mono ?_
  rintro e w2 ⟨rs2, KB2, KI2, lo2, rfl, ho2, hb2⟩
  have HO2 := hideIt ho2
  have HB2 := hideIt (Below.next2 HB1.out hb2 z1)
  have z2 := HB2.out.size
  clear ho2 hb2
  go_wp2_with fail
  refine (specListOf_any w2.heap.size _ m L _ (HO2.out.rowsAny hm HLF.out) (Nat.le_refl _) HF.out).mono ?_
  rintro e w3 ⟨r0, base0, KV0, IV0, rfl, hbase0, hnest0, hb3⟩
  have HN0 := hideIt hnest0
  obtain ⟨a0, c0, hr0⟩ := own_slice hnest0.row
  obtain ⟨N, hL⟩ : ∃ N, (listNs L m).length = N := ⟨_, rfl⟩
  have HLL := hideIt hL
  rw [hL] at hr0
  subst hr0
  have HB3 := hideIt (Below.next2 HB2.out hb3 z2)
  have z3 := HB3.out.size
  clear hnest0 hb3 hL
  go_wp2_with fail
  refine (toVNodeSS_any w.heap.size _ m L _ (HN.out.below HB3.out) HSM.out.2.1 (by omega)).mono ?_
  rintro e w4 ⟨rs4, KB4, KI4, lo4, rfl, ho4, hb4⟩
  have HO4 := hideIt ho4
  have H34 := hideIt hb4
  have HB4 := hideIt (Below.next2 HB3.out hb4 z3)
  have z4 := H34.out.size
  clear ho4 hb4
  go_wp2_with fail
  refine (implListOf_any w4.heap.size _ m L _ (HO4.out.rowsAny hm HLF.out) (Nat.le_refl _) HF.out).mono ?_
  rintro e w5 ⟨r5, base5, KV5, IV5, rfl, hbase5, hbase5', hnest5, hb5⟩
  have HN5 := hideIt hnest5
  obtain ⟨a5, c5, hr5⟩ := own_slice hnest5.row
  rw [HLL.out] at hr5
  subst hr5
  have HO5 := hideIt (HO4.out.below hb5)
  have H35 := hideIt (Below.next2 H34.out hb5 z4)
  have HB5 := hideIt (Below.next2 HB4.out hb5 (by omega))
  have z5 := hb5.size
  clear hnest5 hb5
  have hpe : (listB L m != listB L m) = false := by simp
  have HR1 : Hid ((listNs L m).length ≤ 1759218604416) := Nat.le_trans HR.out.1.1 (by omega)
  have HR2 : Hid (∀ i, i < (listNs L m).length → Fits (nodeAt (listNs L m) i)) := HR.out.2
  go_wp2_with fail
  refine (eqVNodeS_any w5.heap.size _ _ (listNs L m) _ (HN5.out.nodes HR1.out HR2.out) ((HN0.out.below H35.out).nodes HR1.out HR2.out) (Nat.le_refl _)).mono ?_
  rintro e w6 ⟨rfl, hb6⟩
  have HO6 := hideIt (HO5.out.below hb6)
  have H36 := hideIt (Below.next2 H35.out hb6 (by omega))
  have HB6 := hideIt (Below.next2 HB5.out hb6 (by omega))
  have HFR6 := hideIt ((From.refl base5 w5).below hb6)
  have z6 := hb6.size
  clear hb6
  go_wp2_with fail
  refine (toVNodeSS_any w.heap.size _ m L _ (HN.out.below HB6.out) HSM.out.2.1 (by omega)).mono ?_
  rintro e w7 ⟨rs7, KB7, KI7, lo7, rfl, ho7, hb7⟩
  have HO7 := hideIt ho7
  have HOx := hideIt (HO6.out.below hb7)
  have H37 := hideIt (Below.next2 H36.out hb7 (by omega))
  have HB7 := hideIt (Below.next2 HB6.out hb7 (by omega))
  have HFR7 := hideIt (HFR6.out.below hb7)
  have z7 := hb7.size
  clear ho7 hb7
  go_wp2_with fail
  refine (eqVNodeSS_any w7.heap.size _ _ m L _ (HOx.out.rowsAny hm HLF.out) (HO7.out.rowsAny hm HLF.out) (Nat.le_refl _)).mono ?_
  rintro e w8 ⟨rfl, hb8⟩
  have HO8 := hideIt (HOx.out.below hb8)
  have H38 := hideIt (Below.next2 H37.out hb8 (by omega))
  have HB8 := hideIt (Below.next2 HB7.out hb8 (by omega))
  have HFR8 := hideIt (HFR7.out.below hb8)
  have z8 := hb8.size
  clear hb8
  go_wp2_with fail
  refine (markVNodeSS_gen w3.heap.size _ m L rs4 KB4 KI4 lo4 w8 HO8.out hm HSM.out.2.1 HW.out).mono ?_
  rintro e w9 ⟨rfl, hb9, hf9⟩
  have H39 := hideIt (H38.out.trans hb9)
  have HB9 := hideIt (HB8.out.trans (hb9.mono (by omega)))
  have HFR9 : Hid (From base5 w5 w9) := ⟨Nat.le_trans HFR8.out.1 hf9.1, fun c h1 h2 => (hf9.2 c (by have := HO4.out.top; omega) (by have := HFR8.out.1; omega)).trans (HFR8.out.2 c h1 h2)⟩
  have z9 := hb9.size
  clear hf9 hb9
  generalize off3 L m = M9
  have hM9 : ¬ ((M9 : Int) < 0) := by omega
  go_wp2_with fail
  refine (eqVNodeS_any w9.heap.size _ _ (listNs L m) _ ((HN5.out.from HFR9.out).nodes HR1.out HR2.out) ((HN0.out.below H39.out).nodes HR1.out HR2.out) (Nat.le_refl _)).mono ?_
  rintro e w10 ⟨rfl, hb10⟩
  have H310 := hideIt (Below.next2 H39.out hb10 (by omega))
  have HB10 := hideIt (Below.next2 HB9.out hb10 (by omega))
  have HN10 := hideIt (HN5.out.from (HFR9.out.below hb10))
  have z10 := hb10.size
  clear hb10
  have HMK := hideIt (HN10.out.mark HLL.out HR.out.1)
  have hLs : N ≤ 80 := by rw [← HLL.out]; exact HR.out.1.1
  go_wp2_with fail
  refine (markVNodeS_any base5 _ N c5 1 a5 _ _ _ _ w10 HMK.out (by omega) (by omega) (by omega) (by omega)).mono ?_
  rintro e w11 ⟨rfl, hh11, hon11, hb11⟩
  have H311 := hideIt (H310.out.trans (hb11.mono (by omega)))
  have HB11 := hideIt (HB10.out.trans (hb11.mono (by omega)))
  have HH11 := hideIt hh11
  have z11 := hb11.size
  clear hh11 hon11 hb11
  have HKR : Hid (∀ i, i < N → knOf (listNs L m) i ≤ 1048576 ∧ inOf (listNs L m) i ≤ 1048576) := fun i hi => by
    have := HR.out.1.2 i (by rw [HLL.out]; exact hi)
    unfold knOf inOf
    omega
  have HAD : Hid (0 < N → a5 = some ⟨blk (.slice a5 N c5), 0, none⟩) := fun hp => (HMK.out hp).1
  go_wp2_with fail
  refine (heldVNodeS_any _ N c5 1 a5 _ _ _ _ w11 HAD.out (by omega) HKR.out (by omega) (by omega) HH11.out).mono ?_
  rintro e w12 ⟨rfl, hb12⟩
  have H312 := hideIt (Below.next2 H311.out hb12 (by omega))
  have HB12 := hideIt (Below.next2 HB11.out hb12 (by omega))
  have H1112 := hideIt hb12
  have z12 := hb12.size
  clear hb12
  have HOFF : Hid (∃ M, off (knOf (listNs L m)) (inOf (listNs L m)) 1 N = M) := ⟨_, rfl⟩
  obtain ⟨M12, hM12⟩ := HOFF.out
  rw [hM12]
  have HM12 := hideIt hM12
  have hM0 : ¬ ((M12 : Int) < 0) := by omega
  clear hM12
  go_wp2_with fail
  refine (toVNodeSS_any w.heap.size _ m L _ (HN.out.below HB12.out) HSM.out.2.1 (by omega)).mono ?_
  rintro e w13 ⟨rs13, KB13, KI13, lo13, rfl, ho13, hb13⟩
  have HO13 := hideIt ho13
  have H313 := hideIt (Below.next2 H312.out hb13 (by omega))
  have HB13 := hideIt (Below.next2 HB12.out hb13 (by omega))
  have H1113 := hideIt (Below.next2 H1112.out hb13 (by omega))
  have z13 := hb13.size
  clear ho13 hb13
  go_wp2_with fail
  refine (implListOf_any w13.heap.size _ m L _ (HO13.out.rowsAny hm HLF.out) (Nat.le_refl _) HF.out).mono ?_
  rintro e w14 ⟨r14, base14, KV14, IV14, rfl, hbase14, hbase14', hnest14, hb14⟩
  have HN14 := hideIt hnest14
  obtain ⟨a14, c14, hr14⟩ := own_slice hnest14.row
  rw [HLL.out] at hr14
  subst hr14
  have H314 := hideIt (Below.next2 H313.out hb14 (by omega))
  have HB14 := hideIt (Below.next2 HB13.out hb14 (by omega))
  have H1114 := hideIt (Below.next2 H1113.out hb14 (by omega))
  have z14 := hb14.size
  clear hnest14 hb14
  go_wp2_with fail
  refine (eqVNodeS_any w14.heap.size _ _ (listNs L m) _ (HN14.out.nodes HR1.out HR2.out) ((HN0.out.below H314.out).nodes HR1.out HR2.out) (Nat.le_refl _)).mono ?_
  rintro e w15 ⟨rfl, hb15⟩
  have HB15 := hideIt (Below.next2 HB14.out hb15 (by omega))
  have H1115 := hideIt (Below.next2 H1114.out hb15 (by omega))
  have z15 := hb15.size
  clear hb15
  go_wp2_with fail
  refine (heldVNodeS_any _ N c5 1 a5 _ _ _ _ w15 HAD.out (by omega) HKR.out (by omega) (by omega) (fun i hi => (HH11.out i hi).below H1115.out)).mono ?_
  rintro e w16 ⟨rfl, hb16⟩
  have HB16 := hideIt (Below.next2 HB15.out hb16 (by omega))
  clear hb16
  rw [HM12.out]
  go_wp2_with fail
  go_ret
  exact ⟨rfl, HB16.out⟩
end Go.Proofs.Ytpfnkpkcjefelaa
