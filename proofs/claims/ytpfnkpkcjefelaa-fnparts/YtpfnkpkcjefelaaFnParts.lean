/-
  The law FnParts: the call returns true and turns nothing that was there.
-/
import Derived.Test.YtpfnkpkcjefelaaSameA
import Derived.Test.YtpfnkpkcjefelaaVOfK
import Derived.Test.YtpfnkpkcjefelaaIParts
import Derived.Test.YtpfnkpkcjefelaaPartQ
import Derived.Test.YtpfnkpkcjefelaaIListOf
import Derived.Test.YtpfnkpkcjefelaaRows
import Derived.ProofKit
import Derived.OpenShut
import Derived.ShutString
import Derived.ChangeOld
import Derived.Below
namespace Go.Proofs.Ytpfnkpkcjefelaa
open Go.RowKit
set_option linter.unusedSimpArgs false
set_option linter.unusedVariables false

theorem RowsAt.wide {B B' : Nat} {w : World} {v : Value} {m : Nat} {L : Nat → List VN} (h : RowsAt B w v m L) (hb : B ≤ B') : RowsAt B' w v m L := by
  obtain ⟨h1, a, c, e, h2⟩ := h
  refine ⟨h1, a, c, e, fun hp => ?_⟩
  obtain ⟨b, ea, hbB, h3⟩ := h2 hp
  refine ⟨b, ea, by omega, fun i hi => ?_⟩
  obtain ⟨r, e2, hn⟩ := h3 i hi
  exact ⟨r, e2, hn.wide hb⟩

theorem RowsAt.on {B : Nat} {w w' : World} {v : Value} {m : Nat} {L : Nat → List VN} (h : RowsAt B w v m L) (hB : B ≤ w.heap.size) (hb : Below w.heap.size w w') : RowsAt w'.heap.size w' v m L := (h.below (hb.mono hB)).wide (Nat.le_trans hB hb.size)
theorem NodesAt.on {B : Nat} {w w' : World} {v : Value} {vs : List VN} (h : NodesAt B w v vs) (hB : B ≤ w.heap.size) (hb : Below w.heap.size w w') : NodesAt w'.heap.size w' v vs := (h.below (hb.mono hB)).wide (Nat.le_trans hB hb.size)

theorem kids_part {vs : List VN} (hok : okB vs = true) {i : Nat} (hi : i < (rootKids vs).length) : partB vs (intAt (rootKids vs) i) = true ∧ resOf vs (intAt (rootKids vs) i) = PL vs i := by
  obtain ⟨q, hq, hql⟩ := root_kid hok hi
  have h1 : partB vs (intAt (rootKids vs) i) = true := by
    rw [hq]; unfold partB inB; rw [hok]; simp; omega
  refine ⟨h1, ?_⟩
  unfold resOf PL
  rw [if_pos h1]

theorem no_kids {vs : List VN} (hok : okB vs = true) (h5 : ¬ (nodeAt vs (vs.length - 1)).kind = 5) (h6 : ¬ (nodeAt vs (vs.length - 1)).kind = 6) : (rootKids vs).length = 0 := by
  have p1 := (okB_parts hok).1
  have hn := ((okB_parts hok).2.1 (vs.length - 1) (by omega)).1
  unfold nodeB unnamedB at hn
  simp only [Bool.and_eq_true, Bool.not_eq_true', Bool.and_eq_false_iff, decide_eq_false_iff_not, Decidable.not_not, Nat.not_lt, Nat.le_zero] at hn
  obtain ⟨⟨⟨⟨n1, n2⟩, n3⟩, n4⟩, _⟩ := hn
  unfold rootKids
  rcases n4 with (h | h) | h
  · exact absurd h h5
  · exact absurd h h6
  · exact h

theorem res_right {vs : List VN} {q : Int} (h : partB vs q = true) : okB (resOf vs q) = true := by
  obtain ⟨hok, m, rfl, hm⟩ := partB_yes h
  unfold resOf
  rw [if_pos h]
  exact part_okB hok (by simpa using hm)

set_option maxRecDepth 100000 in
set_option maxHeartbeats 6400000 in
theorem lawFnParts_walk (v : Value) (n : Nat) (w : World) (h : RawCode w v n) :
    Calls Try.prog 4 #[v] w fun e w' => e = .returned (.bool true) ∧ Below w.heap.size w w' := by
  obtain ⟨hn, a, cap, rfl, hc⟩ := h
  have HCL : Hid (n ≤ 1048576 → CodeAt w.heap.size w (.slice a n cap) n) := fun h => ⟨h, a, cap, rfl, hc⟩
  clear hc
  go_enter Try.func4, Try.ntmps4
  go_wp2_with fail
  refine (big_any a n cap w hn).mono ?_
  rintro e w1 ⟨rfl, rfl⟩
  by_cases hbig : 1048576 < n
  · go_wp2_with fail
    go_ret
    exact ⟨rfl, Below.refl _ _⟩
  have HC := hideIt (HCL.out (by omega))
  clear HCL
  go_wp2_with fail
  refine (drawPartOf_any w1.heap.size _ n w1 HC.out (Nat.le_refl _)).mono ?_
  rintro e w2 ⟨r, vs, KV, IV, q, rfl, hq1, hq2, hf1, hn1, hb2⟩
  have HF := hideIt (hf1.few (show 40 ≤ 80 by omega))
  have HN2 := hideIt (hn1.nodes (by have : vs.length ≤ 40 := hf1.2.1; omega) HF.out.2)
  have HB2 := hideIt hb2
  have z2 := hb2.size
  have hl1 : 0 < vs.length := hf1.1
  have hl2 : vs.length ≤ 40 := hf1.2.1
  have HR := hideIt (res_fits HF.out.2 q)
  have HPF := hideIt (PL_few HF.out.2)
  obtain ⟨ar, cr, er⟩ := own_slice hn1.row
  obtain ⟨M, hM⟩ : ∃ M, vs.length = M := ⟨_, rfl⟩
  have HM := hideIt hM
  rw [hM] at er hl1 hl2
  subst er
  clear hf1 hn1 hb2 hM HC
  go_wp2_with fail
  refine (implPartOf_any w2.heap.size _ vs q w2 HN2.out (Nat.le_refl _)).mono ?_
  rintro e w3 ⟨r3, base3, K3, I3, rfl, _, _, hn3, hb3⟩
  have HN3 := hideIt (hn3.nodes (by have := HR.out.1; omega) (fun i hi => (HR.out.2 i hi).1))
  have HV3 := hideIt (HN2.out.on (Nat.le_refl _) hb3)
  have HB3 := hideIt (HB2.out.trans (hb3.mono z2))
  have z3 := hb3.size
  obtain ⟨a3, c3, e3⟩ := own_slice hn3.row
  obtain ⟨N, hN⟩ : ∃ N, (resOf vs q).length = N := ⟨_, rfl⟩
  have HN := hideIt hN
  rw [hN] at e3
  subst e3
  clear hn3 hb3 hN
  go_wp2_with fail
  refine (specPartOf_any w3.heap.size _ vs q w3 HV3.out (Nat.le_refl _)).mono ?_
  rintro e w4 ⟨r4, base4, K4, I4, rfl, _, hn4, hb4⟩
  have HW4 := hideIt (hn4.nodes (by have := HR.out.1; omega) (fun i hi => (HR.out.2 i hi).1))
  have HN4 := hideIt (HN3.out.on (Nat.le_refl _) hb4)
  have HV4 := hideIt (HV3.out.on (Nat.le_refl _) hb4)
  have HB4 := hideIt (HB3.out.trans (hb4.mono (by omega)))
  have z4 := hb4.size
  obtain ⟨a4, c4, e4⟩ := own_slice hn4.row
  rw [HN.out] at e4
  subst e4
  clear hn4 hb4
  go_wp2_with fail
  refine (implPartsOf_any w4.heap.size _ vs w4 HV4.out (Nat.le_refl _)).mono ?_
  rintro e w5 ⟨r5, base5, rs5, K5, I5, lo5, rfl, _, hr5, hb5⟩
  have HL5 := hideIt (hr5.rows HPF.out.1 HPF.out.2)
  have HW5 := hideIt (HW4.out.on (Nat.le_refl _) hb5)
  have HN5 := hideIt (HN4.out.on (Nat.le_refl _) hb5)
  have HV5 := hideIt (HV4.out.on (Nat.le_refl _) hb5)
  have HB5 := hideIt (HB4.out.trans (hb5.mono (by omega)))
  have z5 := hb5.size
  obtain ⟨a5, c5, e5⟩ := own_slice hr5.row
  obtain ⟨P, hP⟩ : ∃ P, partsN vs = P := ⟨_, rfl⟩
  have HP := hideIt hP
  rw [hP] at e5
  subst e5
  rw [hP] at HL5 HPF
  clear hr5 hb5 hP HN2 HV3 HN3 HV4 HN4 HW4
  have q1 : (partB vs q != partB vs q) = false := by simp
  have q2 : (partB vs q == partB vs q) = true := by simp
  have hP80 : P ≤ 80 := HPF.out.1
  go_wp2_with fail
  refine (same_any w5.heap.size _ _ (resOf vs q) (resOf vs q) w5 HN5.out HW5.out (Nat.le_refl _)).mono ?_
  rintro e w6 ⟨⟨b6, rfl, hb6'⟩, hb6⟩
  obtain rfl : b6 = true := hb6'.2 rfl
  have HB6 := hideIt hb6
  have z6 := hb6.size
  clear hb6' hb6
  go_wp2_with fail
  refine (specPartsOf_any w5.heap.size _ vs w6 (HV5.out.below HB6.out) z6).mono ?_
  rintro e w7 ⟨r7, base7, rs7, K7, I7, lo7, rfl, _, hr7, hb7⟩
  have HL7 := hideIt (hr7.rows (by rw [HP.out]; exact hP80) (by rw [HP.out]; exact HPF.out.2))
  have HB7 := hideIt (HB6.out.trans (hb7.mono z6))
  have z7 := hb7.size
  obtain ⟨a7, c7, e7⟩ := own_slice hr7.row
  rw [HP.out] at e7 HL7
  subst e7
  clear hr7 hb7
  go_wp2_with fail
  refine (sameAll_any w7.heap.size _ _ P P (PL vs) (PL vs) w7 ((HL5.out.below HB7.out).wide (by omega)) HL7.out (Nat.le_refl _)).mono ?_
  rintro e w8 ⟨⟨b8, rfl, hb8'⟩, hb8⟩
  obtain rfl : b8 = true := hb8'.2 ⟨rfl, fun i hi => rfl⟩
  have HB8 := hideIt (HB7.out.trans (hb8.mono (by omega)))
  have z8 := hb8.size
  clear hb8' hb8
  go_wp2_with fail
  refine (specOk_any w5.heap.size _ vs w8 (HV5.out.below HB8.out) (by omega)).mono ?_
  rintro e w9 ⟨rfl, hb9⟩
  have HB9 := hideIt (HB8.out.trans (hb9.mono (by omega)))
  have z9 := hb9.size
  clear hb9
  cases hok : okB vs
  · go_wp2_with fail
    refine (same_any w5.heap.size _ _ (resOf vs q) (resOf vs q) w9 (HN5.out.below HB9.out) (HW5.out.below HB9.out) (by omega)).mono ?_
    rintro e w10 ⟨⟨b10, rfl, hb10'⟩, hb10⟩
    obtain rfl : b10 = true := hb10'.2 rfl
    have HB10 := hideIt (HB9.out.trans (hb10.mono (by omega)))
    have z10 := hb10.size
    clear hb10' hb10
    go_wp2_with fail
    refine (specPartsOf_any w5.heap.size _ vs w10 (HV5.out.below HB10.out) (by omega)).mono ?_
    rintro e w11 ⟨r11, base11, rs11, K11, I11, lo11, rfl, _, hr11, hb11⟩
    have HL11 := hideIt (hr11.rows (by rw [HP.out]; exact hP80) (by rw [HP.out]; exact HPF.out.2))
    have HB11 := hideIt (HB10.out.trans (hb11.mono (by omega)))
    have z11 := hb11.size
    obtain ⟨a11, c11, e11⟩ := own_slice hr11.row
    rw [HP.out] at e11 HL11
    subst e11
    clear hr11 hb11
    go_wp2_with fail
    refine (sameAll_any w11.heap.size _ _ P P (PL vs) (PL vs) w11 ((HL5.out.below HB11.out).wide (by omega)) HL11.out (Nat.le_refl _)).mono ?_
    rintro e w12 ⟨⟨b12, rfl, hb12'⟩, hb12⟩
    obtain rfl : b12 = true := hb12'.2 ⟨rfl, fun i hi => rfl⟩
    have HB12 := hideIt (HB11.out.trans (hb12.mono (by omega)))
    clear hb12' hb12
    go_wp2_with fail
    go_ret
    exact ⟨rfl, HB5.out.trans (HB12.out.mono (by omega))⟩
  have HPP : Hid (P = (rootKids vs).length) := by rw [Hid, ← HP.out]; unfold partsN; rw [if_pos hok]
  have HOK := hideIt hok
  clear hok
  -- the root's node
  obtain ⟨_, ar', cr', ev, hcell⟩ := HV5.out
  rw [HM.out] at ev
  cases ev
  obtain ⟨b0, o0, rfl, hb0, hcc⟩ := hcell (by rw [HM.out]; omega)
  obtain ⟨ka, ki, hnd⟩ := hcc (vs.length - 1) (by rw [HM.out]; omega)
  have HSA := hideIt hnd.inn.keys
  have HRI := hideIt hnd.inn.kids
  obtain ⟨x, hx⟩ : ∃ x, nodeAt vs (vs.length - 1) = x := ⟨_, rfl⟩
  have HX := hideIt hx
  rw [hx] at hnd HSA HRI
  have hki : x.kids.length = P := by rw [HPP.out, ← hx]; rfl
  obtain ⟨kd, hkd⟩ : ∃ kd, x.kind = kd := ⟨_, rfl⟩
  obtain ⟨kn, hkn⟩ : ∃ kn, x.keys.length = kn := ⟨_, rfl⟩
  have HKD := hideIt hkd
  obtain ⟨_, _, aK, cK, eK, _⟩ := HSA.out
  obtain ⟨_, _, aI, cI, eI, hkI⟩ := HRI.out
  subst eK eI
  have HKI := hideIt hkI
  have HSA2 : Hid (StrsAt w5.heap.size w5 (.slice aK kn cK) x.keys) := by rw [Hid, ← hkn]; exact HSA.out
  rw [hki] at HKI
  have k0 := hnd.c0
  have k1 := hnd.c1
  have k2 := hnd.c2
  have k3 := hnd.c3
  have k4 := hnd.c4
  rw [HM.out] at k0 k1 k2 k3 k4
  rw [hkd] at k0
  rw [hkn] at k3
  rw [hki] at k4
  have HKS := hideIt (And.intro k0 (And.intro k1 (And.intro k2 (And.intro k3 k4))))
  have p0 : ((M : Int) - 1).toNat = M - 1 := by omega
  clear hcell hcc hnd hki hkd hkn hx hkI k0 k1 k2 k3 k4 HSA HRI
  cases hp : partB vs q
  obtain ⟨w10, rfl⟩ : ∃ W, W = w9 := ⟨_, rfl⟩
  have HB10 := HB9
  have z10 := z9
  clear HB9 z9
  have HKQ := HKS
  have k0 := (below_cell HB10.out hb0).trans HKQ.out.1
  have k1 := (below_cell HB10.out hb0).trans HKQ.out.2.1
  have k2 := (below_cell HB10.out hb0).trans HKQ.out.2.2.1
  have k3 := (below_cell HB10.out hb0).trans HKQ.out.2.2.2.1
  have k4 := (below_cell HB10.out hb0).trans HKQ.out.2.2.2.2
  go_wp2_with fail
  rotate_left
  have HRR := hideIt (res_right hp)
  go_wp2_with fail
  refine (implOk_any w5.heap.size _ (resOf vs q) w9 (HN5.out.below HB9.out) (by omega)).mono ?_
  rintro e w10 ⟨rfl, hb10⟩
  have HB10 := hideIt (HB9.out.trans (hb10.mono (by omega)))
  have z10 := hb10.size
  rw [HRR.out]
  clear hb10 HRR
  all_goals
    have zz : w5.heap.size ≤ w10.heap.size := HB10.out.size
    have k0 := (below_cell HB10.out hb0).trans HKS.out.1
    have k1 := (below_cell HB10.out hb0).trans HKS.out.2.1
    have k2 := (below_cell HB10.out hb0).trans HKS.out.2.2.1
    have k3 := (below_cell HB10.out hb0).trans HKS.out.2.2.2.1
    have k4 := (below_cell HB10.out hb0).trans HKS.out.2.2.2.2
    go_wp2_with fail
    obtain ⟨W1, hW1⟩ : ∃ W1, w10.alloc (.cells #[.int .i64 kd, .int .i64 x.n, .string x.s, .slice aK kn cK, .slice aI P cI] 41) = W1 := ⟨_, rfl⟩
    have r0 : W1.cell? ⟨w10.heap.size, 0, none⟩ = some (.int .i64 kd) := by rw [← hW1]; simp
    have r3 : W1.cell? ⟨w10.heap.size, 3, none⟩ = some (.slice aK kn cK) := by rw [← hW1]; simp
    have r4 : W1.cell? ⟨w10.heap.size, 4, none⟩ = some (.slice aI P cI) := by rw [← hW1]; simp
    have rz : w10.heap.size < W1.heap.size := by rw [← hW1]; simp
    have HBW : Hid (Below w5.heap.size w5 W1) := by rw [Hid, ← hW1]; exact HB10.out.alloc zz _
    rw [hW1]
    have HRS := hideIt (And.intro r0 (And.intro r3 r4))
    clear hW1 r0 r3 r4 k0 k1 k2 k3 k4
    go_loopw [11] (fun i wr => ∃ k : Nat, k ≤ P ∧ i = .int .i64 k ∧ Below W1.heap.size W1 wr) (fun i _ => P - (intOf i).toNat)
    case atStart => exact ⟨0, Nat.zero_le _, rfl, Below.refl _ _⟩
    case round =>
      obtain ⟨k, hk, rfl, hbl⟩ := hrel
      have t0 := (below_cell hbl rz).trans HRS.out.1
      have t3 := (below_cell hbl rz).trans HRS.out.2.1
      have t4 := (below_cell hbl rz).trans HRS.out.2.2
      have zr := hbl.size
      have HBR : Hid (Below w5.heap.size w5 wr) := HBW.out.trans (hbl.mono (by omega))
      by_cases hlt : k < P
      · obtain ⟨bI, oI, rfl, hbI, hcI⟩ := HKI.out (by omega)
        have hck := (below_cell HBR.out hbI).trans (hcI k hlt)
        clear hcI
        have HKP := hideIt (kids_part HOK.out (i := k) (by rw [← HPP.out]; exact hlt))
        have HRK : Hid (intAt x.kids k = intAt (rootKids vs) k) := by rw [Hid, ← HX.out]; rfl
        have HNP := hideIt (HPF.out.2 k hlt)
        go_wp2_with fail
        refine (implPartOf_any w5.heap.size _ vs (intAt x.kids k) wr (HV5.out.below HBR.out) HBR.out.size).mono ?_
        rintro e w11 ⟨r11, base11, K11, I11, rfl, _, _, hn11, hb11⟩
        rw [HRK.out, HKP.out.2] at hn11
        rw [HRK.out, HKP.out.1]
        have HN11 := hideIt (hn11.nodes (by have := HNP.out.1.1; omega) HNP.out.2)
        have HB11 := hideIt (HBR.out.trans (hb11.mono HBR.out.size))
        have HBL11 := hideIt (hbl.trans (hb11.mono zr))
        have z11 := hb11.size
        obtain ⟨a11, c11, e11⟩ := own_slice hn11.row
        obtain ⟨Lk, hLk⟩ : ∃ Lk, (PL vs k).length = Lk := ⟨_, rfl⟩
        rw [hLk] at e11
        subst e11
        obtain ⟨_, a5', c5', e5', hrows⟩ := (HL5.out.below HB11.out)
        cases e5'
        obtain ⟨b5, rfl, hb5, hr5⟩ := hrows (by omega)
        obtain ⟨rk, erk, hnk⟩ := hr5 k hlt
        have HNK := hideIt (hnk.wide HB11.out.size)
        obtain ⟨_, ark, crk, rfl, _⟩ := hnk
        rw [hLk] at erk HNK
        clear hn11 hb11 hLk hrows hr5
        go_wp2_with fail
        refine (same_any w11.heap.size _ _ (PL vs k) (PL vs k) w11 HN11.out HNK.out (Nat.le_refl _)).mono ?_
        rintro e w12 ⟨⟨b12, rfl, hb12'⟩, hb12⟩
        obtain rfl : b12 = true := hb12'.2 rfl
        have HB12 := hideIt (HBL11.out.trans (hb12.mono (by omega)))
        clear hb12' hb12
        go_wp2_with fail
        go_roundw
        case rel => exact ⟨k + 1, by omega, by go_num, HB12.out⟩
        case measure => simp [intOf]; omega
      · obtain rfl : k = P := by omega
        have HLF : Hid (∀ i, i < k → ∀ j, j < (PL vs i).length → Fits (nodeAt (PL vs i) j)) := fun i hi => (HPF.out.2 i hi).2
        by_cases h5 : kd = 5
        · have HLP := hideIt (list_parts HOK.out (by rw [HX.out, HKD.out]; exact h5))
          rw [← HPP.out] at HLP
          subst h5
          go_wp2_with fail
          refine (implListOf_any w5.heap.size _ k (PL vs) wr (HL5.out.below HBR.out) HBR.out.size HLF.out).mono ?_
          rintro e w11 ⟨r11, base11, K11, I11, rfl, _, _, hn11, hb11⟩
          rw [HLP.out.2] at hn11
          rw [HLP.out.1]
          have HN11 := hideIt (hn11.nodes (by rw [HM.out]; omega) HF.out.2)
          have HB11 := hideIt (HBR.out.trans (hb11.mono HBR.out.size))
          obtain ⟨a11, c11, e11⟩ := own_slice hn11.row
          rw [HM.out] at e11
          subst e11
          clear hn11 hb11
          go_wp2_with fail
          refine (same_any w11.heap.size _ _ vs vs w11 HN11.out ((HV5.out.below HB11.out).wide HB11.out.size) (Nat.le_refl _)).mono ?_
          rintro e w12 ⟨⟨b12, rfl, hb12'⟩, hb12⟩
          obtain rfl : b12 = true := hb12'.2 rfl
          have HB12 := hideIt (HB11.out.trans (hb12.mono HB11.out.size))
          clear hb12' hb12
          go_wp2_with fail
          go_ret
          exact ⟨rfl, HB5.out.trans (HB12.out.mono HB5.out.size)⟩
        · have h5' : (kd == 5) = false := by simpa using h5
          by_cases h6 : kd = 6
          · have HLP := hideIt (map_parts HOK.out (by rw [HX.out, HKD.out]; exact h6))
            rw [← HPP.out, HX.out] at HLP
            have h6' : (kd == 6) = true := by simpa using h6
            clear h5 h6
            go_wp2_with fail
            refine (implMapOf_any w5.heap.size _ _ x.keys k (PL vs) wr (HSA2.out.below HBR.out) (HL5.out.below HBR.out) HBR.out.size HLF.out).mono ?_
            rintro e w11 ⟨r11, base11, K11, I11, rfl, _, _, hn11, hb11⟩
            rw [HLP.out.2] at hn11
            rw [HLP.out.1]
            have HN11 := hideIt (hn11.nodes (by rw [HM.out]; omega) HF.out.2)
            have HB11 := hideIt (HBR.out.trans (hb11.mono HBR.out.size))
            obtain ⟨a11, c11, e11⟩ := own_slice hn11.row
            rw [HM.out] at e11
            subst e11
            clear hn11 hb11
            go_wp2_with fail
            refine (same_any w11.heap.size _ _ vs vs w11 HN11.out ((HV5.out.below HB11.out).wide HB11.out.size) (Nat.le_refl _)).mono ?_
            rintro e w12 ⟨⟨b12, rfl, hb12'⟩, hb12⟩
            obtain rfl : b12 = true := hb12'.2 rfl
            have HB12 := hideIt (HB11.out.trans (hb12.mono HB11.out.size))
            clear hb12' hb12
            go_wp2_with fail
            go_ret
            exact ⟨rfl, HB5.out.trans (HB12.out.mono HB5.out.size)⟩
          · have HNK := no_kids HOK.out (by rw [HX.out, HKD.out]; exact h5) (by rw [HX.out, HKD.out]; exact h6)
            rw [← HPP.out] at HNK
            subst HNK
            have h6' : (kd == 6) = false := by simpa using h6
            clear h5 h6
            go_wp2_with fail
            go_ret
            exact ⟨rfl, HB5.out.trans (HBR.out.mono HB5.out.size)⟩
end Go.Proofs.Ytpfnkpkcjefelaa

/-
  PROVED: for every code of bytes the law FnParts returns true: a drawn list is of its parts, a drawn map of its keys and its parts, and a part of a right value is right. No condition beyond the row's own.
-/
namespace Go.Proofs.Ytpfnkpkcjefelaa
open Go.ChangeShapes Go.WideShapes Go.ChangeAt Go.RowKit
set_option linter.unusedVariables false

theorem fnParts_own : ownKnob Try.prog.godebug = none := by kernel_rfl
theorem fnParts_laidOut : laidOutB Try.prog = true := by kernel_rfl
set_option maxRecDepth 100000 in
theorem fnParts_lifted (os : Os) (started : os.Started) (H : Type) (enc : TypeId × Value → H) :
    ReturnsInHanded {} Try.checked os 4 .any (Rows.fnPartsSpec.pre6 enc Try.prog Try.f4 Rows.fnPartsRow.domain false) (Rows.fnPartsSpec.post enc Try.prog Try.f4 false true false false) := by
  refine returnsInHanded_of_change (C := Try.checked) fnParts_own started (by kernel_rfl) Try.func4
    (ChangeSpec.witness6 (enc := enc) (C := Try.checked) false ⟨#[], #[.slice none 0 0], []⟩ 8 (by kernel_rfl) (by kernel_rfl) (by kernel_rfl) (by kernel_rfl)) ?_
  intro W base args ds gs before hval0 hW hcnd _
  have hval : ∀ (j : Nat) t v, Try.f4.params[j]? = some t → args[j]? = some v → Value.okWide Try.prog W .any base t v := hval0
  have hW' := hW
  obtain ⟨p, q, hA0, hV, rfl, hfz, hnd⟩ := hW
  have hA : DataW.TrodAll enc Try.prog W 0 (fun _ => true) true Try.f4.params.toList args.toList ds p := hA0
  rw [Try.params4] at hA hval
  obtain ⟨v0, vs0, d0, ds0, p0, q0, hargs, rfl, rfl, h0, r0⟩ := trodAll_cons hA
  obtain ⟨rfl, rfl, rfl⟩ := trodAll_nil r0
  obtain rfl : args = #[v0] := by cases args; simp_all
  obtain ⟨rfl, rfl⟩ := trodVars_none hV
  obtain ⟨a0, len0, cap0, rfl⟩ := okWide_slice Try.underlying22 (hval 0 22 v0 rfl rfl)
  have k0 := h0
  have lt0 : ∀ x ∈ p0, x.block < W.heap.size := by obtain ⟨m, hm⟩ := k0; exact DataW.trod_lt m _ _ _ hm
  obtain ⟨n, w0⟩ : ∃ n, RawCode W (.slice a0 len0 cap0) n := by
    obtain ⟨fuel, hf⟩ := h0
    exact raw_code (by simpa [Value.cells] using hf)
  clear hA0 hval0
  refine (lawFnParts_walk (.slice a0 len0 cap0) n W w0).mono fun e W' ⟨he, bel⟩ => ?_
  subst he
  exact ⟨_, rfl, _, _, _, [], _, [], hW', trodAll_mk1 (shut_bool Try.underlying4 _), (trodAll_cons_mk (Below.trod fnParts_laidOut (by kernel_rfl) (of_decide_eq_true (by kernel_rfl)) k0 bel lt0) trodAll_mk0), rfl, bel.frame _, fun h => by cases h⟩

theorem fnParts_holds : Rows.FnPartsSaid :=
  OpenClaim.holds_of_wide 4 Try.f4 rfl rfl rfl rfl rfl rfl rfl ⟨rfl, rfl, rfl, rfl, rfl⟩ rfl rfl rfl rfl rfl (by kernel_rfl) Try.func4 (by kernel_rfl)
    (of_decide_eq_true (by kernel_rfl)) (by unfold Func.isWrapper; first | (rw [if_pos (by decide +kernel)]; kernel_rfl) | (rw [if_neg (by decide +kernel)]; exact ⟨rfl, rfl⟩))
    (fun os started H enc _ => fnParts_lifted os started H enc)
#print axioms fnParts_holds
end Go.Proofs.Ytpfnkpkcjefelaa
