/-
  The program's YamlText.
-/
import Derived.Test.YtiamkmkbkehldaaGreatDoorIYc
import Derived.Test.YtiamkmkbkehldaaGreatDoorFmQ
import Derived.Laws.EntriesVeiled
import Derived.Test.YtiamkmkbkehldaaGreatDoorBigC
import Derived.Test.YtiamkmkbkehldaaGreatDoorCmpD
import Derived.Test.YtiamkmkbkehldaaGreatDoorStbW
import Derived.Test.YtiamkmkbkehldaaGreatDoorLowN
import Derived.Test.YtiamkmkbkehldaaGreatDoorCards
import Derived.Test.YtiamkmkbkehldaaGreatDoorTie
import Derived.ProofKit
import Derived.Lay
import Derived.ChangeMaps5
import Derived.OpenShut
import Derived.ShutString
import Derived.ChangeOld
import Derived.SevenTiedAt
namespace Go.Proofs.YtiamkmkbkehldaaGreatDoor
open Go.RowKit
set_option linter.unusedSimpArgs false
set_option linter.unusedVariables false

theorem blockY_pos {f pad : Nat} {t : VT} (h : (kidsY t).length ≠ 0) : blockY (f + 1) pad t ≠ [] := by
  obtain ⟨kind, n, s, keys, kids⟩ := t
  have h0 : kids.length ≠ 0 := h
  obtain ⟨m, hm⟩ : ∃ m, kids.length = m + 1 := ⟨kids.length - 1, by omega⟩
  rw [blockY, hm, blkY]
  intro e
  have h1 := congrArg List.length e
  have h2 : 1 ≤ (tailY (blockY f (pad + 2)) (kidT kids m)).length := by unfold tailY; split <;> simp
  simp only [List.length_append, List.length_nil] at h1
  omega
theorem fb_newY (w : World) (o : Obj) : FB 52 w.heap.size w.heap.size [] [] ((w.alloc (.cells #[.pointer none, .slice none 0 0] 52)).alloc o) := by
  have h := heap_alloc_new w (.cells #[.pointer none, .slice none 0 0] 52)
  have h2 : ((w.alloc (.cells #[.pointer none, .slice none 0 0] 52)).alloc o).heap[w.heap.size]? = some (.cells #[.pointer none, .slice none 0 0] 52 (0, 0)) := by
    rw [Below.heap_alloc _ _ _ (by simp)]; exact h
  exact ⟨Nat.le_refl _, .pointer none, .slice none 0 0, .inl rfl, h2, World.ownsRow_nil _ _ _ _, by simp [Value.ownBlock]⟩

set_option maxRecDepth 100000 in
set_option maxHeartbeats 3200000 in
theorem implYaml_any (B : Nat) (v : Value) (vs : List VN) (w : World) (h : NodesAt B w v vs) (hB : B ≤ w.heap.size) (htab : TabB w.heap.size w) :
    Calls Tryz.prog 10 #[v] w fun e w' => e = .returned (.string (txt (yamlV vs))) ∧ Below w.heap.size w w' := by
  have HV := hideIt h
  have HTAB := hideIt htab
  clear htab
  obtain ⟨_, a, cap, rfl, _⟩ := h
  go_enter Tryz.func10, Tryz.ntmps10
  go_wp2_with fail
  cases ok1 : okB vs
  · have HP := hideIt (yamlV_no ok1)
    refine (valueOf_no B _ vs _ HV.out hB ok1).mono ?_
    rintro e w1 ⟨rfl, hb1⟩
    go_wp2_with fail
    go_ret
    exact ⟨by rw [HP.out]; rfl, hb1⟩
  · have HP := hideIt (yamlV_yes ok1)
    refine (valueOf_yes B _ vs _ HV.out hB ok1).mono ?_
    rintro e w1 ⟨lo1, t, x, rfl, hl1, hl1', hv1, hb1⟩
    have z1 := hb1.size
    obtain ⟨p1, p2, _, p4⟩ := okB_parts ok1
    have ht := ValIs.tree (by omega) p2 p4 p1.2 (by omega) hv1
    have HFIT := hideIt (tfit_of ok1 vs.length (vs.length - 1) (by omega))
    have H96 := hideIt (blockY_96k ok1 (f := vs.length) (deep := 0) (i := vs.length - 1) (by omega) (by omega) (by omega))
    rw [Nat.mul_zero] at H96
    have HFL := hideIt (flatY_96k ok1 (f := vs.length) (i := vs.length - 1) (by omega) (by omega) (by omega))
    have HB1 := hideIt hb1
    have HT1 := hideIt ht
    have hN80 : vs.length ≤ 80 := p1.2
    obtain ⟨g, hg⟩ : ∃ g, vs.length = g + 1 := ⟨vs.length - 1, by omega⟩
    obtain ⟨T, hT⟩ : ∃ T, treeOf vs vs.length (vs.length - 1) = T := ⟨_, rfl⟩
    rw [hT] at HP HFIT H96 HFL HT1
    have HTB1 : Hid (TabB w1.heap.size w1) := (HTAB.out.next HB1.out).wide z1
    rw [hg] at HP HFIT H96 HT1 hN80
    clear hv1 p2 p4 hb1 ht hT hg p1 hl1 hl1'
    have HIS := hideIt (isShort_any w1.heap.size g T (.iface t x) w1 HT1.out)
    obtain ⟨Q, hQ⟩ : ∃ Q, (kidsY T).length = Q := ⟨_, rfl⟩
    rw [hQ] at HIS
    have HQ := hideIt hQ
    clear hQ
    go_wp2_with fail
    refine HIS.out.mono ?_
    rintro e w2 ⟨rfl, hb2⟩
    have HB2 := hideIt (HB1.out.trans (hb2.mono z1))
    have z12 := hb2.size
    have HT2 : Hid (TreeAt w2.heap.size w2 (g + 1) T (.iface t x)) := TreeAt.keep (fun c hc => hb2.block c hc) z12 HT1.out
    have HTB2 : Hid (TabB w2.heap.size w2) := (HTB1.out.next hb2).wide z12
    clear hb2 HIS
    have z2 := HB2.out.size
    by_cases hz : Q = 0
    · subst hz
      have HYT : Hid (yamlT (g + 1) T = flatY T ++ [10]) := by rw [Hid]; unfold yamlT; rw [if_pos HQ.out]
      have HSL := hideIt (shortLine_any w2.heap.size g T (.iface t x) w2 HT2.out HFIT.out HTB2.out (Nat.le_refl _) (by omega) HQ.out)
      have hfl := HFL.out HQ.out
      obtain ⟨FL, hFL⟩ : ∃ FL, flatY T = FL := ⟨_, rfl⟩
      rw [hFL] at HSL HYT hfl
      have hfz : (txt FL).size ≤ 96000 := by rw [txt_size]; exact hfl
      clear hFL hfl
      go_wp2_with fail
      refine HSL.out.mono ?_
      rintro e w3 ⟨rfl, hb3⟩
      have HB3 := hideIt (HB2.out.trans (hb3.mono z2))
      clear hb3
      go_wp2_with fail
      go_ret
      refine ⟨?_, HB3.out⟩
      rw [HP.out, HYT.out]
      refine ret_str ?_
      simp only [app_txt]
    · have hz' : decide (Q = 0) = false := by simpa using hz
      have HYT : Hid (yamlT (g + 1) T = blockY (g + 1) 0 T) := by rw [Hid]; unfold yamlT; rw [if_neg (by rw [HQ.out]; exact hz)]
      rw [hz']
      obtain ⟨W3, hW3⟩ : ∃ W3, (w2.alloc (.cells #[.pointer none, .slice none 0 0] 52)).alloc (.cells #[.func (.func 34) #[] #[.pointer (some ⟨w2.heap.size, 0, none⟩), .pointer (some ⟨w2.heap.size + 1, 0, none⟩)]] 53) = W3 := ⟨_, rfl⟩
      have HFB : Hid (FB 52 w2.heap.size w2.heap.size [] [] W3) := by rw [Hid, ← hW3]; exact fb_newY w2 _
      have HBX : Hid (BoxY W3 w2.heap.size (w2.heap.size + 1)) := by
        rw [Hid, ← hW3]
        refine ⟨by omega, ?_⟩
        have e : (w2.alloc (.cells #[.pointer none, .slice none 0 0] 52)).heap.size = w2.heap.size + 1 := by simp
        have h := heap_alloc_new (w2.alloc (.cells #[.pointer none, .slice none 0 0] 52)) (.cells #[.func (.func 34) #[] #[.pointer (some ⟨w2.heap.size, 0, none⟩), .pointer (some ⟨w2.heap.size + 1, 0, none⟩)]] 53)
        rw [e] at h
        exact h
      have HB3 : Hid (Below w2.heap.size w2 W3) := by rw [Hid, ← hW3]; exact ((Below.refl _ _).alloc (Nat.le_refl _) _).alloc (by simp) _
      have HT3 : Hid (TreeAt w2.heap.size W3 (g + 1) T (.iface t x)) := TreeAt.keep (fun c hc => HB3.out.block c hc) (Nat.le_refl _) HT2.out
      have HTB3 : Hid (TabB w2.heap.size W3) := HTB2.out.next HB3.out
      have z3 := HB3.out.size
      have cx := HBX.out.cell
      have HJY := hideIt (jyWrite_any w2.heap.size w2.heap.size (w2.heap.size + 1) (g + 1) 0 T (.iface t x) [] W3 HFB.out HBX.out HT3.out HFIT.out HTB3.out z3 (by omega) (by rw [HQ.out]; exact hz) (by rw [List.nil_append]; have := H96.out; omega))
      go_wp2_with fail
      refine HJY.out.mono ?_
      rintro e w4 ⟨rfl, f4, b4, k4⟩
      rw [List.nil_append] at f4
      have HF4 := hideIt f4
      have HB4 := hideIt (HB3.out.trans b4)
      clear f4 b4 k4
      go_wp2_with fail
      refine (fb_string HF4.out (blockY_pos (by rw [HQ.out]; exact hz))).mono ?_
      rintro e w5 ⟨rfl, b5⟩
      have HB5 := hideIt (HB2.out.trans ((HB4.out.trans b5).mono z2))
      clear b5
      go_wp2_with fail
      go_ret
      exact ⟨by rw [HP.out, HYT.out]; rfl, HB5.out⟩
end Go.Proofs.YtiamkmkbkehldaaGreatDoor

/-
  The law FnFormats: the call returns true and turns nothing that was there.
-/
namespace Go.Proofs.YtiamkmkbkehldaaGreatDoor
open Go.RowKit
set_option linter.unusedSimpArgs false
set_option linter.unusedVariables false

set_option maxRecDepth 100000 in
set_option maxHeartbeats 6400000 in
theorem lawFnFormats_walk (v : Value) (n : Nat) (w : World) (h : RawCode w v n) (htab : TabB w.heap.size w) :
    Calls Tryz.prog 5 #[v] w fun e w' => e = .returned (.bool true) ∧ Below w.heap.size w w' := by
  obtain ⟨hn, a, cap, rfl, hc⟩ := h
  have HTAB := hideIt htab
  have HCL : Hid (n ≤ 1048576 → CodeAt w.heap.size w (.slice a n cap) n) := fun h => ⟨h, a, cap, rfl, hc⟩
  clear hc htab
  go_enter Tryz.func5, Tryz.ntmps5
  go_wp2_with fail
  refine (big_any a n cap w hn).mono ?_
  rintro e w1 ⟨rfl, rfl⟩
  by_cases hbig : 1048576 < n
  · go_wp2_with fail
    go_ret
    exact ⟨rfl, Below.refl _ _⟩
  have HC := hideIt (HCL.out (by omega))
  clear HCL
  go_wp2_with fail
  refine (drawOrder_any w1.heap.size _ n w1 HC.out (Nat.le_refl _)).mono ?_
  rintro e w2 ⟨r, vs, KV, IV, r2, us, KV2, IV2, rfl, hf1, hf2, hn1, hn2, hb2⟩
  have HF1 := hideIt hf1
  have HF2 := hideIt hf2
  have HND1 : Hid (∀ w', Below w2.heap.size w2 w' → NodesAt w'.heap.size w' r vs) := fun w' hb => (hn1.below hb).nodes (by have := HF1.out.2.1; omega) (HF1.out.few (by omega)).2
  have HND2 : Hid (∀ w', Below w2.heap.size w2 w' → NodesAt w'.heap.size w' r2 us) := fun w' hb => (hn2.below hb).nodes (by have := HF2.out.2.1; omega) (HF2.out.few (by omega)).2
  have HB2 := hideIt hb2
  have z2 := hb2.size
  have HTB : Hid (∀ w', Below w2.heap.size w2 w' → TabB w'.heap.size w') := fun w' hb => (HTAB.out.next (HB2.out.trans (hb.mono z2))).wide (Nat.le_trans z2 hb.size)
  obtain ⟨ar, cr, er⟩ := own_slice hn1.row
  obtain ⟨ar2, cr2, er2⟩ := own_slice hn2.row
  obtain ⟨L1, hL1⟩ : ∃ M, vs.length = M := ⟨_, rfl⟩
  obtain ⟨L2, hL2⟩ : ∃ M, us.length = M := ⟨_, rfl⟩
  rw [hL1] at er
  rw [hL2] at er2
  subst er er2
  clear hf1 hf2 hn1 hn2 hb2 hL1 hL2 HC
  have HEND : Hid (∀ w', Below w2.heap.size w2 w' → Below w1.heap.size w1 w') := fun w' hb => HB2.out.trans (hb.mono z2)
  have CI := hideIt (fun (w' : World) (hb : Below w2.heap.size w2 w') => implOrder_any w'.heap.size _ _ vs us w' (HND1.out w' hb) (HND2.out w' hb) (Nat.le_refl _))
  have CS := hideIt (fun (w' : World) (hb : Below w2.heap.size w2 w') => specOrder_any w'.heap.size _ _ vs us w' (HND1.out w' hb) (HND2.out w' hb) (Nat.le_refl _))
  have J1 := hideIt (fun (w' : World) (hb : Below w2.heap.size w2 w') => implJson_any w'.heap.size _ vs w' (HND1.out w' hb) (Nat.le_refl _) (HTB.out w' hb))
  have J2 := hideIt (fun (w' : World) (hb : Below w2.heap.size w2 w') => implJson_any w'.heap.size _ us w' (HND2.out w' hb) (Nat.le_refl _) (HTB.out w' hb))
  have C1 := hideIt (fun (w' : World) (hb : Below w2.heap.size w2 w') => implCbor_any w'.heap.size _ vs w' (HND1.out w' hb) (Nat.le_refl _))
  have C2 := hideIt (fun (w' : World) (hb : Below w2.heap.size w2 w') => implCbor_any w'.heap.size _ us w' (HND2.out w' hb) (Nat.le_refl _))
  have P1 := hideIt (fun (w' : World) (hb : Below w2.heap.size w2 w') => implPack_any w'.heap.size _ vs w' (HND1.out w' hb) (Nat.le_refl _))
  have P2 := hideIt (fun (w' : World) (hb : Below w2.heap.size w2 w') => implPack_any w'.heap.size _ us w' (HND2.out w' hb) (Nat.le_refl _))
  have Y1 := hideIt (fun (w' : World) (hb : Below w2.heap.size w2 w') => implYaml_any w'.heap.size _ vs w' (HND1.out w' hb) (Nat.le_refl _) (HTB.out w' hb))
  have Y2 := hideIt (fun (w' : World) (hb : Below w2.heap.size w2 w') => implYaml_any w'.heap.size _ us w' (HND2.out w' hb) (Nat.le_refl _) (HTB.out w' hb))
  have I1 := hideIt (fun (w' : World) (hb : Below w2.heap.size w2 w') => implIndented_any w'.heap.size _ vs w' (HND1.out w' hb) (Nat.le_refl _) (HTB.out w' hb))
  have I2 := hideIt (fun (w' : World) (hb : Below w2.heap.size w2 w') => implIndented_any w'.heap.size _ us w' (HND2.out w' hb) (Nat.le_refl _) (HTB.out w' hb))
  go_wp2_with fail
  refine (CI.out w2 (Below.refl _ _)).mono ?_
  rintro e w3 ⟨rfl, hb3⟩
  have H3 := hideIt hb3
  have z3 := hb3.size
  clear hb3
  by_cases hok : okB vs = true ∧ okB us = true
  case neg =>
    have hX : orderOf vs us = -2 := if_neg hok
    rw [hX]
    have HX := hideIt hX
    clear hX hok
    go_wp2_with fail
    refine (CS.out w3 H3.out).mono ?_
    rintro e w4 ⟨rfl, hb4⟩
    have H4 := hideIt (H3.out.trans (hb4.mono z3))
    have z4 := H4.out.size
    clear hb4
    rw [HX.out]
    go_wp2_with fail
    refine (CS.out w4 H4.out).mono ?_
    rintro e w5 ⟨rfl, hb5⟩
    have H5 := hideIt (H4.out.trans (hb5.mono z4))
    clear hb5
    rw [HX.out]
    go_wp2_with fail
    go_ret
    exact ⟨rfl, HEND.out w5 H5.out⟩
  case pos =>
  obtain ⟨X, hX⟩ : ∃ X, orderOf vs us = X := ⟨_, rfl⟩
  have hx3 : R3 X := hX ▸ orderOf_r3 hok.1 hok.2
  have hS : vs = us ↔ X = 0 := by rw [← hX]; exact (orderOf_zero hok.1 hok.2).symm
  have qJ := fmt_eq (json_inj (lines := false) hok.1 hok.2) (fun h => by rw [h]) hS
  have qC := fmt_eq (cbor_inj hok.1 hok.2) (fun h => by rw [h]) hS
  have qP := fmt_eq (pack_inj hok.1 hok.2) (fun h => by rw [h]) hS
  have qY := fmt_eq (yaml_inj hok.1 hok.2) (fun h => by rw [h]) hS
  have qI := fmt_eq (json_inj (lines := true) hok.1 hok.2) (fun h => by rw [h]) hS
  obtain ⟨SJ1, hJ1⟩ : ∃ S, txt (jsonV false vs) = S := ⟨_, rfl⟩
  obtain ⟨SJ2, hJ2⟩ : ∃ S, txt (jsonV false us) = S := ⟨_, rfl⟩
  simp only [hJ1] at J1
  simp only [hJ2] at J2
  rw [hJ1, hJ2] at qJ
  obtain ⟨SC1, hC1⟩ : ∃ S, txt (cborV vs) = S := ⟨_, rfl⟩
  obtain ⟨SC2, hC2⟩ : ∃ S, txt (cborV us) = S := ⟨_, rfl⟩
  simp only [hC1] at C1
  simp only [hC2] at C2
  rw [hC1, hC2] at qC
  obtain ⟨SP1, hP1⟩ : ∃ S, txt (packV vs) = S := ⟨_, rfl⟩
  obtain ⟨SP2, hP2⟩ : ∃ S, txt (packV us) = S := ⟨_, rfl⟩
  simp only [hP1] at P1
  simp only [hP2] at P2
  rw [hP1, hP2] at qP
  obtain ⟨SY1, hY1⟩ : ∃ S, txt (yamlV vs) = S := ⟨_, rfl⟩
  obtain ⟨SY2, hY2⟩ : ∃ S, txt (yamlV us) = S := ⟨_, rfl⟩
  simp only [hY1] at Y1
  simp only [hY2] at Y2
  rw [hY1, hY2] at qY
  obtain ⟨SI1, hI1⟩ : ∃ S, txt (jsonV true vs) = S := ⟨_, rfl⟩
  obtain ⟨SI2, hI2⟩ : ∃ S, txt (jsonV true us) = S := ⟨_, rfl⟩
  simp only [hI1] at I1
  simp only [hI2] at I2
  rw [hI1, hI2] at qI
  have hx1 : -1 ≤ X := by rcases hx3 with h | h | h <;> omega
  have hx2 : X ≤ 1 := by rcases hx3 with h | h | h <;> omega
  have qX : (X != X) = false := by simp
  have q2 : (X == -2) = false := by rw [beq_eq_false_iff_ne]; omega
  rw [hX]
  have HX := hideIt hX
  clear hX hx3 hok hS hJ1 hJ2 hC1 hC2 hP1 hP2 hY1 hY2 hI1 hI2
  go_wp2_with fail
  refine (CS.out w3 H3.out).mono ?_
  rintro e w4 ⟨rfl, hb4⟩
  have H4 := hideIt (H3.out.trans (hb4.mono z3))
  have z4 := H4.out.size
  clear hb4
  rw [HX.out]
  obtain ⟨b, hb⟩ : ∃ b, (X == 0) = b := ⟨_, rfl⟩
  rw [hb] at qJ qC qP qY qI
  have qb : (b == b) = true := by simp
  go_wp2_with fail
  refine (J1.out w4 H4.out).mono ?_
  rintro e w5 ⟨rfl, hb5⟩
  have H5 := hideIt (H4.out.trans (hb5.mono z4))
  have z5 := H5.out.size
  clear hb5
  go_wp2_with fail
  refine (J2.out w5 H5.out).mono ?_
  rintro e w6 ⟨rfl, hb6⟩
  have H6 := hideIt (H5.out.trans (hb6.mono z5))
  have z6 := H6.out.size
  clear hb6
  go_wp2_with fail
  refine (C1.out w6 H6.out).mono ?_
  rintro e w7 ⟨rfl, hb7⟩
  have H7 := hideIt (H6.out.trans (hb7.mono z6))
  have z7 := H7.out.size
  clear hb7
  go_wp2_with fail
  refine (C2.out w7 H7.out).mono ?_
  rintro e w8 ⟨rfl, hb8⟩
  have H8 := hideIt (H7.out.trans (hb8.mono z7))
  have z8 := H8.out.size
  clear hb8
  go_wp2_with fail
  refine (P1.out w8 H8.out).mono ?_
  rintro e w9 ⟨rfl, hb9⟩
  have H9 := hideIt (H8.out.trans (hb9.mono z8))
  have z9 := H9.out.size
  clear hb9
  go_wp2_with fail
  refine (P2.out w9 H9.out).mono ?_
  rintro e w10 ⟨rfl, hb10⟩
  have H10 := hideIt (H9.out.trans (hb10.mono z9))
  have z10 := H10.out.size
  clear hb10
  go_wp2_with fail
  refine (Y1.out w10 H10.out).mono ?_
  rintro e w11 ⟨rfl, hb11⟩
  have H11 := hideIt (H10.out.trans (hb11.mono z10))
  have z11 := H11.out.size
  clear hb11
  go_wp2_with fail
  refine (Y2.out w11 H11.out).mono ?_
  rintro e w12 ⟨rfl, hb12⟩
  have H12 := hideIt (H11.out.trans (hb12.mono z11))
  have z12 := H12.out.size
  clear hb12
  go_wp2_with fail
  refine (I1.out w12 H12.out).mono ?_
  rintro e w13 ⟨rfl, hb13⟩
  have H13 := hideIt (H12.out.trans (hb13.mono z12))
  have z13 := H13.out.size
  clear hb13
  go_wp2_with fail
  refine (I2.out w13 H13.out).mono ?_
  rintro e w14 ⟨rfl, hb14⟩
  have H14 := hideIt (H13.out.trans (hb14.mono z13))
  have z14 := H14.out.size
  clear hb14
  go_wp2_with fail
  go_ret
  exact ⟨rfl, HEND.out w14 H14.out⟩
end Go.Proofs.YtiamkmkbkehldaaGreatDoor

/-
  PROVED: for every code of bytes the law FnFormats returns true: two drawn right values are the same just where their bytes are, in each of the formats. Conditions: the row's own (the six listed tables read as their initialisers lay them), tied to the program's text by the card.
-/
namespace Go.Proofs.YtiamkmkbkehldaaGreatDoor
open Go.ChangeShapes Go.WideShapes Go.ChangeAt Go.RowKit
set_option linter.unusedVariables false

set_option maxRecDepth 100000 in
theorem fnFormats_lifted (os : Os) (started : os.Started) (H : Type) (enc : TypeId × Value → H) :
    ReturnsInHanded {} Tryz.checked os 5 .any (fun w args => (Rows.fnFormatsSpec.pre enc Tryz.prog Tryz.f5 [] false w args ∧ laidMetH Tryz.prog Rows.fnFormatsRow.laid w) ∧ sizedMet enc Tryz.prog Tryz.f5 (OpenSpec.ofChange Rows.fnFormatsSpec) false w args)
      (Rows.fnFormatsSpec.post enc Tryz.prog Tryz.f5 false true false false) := by
  refine returnsInHanded_of_change_and (C := Tryz.checked) (X := fun w _ => laidMetH Tryz.prog Rows.fnFormatsRow.laid w) (fun _ _ _ hh h => h.of_heap hh) js_own started (by kernel_rfl) Tryz.func5
    (ChangeSpec.witness_shaped (enc := enc) (C := Tryz.checked) (os := os) (X := fun w _ => laidMetH Tryz.prog Rows.fnFormatsRow.laid w) false (World.laidAll Tryz.prog os Rows.fnFormatsRow.laid) #[.slice none 0 0] 8 (World.laidAll_os _ _ _)
      (World.shaped_of_ZipB (by kernel_rfl) (by kernel_rfl)) (by kernel_rfl) (by kernel_rfl) (by kernel_rfl)
      (by rw [MakeChecks.laidMetH_plain _ _ _ (by kernel_rfl)]; exact laidMet_laidAll _ (by kernel_rfl) (by kernel_rfl))) ?_
  intro W base args ds gs before hval0 hW _ _ hL0 _
  have hL : laidMetH Tryz.prog Rows.fnFormatsRow.laid W := hL0
  rw [MakeChecks.laidMetH_plain _ _ _ (by kernel_rfl)] at hL
  have hval : ∀ (j : Nat) t v, Tryz.f5.params[j]? = some t → args[j]? = some v → Value.okWide Tryz.prog W .any base t v := hval0
  have hW' := hW
  obtain ⟨p, q, hA0, hV, rfl, hfz, hnd⟩ := hW
  have hA : DataW.TrodAll enc Tryz.prog W 0 (fun _ => true) true Tryz.f5.params.toList args.toList ds p := hA0
  rw [Tryz.params5] at hA hval
  obtain ⟨v0, vs0, d0, ds0, p0, q0, hargs, rfl, rfl, h0, r0⟩ := trodAll_cons hA
  obtain ⟨rfl, rfl, rfl⟩ := trodAll_nil r0
  obtain rfl : args = #[v0] := by cases args; simp_all
  obtain ⟨rfl, rfl⟩ := trodVars_none hV
  obtain ⟨a0, len0, cap0, rfl⟩ := okWide_slice Tryz.underlying22 (hval 0 22 v0 rfl rfl)
  have k0 := h0
  have lt0 : ∀ x ∈ p0, x.block < W.heap.size := by obtain ⟨m, hm⟩ := k0; exact DataW.trod_lt m _ _ _ hm
  obtain ⟨n, w0⟩ : ∃ n, RawCode W (.slice a0 len0 cap0) n := by
    obtain ⟨fuel, hf⟩ := h0
    exact raw_code (by simpa [Value.cells] using hf)
  clear hA0 hval0
  refine (lawFnFormats_walk (.slice a0 len0 cap0) n W w0 (js_tabB (js_tabIs hL))).mono fun e W' ⟨he, bel⟩ => ?_
  subst he
  exact ⟨_, rfl, _, _, _, [], _, [], hW', trodAll_mk1 (shut_bool Tryz.underlying4 _), (trodAll_cons_mk (Below.trod js_laidOut (by kernel_rfl) (of_decide_eq_true (by kernel_rfl)) k0 bel lt0) trodAll_mk0), rfl, bel.frame _, fun h => by cases h⟩

theorem fnFormats_row : Rows.FnFormatsSaid :=
  OpenClaim.holds_of_wide 5 Tryz.f5 rfl rfl rfl rfl rfl rfl rfl ⟨rfl, rfl, rfl, rfl, rfl⟩ rfl rfl rfl rfl rfl (by kernel_rfl) Tryz.func5 (by kernel_rfl)
    (of_decide_eq_true (by kernel_rfl)) (by unfold Func.isWrapper; first | (rw [if_pos (by decide +kernel)]; kernel_rfl) | (rw [if_neg (by decide +kernel)]; exact ⟨rfl, rfl⟩))
    (fun os started H enc _ => fnFormats_lifted os started H enc)

theorem fnFormats_holds : Rows.FnFormatsCardSaid :=
  Claim7.holds_tied_plain_at .later [] [.data, .data, .data, .data, .pinned, .pinned] true (true, "177964f6622676db90bf16036cf3aba4e1445575b9fafeaec24a4835ab9b79e9") true
    fnFormats_row (fun _ h => by cases h) (by kernel_rfl) (fun _ h => by cases h) fnFormats_row_tie rfl ⟨rfl, rfl⟩ (by kernel_rfl) rfl
    (fun f fn hf hfn => by
      obtain rfl : f = 5 := Option.some.inj ((show Tryz.prog.funcNamed "loop.example/g00345/laws.FnFormats" = some 5 by kernel_rfl).symm.trans hf) |>.symm
      obtain rfl : fn = Tryz.f5 := (Option.some.inj (Tryz.func5.symm.trans hfn)).symm
      exact ⟨by kernel_rfl, fun j t ht => by
        rw [Tryz.params5] at ht
        have h3 : t = 22 := by
          rcases j with _ | j
          · simpa using ht.symm
          · simp at ht
        subst h3
        exact (show Tryz.prog.wantsStandIn 22 = false by kernel_rfl)⟩)
    (by kernel_rfl)
#print axioms fnFormats_holds
end Go.Proofs.YtiamkmkbkehldaaGreatDoor
