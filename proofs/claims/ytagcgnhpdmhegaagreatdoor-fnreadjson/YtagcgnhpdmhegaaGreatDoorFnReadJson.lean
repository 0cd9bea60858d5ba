/-
  The law FnReadJson: the call returns true and turns nothing that was there.
-/
import Derived.Test.YtagcgnhpdmhegaaGreatDoorSame
import Derived.Test.YtagcgnhpdmhegaaGreatDoorUpP
import Derived.Test.YtagcgnhpdmhegaaGreatDoorDrJ
import Derived.Test.YtagcgnhpdmhegaaGreatDoorLowN
import Derived.Test.YtagcgnhpdmhegaaGreatDoorCards
import Derived.Test.YtagcgnhpdmhegaaGreatDoorTie
import Derived.ProofKit
import Derived.Lay
import Derived.ChangeMaps5
import Derived.OpenShut
import Derived.ShutString
import Derived.ChangeOld
import Derived.SevenTiedAt
namespace Go.Proofs.YtagcgnhpdmhegaaGreatDoor
open Go.RowKit
set_option linter.unusedSimpArgs false
set_option linter.unusedVariables false

set_option maxRecDepth 100000 in
set_option maxHeartbeats 12800000 in
theorem lawFnReadJson_walk (v : Value) (n : Nat) (w : World) (h : RawCode w v n) (htab : TabB w.heap.size w) :
    Calls Tryz.prog 4 #[v] w fun e w' => e = .returned (.bool true) ∧ Below w.heap.size w w' := by
  obtain ⟨hn, a, cap, rfl, hc⟩ := h
  have HTAB := hideIt htab
  have HCL : Hid (n ≤ 1048576 → CodeAt w.heap.size w (.slice a n cap) n) := fun h => ⟨h, a, cap, rfl, hc⟩
  clear hc htab
  go_enter Tryz.func4, Tryz.ntmps4
  go_wp2_with fail
  refine (big_any a n cap w hn).mono ?_
  rintro e w1 ⟨rfl, rfl⟩
  by_cases hbig : 1048576 < n
  · go_wp2_with fail
    go_ret
    exact ⟨rfl, Below.refl _ _⟩
  have HC := hideIt (HCL.out (by omega))
  clear HCL
  go_wp2_with fail
  refine (drawReadJson_any w1.heap.size _ n w1 HC.out (Nat.le_refl _)).mono ?_
  rintro e w2 ⟨s, hss, rfl, hb2⟩
  have HB2 := hideIt hb2
  have z2 := hb2.size
  have HTB : Hid (∀ w', Below w2.heap.size w2 w' → TabB w'.heap.size w') := fun w' hb => (HTAB.out.next (HB2.out.trans (hb.mono z2))).wide (Nat.le_trans z2 hb.size)
  clear hb2 HC
  have CI := hideIt (implReadJson_any s (by omega))
  have CS := hideIt (specReadJson_any s (by omega))
  have HSM := hideIt (jsonF_small s)
  obtain ⟨V, hV⟩ : ∃ V, jsonF s = V := ⟨_, rfl⟩
  rw [hV] at CI CS HSM
  have HVS := hideIt hV
  clear hV
  have HR : Hid ((nsOf V).length ≤ 1759218604416 ∧ ∀ i, i < (nsOf V).length → Fits (nodeAt (nsOf V) i)) := by
    rcases HSM.out with h | h
    · rw [Hid, h]; exact ⟨by simp, fun i hi => absurd hi (by simp)⟩
    · exact ⟨Nat.le_trans h.2.1 (by omega), h.few.2⟩
  obtain ⟨ns, hns⟩ : ∃ ns, nsOf V = ns := ⟨_, rfl⟩
  unfold Reads at CI CS
  simp only [hns] at CI CS
  rw [hns] at HR
  obtain ⟨N, hN⟩ : ∃ N, ns.length = N := ⟨_, rfl⟩
  have HNN := hideIt hN
  have HNS := hideIt hns
  clear hN hns HSM
  go_wp2_with fail
  refine (CI.out w2).mono ?_
  rintro e w3 ⟨r3, base3, KV3, IV3, rfl, _, _, hn3, hb3⟩
  have H3 := hideIt hb3
  have z3 := hb3.size
  have HN3 : Hid (∀ w', Below w3.heap.size w3 w' → NodesAt w'.heap.size w' r3 ns) := fun w' hb => (hn3.below hb).nodes HR.out.1 HR.out.2
  obtain ⟨a3, c3, e3⟩ := own_slice hn3.row
  rw [HNN.out] at e3
  subst e3
  clear hn3 hb3
  go_wp2_with fail
  refine (CS.out w3).mono ?_
  rintro e w4 ⟨r4, base4, KV4, IV4, rfl, _, _, hn4, hb4⟩
  have H4 := hideIt hb4
  have z4 := hb4.size
  have HN4 : Hid (∀ w', Below w4.heap.size w4 w' → NodesAt w'.heap.size w' r4 ns) := fun w' hb => (hn4.below hb).nodes HR.out.1 HR.out.2
  obtain ⟨a4, c4, e4⟩ := own_slice hn4.row
  rw [HNN.out] at e4
  subst e4
  clear hn4 hb4 CI CS
  have H24 := hideIt (H3.out.trans (H4.out.mono z3))
  have HEND : Hid (∀ w5, Below w4.heap.size w4 w5 → Below w1.heap.size w1 w5) := fun w5 hb => HB2.out.trans ((H24.out.trans (hb.mono (Nat.le_trans z3 z4))).mono z2)
  have HS4 := hideIt (fun w5 (hb : Below w4.heap.size w4 w5) => same_any w5.heap.size _ _ ns ns w5 (HN3.out w5 (H4.out.trans (hb.mono z4))) (HN4.out w5 hb) (Nat.le_refl _))
  cases V with
  | none =>
    have hI : (none : Option (List VN × Nat)).isSome = false := rfl
    rw [hI]
    go_wp2_with fail
    refine (HS4.out w4 (Below.refl _ _)).mono ?_
    rintro e w5 ⟨⟨b, rfl, hb⟩, hb5⟩
    obtain rfl : b = true := hb.2 (by first | rfl | trivial)
    have H5 := hideIt hb5
    have z5 := hb5.size
    clear hb hb5
    go_wp2_with fail
    refine (HS4.out w5 H5.out).mono ?_
    rintro e w6 ⟨⟨b, rfl, hb⟩, hb6⟩
    obtain rfl : b = true := hb.2 (by first | rfl | trivial)
    have H6 := hideIt (H5.out.trans (hb6.mono z5))
    clear hb hb6
    go_wp2_with fail
    go_ret
    exact ⟨rfl, HEND.out w6 H6.out⟩
  | some x =>
    obtain ⟨ns', q⟩ := x
    obtain rfl : ns' = ns := HNS.out
    have hI : (some (ns', q) : Option (List VN × Nat)).isSome = true := rfl
    rw [hI]
    have HOK := hideIt (jsonF_says HVS.out).2.1
    obtain ⟨T, hT⟩ : ∃ T, txt (jsonV false ns') = T := ⟨_, rfl⟩
    have HTD : Hid (T.data.toList = jsonV false ns') := by rw [Hid, ← hT, bytes_txt]
    have HTZ : Hid (T.size ≤ 96000) := by rw [Hid, ← hT]; exact jsonV_size false ns'
    have CJ := hideIt (fun (w' : World) (hb : Below w4.heap.size w4 w') => implJson_any w'.heap.size _ ns' w' (HN3.out w' (H4.out.trans (hb.mono z4))) (Nat.le_refl _) (HTB.out w' (H24.out.trans (hb.mono (Nat.le_trans z3 z4)))))
    simp only [hT] at CJ
    clear hT hI
    have hTz := HTZ.out
    go_wp2_with fail
    refine (HS4.out w4 (Below.refl _ _)).mono ?_
    rintro e w5 ⟨⟨b, rfl, hb⟩, hb5⟩
    obtain rfl : b = true := hb.2 (by first | rfl | trivial)
    have H5 := hideIt hb5
    have z5 := hb5.size
    clear hb hb5
    go_wp2_with fail
    refine (CJ.out w5 H5.out).mono ?_
    rintro e w6 ⟨rfl, hb6⟩
    have H6 := hideIt (H5.out.trans (hb6.mono z5))
    have z6 := H6.out.size
    clear hb6 CJ
    have HRT := hideIt (implReadJson_any T (by omega))
    obtain ⟨VT, hVT⟩ : ∃ VT, jsonF T = VT := ⟨_, rfl⟩
    have HVT : Hid (T.size ≤ 4000 → VT = some (ns', T.size)) := fun hz => by rw [← hVT]; exact json_front HOK.out hz HTD.out
    have HSMT := hideIt (jsonF_small T)
    rw [hVT] at HRT HSMT
    clear hVT
    have HRR : Hid ((nsOf VT).length ≤ 1759218604416 ∧ ∀ i, i < (nsOf VT).length → Fits (nodeAt (nsOf VT) i)) := by
      rcases HSMT.out with h | h
      · rw [Hid, h]; exact ⟨by simp, fun i hi => absurd hi (by simp)⟩
      · exact ⟨Nat.le_trans h.2.1 (by omega), h.few.2⟩
    go_wp2_with fail
    refine (HRT.out w6).mono ?_
    rintro e w7 ⟨r7, base7, KV7, IV7, rfl, _, _, hn7, hb7⟩
    have HN7 : Hid (∀ w', Below w7.heap.size w7 w' → NodesAt w'.heap.size w' r7 (nsOf VT)) := fun w' hb => (hn7.below hb).nodes HRR.out.1 HRR.out.2
    have H7 := hideIt (H6.out.trans (hb7.mono z6))
    have z7 := H7.out.size
    obtain ⟨a7, c7, e7⟩ := own_slice hn7.row
    obtain ⟨M7, hM7⟩ : ∃ M, (nsOf VT).length = M := ⟨_, rfl⟩
    rw [hM7] at e7
    subst e7
    clear hn7 hb7 hM7 HRT HSMT HRR
    obtain ⟨b7, hb7⟩ : ∃ b, VT.isSome = b := ⟨_, rfl⟩
    rw [hb7]
    have HBT : Hid (T.size ≤ 4000 → b7 = true ∧ nsOf VT = ns') := fun hz => by rw [← hb7, HVT.out hz]; exact ⟨rfl, rfl⟩
    clear hb7
    obtain ⟨U, hU⟩ : ∃ U, (ByteArray.mk #[32] ++ s) ++ ByteArray.mk #[10] = U := ⟨_, rfl⟩
    have HUD : Hid (U.data.toList = arnd s.data.toList) := by rw [Hid, ← hU]; simp [ByteArray.data_append, arnd]
    have hUz : U.size = s.size + 2 := by rw [← len_is U, HUD.out, arnd_len, len_is]
    have HUZ := hideIt hUz
    clear hUz
    have hUz : U.size ≤ 100002 := by have := HUZ.out; omega
    have h1z : (ByteArray.mk #[32] ++ s).size ≤ 100001 := by rw [ByteArray.size_append]; show 1 + s.size ≤ 100001; omega
    have HRU := hideIt (implReadJson_any U (by omega))
    obtain ⟨VU, hVU⟩ : ∃ VU, jsonF U = VU := ⟨_, rfl⟩
    have HVU : Hid (s.size + 2 ≤ 4000 → VU = some (ns', U.size)) := fun hz => by rw [← hVU]; exact json_around HVS.out HUD.out (by have := HUZ.out; omega)
    have HSMU := hideIt (jsonF_small U)
    rw [hVU] at HRU HSMU
    clear hVU
    have HRV : Hid ((nsOf VU).length ≤ 1759218604416 ∧ ∀ i, i < (nsOf VU).length → Fits (nodeAt (nsOf VU) i)) := by
      rcases HSMU.out with h | h
      · rw [Hid, h]; exact ⟨by simp, fun i hi => absurd hi (by simp)⟩
      · exact ⟨Nat.le_trans h.2.1 (by omega), h.few.2⟩
    go_wp2_with fail
    refine (HRU.out w7).mono ?_
    rintro e w8 ⟨r8, base8, KV8, IV8, rfl, _, _, hn8, hb8⟩
    have HN8 : Hid (∀ w', Below w8.heap.size w8 w' → NodesAt w'.heap.size w' r8 (nsOf VU)) := fun w' hb => (hn8.below hb).nodes HRV.out.1 HRV.out.2
    have H78 := hideIt hb8
    have H8 := hideIt (H7.out.trans (hb8.mono z7))
    have z8 := H8.out.size
    have z78 := hb8.size
    obtain ⟨a8, c8, e8⟩ := own_slice hn8.row
    obtain ⟨M8, hM8⟩ : ∃ M, (nsOf VU).length = M := ⟨_, rfl⟩
    rw [hM8] at e8
    subst e8
    clear hn8 hb8 hM8 HRU HSMU HRV hU
    obtain ⟨b8, hb8⟩ : ∃ b, VU.isSome = b := ⟨_, rfl⟩
    rw [hb8]
    have HBU : Hid (s.size + 2 ≤ 4000 → b8 = true ∧ nsOf VU = ns') := fun hz => by rw [← hb8, HVU.out hz]; exact ⟨rfl, rfl⟩
    clear hb8
    have HVO := hideIt (implOk_any w8.heap.size _ ns' w8 (HN3.out w8 (H4.out.trans (H8.out.mono z4))) (Nat.le_refl _))
    rw [HOK.out] at HVO
    go_wp2_with fail
    refine HVO.out.mono ?_
    rintro e w9 ⟨rfl, hb9⟩
    have H89 := hideIt hb9
    have H9 := hideIt (H8.out.trans (hb9.mono z8))
    have z9 := H9.out.size
    have z89 := hb9.size
    clear hb9 HVO
    have HSX : Hid (∀ wx, Below w9.heap.size w9 wx → T.size ≤ 4000 → Calls Tryz.prog 12 #[.slice a7 M7 c7, .slice a3 N c3] wx fun e w' => e = .returned (.bool true) ∧ Below wx.heap.size wx w') := fun wx hx hz => by
      have h7 := HN7.out wx ((H78.out.trans (H89.out.mono z78)).trans (hx.mono (Nat.le_trans z78 z89)))
      rw [(HBT.out hz).2] at h7
      refine (same_any wx.heap.size _ _ ns' ns' wx h7 (HN3.out wx (H4.out.trans ((H9.out.trans (hx.mono z9)).mono z4))) (Nat.le_refl _)).mono ?_
      rintro e w' ⟨⟨b, rfl, hb⟩, hbl⟩
      obtain rfl : b = true := hb.2 (by first | rfl | trivial)
      exact ⟨rfl, hbl⟩
    have HSY : Hid (∀ wx, Below w9.heap.size w9 wx → s.size + 2 ≤ 4000 → Calls Tryz.prog 12 #[.slice a8 M8 c8, .slice a3 N c3] wx fun e w' => e = .returned (.bool true) ∧ Below wx.heap.size wx w') := fun wx hx hz => by
      have h8 := HN8.out wx (H89.out.trans (hx.mono z89))
      rw [(HBU.out hz).2] at h8
      refine (same_any wx.heap.size _ _ ns' ns' wx h8 (HN3.out wx (H4.out.trans ((H9.out.trans (hx.mono z9)).mono z4))) (Nat.le_refl _)).mono ?_
      rintro e w' ⟨⟨b, rfl, hb⟩, hbl⟩
      obtain rfl : b = true := hb.2 (by first | rfl | trivial)
      exact ⟨rfl, hbl⟩
    by_cases hTb : 4000 < T.size
    focus
      have hTb' : (4000 : Int) < (T.size : Int) := by omega
      by_cases hUb : 4000 < s.size + 2
      focus
        have hUb' : (4000 : Int) < (s.size : Int) + 2 := by omega
        go_wp2_with fail
        go_ret
        exact ⟨rfl, HEND.out w9 H9.out⟩
      have hUb' : ¬ (4000 : Int) < (s.size : Int) + 2 := by omega
      obtain rfl : b8 = true := (HBU.out (by omega)).1
      go_wp2_with fail
      refine (HSY.out w9 (Below.refl _ _) (by omega)).mono ?_
      rintro e wA ⟨rfl, hbA⟩
      have HA := hideIt (H9.out.trans (hbA.mono z9))
      clear hbA
      go_wp2_with fail
      go_ret
      exact ⟨rfl, HEND.out wA HA.out⟩
    have hTb' : ¬ (4000 : Int) < (T.size : Int) := by omega
    obtain rfl : b7 = true := (HBT.out (by omega)).1
    go_wp2_with fail
    refine (HSX.out w9 (Below.refl _ _) (by omega)).mono ?_
    rintro e wA ⟨rfl, hbA⟩
    have HAA := hideIt hbA
    have HA := hideIt (H9.out.trans (hbA.mono z9))
    have zA := HA.out.size
    clear hbA
    by_cases hUb : 4000 < s.size + 2
    · have hUb' : (4000 : Int) < (s.size : Int) + 2 := by omega
      go_wp2_with fail
      go_ret
      exact ⟨rfl, HEND.out wA HA.out⟩
    have hUb' : ¬ (4000 : Int) < (s.size : Int) + 2 := by omega
    obtain rfl : b8 = true := (HBU.out (by omega)).1
    go_wp2_with fail
    refine (HSY.out wA HAA.out (by omega)).mono ?_
    rintro e wB ⟨rfl, hbB⟩
    have HB := hideIt (HA.out.trans (hbB.mono zA))
    clear hbB
    go_wp2_with fail
    go_ret
    exact ⟨rfl, HEND.out wB HB.out⟩
end Go.Proofs.YtagcgnhpdmhegaaGreatDoor

/-
  PROVED: for every code of bytes the law FnReadJson returns true: what is read out of drawn bytes is right, and comes back from its own text and with blanks around. Conditions: the row's own (the three listed tables read as their initialisers lay them), tied to the program's text by the card.
-/
namespace Go.Proofs.YtagcgnhpdmhegaaGreatDoor
open Go.ChangeShapes Go.WideShapes Go.ChangeAt Go.RowKit
set_option linter.unusedVariables false

set_option maxRecDepth 100000 in
theorem fnReadJson_lifted (os : Os) (started : os.Started) (H : Type) (enc : TypeId × Value → H) :
    ReturnsInHanded {} Tryz.checked os 4 .any (fun w args => (Rows.fnReadJsonSpec.pre enc Tryz.prog Tryz.f4 [] false w args ∧ laidMetH Tryz.prog Rows.fnReadJsonRow.laid w) ∧ sizedMet enc Tryz.prog Tryz.f4 (OpenSpec.ofChange Rows.fnReadJsonSpec) false w args)
      (Rows.fnReadJsonSpec.post enc Tryz.prog Tryz.f4 false true false false) := by
  refine returnsInHanded_of_change_and (C := Tryz.checked) (X := fun w _ => laidMetH Tryz.prog Rows.fnReadJsonRow.laid w) (fun _ _ _ hh h => h.of_heap hh) js_own started (by kernel_rfl) Tryz.func4
    (ChangeSpec.witness_shaped (enc := enc) (C := Tryz.checked) (os := os) (X := fun w _ => laidMetH Tryz.prog Rows.fnReadJsonRow.laid w) false (World.laidAll Tryz.prog os Rows.fnReadJsonRow.laid) #[.slice none 0 0] 8 (World.laidAll_os _ _ _)
      (World.shaped_of_ZipB (by kernel_rfl) (by kernel_rfl)) (by kernel_rfl) (by kernel_rfl) (by kernel_rfl)
      (by rw [MakeChecks.laidMetH_plain _ _ _ (by kernel_rfl)]; exact laidMet_laidAll _ (by kernel_rfl) (by kernel_rfl))) ?_
  intro W base args ds gs before hval0 hW _ _ hL0 _
  have hL : laidMetH Tryz.prog Rows.fnReadJsonRow.laid W := hL0
  rw [MakeChecks.laidMetH_plain _ _ _ (by kernel_rfl)] at hL
  have hval : ∀ (j : Nat) t v, Tryz.f4.params[j]? = some t → args[j]? = some v → Value.okWide Tryz.prog W .any base t v := hval0
  have hW' := hW
  obtain ⟨p, q, hA0, hV, rfl, hfz, hnd⟩ := hW
  have hA : DataW.TrodAll enc Tryz.prog W 0 (fun _ => true) true Tryz.f4.params.toList args.toList ds p := hA0
  rw [Tryz.params4] at hA hval
  obtain ⟨v0, vs0, d0, ds0, p0, q0, hargs, rfl, rfl, h0, r0⟩ := trodAll_cons hA
  obtain ⟨rfl, rfl, rfl⟩ := trodAll_nil r0
  obtain rfl : args = #[v0] := by cases args; simp_all
  obtain ⟨rfl, rfl⟩ := trodVars_none hV
  obtain ⟨a0, len0, cap0, rfl⟩ := okWide_slice Tryz.underlying22 (hval 0 22 v0 rfl rfl)
  have k0 := h0
  have lt0 : ∀ x ∈ p0, x.block < W.heap.size := by obtain ⟨m, hm⟩ := k0; exact DataW.trod_lt m _ _ _ hm
  obtain ⟨n, w0⟩ : ∃ n, RawCode W (.slice a0 len0 cap0) n := by
    obtain ⟨fuel, hf⟩ := h0
    exact raw_code (by simpa [Value.cells] using hf)
  clear hA0 hval0
  refine (lawFnReadJson_walk (.slice a0 len0 cap0) n W w0 (js_tabB (js_tabIs hL))).mono fun e W' ⟨he, bel⟩ => ?_
  subst he
  exact ⟨_, rfl, _, _, _, [], _, [], hW', trodAll_mk1 (shut_bool Tryz.underlying4 _), (trodAll_cons_mk (Below.trod js_laidOut (by kernel_rfl) (of_decide_eq_true (by kernel_rfl)) k0 bel lt0) trodAll_mk0), rfl, bel.frame _, fun h => by cases h⟩

theorem fnReadJson_row : Rows.FnReadJsonSaid :=
  OpenClaim.holds_of_wide 4 Tryz.f4 rfl rfl rfl rfl rfl rfl rfl ⟨rfl, rfl, rfl, rfl, rfl⟩ rfl rfl rfl rfl rfl (by kernel_rfl) Tryz.func4 (by kernel_rfl)
    (of_decide_eq_true (by kernel_rfl)) (by unfold Func.isWrapper; first | (rw [if_pos (by decide +kernel)]; kernel_rfl) | (rw [if_neg (by decide +kernel)]; exact ⟨rfl, rfl⟩))
    (fun os started H enc _ => fnReadJson_lifted os started H enc)

theorem fnReadJson_holds : Rows.FnReadJsonCardSaid :=
  Claim7.holds_tied_plain_at .later [] [.data, .data, .data] true (true, "160aac62067e509f1e561cad6f14648d262211494096afdc871edeb12a0b47c4") true
    fnReadJson_row (fun _ h => by cases h) (by kernel_rfl) (fun _ h => by cases h) fnReadJson_row_tie rfl ⟨rfl, rfl⟩ (by kernel_rfl) rfl
    (fun f fn hf hfn => by
      obtain rfl : f = 4 := Option.some.inj ((show Tryz.prog.funcNamed "loop.example/g00345/laws.FnReadJson" = some 4 by kernel_rfl).symm.trans hf) |>.symm
      obtain rfl : fn = Tryz.f4 := (Option.some.inj (Tryz.func4.symm.trans hfn)).symm
      exact ⟨by kernel_rfl, fun j t ht => by
        rw [Tryz.params4] at ht
        have h3 : t = 22 := by
          rcases j with _ | j
          · simpa using ht.symm
          · simp at ht
        subst h3
        exact (show Tryz.prog.wantsStandIn 22 = false by kernel_rfl)⟩)
    (by kernel_rfl)
#print axioms fnReadJson_holds
end Go.Proofs.YtagcgnhpdmhegaaGreatDoor
