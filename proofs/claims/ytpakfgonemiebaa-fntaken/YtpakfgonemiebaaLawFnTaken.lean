/-
  The law FnTaken: the call returns true and turns nothing that was there.
-/
import Derived.Test.YtpakfgonemiebaaTakQ
import Derived.Test.YtpakfgonemiebaaDrPth
import Derived.Test.YtpakfgonemiebaaStepI
namespace Go.Proofs.Ytpakfgonemiebaa
open Go.RowKit
set_option linter.unusedSimpArgs false
set_option linter.unusedVariables false

theorem RowsAt.wideT {B B' : Nat} {w : World} {v : Value} {m : Nat} {L : Nat → List VN} (h : RowsAt B w v m L) (hb : B ≤ B') : RowsAt B' w v m L := by
  obtain ⟨h1, a, c, e, h2⟩ := h
  refine ⟨h1, a, c, e, fun hp => ?_⟩
  obtain ⟨b, ea, hbB, h3⟩ := h2 hp
  refine ⟨b, ea, by omega, fun i hi => ?_⟩
  obtain ⟨r, e2, hn⟩ := h3 i hi
  exact ⟨r, e2, hn.wide hb⟩
theorem RowsAt.onT {B : Nat} {w w' : World} {v : Value} {m : Nat} {L : Nat → List VN} (h : RowsAt B w v m L) (hB : B ≤ w.heap.size) (hb : Below w.heap.size w w') : RowsAt w'.heap.size w' v m L := (h.below (hb.mono hB)).wideT (Nat.le_trans hB hb.size)
theorem NodesAt.onT {B : Nat} {w w' : World} {v : Value} {vs : List VN} (h : NodesAt B w v vs) (hB : B ≤ w.heap.size) (hb : Below w.heap.size w w') : NodesAt w'.heap.size w' v vs := (h.below (hb.mono hB)).wide (Nat.le_trans hB hb.size)
theorem StepsAt.onT {B : Nat} {w w' : World} {v : Value} {ps : List PS} (h : StepsAt B w v ps) (hB : B ≤ w.heap.size) (hb : Below w.heap.size w w') : StepsAt w'.heap.size w' v ps := (h.below (hb.mono hB)).wide (Nat.le_trans hB hb.size)
theorem own_capT {base e n k : Nat} {w : World} {a : Option Addr} {c : Nat} {xs : List Value} (h : w.ownsRow base e k (.slice a n c) n xs) : n ≤ c := by
  rcases h.2 with ⟨e1, e2⟩ | ⟨g', cap', cur, e1, _, _, h1, _⟩
  · simp only [Value.slice.injEq] at e1; omega
  · simp only [Value.slice.injEq] at e1
    obtain ⟨_, _, rfl⟩ := e1
    exact h1
theorem call_sameAllT (a b : Value) : ∀ w, (callFunc 21 #[a, b]).run Try.prog w = .ok (.enter 21 #[a, b]) w := fun w => by kernel_rfl

set_option maxRecDepth 100000 in
set_option maxHeartbeats 12800000 in
theorem lawFnTaken_walk (v : Value) (n : Nat) (w : World) (h : RawCode w v n) :
    Calls Try.prog 5 #[v] w fun e w' => e = .returned (.bool true) ∧ Below w.heap.size w w' := by
  obtain ⟨hn, a, cap, rfl, hc⟩ := h
  have HCL : Hid (n ≤ 1048576 → CodeAt w.heap.size w (.slice a n cap) n) := fun h => ⟨h, a, cap, rfl, hc⟩
  clear hc
  go_enter Try.func5, Try.ntmps5
  go_wp2_with fail
  refine (big_any a n cap w hn).mono ?_
  rintro e w1 ⟨rfl, rfl⟩
  by_cases hbig : 1048576 < n
  · go_wp2_with fail
    go_ret
    exact ⟨rfl, Below.refl _ _⟩
  have HC := hideIt (HCL.out (by omega))
  clear HCL
  go_wp2_with fail
  refine (drawTaken_any w1.heap.size _ n w1 HC.out (Nat.le_refl _)).mono ?_
  rintro e w2 ⟨r, vs, KV, IV, u, ps, rfl, hf1, hsh, hn1, ho1, hb2⟩
  have HF := hideIt (hf1.few (show 40 ≤ 80 by omega))
  have HV2 := hideIt (hn1.nodes (by have : vs.length ≤ 40 := hf1.2.1; omega) HF.out.2)
  have HU2 := hideIt (own_steps ho1 (hsh.wide (by omega)))
  have hpl : ps.length ≤ 1001 := hsh.1
  have HB2 := hideIt hb2
  have z2 := hb2.size
  have HTF := hideIt (taken_few vs ps)
  obtain ⟨ar, cr, er⟩ := own_slice hn1.row
  obtain ⟨M, hM⟩ : ∃ M, vs.length = M := ⟨_, rfl⟩
  rw [hM] at er
  subst er
  obtain ⟨au, cu, eu⟩ := own_slice ho1
  subst eu
  have hcu := own_capT ho1
  obtain ⟨N, hN⟩ : ∃ N, ps.length = N := ⟨_, rfl⟩
  have HNN := hideIt hN
  rw [hN] at hcu hpl HU2 ⊢
  have HTH := hideIt (taken_there (vs := vs) (ps := ps))
  obtain ⟨ts, hts⟩ : ∃ ts, (takenT vs ps).isSome = ts := ⟨_, rfl⟩
  obtain ⟨gb, hgb⟩ : ∃ gb, gotB vs ps = gb := ⟨_, rfl⟩
  have HTS := hideIt hts
  have HGB := hideIt hgb
  rw [hts, hgb, hN] at HTH
  obtain ⟨X, hX⟩ : ∃ X, takenNs vs ps = X := ⟨_, rfl⟩
  have HX := hideIt hX
  rw [hX] at HTF
  obtain ⟨XL, hXL⟩ : ∃ XL, X.length = XL := ⟨_, rfl⟩
  have HXL := hideIt hXL
  clear hf1 hsh hn1 ho1 hb2 hM hN hts hgb hX hXL HC
  go_wp2_with fail
  refine (implTaken_any w2.heap.size _ _ vs ps w2 HV2.out HU2.out (fun _ _ _ e => by cases e; exact hcu) (Nat.le_refl _)).mono ?_
  rintro e w3 ⟨r3, base3, K3, I3, rfl, _, _, hn3, hb3⟩
  rw [HX.out] at hn3
  rw [HTS.out]
  have HX3 := hideIt (hn3.nodes (Nat.le_trans HTF.out.1.1 (by omega)) HTF.out.2)
  have HV3 := hideIt (HV2.out.onT (Nat.le_refl _) hb3)
  have HU3 := hideIt (HU2.out.onT (Nat.le_refl _) hb3)
  have HB3 := hideIt (HB2.out.trans (hb3.mono z2))
  have z3 := hb3.size
  obtain ⟨a3, c3, e3⟩ := own_slice hn3.row
  rw [HXL.out] at e3
  subst e3
  clear hn3 hb3 HV2 HU2
  go_wp2_with fail
  refine (specTaken_any w3.heap.size _ _ vs ps w3 HV3.out HU3.out (fun _ _ _ e => by cases e; exact hcu) (Nat.le_refl _)).mono ?_
  rintro e w4 ⟨r4, base4, K4, I4, rfl, _, hn4, hb4⟩
  rw [HX.out] at hn4
  rw [HTS.out]
  have HY4 := hideIt (hn4.nodes (Nat.le_trans HTF.out.1.1 (by omega)) HTF.out.2)
  have HX4 := hideIt (HX3.out.onT (Nat.le_refl _) hb4)
  have HV4 := hideIt (HV3.out.onT (Nat.le_refl _) hb4)
  have HU4 := hideIt (HU3.out.onT (Nat.le_refl _) hb4)
  have HB4 := hideIt (HB3.out.trans (hb4.mono (by omega)))
  have z4 := hb4.size
  obtain ⟨a4, c4, e4⟩ := own_slice hn4.row
  rw [HXL.out] at e4
  subst e4
  clear hn4 hb4 HV3 HU3 HX3
  go_wp2_with fail
  refine (implGot_any w4.heap.size _ _ vs ps w4 HV4.out HU4.out (Nat.le_refl _)).mono ?_
  rintro e w5 ⟨r5, base5, K5, I5, rfl, _, _, hn5, hb5⟩
  rw [HGB.out]
  have HY5 := hideIt (HY4.out.onT (Nat.le_refl _) hb5)
  have HX5 := hideIt (HX4.out.onT (Nat.le_refl _) hb5)
  have HV5 := hideIt (HV4.out.onT (Nat.le_refl _) hb5)
  have HU5 := hideIt (HU4.out.onT (Nat.le_refl _) hb5)
  have HB5 := hideIt (HB4.out.trans (hb5.mono (by omega)))
  have z5 := hb5.size
  obtain ⟨a5, c5, e5⟩ := own_slice hn5.row
  obtain ⟨G5, hG5⟩ : ∃ G5, (gotNs vs ps).length = G5 := ⟨_, rfl⟩
  rw [hG5] at e5
  subst e5
  clear hn5 hb5 HV4 HU4 HX4 HY4 hG5
  cases gb
  · obtain rfl : ts = false := HTH.out
    go_wp2_with fail
    refine (same_any w5.heap.size _ _ X X w5 HX5.out HY5.out (Nat.le_refl _)).mono ?_
    rintro e w6 ⟨⟨b6, rfl, hb6'⟩, hb6⟩
    obtain rfl : b6 = true := hb6'.2 rfl
    have HB6 := hideIt hb6
    have z6 := hb6.size
    clear hb6' hb6
    go_wp2_with fail
    refine (same_any w5.heap.size _ _ X X w6 (HX5.out.below HB6.out) (HY5.out.below HB6.out) z6).mono ?_
    rintro e w7 ⟨⟨b7, rfl, hb7'⟩, hb7⟩
    obtain rfl : b7 = true := hb7'.2 rfl
    have HB7 := hideIt (HB6.out.trans (hb7.mono z6))
    clear hb7' hb7
    go_wp2_with fail
    go_ret
    exact ⟨rfl, HB5.out.trans (HB7.out.mono (by omega))⟩
  by_cases hN0 : N = 0
  · subst hN0
    obtain rfl : ts = false := HTH.out
    go_wp2_with fail
    refine (same_any w5.heap.size _ _ X X w5 HX5.out HY5.out (Nat.le_refl _)).mono ?_
    rintro e w6 ⟨⟨b6, rfl, hb6'⟩, hb6⟩
    obtain rfl : b6 = true := hb6'.2 rfl
    have HB6 := hideIt hb6
    have z6 := hb6.size
    clear hb6' hb6
    go_wp2_with fail
    refine (same_any w5.heap.size _ _ X X w6 (HX5.out.below HB6.out) (HY5.out.below HB6.out) z6).mono ?_
    rintro e w7 ⟨⟨b7, rfl, hb7'⟩, hb7⟩
    obtain rfl : b7 = true := hb7'.2 rfl
    have HB7 := hideIt (HB6.out.trans (hb7.mono z6))
    clear hb7' hb7
    go_wp2_with fail
    go_ret
    exact ⟨rfl, HB5.out.trans (HB7.out.mono (by omega))⟩
  have hN0' : (0 : Int) < (N : Int) := by omega
  obtain rfl : ts = true := by rw [HTH.out]; simp; omega
  obtain ⟨U, hU⟩ := Option.isSome_iff_exists.1 HTS.out
  obtain ⟨m, k, P, hNm, hokX, hg1, hg2, hoka, hokb, hPa, hPb, hkP, hPL, hnm, hpl2⟩ := taken_says hU
  rw [HX.out] at hokX hg2 hokb hPb hPL hnm
  rw [HNN.out] at hNm
  have HOKX := hideIt hokX
  have HG1 := hideIt hg1
  have HG2 := hideIt hg2
  have HPLS := hideIt hPL
  have HNM := hideIt hnm
  have HPL2 := hideIt hpl2
  obtain ⟨A, hA⟩ : ∃ A, gotNs vs (ps.take m) = A := ⟨_, rfl⟩
  obtain ⟨Bn, hBn⟩ : ∃ Bn, gotNs X (ps.take m) = Bn := ⟨_, rfl⟩
  have HA := hideIt hA
  have HBN := hideIt hBn
  rw [hA] at hoka hPa HPLS
  rw [hBn] at hokb hPb HPLS
  have HFA := hideIt (ok_fits hoka)
  have HFB := hideIt (ok_fits hokb)
  have HPFA := hideIt (PL_few HFA.out.2)
  have HPFB := hideIt (PL_few HFB.out.2)
  have HPA := hideIt hPa
  obtain ⟨Q, hQ⟩ : ∃ Q, P - 1 = Q := ⟨_, rfl⟩
  rw [hQ] at hPb HPLS
  have HPB := hideIt hPb
  have HQ := hideIt hQ
  have hQP : ((Q : Int) != (P : Int) - 1) = false := by simp; omega
  have hQ1 : Q < P := by omega
  have hkQ : k ≤ Q := by omega
  have hP80 : P ≤ 80 := by rw [← hPa]; exact HPFA.out.1
  obtain ⟨bu, ou, eu2, hbu, hcu2⟩ : ∃ b o, au = some ⟨b, o, none⟩ ∧ b < w5.heap.size ∧ (w5.cell? ⟨b, o + m * 3, none⟩ = some (.bool (stepAt ps m).named) ∧ w5.cell? ⟨b, o + m * 3 + 1, none⟩ = some (.string (stepAt ps m).key) ∧ w5.cell? ⟨b, o + m * 3 + 2, none⟩ = some (.int .i64 (stepAt ps m).pl)) := by
    obtain ⟨_, _, a', c', e', h'⟩ := HU5.out
    simp only [Value.slice.injEq] at e'
    obtain ⟨rfl, _, rfl⟩ := e'
    obtain ⟨b, o, e2, hb, hc⟩ := h' (by rw [HNN.out]; omega)
    exact ⟨b, o, e2, hb, hc m (by rw [HNN.out]; omega)⟩
  subst eu2
  obtain ⟨s0, s1, s2⟩ := hcu2
  have HSI : Hid (StepsAt w5.heap.size w5 (.slice (some ⟨bu, ou, none⟩) m cu) (ps.take m)) := steps_init (by rw [← hNm]; exact HU5.out) (by rw [HNN.out]; exact hNm)
  obtain ⟨x, hx⟩ : ∃ x, stepAt ps m = x := ⟨_, rfl⟩
  rw [hx] at s0 s1 s2 HNM HPL2
  have hmi : (N : Int) - 1 = (m : Int) := by omega
  have hmN : m < N := by omega
  have hmc : m ≤ cu := by omega
  have HNMM := hideIt hNm
  have HHU := hideIt hU
  clear hokX hg1 hg2 hPL hnm hpl2 hA hBn hoka hokb hPa hPb hQ hx hNm hU HTH HTS HGB
  go_wp2_with fail
  refine (same_any w5.heap.size _ _ X X w5 HX5.out HY5.out (Nat.le_refl _)).mono ?_
  rintro e w6 ⟨⟨b6, rfl, hb6'⟩, hb6⟩
  obtain rfl : b6 = true := hb6'.2 rfl
  have HX6 := hideIt (HX5.out.onT (Nat.le_refl _) hb6)
  have HV6 := hideIt (HV5.out.onT (Nat.le_refl _) hb6)
  have HU6 := hideIt (HU5.out.onT (Nat.le_refl _) hb6)
  have HSI6 := hideIt (HSI.out.onT (Nat.le_refl _) hb6)
  have HB6 := hideIt (HB5.out.trans (hb6.mono (by omega)))
  have z6 := hb6.size
  have t0 := (below_cell hb6 hbu).trans s0
  have t1 := (below_cell hb6 hbu).trans s1
  have t2 := (below_cell hb6 hbu).trans s2
  clear hb6' hb6 s0 s1 s2 HX5 HV5 HU5 HSI HY5
  go_wp2_with fail
  obtain ⟨W7, hW7⟩ : ∃ W7, w6.alloc (.cells #[.bool x.named, .string x.key, .int .i64 x.pl] 39) = W7 := ⟨_, rfl⟩
  have HBA : Hid (Below w6.heap.size w6 W7) := by rw [Hid, ← hW7]; exact (Below.refl _ _).alloc (Nat.le_refl _) _
  have y0 : W7.cell? ⟨w6.heap.size, 0, none⟩ = some (.bool x.named) := by rw [← hW7]; simp
  have y2 : W7.cell? ⟨w6.heap.size, 2, none⟩ = some (.int .i64 x.pl) := by rw [← hW7]; simp
  have yz : w6.heap.size < W7.heap.size := by rw [← hW7]; simp
  rw [hW7]
  have HY0 := hideIt y0
  have HY2 := hideIt y2
  have HX7 := hideIt (HX6.out.onT (Nat.le_refl _) HBA.out)
  have HV7 := hideIt (HV6.out.onT (Nat.le_refl _) HBA.out)
  have HU7 := hideIt (HU6.out.onT (Nat.le_refl _) HBA.out)
  have HSI7 := hideIt (HSI6.out.onT (Nat.le_refl _) HBA.out)
  have HB7 := hideIt (HB6.out.trans (HBA.out.mono (by omega)))
  have z7 := HB7.out.size
  clear hW7 y0 y2 t0 t1 t2 HX6 HV6 HU6 HSI6
  obtain ⟨lb, hlb⟩ : ∃ lb, w6.heap.size = lb := ⟨_, rfl⟩
  rw [hlb] at HY0 HY2 yz ⊢
  clear hlb HBA
  refine (implGot_any W7.heap.size _ _ vs (ps.take m) W7 HV7.out HSI7.out (Nat.le_refl _)).mono ?_
  rintro e w8 ⟨r8, base8, K8, I8, rfl, _, _, hn8, hb8⟩
  rw [HA.out] at hn8
  rw [HG1.out]
  have HA8 := hideIt (hn8.nodes (Nat.le_trans HFA.out.1.1 (by omega)) HFA.out.2)
  have HX8 := hideIt (HX7.out.onT (Nat.le_refl _) hb8)
  have HU8 := hideIt (HU7.out.onT (Nat.le_refl _) hb8)
  have HSI8 := hideIt (HSI7.out.onT (Nat.le_refl _) hb8)
  have H78 := hideIt hb8
  have z8 := hb8.size
  obtain ⟨a8, c8, e8⟩ := own_slice hn8.row
  obtain ⟨AL, hAL⟩ : ∃ AL, A.length = AL := ⟨_, rfl⟩
  rw [hAL] at e8
  subst e8
  clear hn8 hb8 hAL HX7 HV7 HU7 HSI7
  go_wp2_with fail
  refine (implGot_any w8.heap.size _ _ X (ps.take m) w8 HX8.out HSI8.out (Nat.le_refl _)).mono ?_
  rintro e w9 ⟨r9, base9, K9, I9, rfl, _, _, hn9, hb9⟩
  rw [HBN.out] at hn9
  rw [HG2.out]
  have HBB9 := hideIt (hn9.nodes (Nat.le_trans HFB.out.1.1 (by omega)) HFB.out.2)
  have HA9 := hideIt (HA8.out.onT (Nat.le_refl _) hb9)
  have HX9 := hideIt (HX8.out.onT (Nat.le_refl _) hb9)
  have HU9 := hideIt (HU8.out.onT (Nat.le_refl _) hb9)
  have H79 := hideIt (H78.out.trans (hb9.mono z8))
  have z9 := hb9.size
  obtain ⟨a9, c9, e9⟩ := own_slice hn9.row
  obtain ⟨BL, hBL⟩ : ∃ BL, Bn.length = BL := ⟨_, rfl⟩
  rw [hBL] at e9
  subst e9
  clear hn9 hb9 hBL HA8 HX8 HU8 HSI8
  go_wp2_with fail
  refine (implPartsOf_any w9.heap.size _ A w9 HA9.out (Nat.le_refl _)).mono ?_
  rintro e w10 ⟨r10, base10, rs10, K10, I10, lo10, rfl, _, hr10, hb10⟩
  have HRA := hideIt (hr10.rows HPFA.out.1 HPFA.out.2)
  obtain ⟨g10, c10, e10, _, _⟩ := hr10.row.form (by rw [HPA.out]; omega)
  have hw10 := hr10.row
  rw [e10] at hw10
  have hc10 := own_capT hw10
  rw [HPA.out] at e10 HRA hc10
  subst e10
  have HBB10 := hideIt (HBB9.out.onT (Nat.le_refl _) hb10)
  have HX10 := hideIt (HX9.out.onT (Nat.le_refl _) hb10)
  have HU10 := hideIt (HU9.out.onT (Nat.le_refl _) hb10)
  have H710 := hideIt (H79.out.trans (hb10.mono (by omega)))
  have z10 := hb10.size
  clear hr10 hb10 hw10 HBB9 HX9 HU9 HA9
  go_wp2_with fail
  refine (implPartsOf_any w10.heap.size _ Bn w10 HBB10.out (Nat.le_refl _)).mono ?_
  rintro e w11 ⟨r11, base11, rs11, K11, I11, lo11, rfl, _, hr11, hb11⟩
  have HRB := hideIt (hr11.rows HPFB.out.1 HPFB.out.2)
  obtain ⟨a11, c11, e11⟩ := own_slice hr11.row
  have hw11 := hr11.row
  rw [e11] at hw11
  have hc11 := own_capT hw11
  have HFORM : Hid ((a11 = none ∧ Q = 0 ∧ c11 = 0) ∨ ∃ g, a11 = some ⟨g, 0, none⟩) := by
    rcases hw11.2 with ⟨e1, e2⟩ | ⟨g', cap', cur, e1, _⟩
    · simp only [Value.slice.injEq] at e1
      rw [HPB.out] at e1
      exact .inl e1
    · simp only [Value.slice.injEq] at e1
      exact .inr ⟨g', e1.1⟩
  rw [HPB.out] at e11 HRB hc11
  subst e11
  have HRA11 := hideIt (HRA.out.onT (Nat.le_refl _) hb11)
  have HX11 := hideIt (HX10.out.onT (Nat.le_refl _) hb11)
  have HU11 := hideIt (HU10.out.onT (Nat.le_refl _) hb11)
  have H711 := hideIt (H710.out.trans (hb11.mono (by omega)))
  have z11 := hb11.size
  clear hr11 hb11 hw11 HX10 HU10 HRA HBB10
  go_wp2_with fail
  refine (implOk_any w11.heap.size _ X w11 HX11.out (Nat.le_refl _)).mono ?_
  rintro e w12 ⟨rfl, hb12⟩
  rw [HOKX.out]
  have HRA12 := hideIt (HRA11.out.onT (Nat.le_refl _) hb12)
  have HRB12 := hideIt (HRB.out.onT (Nat.le_refl _) hb12)
  have HX12 := hideIt (HX11.out.onT (Nat.le_refl _) hb12)
  have HU12 := hideIt (HU11.out.onT (Nat.le_refl _) hb12)
  have H712 := hideIt (H711.out.trans (hb12.mono (by omega)))
  have HB12 := hideIt (HB7.out.trans (H712.out.mono (by omega)))
  have z12 := hb12.size
  have q0 := (below_cell H712.out yz).trans HY0.out
  have q2 := (below_cell H712.out yz).trans HY2.out
  have hlb : lb < w12.heap.size := by have := H712.out.size; omega
  clear hb12 HX11 HU11 HRA11 HRB
  cases hnmd : x.named
  rotate_left
  · rw [hnmd] at q0
    have HNO := hideIt (HNM.out hnmd)
    clear hnmd
    go_wp2_with fail
    refine (implGot_any w12.heap.size _ _ X ps w12 HX12.out HU12.out (Nat.le_refl _)).mono ?_
    rintro e w13 ⟨r13, base13, K13, I13, rfl, _, _, hn13, hb13⟩
    rw [HNO.out]
    have HB13 := hideIt (HB12.out.trans (hb13.mono (by omega)))
    obtain ⟨a13, c13, e13⟩ := own_slice hn13.row
    obtain ⟨GL, hGL⟩ : ∃ GL, (gotNs X ps).length = GL := ⟨_, rfl⟩
    rw [hGL] at e13
    subst e13
    clear hn13 hb13 hGL
    go_wp2_with fail
    go_ret
    exact ⟨rfl, HB13.out⟩
  rw [hnmd] at q0
  have hpk := HPL2.out hnmd
  rw [hpk] at q2
  clear hnmd hpk
  rcases HFORM.out with ⟨rfl, hq0, hc0⟩ | ⟨g11, rfl⟩
  · subst hq0 hc0
    obtain rfl : k = 0 := by omega
    obtain ⟨AW, hAW⟩ : ∃ A : Addr, (if c10 = 1 then some (⟨g10, 0, none⟩ : Addr) else some ⟨g10, 1, none⟩) = some A := by split <;> exact ⟨_, rfl⟩
    have HC1 : Hid (∀ W, Below w12.heap.size w12 W → Calls Try.prog 21 #[.slice none 0 0, .slice (some ⟨g10, 0, none⟩) 0 c10] W fun e w' => e = .returned (.bool true) ∧ Below W.heap.size W w') := fun W hW => by
      refine (sameAll_off w12.heap.size _ _ 0 0 (fun _ => []) (fun _ => []) W (RowsO.none _ _ _ _ _) (RowsO.none _ _ _ _ _) hW.size).mono ?_
      rintro e w' ⟨⟨b, rfl, hb⟩, hbb⟩
      obtain rfl : b = true := hb.2 ⟨rfl, fun i hi => rfl⟩
      exact ⟨rfl, hbb⟩
    have HC2 : Hid (∀ W, Below w12.heap.size w12 W → Calls Try.prog 21 #[.slice none 0 0, .slice (some AW) (P - 1) (c10 - 1)] W fun e w' => e = .returned (.bool true) ∧ Below W.heap.size W w') := fun W hW => by
      rw [HQ.out]
      refine (sameAll_off w12.heap.size _ _ 0 0 (fun _ => []) (fun _ => []) W (RowsO.none _ _ _ _ _) (RowsO.none _ _ _ _ _) hW.size).mono ?_
      rintro e w' ⟨⟨b, rfl, hb⟩, hbb⟩
      obtain rfl : b = true := hb.2 ⟨rfl, fun i hi => rfl⟩
      exact ⟨rfl, hbb⟩
    have h1P : 1 ≤ P := by omega
    have h1c : 1 ≤ c10 := by omega
    have h1P' : (1 : Int) ≤ (P : Int) := by omega
    rw [Int.natCast_zero] at q2
    go_wp2_with fail
    have HD0 : Hid (Below w12.heap.size w12 w12.drew) := (Below.refl _ _).drew
    refine wp_region_any (by kernel_rfl) ?_
    change wpAny _ _ _ _ _ _ _ (World.drew _)
    refine wpAny_take (i := 0) (v := .slice none 0 0) rfl (by kernel_rfl) (by kernel_rfl) (by kernel_rfl) (fun _ _ _ h => h) (Or.inl ⟨by kernel_rfl, fun w => ?_⟩) ?_
    · go_simp
    refine wpAny_take (i := 1) (v := .pointer (some ⟨lb, 2, none⟩)) rfl (by kernel_rfl) (by kernel_rfl) (by kernel_rfl) (fun _ _ _ h => h) (Or.inl ⟨by kernel_rfl, fun w => ?_⟩) ?_
    · go_simp
    refine wpAny_take (i := 4) (v := .slice (some ⟨g10, 0, none⟩) P c10) rfl (by kernel_rfl) (by kernel_rfl) (by kernel_rfl) (fun _ _ _ h => h) (Or.inl ⟨by kernel_rfl, fun w => ?_⟩) ?_
    · go_simp
    refine wpAny_take (i := 5) (v := .pointer (some ⟨lb, 2, none⟩)) rfl (by kernel_rfl) (by kernel_rfl) (by kernel_rfl) (fun _ _ _ h => h) (Or.inl ⟨by kernel_rfl, fun w => ?_⟩) ?_
    · go_simp
    go_simp
    refine wpAny_ready (rs := [2, 6]) (by kernel_rfl) (by simp) ?_
    refine AllReady.cons rfl (fun K hK => ?_) (AllReady.cons rfl (fun K hK => ?_) AllReady.nil)
    · go_simp
      refine hK _ _ ?_
      clear hK K
      refine wpAny_take (i := 3) (v := .slice none 0 0) rfl (by kernel_rfl) (by kernel_rfl) (by kernel_rfl) (fun _ _ _ h => h) (Or.inl ⟨by kernel_rfl, fun w => ?_⟩) ?_
      · go_simp
      refine wpAny_ready (rs := [6]) (by kernel_rfl) (by simp) ?_
      refine AllReady.cons rfl (fun K hK => ?_) AllReady.nil
      go_simp
      refine hK _ _ ?_
      clear hK K
      refine wpAny_take (i := 7) (v := .slice (some ⟨g10, 0, none⟩) 0 c10) rfl (by kernel_rfl) (by kernel_rfl) (by kernel_rfl) (fun _ _ _ h => h) (Or.inl ⟨by kernel_rfl, fun w => ?_⟩) ?_
      · go_simp
      refine wpAny_ready (rs := [8]) (by kernel_rfl) (by simp) ?_
      refine AllReady.cons rfl (fun K hK => ?_) AllReady.nil
      refine step_call2 (by kernel_rfl) 21 (.tmp 144) (.tmp 148) 40 40 (by kernel_rfl) (.slice none 0 0) (.slice (some ⟨g10, 0, none⟩) 0 c10) (by kernel_rfl) (by kernel_rfl) (call_sameAllT _ _) (HC1.out _ HD0.out) ?_
      rintro e wA ⟨rfl, hbA⟩
      have HDA : Hid (Below w12.heap.size w12 wA) := HD0.out.trans (hbA.mono HD0.out.size)
      have q2A := (below_cell HDA.out hlb).trans q2
      clear hbA
      refine ⟨_, rfl, ?_⟩
      refine hK _ _ ?_
      clear hK K
      refine wpAny_take (i := 9) (v := .bool true) rfl (by kernel_rfl) (by kernel_rfl) (by kernel_rfl) (fun _ _ _ h => h) (Or.inl ⟨by kernel_rfl, fun w => ?_⟩) ?_
      · go_simp
      refine wpAny_take (i := 10) (v := .slice none 0 0) rfl (by kernel_rfl) (by kernel_rfl) (by kernel_rfl) (fun _ _ _ h => h) (Or.inl ⟨by kernel_rfl, fun w => ?_⟩) ?_
      · go_simp
      refine wpAny_take (i := 11) (v := .pointer (some ⟨lb, 2, none⟩)) rfl (by kernel_rfl) (by kernel_rfl) (by kernel_rfl) (fun _ _ _ h => h) (Or.inl ⟨by kernel_rfl, fun w => ?_⟩) ?_
      · go_simp
      refine wpAny_take (i := 14) (v := .slice (some ⟨g10, 0, none⟩) P c10) rfl (by kernel_rfl) (by kernel_rfl) (by kernel_rfl) (fun _ _ _ h => h) (Or.inl ⟨by kernel_rfl, fun w => ?_⟩) ?_
      · go_simp
      refine wpAny_take (i := 15) (v := .pointer (some ⟨lb, 2, none⟩)) rfl (by kernel_rfl) (by kernel_rfl) (by kernel_rfl) (fun _ _ _ h => h) (Or.inl ⟨by kernel_rfl, fun w => ?_⟩) ?_
      · go_simp
      go_simp
      refine wpAny_ready (rs := [12, 16]) (by kernel_rfl) (by simp) ?_
      refine AllReady.cons rfl (fun K hK => ?_) (AllReady.cons rfl (fun K hK => ?_) AllReady.nil)
      · go_simp
        refine hK _ _ ?_
        clear hK K
        refine wpAny_take (i := 13) (v := .slice none 0 0) rfl (by kernel_rfl) (by kernel_rfl) (by kernel_rfl) (fun _ _ _ h => h) (Or.inl ⟨by kernel_rfl, fun w => ?_⟩) ?_
        · go_simp
        refine wpAny_ready (rs := [16]) (by kernel_rfl) (by simp) ?_
        refine AllReady.cons rfl (fun K hK => ?_) AllReady.nil
        go_simp
        refine hK _ _ ?_
        clear hK K
        refine wpAny_take (i := 17) (v := .int .i64 1) rfl (by kernel_rfl) (by kernel_rfl) (by kernel_rfl) (fun _ _ _ h => h) (Or.inl ⟨by kernel_rfl, fun w => ?_⟩) ?_
        · go_simp
          exact i64_wrap (by omega) (by omega)
        refine wpAny_take (i := 18) (v := .slice (some AW) (P - 1) (c10 - 1)) rfl (by kernel_rfl) (by kernel_rfl) (by kernel_rfl) (fun _ _ _ h => h) (Or.inl ⟨by kernel_rfl, fun w => ?_⟩) ?_
        · go_simp
        refine wpAny_ready (rs := [19]) (by kernel_rfl) (by simp) ?_
        refine AllReady.cons rfl (fun K hK => ?_) AllReady.nil
        refine step_call2g (by kernel_rfl) 21 (.tmp 154) (.tmp 159) 40 40 (by kernel_rfl) (.slice none 0 0) (.slice (some AW) (P - 1) (c10 - 1)) (by kernel_rfl) (by kernel_rfl) (call_sameAllT _ _) (HC2.out _ HDA.out) ?_
        rintro e wB ⟨rfl, hbB⟩
        have HDB := hideIt (HB12.out.trans ((HDA.out.trans (hbB.mono HDA.out.size)).mono (by omega)))
        clear hbB
        refine ⟨_, rfl, ?_⟩
        refine hK _ _ ?_
        clear hK K
        refine wpAny_take (i := 20) (v := .bool true) rfl (by kernel_rfl) (by kernel_rfl) (by kernel_rfl) (fun _ _ _ h => h) (Or.inl ⟨by kernel_rfl, fun w => ?_⟩) ?_
        · go_simp
        refine wpAny_take (i := 21) (v := .bool true) rfl (by kernel_rfl) (by kernel_rfl) (by kernel_rfl) (fun _ _ _ h => h) (Or.inl ⟨by kernel_rfl, fun w => ?_⟩) ?_
        · go_simp
        go_simp
        refine wpAny_done (by kernel_rfl) ?_ _
        go_wp2_with fail
        go_ret
        exact ⟨rfl, HDB.out⟩
      · go_simp
        refine hK _ _ ?_
        clear hK K
        refine wpAny_take (i := 17) (v := .int .i64 1) rfl (by kernel_rfl) (by kernel_rfl) (by kernel_rfl) (fun _ _ _ h => h) (Or.inl ⟨by kernel_rfl, fun w => ?_⟩) ?_
        · go_simp
          exact i64_wrap (by omega) (by omega)
        refine wpAny_take (i := 18) (v := .slice (some AW) (P - 1) (c10 - 1)) rfl (by kernel_rfl) (by kernel_rfl) (by kernel_rfl) (fun _ _ _ h => h) (Or.inl ⟨by kernel_rfl, fun w => ?_⟩) ?_
        · go_simp
        refine wpAny_ready (rs := [12]) (by kernel_rfl) (by simp) ?_
        refine AllReady.cons rfl (fun K hK => ?_) AllReady.nil
        go_simp
        refine hK _ _ ?_
        clear hK K
        refine wpAny_take (i := 13) (v := .slice none 0 0) rfl (by kernel_rfl) (by kernel_rfl) (by kernel_rfl) (fun _ _ _ h => h) (Or.inl ⟨by kernel_rfl, fun w => ?_⟩) ?_
        · go_simp
        refine wpAny_ready (rs := [19]) (by kernel_rfl) (by simp) ?_
        refine AllReady.cons rfl (fun K hK => ?_) AllReady.nil
        refine step_call2g (by kernel_rfl) 21 (.tmp 154) (.tmp 159) 40 40 (by kernel_rfl) (.slice none 0 0) (.slice (some AW) (P - 1) (c10 - 1)) (by kernel_rfl) (by kernel_rfl) (call_sameAllT _ _) (HC2.out _ HDA.out) ?_
        rintro e wB ⟨rfl, hbB⟩
        have HDB := hideIt (HB12.out.trans ((HDA.out.trans (hbB.mono HDA.out.size)).mono (by omega)))
        clear hbB
        refine ⟨_, rfl, ?_⟩
        refine hK _ _ ?_
        clear hK K
        refine wpAny_take (i := 20) (v := .bool true) rfl (by kernel_rfl) (by kernel_rfl) (by kernel_rfl) (fun _ _ _ h => h) (Or.inl ⟨by kernel_rfl, fun w => ?_⟩) ?_
        · go_simp
        refine wpAny_take (i := 21) (v := .bool true) rfl (by kernel_rfl) (by kernel_rfl) (by kernel_rfl) (fun _ _ _ h => h) (Or.inl ⟨by kernel_rfl, fun w => ?_⟩) ?_
        · go_simp
        go_simp
        refine wpAny_done (by kernel_rfl) ?_ _
        go_wp2_with fail
        go_ret
        exact ⟨rfl, HDB.out⟩
    · go_simp
      refine hK _ _ ?_
      clear hK K
      refine wpAny_take (i := 7) (v := .slice (some ⟨g10, 0, none⟩) 0 c10) rfl (by kernel_rfl) (by kernel_rfl) (by kernel_rfl) (fun _ _ _ h => h) (Or.inl ⟨by kernel_rfl, fun w => ?_⟩) ?_
      · go_simp
      refine wpAny_ready (rs := [2]) (by kernel_rfl) (by simp) ?_
      refine AllReady.cons rfl (fun K hK => ?_) AllReady.nil
      go_simp
      refine hK _ _ ?_
      clear hK K
      refine wpAny_take (i := 3) (v := .slice none 0 0) rfl (by kernel_rfl) (by kernel_rfl) (by kernel_rfl) (fun _ _ _ h => h) (Or.inl ⟨by kernel_rfl, fun w => ?_⟩) ?_
      · go_simp
      refine wpAny_ready (rs := [8]) (by kernel_rfl) (by simp) ?_
      refine AllReady.cons rfl (fun K hK => ?_) AllReady.nil
      refine step_call2 (by kernel_rfl) 21 (.tmp 144) (.tmp 148) 40 40 (by kernel_rfl) (.slice none 0 0) (.slice (some ⟨g10, 0, none⟩) 0 c10) (by kernel_rfl) (by kernel_rfl) (call_sameAllT _ _) (HC1.out _ HD0.out) ?_
      rintro e wA ⟨rfl, hbA⟩
      have HDA : Hid (Below w12.heap.size w12 wA) := HD0.out.trans (hbA.mono HD0.out.size)
      have q2A := (below_cell HDA.out hlb).trans q2
      clear hbA
      refine ⟨_, rfl, ?_⟩
      refine hK _ _ ?_
      clear hK K
      refine wpAny_take (i := 9) (v := .bool true) rfl (by kernel_rfl) (by kernel_rfl) (by kernel_rfl) (fun _ _ _ h => h) (Or.inl ⟨by kernel_rfl, fun w => ?_⟩) ?_
      · go_simp
      refine wpAny_take (i := 10) (v := .slice none 0 0) rfl (by kernel_rfl) (by kernel_rfl) (by kernel_rfl) (fun _ _ _ h => h) (Or.inl ⟨by kernel_rfl, fun w => ?_⟩) ?_
      · go_simp
      refine wpAny_take (i := 11) (v := .pointer (some ⟨lb, 2, none⟩)) rfl (by kernel_rfl) (by kernel_rfl) (by kernel_rfl) (fun _ _ _ h => h) (Or.inl ⟨by kernel_rfl, fun w => ?_⟩) ?_
      · go_simp
      refine wpAny_take (i := 14) (v := .slice (some ⟨g10, 0, none⟩) P c10) rfl (by kernel_rfl) (by kernel_rfl) (by kernel_rfl) (fun _ _ _ h => h) (Or.inl ⟨by kernel_rfl, fun w => ?_⟩) ?_
      · go_simp
      refine wpAny_take (i := 15) (v := .pointer (some ⟨lb, 2, none⟩)) rfl (by kernel_rfl) (by kernel_rfl) (by kernel_rfl) (fun _ _ _ h => h) (Or.inl ⟨by kernel_rfl, fun w => ?_⟩) ?_
      · go_simp
      go_simp
      refine wpAny_ready (rs := [12, 16]) (by kernel_rfl) (by simp) ?_
      refine AllReady.cons rfl (fun K hK => ?_) (AllReady.cons rfl (fun K hK => ?_) AllReady.nil)
      · go_simp
        refine hK _ _ ?_
        clear hK K
        refine wpAny_take (i := 13) (v := .slice none 0 0) rfl (by kernel_rfl) (by kernel_rfl) (by kernel_rfl) (fun _ _ _ h => h) (Or.inl ⟨by kernel_rfl, fun w => ?_⟩) ?_
        · go_simp
        refine wpAny_ready (rs := [16]) (by kernel_rfl) (by simp) ?_
        refine AllReady.cons rfl (fun K hK => ?_) AllReady.nil
        go_simp
        refine hK _ _ ?_
        clear hK K
        refine wpAny_take (i := 17) (v := .int .i64 1) rfl (by kernel_rfl) (by kernel_rfl) (by kernel_rfl) (fun _ _ _ h => h) (Or.inl ⟨by kernel_rfl, fun w => ?_⟩) ?_
        · go_simp
          exact i64_wrap (by omega) (by omega)
        refine wpAny_take (i := 18) (v := .slice (some AW) (P - 1) (c10 - 1)) rfl (by kernel_rfl) (by kernel_rfl) (by kernel_rfl) (fun _ _ _ h => h) (Or.inl ⟨by kernel_rfl, fun w => ?_⟩) ?_
        · go_simp
        refine wpAny_ready (rs := [19]) (by kernel_rfl) (by simp) ?_
        refine AllReady.cons rfl (fun K hK => ?_) AllReady.nil
        refine step_call2g (by kernel_rfl) 21 (.tmp 154) (.tmp 159) 40 40 (by kernel_rfl) (.slice none 0 0) (.slice (some AW) (P - 1) (c10 - 1)) (by kernel_rfl) (by kernel_rfl) (call_sameAllT _ _) (HC2.out _ HDA.out) ?_
        rintro e wB ⟨rfl, hbB⟩
        have HDB := hideIt (HB12.out.trans ((HDA.out.trans (hbB.mono HDA.out.size)).mono (by omega)))
        clear hbB
        refine ⟨_, rfl, ?_⟩
        refine hK _ _ ?_
        clear hK K
        refine wpAny_take (i := 20) (v := .bool true) rfl (by kernel_rfl) (by kernel_rfl) (by kernel_rfl) (fun _ _ _ h => h) (Or.inl ⟨by kernel_rfl, fun w => ?_⟩) ?_
        · go_simp
        refine wpAny_take (i := 21) (v := .bool true) rfl (by kernel_rfl) (by kernel_rfl) (by kernel_rfl) (fun _ _ _ h => h) (Or.inl ⟨by kernel_rfl, fun w => ?_⟩) ?_
        · go_simp
        go_simp
        refine wpAny_done (by kernel_rfl) ?_ _
        go_wp2_with fail
        go_ret
        exact ⟨rfl, HDB.out⟩
      · go_simp
        refine hK _ _ ?_
        clear hK K
        refine wpAny_take (i := 17) (v := .int .i64 1) rfl (by kernel_rfl) (by kernel_rfl) (by kernel_rfl) (fun _ _ _ h => h) (Or.inl ⟨by kernel_rfl, fun w => ?_⟩) ?_
        · go_simp
          exact i64_wrap (by omega) (by omega)
        refine wpAny_take (i := 18) (v := .slice (some AW) (P - 1) (c10 - 1)) rfl (by kernel_rfl) (by kernel_rfl) (by kernel_rfl) (fun _ _ _ h => h) (Or.inl ⟨by kernel_rfl, fun w => ?_⟩) ?_
        · go_simp
        refine wpAny_ready (rs := [12]) (by kernel_rfl) (by simp) ?_
        refine AllReady.cons rfl (fun K hK => ?_) AllReady.nil
        go_simp
        refine hK _ _ ?_
        clear hK K
        refine wpAny_take (i := 13) (v := .slice none 0 0) rfl (by kernel_rfl) (by kernel_rfl) (by kernel_rfl) (fun _ _ _ h => h) (Or.inl ⟨by kernel_rfl, fun w => ?_⟩) ?_
        · go_simp
        refine wpAny_ready (rs := [19]) (by kernel_rfl) (by simp) ?_
        refine AllReady.cons rfl (fun K hK => ?_) AllReady.nil
        refine step_call2g (by kernel_rfl) 21 (.tmp 154) (.tmp 159) 40 40 (by kernel_rfl) (.slice none 0 0) (.slice (some AW) (P - 1) (c10 - 1)) (by kernel_rfl) (by kernel_rfl) (call_sameAllT _ _) (HC2.out _ HDA.out) ?_
        rintro e wB ⟨rfl, hbB⟩
        have HDB := hideIt (HB12.out.trans ((HDA.out.trans (hbB.mono HDA.out.size)).mono (by omega)))
        clear hbB
        refine ⟨_, rfl, ?_⟩
        refine hK _ _ ?_
        clear hK K
        refine wpAny_take (i := 20) (v := .bool true) rfl (by kernel_rfl) (by kernel_rfl) (by kernel_rfl) (fun _ _ _ h => h) (Or.inl ⟨by kernel_rfl, fun w => ?_⟩) ?_
        · go_simp
        refine wpAny_take (i := 21) (v := .bool true) rfl (by kernel_rfl) (by kernel_rfl) (by kernel_rfl) (fun _ _ _ h => h) (Or.inl ⟨by kernel_rfl, fun w => ?_⟩) ?_
        · go_simp
        go_simp
        refine wpAny_done (by kernel_rfl) ?_ _
        go_wp2_with fail
        go_ret
        exact ⟨rfl, HDB.out⟩
  · obtain ⟨j, hj⟩ : ∃ j, k + 1 = j := ⟨_, rfl⟩
    have HJ := hideIt hj
    obtain ⟨AN, hAN⟩ : ∃ A : Addr, (if c11 = k then some (⟨g11, 0, none⟩ : Addr) else some ⟨g11, k, none⟩) = some A := by split <;> exact ⟨_, rfl⟩
    obtain ⟨AW, hAW⟩ : ∃ A : Addr, (if c10 = j then some (⟨g10, 0, none⟩ : Addr) else some ⟨g10, j, none⟩) = some A := by split <;> exact ⟨_, rfl⟩
    have HC1 : Hid (∀ W, Below w12.heap.size w12 W → Calls Try.prog 21 #[.slice (some ⟨g11, 0, none⟩) k c11, .slice (some ⟨g10, 0, none⟩) k c10] W fun e w' => e = .returned (.bool true) ∧ Below W.heap.size W w') := fun W hW => by
      refine (sameAll_off w12.heap.size _ _ k k (fun i => PL Bn (0 + i)) (fun i => PL A (0 + i)) W ((HRB12.out.part (by omega) (fun _ => rfl)).below hW) ((HRA12.out.part (by omega) (fun _ => rfl)).below hW) hW.size).mono ?_
      rintro e w' ⟨⟨b, rfl, hb⟩, hbb⟩
      obtain rfl : b = true := hb.2 ⟨rfl, fun i hi => by
        have := HPLS.out (0 + i) (by omega)
        rw [if_pos (by omega)] at this
        exact this⟩
      exact ⟨rfl, hbb⟩
    have HC2 : Hid (∀ W, Below w12.heap.size w12 W → Calls Try.prog 21 #[.slice (some AN) (Q - k) (c11 - k), .slice (some AW) (P - j) (c10 - j)] W fun e w' => e = .returned (.bool true) ∧ Below W.heap.size W w') := fun W hW => by
      have hQQ := HQ.out
      refine (sameAll_off w12.heap.size _ _ (Q - k) (P - j) (fun i => PL Bn (k + i)) (fun i => PL A (j + i)) W ((HRB12.out.part (by omega) (fun hp => ?_)).below hW) ((HRA12.out.part (by omega) (fun hp => ?_)).below hW) hW.size).mono ?_
      · rw [← hAN, if_neg (by omega)]
      · rw [← hAW, if_neg (by omega)]
      rintro e w' ⟨⟨b, rfl, hb⟩, hbb⟩
      obtain rfl : b = true := hb.2 ⟨by omega, fun i hi => by
        have := HPLS.out (k + i) (by omega)
        rw [if_neg (by omega), show k + i + 1 = j + i by omega] at this
        exact this⟩
      exact ⟨rfl, hbb⟩
    have hjP : j ≤ P := by omega
    have hjc : j ≤ c10 := by omega
    have hkc : k ≤ c11 := by omega
    have hkc2 : k ≤ c10 := by omega
    have hkP' : k ≤ P := by omega
    have hji : (k : Int) + 1 = (j : Int) := by omega
    clear hj
    go_wp2_with fail
    have HD0 : Hid (Below w12.heap.size w12 w12.drew) := (Below.refl _ _).drew
    refine wp_region_any (by kernel_rfl) ?_
    change wpAny _ _ _ _ _ _ _ (World.drew _)
    refine wpAny_take (i := 0) (v := .slice (some ⟨g11, 0, none⟩) Q c11) rfl (by kernel_rfl) (by kernel_rfl) (by kernel_rfl) (fun _ _ _ h => h) (Or.inl ⟨by kernel_rfl, fun w => ?_⟩) ?_
    · go_simp
    refine wpAny_take (i := 1) (v := .pointer (some ⟨lb, 2, none⟩)) rfl (by kernel_rfl) (by kernel_rfl) (by kernel_rfl) (fun _ _ _ h => h) (Or.inl ⟨by kernel_rfl, fun w => ?_⟩) ?_
    · go_simp
    refine wpAny_take (i := 4) (v := .slice (some ⟨g10, 0, none⟩) P c10) rfl (by kernel_rfl) (by kernel_rfl) (by kernel_rfl) (fun _ _ _ h => h) (Or.inl ⟨by kernel_rfl, fun w => ?_⟩) ?_
    · go_simp
    refine wpAny_take (i := 5) (v := .pointer (some ⟨lb, 2, none⟩)) rfl (by kernel_rfl) (by kernel_rfl) (by kernel_rfl) (fun _ _ _ h => h) (Or.inl ⟨by kernel_rfl, fun w => ?_⟩) ?_
    · go_simp
    go_simp
    refine wpAny_ready (rs := [2, 6]) (by kernel_rfl) (by simp) ?_
    refine AllReady.cons rfl (fun K hK => ?_) (AllReady.cons rfl (fun K hK => ?_) AllReady.nil)
    · go_simp
      refine hK _ _ ?_
      clear hK K
      refine wpAny_take (i := 3) (v := .slice (some ⟨g11, 0, none⟩) k c11) rfl (by kernel_rfl) (by kernel_rfl) (by kernel_rfl) (fun _ _ _ h => h) (Or.inl ⟨by kernel_rfl, fun w => ?_⟩) ?_
      · go_simp
      refine wpAny_ready (rs := [6]) (by kernel_rfl) (by simp) ?_
      refine AllReady.cons rfl (fun K hK => ?_) AllReady.nil
      go_simp
      refine hK _ _ ?_
      clear hK K
      refine wpAny_take (i := 7) (v := .slice (some ⟨g10, 0, none⟩) k c10) rfl (by kernel_rfl) (by kernel_rfl) (by kernel_rfl) (fun _ _ _ h => h) (Or.inl ⟨by kernel_rfl, fun w => ?_⟩) ?_
      · go_simp
      refine wpAny_ready (rs := [8]) (by kernel_rfl) (by simp) ?_
      refine AllReady.cons rfl (fun K hK => ?_) AllReady.nil
      refine step_call2 (by kernel_rfl) 21 (.tmp 144) (.tmp 148) 40 40 (by kernel_rfl) (.slice (some ⟨g11, 0, none⟩) k c11) (.slice (some ⟨g10, 0, none⟩) k c10) (by kernel_rfl) (by kernel_rfl) (call_sameAllT _ _) (HC1.out _ HD0.out) ?_
      rintro e wA ⟨rfl, hbA⟩
      have HDA : Hid (Below w12.heap.size w12 wA) := HD0.out.trans (hbA.mono HD0.out.size)
      have q2A := (below_cell HDA.out hlb).trans q2
      clear hbA
      refine ⟨_, rfl, ?_⟩
      refine hK _ _ ?_
      clear hK K
      refine wpAny_take (i := 9) (v := .bool true) rfl (by kernel_rfl) (by kernel_rfl) (by kernel_rfl) (fun _ _ _ h => h) (Or.inl ⟨by kernel_rfl, fun w => ?_⟩) ?_
      · go_simp
      refine wpAny_take (i := 10) (v := .slice (some ⟨g11, 0, none⟩) Q c11) rfl (by kernel_rfl) (by kernel_rfl) (by kernel_rfl) (fun _ _ _ h => h) (Or.inl ⟨by kernel_rfl, fun w => ?_⟩) ?_
      · go_simp
      refine wpAny_take (i := 11) (v := .pointer (some ⟨lb, 2, none⟩)) rfl (by kernel_rfl) (by kernel_rfl) (by kernel_rfl) (fun _ _ _ h => h) (Or.inl ⟨by kernel_rfl, fun w => ?_⟩) ?_
      · go_simp
      refine wpAny_take (i := 14) (v := .slice (some ⟨g10, 0, none⟩) P c10) rfl (by kernel_rfl) (by kernel_rfl) (by kernel_rfl) (fun _ _ _ h => h) (Or.inl ⟨by kernel_rfl, fun w => ?_⟩) ?_
      · go_simp
      refine wpAny_take (i := 15) (v := .pointer (some ⟨lb, 2, none⟩)) rfl (by kernel_rfl) (by kernel_rfl) (by kernel_rfl) (fun _ _ _ h => h) (Or.inl ⟨by kernel_rfl, fun w => ?_⟩) ?_
      · go_simp
      go_simp
      refine wpAny_ready (rs := [12, 16]) (by kernel_rfl) (by simp) ?_
      refine AllReady.cons rfl (fun K hK => ?_) (AllReady.cons rfl (fun K hK => ?_) AllReady.nil)
      · go_simp
        refine hK _ _ ?_
        clear hK K
        refine wpAny_take (i := 13) (v := .slice (some AN) (Q - k) (c11 - k)) rfl (by kernel_rfl) (by kernel_rfl) (by kernel_rfl) (fun _ _ _ h => h) (Or.inl ⟨by kernel_rfl, fun w => ?_⟩) ?_
        · go_simp
        refine wpAny_ready (rs := [16]) (by kernel_rfl) (by simp) ?_
        refine AllReady.cons rfl (fun K hK => ?_) AllReady.nil
        go_simp
        refine hK _ _ ?_
        clear hK K
        refine wpAny_take (i := 17) (v := .int .i64 (j : Int)) rfl (by kernel_rfl) (by kernel_rfl) (by kernel_rfl) (fun _ _ _ h => h) (Or.inl ⟨by kernel_rfl, fun w => ?_⟩) ?_
        · go_simp
          exact i64_wrap (by omega) (by omega)
        refine wpAny_take (i := 18) (v := .slice (some AW) (P - j) (c10 - j)) rfl (by kernel_rfl) (by kernel_rfl) (by kernel_rfl) (fun _ _ _ h => h) (Or.inl ⟨by kernel_rfl, fun w => ?_⟩) ?_
        · go_simp
        refine wpAny_ready (rs := [19]) (by kernel_rfl) (by simp) ?_
        refine AllReady.cons rfl (fun K hK => ?_) AllReady.nil
        refine step_call2g (by kernel_rfl) 21 (.tmp 154) (.tmp 159) 40 40 (by kernel_rfl) (.slice (some AN) (Q - k) (c11 - k)) (.slice (some AW) (P - j) (c10 - j)) (by kernel_rfl) (by kernel_rfl) (call_sameAllT _ _) (HC2.out _ HDA.out) ?_
        rintro e wB ⟨rfl, hbB⟩
        have HDB := hideIt (HB12.out.trans ((HDA.out.trans (hbB.mono HDA.out.size)).mono (by omega)))
        clear hbB
        refine ⟨_, rfl, ?_⟩
        refine hK _ _ ?_
        clear hK K
        refine wpAny_take (i := 20) (v := .bool true) rfl (by kernel_rfl) (by kernel_rfl) (by kernel_rfl) (fun _ _ _ h => h) (Or.inl ⟨by kernel_rfl, fun w => ?_⟩) ?_
        · go_simp
        refine wpAny_take (i := 21) (v := .bool true) rfl (by kernel_rfl) (by kernel_rfl) (by kernel_rfl) (fun _ _ _ h => h) (Or.inl ⟨by kernel_rfl, fun w => ?_⟩) ?_
        · go_simp
        go_simp
        refine wpAny_done (by kernel_rfl) ?_ _
        go_wp2_with fail
        go_ret
        exact ⟨rfl, HDB.out⟩
      · go_simp
        refine hK _ _ ?_
        clear hK K
        refine wpAny_take (i := 17) (v := .int .i64 (j : Int)) rfl (by kernel_rfl) (by kernel_rfl) (by kernel_rfl) (fun _ _ _ h => h) (Or.inl ⟨by kernel_rfl, fun w => ?_⟩) ?_
        · go_simp
          exact i64_wrap (by omega) (by omega)
        refine wpAny_take (i := 18) (v := .slice (some AW) (P - j) (c10 - j)) rfl (by kernel_rfl) (by kernel_rfl) (by kernel_rfl) (fun _ _ _ h => h) (Or.inl ⟨by kernel_rfl, fun w => ?_⟩) ?_
        · go_simp
        refine wpAny_ready (rs := [12]) (by kernel_rfl) (by simp) ?_
        refine AllReady.cons rfl (fun K hK => ?_) AllReady.nil
        go_simp
        refine hK _ _ ?_
        clear hK K
        refine wpAny_take (i := 13) (v := .slice (some AN) (Q - k) (c11 - k)) rfl (by kernel_rfl) (by kernel_rfl) (by kernel_rfl) (fun _ _ _ h => h) (Or.inl ⟨by kernel_rfl, fun w => ?_⟩) ?_
        · go_simp
        refine wpAny_ready (rs := [19]) (by kernel_rfl) (by simp) ?_
        refine AllReady.cons rfl (fun K hK => ?_) AllReady.nil
        refine step_call2g (by kernel_rfl) 21 (.tmp 154) (.tmp 159) 40 40 (by kernel_rfl) (.slice (some AN) (Q - k) (c11 - k)) (.slice (some AW) (P - j) (c10 - j)) (by kernel_rfl) (by kernel_rfl) (call_sameAllT _ _) (HC2.out _ HDA.out) ?_
        rintro e wB ⟨rfl, hbB⟩
        have HDB := hideIt (HB12.out.trans ((HDA.out.trans (hbB.mono HDA.out.size)).mono (by omega)))
        clear hbB
        refine ⟨_, rfl, ?_⟩
        refine hK _ _ ?_
        clear hK K
        refine wpAny_take (i := 20) (v := .bool true) rfl (by kernel_rfl) (by kernel_rfl) (by kernel_rfl) (fun _ _ _ h => h) (Or.inl ⟨by kernel_rfl, fun w => ?_⟩) ?_
        · go_simp
        refine wpAny_take (i := 21) (v := .bool true) rfl (by kernel_rfl) (by kernel_rfl) (by kernel_rfl) (fun _ _ _ h => h) (Or.inl ⟨by kernel_rfl, fun w => ?_⟩) ?_
        · go_simp
        go_simp
        refine wpAny_done (by kernel_rfl) ?_ _
        go_wp2_with fail
        go_ret
        exact ⟨rfl, HDB.out⟩
    · go_simp
      refine hK _ _ ?_
      clear hK K
      refine wpAny_take (i := 7) (v := .slice (some ⟨g10, 0, none⟩) k c10) rfl (by kernel_rfl) (by kernel_rfl) (by kernel_rfl) (fun _ _ _ h => h) (Or.inl ⟨by kernel_rfl, fun w => ?_⟩) ?_
      · go_simp
      refine wpAny_ready (rs := [2]) (by kernel_rfl) (by simp) ?_
      refine AllReady.cons rfl (fun K hK => ?_) AllReady.nil
      go_simp
      refine hK _ _ ?_
      clear hK K
      refine wpAny_take (i := 3) (v := .slice (some ⟨g11, 0, none⟩) k c11) rfl (by kernel_rfl) (by kernel_rfl) (by kernel_rfl) (fun _ _ _ h => h) (Or.inl ⟨by kernel_rfl, fun w => ?_⟩) ?_
      · go_simp
      refine wpAny_ready (rs := [8]) (by kernel_rfl) (by simp) ?_
      refine AllReady.cons rfl (fun K hK => ?_) AllReady.nil
      refine step_call2 (by kernel_rfl) 21 (.tmp 144) (.tmp 148) 40 40 (by kernel_rfl) (.slice (some ⟨g11, 0, none⟩) k c11) (.slice (some ⟨g10, 0, none⟩) k c10) (by kernel_rfl) (by kernel_rfl) (call_sameAllT _ _) (HC1.out _ HD0.out) ?_
      rintro e wA ⟨rfl, hbA⟩
      have HDA : Hid (Below w12.heap.size w12 wA) := HD0.out.trans (hbA.mono HD0.out.size)
      have q2A := (below_cell HDA.out hlb).trans q2
      clear hbA
      refine ⟨_, rfl, ?_⟩
      refine hK _ _ ?_
      clear hK K
      refine wpAny_take (i := 9) (v := .bool true) rfl (by kernel_rfl) (by kernel_rfl) (by kernel_rfl) (fun _ _ _ h => h) (Or.inl ⟨by kernel_rfl, fun w => ?_⟩) ?_
      · go_simp
      refine wpAny_take (i := 10) (v := .slice (some ⟨g11, 0, none⟩) Q c11) rfl (by kernel_rfl) (by kernel_rfl) (by kernel_rfl) (fun _ _ _ h => h) (Or.inl ⟨by kernel_rfl, fun w => ?_⟩) ?_
      · go_simp
      refine wpAny_take (i := 11) (v := .pointer (some ⟨lb, 2, none⟩)) rfl (by kernel_rfl) (by kernel_rfl) (by kernel_rfl) (fun _ _ _ h => h) (Or.inl ⟨by kernel_rfl, fun w => ?_⟩) ?_
      · go_simp
      refine wpAny_take (i := 14) (v := .slice (some ⟨g10, 0, none⟩) P c10) rfl (by kernel_rfl) (by kernel_rfl) (by kernel_rfl) (fun _ _ _ h => h) (Or.inl ⟨by kernel_rfl, fun w => ?_⟩) ?_
      · go_simp
      refine wpAny_take (i := 15) (v := .pointer (some ⟨lb, 2, none⟩)) rfl (by kernel_rfl) (by kernel_rfl) (by kernel_rfl) (fun _ _ _ h => h) (Or.inl ⟨by kernel_rfl, fun w => ?_⟩) ?_
      · go_simp
      go_simp
      refine wpAny_ready (rs := [12, 16]) (by kernel_rfl) (by simp) ?_
      refine AllReady.cons rfl (fun K hK => ?_) (AllReady.cons rfl (fun K hK => ?_) AllReady.nil)
      · go_simp
        refine hK _ _ ?_
        clear hK K
        refine wpAny_take (i := 13) (v := .slice (some AN) (Q - k) (c11 - k)) rfl (by kernel_rfl) (by kernel_rfl) (by kernel_rfl) (fun _ _ _ h => h) (Or.inl ⟨by kernel_rfl, fun w => ?_⟩) ?_
        · go_simp
        refine wpAny_ready (rs := [16]) (by kernel_rfl) (by simp) ?_
        refine AllReady.cons rfl (fun K hK => ?_) AllReady.nil
        go_simp
        refine hK _ _ ?_
        clear hK K
        refine wpAny_take (i := 17) (v := .int .i64 (j : Int)) rfl (by kernel_rfl) (by kernel_rfl) (by kernel_rfl) (fun _ _ _ h => h) (Or.inl ⟨by kernel_rfl, fun w => ?_⟩) ?_
        · go_simp
          exact i64_wrap (by omega) (by omega)
        refine wpAny_take (i := 18) (v := .slice (some AW) (P - j) (c10 - j)) rfl (by kernel_rfl) (by kernel_rfl) (by kernel_rfl) (fun _ _ _ h => h) (Or.inl ⟨by kernel_rfl, fun w => ?_⟩) ?_
        · go_simp
        refine wpAny_ready (rs := [19]) (by kernel_rfl) (by simp) ?_
        refine AllReady.cons rfl (fun K hK => ?_) AllReady.nil
        refine step_call2g (by kernel_rfl) 21 (.tmp 154) (.tmp 159) 40 40 (by kernel_rfl) (.slice (some AN) (Q - k) (c11 - k)) (.slice (some AW) (P - j) (c10 - j)) (by kernel_rfl) (by kernel_rfl) (call_sameAllT _ _) (HC2.out _ HDA.out) ?_
        rintro e wB ⟨rfl, hbB⟩
        have HDB := hideIt (HB12.out.trans ((HDA.out.trans (hbB.mono HDA.out.size)).mono (by omega)))
        clear hbB
        refine ⟨_, rfl, ?_⟩
        refine hK _ _ ?_
        clear hK K
        refine wpAny_take (i := 20) (v := .bool true) rfl (by kernel_rfl) (by kernel_rfl) (by kernel_rfl) (fun _ _ _ h => h) (Or.inl ⟨by kernel_rfl, fun w => ?_⟩) ?_
        · go_simp
        refine wpAny_take (i := 21) (v := .bool true) rfl (by kernel_rfl) (by kernel_rfl) (by kernel_rfl) (fun _ _ _ h => h) (Or.inl ⟨by kernel_rfl, fun w => ?_⟩) ?_
        · go_simp
        go_simp
        refine wpAny_done (by kernel_rfl) ?_ _
        go_wp2_with fail
        go_ret
        exact ⟨rfl, HDB.out⟩
      · go_simp
        refine hK _ _ ?_
        clear hK K
        refine wpAny_take (i := 17) (v := .int .i64 (j : Int)) rfl (by kernel_rfl) (by kernel_rfl) (by kernel_rfl) (fun _ _ _ h => h) (Or.inl ⟨by kernel_rfl, fun w => ?_⟩) ?_
        · go_simp
          exact i64_wrap (by omega) (by omega)
        refine wpAny_take (i := 18) (v := .slice (some AW) (P - j) (c10 - j)) rfl (by kernel_rfl) (by kernel_rfl) (by kernel_rfl) (fun _ _ _ h => h) (Or.inl ⟨by kernel_rfl, fun w => ?_⟩) ?_
        · go_simp
        refine wpAny_ready (rs := [12]) (by kernel_rfl) (by simp) ?_
        refine AllReady.cons rfl (fun K hK => ?_) AllReady.nil
        go_simp
        refine hK _ _ ?_
        clear hK K
        refine wpAny_take (i := 13) (v := .slice (some AN) (Q - k) (c11 - k)) rfl (by kernel_rfl) (by kernel_rfl) (by kernel_rfl) (fun _ _ _ h => h) (Or.inl ⟨by kernel_rfl, fun w => ?_⟩) ?_
        · go_simp
        refine wpAny_ready (rs := [19]) (by kernel_rfl) (by simp) ?_
        refine AllReady.cons rfl (fun K hK => ?_) AllReady.nil
        refine step_call2g (by kernel_rfl) 21 (.tmp 154) (.tmp 159) 40 40 (by kernel_rfl) (.slice (some AN) (Q - k) (c11 - k)) (.slice (some AW) (P - j) (c10 - j)) (by kernel_rfl) (by kernel_rfl) (call_sameAllT _ _) (HC2.out _ HDA.out) ?_
        rintro e wB ⟨rfl, hbB⟩
        have HDB := hideIt (HB12.out.trans ((HDA.out.trans (hbB.mono HDA.out.size)).mono (by omega)))
        clear hbB
        refine ⟨_, rfl, ?_⟩
        refine hK _ _ ?_
        clear hK K
        refine wpAny_take (i := 20) (v := .bool true) rfl (by kernel_rfl) (by kernel_rfl) (by kernel_rfl) (fun _ _ _ h => h) (Or.inl ⟨by kernel_rfl, fun w => ?_⟩) ?_
        · go_simp
        refine wpAny_take (i := 21) (v := .bool true) rfl (by kernel_rfl) (by kernel_rfl) (by kernel_rfl) (fun _ _ _ h => h) (Or.inl ⟨by kernel_rfl, fun w => ?_⟩) ?_
        · go_simp
        go_simp
        refine wpAny_done (by kernel_rfl) ?_ _
        go_wp2_with fail
        go_ret
        exact ⟨rfl, HDB.out⟩
end Go.Proofs.Ytpakfgonemiebaa
