/-
  The law FnOthers: the call returns true and turns nothing that was there.
-/
import Derived.Test.YtpakfgonemiebaaTakQ
import Derived.Test.YtpakfgonemiebaaOthQ
import Derived.Test.YtpakfgonemiebaaOrdZ
import Derived.Test.YtpakfgonemiebaaPathQ
import Derived.Test.YtpakfgonemiebaaPathsP
import Derived.Test.YtpakfgonemiebaaDrPth
import Derived.Test.YtpakfgonemiebaaPhase
import Derived.Test.YtpakfgonemiebaaRows
import Derived.ProofKit
import Derived.OpenShut
import Derived.ShutString
import Derived.ChangeOld
import Derived.Below
namespace Go.Proofs.Ytpakfgonemiebaa
open Go.RowKit
set_option linter.unusedSimpArgs false
set_option linter.unusedVariables false

theorem NodesAt.onO {B : Nat} {w w' : World} {v : Value} {vs : List VN} (h : NodesAt B w v vs) (hB : B ≤ w.heap.size) (hb : Below w.heap.size w w') : NodesAt w'.heap.size w' v vs := (h.below (hb.mono hB)).wide (Nat.le_trans hB hb.size)
theorem StepsAt.onO {B : Nat} {w w' : World} {v : Value} {ps : List PS} (h : StepsAt B w v ps) (hB : B ≤ w.heap.size) (hb : Below w.heap.size w w') : StepsAt w'.heap.size w' v ps := (h.below (hb.mono hB)).wide (Nat.le_trans hB hb.size)
theorem own_capO {base e n k : Nat} {w : World} {a : Option Addr} {c : Nat} {xs : List Value} (h : w.ownsRow base e k (.slice a n c) n xs) : n ≤ c := by
  rcases h.2 with ⟨e1, e2⟩ | ⟨g', cap', cur, e1, _, _, h1, _⟩
  · simp only [Value.slice.injEq] at e1; omega
  · simp only [Value.slice.injEq] at e1
    obtain ⟨_, _, rfl⟩ := e1
    exact h1
theorem ins_maxO {base e n k : Nat} {w : World} {a : Option Addr} {c : Nat} {xs : List Value} (h : w.ownsRow base e k (.slice a n c) n xs) : c ≤ maxLen := by
  rcases h.2 with ⟨e1, e2⟩ | ⟨g', cap', cur, e1, _, _, _, h2, _⟩
  · simp only [Value.slice.injEq] at e1; unfold maxLen; omega
  · simp only [Value.slice.injEq] at e1
    obtain ⟨_, _, rfl⟩ := e1
    exact h2
/-- The first steps of a path. -/
theorem steps_cut {B : Nat} {w : World} {a : Option Addr} {N cap m : Nat} {ps : List PS} (h : StepsAt B w (.slice a N cap) ps) (hN : ps.length = N) (hm : m ≤ N) : StepsAt B w (.slice a m cap) (ps.take m) := by
  obtain ⟨h1, h2, a', cap', e, h3⟩ := h
  simp only [Value.slice.injEq] at e
  obtain ⟨rfl, _, rfl⟩ := e
  have hl : (ps.take m).length = m := by rw [List.length_take]; omega
  have hat : ∀ i, i < m → stepAt (ps.take m) i = stepAt ps i := fun i hi => by
    unfold stepAt
    rw [List.getD_eq_getElem?_getD, List.getD_eq_getElem?_getD, List.getElem?_take, if_pos hi]
  refine ⟨by omega, fun i hi => ?_, a, cap, by rw [hl], fun hp => ?_⟩
  · rw [hl] at hi; rw [hat i hi]; exact h2 i (by omega)
  · rw [hl] at hp
    obtain ⟨b, o, e, hb, hc⟩ := h3 (by omega)
    refine ⟨b, o, e, hb, fun i hi => ?_⟩
    rw [hl] at hi
    rw [hat i hi]
    exact hc i (by omega)
theorem call_samePathO (u v : Value) : ∀ w, (callFunc 16 #[u, v]).run Try.prog w = .ok (.enter 16 #[u, v]) w := fun w => by kernel_rfl

set_option maxRecDepth 100000 in
set_option maxHeartbeats 12800000 in
theorem lawFnOthers_walk (v : Value) (n : Nat) (w : World) (h : RawCode w v n) :
    Calls Try.prog 4 #[v] w fun e w' => e = .returned (.bool true) ∧ Below w.heap.size w w' := by
  obtain ⟨hn, a, cap, rfl, hc⟩ := h
  have HCL : Hid (n ≤ 1048576 → CodeAt w.heap.size w (.slice a n cap) n) := fun h => ⟨h, a, cap, rfl, hc⟩
  clear hc
  go_enter Try.func4, Try.ntmps4
  go_wp2_with fail
  refine (big_any a n cap w hn).mono ?_
  rintro e w1 ⟨rfl, rfl⟩
  by_cases hbig : 1048576 < n
  · go_wp2_with fail
    go_ret
    exact ⟨rfl, Below.refl _ _⟩
  have HC := hideIt (HCL.out (by omega))
  clear HCL
  go_wp2_with fail
  refine (drawLaid_any w1.heap.size _ n w1 HC.out (Nat.le_refl _)).mono ?_
  rintro e w2 ⟨r, vs, KV, IV, u, ps, r2, ws, KW, IW, rfl, hf1, hsh, hf2, hn1, ho1, hn2, hb2⟩
  have HF := hideIt (hf1.few (show 40 ≤ 80 by omega))
  have HFW := hideIt (hf2.few (show 80 ≤ 80 by omega))
  have HV2 := hideIt (hn1.nodes (by have : vs.length ≤ 40 := hf1.2.1; omega) HF.out.2)
  have HW2 := hideIt (hn2.nodes (by have : ws.length ≤ 80 := hf2.2.1; omega) HFW.out.2)
  have HU2 := hideIt (own_steps ho1 (hsh.wide (by omega)))
  have hpl : ps.length ≤ 1001 := hsh.1
  have HB2 := hideIt hb2
  have z2 := hb2.size
  have HTF := hideIt (laid_few vs ps ws)
  obtain ⟨ar, cr, er⟩ := own_slice hn1.row
  obtain ⟨L, hL⟩ : ∃ M, vs.length = M := ⟨_, rfl⟩
  rw [hL] at er
  subst er
  obtain ⟨az, cz, ez⟩ := own_slice hn2.row
  obtain ⟨MZ, hMZ⟩ : ∃ M, ws.length = M := ⟨_, rfl⟩
  rw [hMZ] at ez
  subst ez
  obtain ⟨au, cu, eu⟩ := own_slice ho1
  subst eu
  have hcu := own_capO ho1
  obtain ⟨N, hN⟩ : ∃ N, ps.length = N := ⟨_, rfl⟩
  have HNN := hideIt hN
  rw [hN] at hcu hpl HU2 ⊢
  have HOK : Hid (laidB vs ps ws = true → okB vs = true ∧ okB (laidNs vs ps ws) = true) := fun h => by
    obtain ⟨_, _, _, _, _, h5, _, _⟩ := laid_ok h
    exact ⟨h5, (laid_got h).2.2.2.2⟩
  have HOT : Hid (laidB vs ps ws = true → ∀ q, gotB vs q = true → ps.take (min ps.length q.length) ≠ q.take (min ps.length q.length) → gotB (laidNs vs ps ws) q = true ∧ gotNs (laidNs vs ps ws) q = gotNs vs q) := fun h q => others_say h
  obtain ⟨LB, hLB⟩ : ∃ LB, laidB vs ps ws = LB := ⟨_, rfl⟩
  obtain ⟨X, hX⟩ : ∃ X, laidNs vs ps ws = X := ⟨_, rfl⟩
  rw [hLB, hX] at HOK HOT
  rw [hX] at HTF
  have HLB := hideIt hLB
  have HX := hideIt hX
  have HL := hideIt hL
  obtain ⟨XL, hXL⟩ : ∃ XL, X.length = XL := ⟨_, rfl⟩
  have HXL := hideIt hXL
  clear hf1 hsh hf2 hn1 hn2 ho1 hb2 hL hMZ hN hLB hX hXL HC
  go_wp2_with fail
  refine (implLaid_any w2.heap.size _ _ _ vs ps ws w2 HV2.out HU2.out (fun _ _ _ e => by cases e; exact hcu) HW2.out (Nat.le_refl _)).mono ?_
  rintro e w3 ⟨r3, base3, K3, I3, rfl, _, _, hn3, hb3⟩
  rw [HX.out] at hn3
  rw [HLB.out]
  have HX3 := hideIt (hn3.nodes (Nat.le_trans HTF.out.1.1 (by omega)) HTF.out.2)
  have HV3 := hideIt (HV2.out.onO (Nat.le_refl _) hb3)
  have HW3 := hideIt (HW2.out.onO (Nat.le_refl _) hb3)
  have HU3 := hideIt (HU2.out.onO (Nat.le_refl _) hb3)
  have HB3 := hideIt (HB2.out.trans (hb3.mono z2))
  have z3 := hb3.size
  obtain ⟨a3, c3, e3⟩ := own_slice hn3.row
  rw [HXL.out] at e3
  subst e3
  clear hn3 hb3 HV2 HU2 HW2
  go_wp2_with fail
  refine (specLaid_any w3.heap.size _ _ _ vs ps ws w3 HV3.out HU3.out (fun _ _ _ e => by cases e; exact hcu) HW3.out (Nat.le_refl _)).mono ?_
  rintro e w4 ⟨r4, base4, K4, I4, rfl, _, hn4, hb4⟩
  rw [HX.out] at hn4
  rw [HLB.out]
  have HX4 := hideIt (HX3.out.onO (Nat.le_refl _) hb4)
  have HV4 := hideIt (HV3.out.onO (Nat.le_refl _) hb4)
  have HU4 := hideIt (HU3.out.onO (Nat.le_refl _) hb4)
  have HB4 := hideIt (HB3.out.trans (hb4.mono (by omega)))
  have z4 := hb4.size
  obtain ⟨a4, c4, e4⟩ := own_slice hn4.row
  rw [HXL.out] at e4
  subst e4
  clear hn4 hb4 HV3 HU3 HX3 HW3
  have hne : (LB != LB) = false := by simp
  have heq : (LB == LB) = true := by simp
  cases LB
  · go_wp2_with fail
    go_ret
    exact ⟨rfl, HB4.out⟩
  obtain ⟨hok, hokX⟩ := HOK.out rfl
  have HOTH := hideIt (HOT.out rfl)
  have HOKV := hideIt hok
  go_wp2_with fail
  refine (implPathsOf_any w4.heap.size _ vs w4 HV4.out (Nat.le_refl _)).mono ?_
  rintro e w5 ⟨r5, base5, rs5, lo5, rfl, hbase5, hrow5, hb5⟩
  have HX5 := hideIt (HX4.out.onO (Nat.le_refl _) hb5)
  have HV5 := hideIt (HV4.out.onO (Nat.le_refl _) hb5)
  have HU5 := hideIt (HU4.out.onO (Nat.le_refl _) hb5)
  have HB5 := hideIt (HB4.out.trans (hb5.mono (by omega)))
  have z5 := hb5.size
  obtain ⟨a5, c5, e5⟩ := own_slice hrow5.row
  obtain ⟨M, hM⟩ : ∃ M, (pathsLs vs).length = M := ⟨_, rfl⟩
  have h80 : M ≤ 80 := by rw [← hM]; exact pathsLs_le vs
  rw [hM] at e5
  subst e5
  have HM := hideIt hM
  have HR5 : Hid (0 < M → ∃ g, a5 = some ⟨g, 0, none⟩ ∧ g < w5.heap.size ∧ ∀ k, k < M → ∃ aS cS, w5.cell? ⟨g, k, none⟩ = some (.slice aS (rowP (pathsLs vs) k).length cS) ∧ (rowP (pathsLs vs) k).length ≤ cS ∧ cS ≤ maxLen ∧ StepsAt w5.heap.size w5 (.slice aS (rowP (pathsLs vs) k).length cS) (rowP (pathsLs vs) k)) := fun hp => by
    have hrow := hrow5.row
    rw [hM] at hrow
    obtain ⟨g, capg, eg, _, hg⟩ := hrow.form hp
    simp only [Value.slice.injEq] at eg
    obtain ⟨rfl, _, rfl⟩ := eg
    refine ⟨g, rfl, hg, fun k hk => ?_⟩
    have hown := hrow5.own k (by rw [hM]; exact hk)
    obtain ⟨aS, cS, eS⟩ := own_slice hown
    refine ⟨aS, cS, ?_, own_capO (eS ▸ hown), ins_maxO (eS ▸ hown), ?_⟩
    · rw [hrow.cellAt k (by omega)]
      simp [hk, eS]
    · have := own_steps hown ((pathsLs_short vs k (by rw [hM]; exact hk)).wide (by omega))
      rw [eS] at this
      exact this
  have HPL : Hid (pathsLs vs = pathsN vs vs.length (vs.length - 1) []) := if_pos hok
  have hML : M = L := by
    rw [← HM.out, ← HL.out, HPL.out, ← pn_paths vs, List.length_map]
    exact pnAll_length hok
  subst hML
  have h1 : 1 ≤ M := by rw [← HL.out]; exact (okB_parts hok).1.1
  have HROW : Hid (∀ i, i < M → rowP (pathsLs vs) i = (pnAt vs i).1) := fun i hi => by
    rw [HPL.out]
    exact pnAll_rows HOKV.out (by rw [HL.out]; exact hi)
  clear hrow5 hb5 hM hok hokX HV4 HU4 HX4 HOK HOT
  go_wp2_with fail
  go_loopw [11] (fun i wr => ∃ (k : Nat), k ≤ M ∧ i = .int .i64 k ∧ Below w5.heap.size w5 wr) (fun i _ => M - (intOf i).toNat)
  case atStart => exact ⟨0, Nat.zero_le _, rfl, Below.refl _ _⟩
  case round =>
    obtain ⟨k, hk, rfl, hbel⟩ := hrel
    by_cases hlt : k < M
    case neg =>
      go_wp2_with fail
      go_ret
      exact ⟨rfl, HB5.out.trans (hbel.mono (by omega))⟩
    case pos =>
    obtain ⟨g3, rfl, hg3, hc3⟩ := HR5.out (by omega)
    obtain ⟨aS, cS, d3, hcS, hcM, hs3⟩ := hc3 k hlt
    have HS3 := hideIt hs3
    clear hc3 hs3
    have hzr := hbel.size
    have f3 := (below_cell hbel hg3).trans d3
    clear d3
    obtain ⟨Q, hQ⟩ : ∃ Q, rowP (pathsLs vs) k = Q := ⟨_, rfl⟩
    rw [hQ] at hcS HS3 f3
    obtain ⟨SL, hSL⟩ : ∃ SL, Q.length = SL := ⟨_, rfl⟩
    rw [hSL] at hcS HS3 f3
    unfold maxLen at hcM
    have HSL := hideIt hSL
    obtain ⟨g1, g2, g3', g4'⟩ := pnAt_says HOKV.out (i := k) (by rw [HL.out]; exact hlt)
    have e0 : (pnAt vs k).1 = Q := by rw [← hQ]; exact (HROW.out k hlt).symm
    rw [e0] at g1 g2 g3'
    have HPB := hideIt g1
    have HGB := hideIt g2
    have HGN := hideIt g3'
    have HMK := hideIt g4'
    have hSL10 : SL ≤ 10 := by rw [← hSL]; exact path_10 g1
    clear g1 g2 g3' g4' e0 hQ hSL
    obtain ⟨m, hm⟩ : ∃ m, min N SL = m := ⟨_, rfl⟩
    have hmi : min (N : Int) (SL : Int) = (m : Int) := by omega
    have hmN : m ≤ N := by omega
    have hmS : m ≤ SL := by omega
    have HMIN : Hid (min ps.length Q.length = m) := by rw [Hid, HNN.out, HSL.out]; exact hm
    have hmcu : m ≤ cu := by omega
    have hmcS : m ≤ cS := by omega
    clear hm
    have HSP := hideIt (samePath_any w5.heap.size (.slice au m cu) (.slice aS m cS) (ps.take m) (Q.take m) wr.drew (steps_cut (HU5.out.below (hbel.trans ((Below.refl _ _).drew.mono (by omega)))) HNN.out hmN) (steps_cut (HS3.out.below (hbel.trans ((Below.refl _ _).drew.mono (by omega)))) HSL.out hmS) hzr)
    go_wp2_with fail
    refine wp_region_any (by kernel_rfl) ?_
    change wpAny _ _ _ _ _ _ _ (World.drew _)
    refine wpAny_take (i := 0) (v := .slice au N cu) rfl (by kernel_rfl) (by kernel_rfl) (by kernel_rfl) (fun _ _ _ h => h) (Or.inl ⟨by kernel_rfl, fun w => ?_⟩) ?_
    · go_simp
    refine wpAny_take (i := 1) (v := .int .i64 (m : Int)) rfl (by kernel_rfl) (by kernel_rfl) (by kernel_rfl) (fun _ _ _ h => h) (Or.inl ⟨by kernel_rfl, fun w => ?_⟩) ?_
    · go_simp
    refine wpAny_take (i := 2) (v := .slice au m cu) rfl (by kernel_rfl) (by kernel_rfl) (by kernel_rfl) (fun _ _ _ h => h) (Or.inl ⟨by kernel_rfl, fun w => ?_⟩) ?_
    · go_simp
    refine wpAny_take (i := 3) (v := .slice aS SL cS) rfl (by kernel_rfl) (by kernel_rfl) (by kernel_rfl) (fun _ _ _ h => h) (Or.inl ⟨by kernel_rfl, fun w => ?_⟩) ?_
    · go_simp
    refine wpAny_take (i := 4) (v := .int .i64 (m : Int)) rfl (by kernel_rfl) (by kernel_rfl) (by kernel_rfl) (fun _ _ _ h => h) (Or.inl ⟨by kernel_rfl, fun w => ?_⟩) ?_
    · go_simp
    refine wpAny_take (i := 5) (v := .slice aS m cS) rfl (by kernel_rfl) (by kernel_rfl) (by kernel_rfl) (fun _ _ _ h => h) (Or.inl ⟨by kernel_rfl, fun w => ?_⟩) ?_
    · go_simp
    refine wpAny_ready (rs := [6]) (by kernel_rfl) (by simp) ?_
    refine AllReady.cons rfl (fun K hK => ?_) AllReady.nil
    refine step_call2p (by kernel_rfl) 16 (.tmp 69) (.tmp 72) 25 25 (by kernel_rfl) (.slice au m cu) (.slice aS m cS) (by kernel_rfl) (by kernel_rfl) (call_samePathO _ _) HSP.out ?_
    rintro e w6 ⟨⟨b, rfl, hbb⟩, hb6⟩
    have HBB := hideIt hbb
    have HB6 : Hid (Below w5.heap.size w5 w6) := hbel.trans (((Below.refl wr.heap.size wr).drew.trans hb6).mono hzr)
    refine .inl ⟨_, rfl, ?_⟩
    refine hK _ _ ?_
    clear hK K hbb hb6
    refine wpAny_take (i := 7) (v := .bool b) rfl (by kernel_rfl) (by kernel_rfl) (by kernel_rfl) (fun _ _ _ h => h) (Or.inl ⟨by kernel_rfl, fun w => ?_⟩) ?_
    · go_simp
    cases b
    · have HNE : Hid (ps.take m ≠ Q.take m) := fun e => by have := HBB.out.2 e; cases this
      refine wpAny_take (i := 8) (v := .slice aS SL cS) rfl (by kernel_rfl) (by kernel_rfl) (by kernel_rfl) (fun _ _ _ h => h) (Or.inl ⟨by kernel_rfl, fun w => ?_⟩) ?_
      · go_simp
      refine wpAny_take (i := 9) (v := .int .i64 (SL : Int)) rfl (by kernel_rfl) (by kernel_rfl) (by kernel_rfl) (fun _ _ _ h => h) (Or.inl ⟨by kernel_rfl, fun w => ?_⟩) ?_
      · go_simp
      refine wpAny_take (i := 10) (v := .bool false) rfl (by kernel_rfl) (by kernel_rfl) (by kernel_rfl) (fun _ _ _ h => h) (Or.inl ⟨by kernel_rfl, fun w => ?_⟩) ?_
      · go_simp
        omega
      refine wpAny_take (i := 11) (v := .bool false) rfl (by kernel_rfl) (by kernel_rfl) (by kernel_rfl) (fun _ _ _ h => h) (Or.inl ⟨by kernel_rfl, fun w => ?_⟩) ?_
      · go_simp
      go_simp
      refine wpAny_done (by kernel_rfl) ?_ _
      obtain ⟨o1, o2⟩ := HOTH.out Q HGB.out (by rw [HMIN.out]; exact HNE.out)
      have HO1 := hideIt o1
      have HO2 := hideIt o2
      have HPF : Hid (gotNs vs Q = partOf vs (pnAt vs k).2) := HGN.out
      have HFT : Hid (∀ i, i < vs.length → Fits (nodeAt vs i)) := HF.out.2
      have HPT := hideIt (part_fits HOKV.out HFT.out HMK.out)
      have HP80 := hideIt (lay_part HOKV.out (Nat.lt_succ_self _) HMK.out).2
      have z6 := HB6.out.size
      clear o1 o2 f3
      go_wp2_with fail
      refine (implGot_any w5.heap.size _ _ vs Q w6 (HV5.out.below HB6.out) (HS3.out.below HB6.out) z6).mono ?_
      rintro e w7 ⟨r7, base7, K7, I7, rfl, _, _, hn7, hb7⟩
      rw [HGB.out]
      rw [HPF.out] at hn7
      have HA7 := hideIt (hn7.nodes (by have := HP80.out; omega) (fun i hi => (HPT.out i hi).1))
      have HB7 := hideIt (HB6.out.trans (hb7.mono z6))
      have z7 := hb7.size
      obtain ⟨a7, c7, e7⟩ := own_slice hn7.row
      obtain ⟨L7, hL7⟩ : ∃ L7, (partOf vs (pnAt vs k).2).length = L7 := ⟨_, rfl⟩
      rw [hL7] at e7
      subst e7
      have HL7 := hideIt hL7
      clear hn7 hb7 hL7
      go_wp2_with fail
      refine (implGot_any w5.heap.size _ _ X Q w7 (HX5.out.below HB7.out) (HS3.out.below HB7.out) (by omega)).mono ?_
      rintro e w8 ⟨r8, base8, K8, I8, rfl, _, _, hn8, hb8⟩
      rw [HO1.out]
      rw [HO2.out, HPF.out] at hn8
      have HA8 := hideIt (HA7.out.onO (Nat.le_refl _) hb8)
      have HY8 := hideIt (hn8.nodes (by have := HP80.out; omega) (fun i hi => (HPT.out i hi).1))
      have HB8 := hideIt (HB7.out.trans (hb8.mono (by omega)))
      have z8 := hb8.size
      obtain ⟨a8, c8, e8⟩ := own_slice hn8.row
      rw [HL7.out] at e8
      subst e8
      clear hn8 hb8
      go_wp2_with fail
      refine (same_any w8.heap.size _ _ _ _ w8 HA8.out HY8.out (Nat.le_refl _)).mono ?_
      rintro e w9 ⟨⟨b9, rfl, hb9'⟩, hb9⟩
      obtain rfl : b9 = true := hb9'.2 rfl
      have HB9 := hideIt (HB8.out.trans (hb9.mono (by omega)))
      clear hb9' hb9
      go_wp2_with fail
      go_roundw
      case rel => exact ⟨k + 1, by omega, by go_num, HB9.out⟩
      case measure => simp [intOf]; omega
    · refine wpAny_take (i := 8) (v := undef) rfl (by kernel_rfl) (by kernel_rfl) (by kernel_rfl) (fun _ _ _ h => h) (Or.inr ⟨by kernel_rfl, rfl⟩) ?_
      refine wpAny_take (i := 9) (v := undef) rfl (by kernel_rfl) (by kernel_rfl) (by kernel_rfl) (fun _ _ _ h => h) (Or.inr ⟨by kernel_rfl, rfl⟩) ?_
      refine wpAny_take (i := 10) (v := undef) rfl (by kernel_rfl) (by kernel_rfl) (by kernel_rfl) (fun _ _ _ h => h) (Or.inr ⟨by kernel_rfl, rfl⟩) ?_
      refine wpAny_take (i := 11) (v := .bool true) rfl (by kernel_rfl) (by kernel_rfl) (by kernel_rfl) (fun _ _ _ h => h) (Or.inl ⟨by kernel_rfl, fun w => ?_⟩) ?_
      · go_simp
      go_simp
      refine wpAny_done (by kernel_rfl) ?_ _
      go_wp2_with fail
      go_roundw
      case rel => exact ⟨k + 1, by omega, by go_num, HB6.out⟩
      case measure => simp [intOf]; omega
end Go.Proofs.Ytpakfgonemiebaa

/-
  PROVED: for every code of bytes the law FnOthers returns true: what is laid at one path changes nothing of what stands at a path that does not begin with it nor it with that. No condition beyond the row's own.
-/
namespace Go.Proofs.Ytpakfgonemiebaa
open Go.ChangeShapes Go.WideShapes Go.ChangeAt Go.RowKit
set_option linter.unusedVariables false

theorem fnOthers_own : ownKnob Try.prog.godebug = none := by kernel_rfl
theorem fnOthers_laidOut : laidOutB Try.prog = true := by kernel_rfl
set_option maxRecDepth 100000 in
theorem fnOthers_lifted (os : Os) (started : os.Started) (H : Type) (enc : TypeId × Value → H) :
    ReturnsInHanded {} Try.checked os 4 .any (Rows.fnOthersSpec.pre6 enc Try.prog Try.f4 Rows.fnOthersRow.domain false) (Rows.fnOthersSpec.post enc Try.prog Try.f4 false true false false) := by
  refine returnsInHanded_of_change (C := Try.checked) fnOthers_own started (by kernel_rfl) Try.func4
    (ChangeSpec.witness6 (enc := enc) (C := Try.checked) false ⟨#[], #[.slice none 0 0], []⟩ 8 (by kernel_rfl) (by kernel_rfl) (by kernel_rfl) (by kernel_rfl)) ?_
  intro W base args ds gs before hval0 hW hcnd _
  have hval : ∀ (j : Nat) t v, Try.f4.params[j]? = some t → args[j]? = some v → Value.okWide Try.prog W .any base t v := hval0
  have hW' := hW
  obtain ⟨p, q, hA0, hV, rfl, hfz, hnd⟩ := hW
  have hA : DataW.TrodAll enc Try.prog W 0 (fun _ => true) true Try.f4.params.toList args.toList ds p := hA0
  rw [Try.params4] at hA hval
  obtain ⟨v0, vs0, d0, ds0, p0, q0, hargs, rfl, rfl, h0, r0⟩ := trodAll_cons hA
  obtain ⟨rfl, rfl, rfl⟩ := trodAll_nil r0
  obtain rfl : args = #[v0] := by cases args; simp_all
  obtain ⟨rfl, rfl⟩ := trodVars_none hV
  obtain ⟨a0, len0, cap0, rfl⟩ := okWide_slice Try.underlying22 (hval 0 22 v0 rfl rfl)
  have k0 := h0
  have lt0 : ∀ x ∈ p0, x.block < W.heap.size := by obtain ⟨m, hm⟩ := k0; exact DataW.trod_lt m _ _ _ hm
  obtain ⟨n, w0⟩ : ∃ n, RawCode W (.slice a0 len0 cap0) n := by
    obtain ⟨fuel, hf⟩ := h0
    exact raw_code (by simpa [Value.cells] using hf)
  clear hA0 hval0
  refine (lawFnOthers_walk (.slice a0 len0 cap0) n W w0).mono fun e W' ⟨he, bel⟩ => ?_
  subst he
  exact ⟨_, rfl, _, _, _, [], _, [], hW', trodAll_mk1 (shut_bool Try.underlying4 _), (trodAll_cons_mk (Below.trod fnOthers_laidOut (by kernel_rfl) (of_decide_eq_true (by kernel_rfl)) k0 bel lt0) trodAll_mk0), rfl, bel.frame _, fun h => by cases h⟩

theorem fnOthers_holds : Rows.FnOthersSaid :=
  OpenClaim.holds_of_wide 4 Try.f4 rfl rfl rfl rfl rfl rfl rfl ⟨rfl, rfl, rfl, rfl, rfl⟩ rfl rfl rfl rfl rfl (by kernel_rfl) Try.func4 (by kernel_rfl)
    (of_decide_eq_true (by kernel_rfl)) (by unfold Func.isWrapper; first | (rw [if_pos (by decide +kernel)]; kernel_rfl) | (rw [if_neg (by decide +kernel)]; exact ⟨rfl, rfl⟩))
    (fun os started H enc _ => fnOthers_lifted os started H enc)
#print axioms fnOthers_holds
end Go.Proofs.Ytpakfgonemiebaa
