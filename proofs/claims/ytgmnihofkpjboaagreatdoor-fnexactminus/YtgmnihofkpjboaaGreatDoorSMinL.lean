/-
  spec.l8Minus at two lists.
-/
import Derived.Test.YtgmnihofkpjboaaGreatDoorSMin
namespace Go.Proofs.YtgmnihofkpjboaaGreatDoor
open Go.RowKit
set_option linter.unusedSimpArgs false
set_option linter.unusedVariables false

theorem hit_ord {us vs : List VN} (h1 : okB us = true) (h2 : okB vs = true) {i k : Nat} (hi : i < (rootKids us).length) (hk : k < (rootKids vs).length) : okB (PL us i) = true ∧ okB (PL vs k) = true ∧ ord (PL us i) (PL vs k) (PL us i).length ((PL us i).length - 1) ((PL vs k).length - 1) = orderOf (PL us i) (PL vs k) := by
  have a := allB_yes (parts_ok h1).1 i hi
  have b := allB_yes (parts_ok h2).1 k hk
  exact ⟨a, b, (orderOf_yes a b).symm⟩

set_option maxRecDepth 100000 in
set_option maxHeartbeats 12800000 in
theorem l8Minus_list (B : Nat) (v1 v2 : Value) (us vs : List VN) (w : World) (hn1 : NodesAt B w v1 us) (hn2 : NodesAt B w v2 vs) (hB : B ≤ w.heap.size) (ok1 : okB us = true) (ok2 : okB vs = true) (hk1 : (rootN us).kind = 5) (hk2 : (rootN vs).kind = 5) :
    Calls Tryz.prog 13 #[v1, v2] w fun e w' => ∃ r base KV IV, e = .returned (.tuple #[r, .int .i64 (minC us vs)]) ∧ w.heap.size ≤ base ∧ Nest base w' r (minNs us vs) KV IV ∧ Below w.heap.size w w' := by
  have HV1 := hideIt hn1
  have HV2 := hideIt hn2
  have HM := hideIt (min_list ok1 ok2 ⟨hk1, hk2⟩)
  have HLF := hideIt (left_few ok1 hk1 vs hn1.fits)
  have HLO := hideIt (left_ok ok1 vs)
  have HPF1 := hideIt (PL_few hn1.fits)
  have HPF2 := hideIt (PL_few hn2.fits)
  have HPN1 : Hid (partsN us = (rootKids us).length) := by unfold Hid partsN; rw [if_pos ok1]
  have HPN2 : Hid (partsN vs = (rootKids vs).length) := by unfold Hid partsN; rw [if_pos ok2]
  rw [HPN1.out] at HPF1
  rw [HPN2.out] at HPF2
  have HOK1 := hideIt ok1
  have HOK2 := hideIt ok2
  have HHO : Hid (∀ i k, i < (rootKids us).length → k < (rootKids vs).length → okB (PL us i) = true ∧ okB (PL vs k) = true ∧ ord (PL us i) (PL vs k) (PL us i).length ((PL us i).length - 1) ((PL vs k).length - 1) = orderOf (PL us i) (PL vs k)) := fun i k hi hk => hit_ord ok1 ok2 hi hk
  have HLN : Hid (leftNs us vs = makeNs 5 [] (leftL us vs) (leftIx us vs (rootKids us).length).length) := rfl
  have HLX := hideIt (fun i => leftIx_lt us vs i)
  have HLS : Hid (∀ i, leftIx us vs (i + 1) = if anyTo (hitB us vs i) (rootKids vs).length = true then leftIx us vs i else leftIx us vs i ++ [i]) := fun i => rfl
  have HLL : Hid (leftL us vs = fun j => PL us ((leftIx us vs (rootKids us).length).getD j 0)) := rfl
  obtain ⟨i0, hi0, hz0, hs0, hy0⟩ := info_parts info_row
  obtain ⟨p1a, p1b⟩ := (okB_parts ok1).1
  obtain ⟨p2a, p2b⟩ := (okB_parts ok2).1
  obtain ⟨b1, o1, c1, aK1, nK1, cK1, aI1, nI1, cI1, e1, hb1, u1, u2, d0, d1, d2, d3, d4⟩ := root_cells hn1 (by omega)
  clear u1 u2
  subst e1
  obtain ⟨b2, o2, c2, aK2, nK2, cK2, aI2, nI2, cI2, e1, hb2, u1, u2, g0, g1, g2, g3, g4⟩ := root_cells hn2 (by omega)
  clear u1 u2
  subst e1
  obtain ⟨N1, hN1⟩ : ∃ N1, us.length = N1 := ⟨_, rfl⟩
  obtain ⟨N2, hN2⟩ : ∃ N2, vs.length = N2 := ⟨_, rfl⟩
  rw [hN1] at p1a p1b d0 d1 d2 d3 d4 HV1 ⊢
  rw [hN2] at p2a p2b g0 g1 g2 g3 g4 HV2 ⊢
  have z1 : ((N1 : Int) - 1).toNat = N1 - 1 := by omega
  have z2 : ((N2 : Int) - 1).toNat = N2 - 1 := by omega
  rw [hk1] at d0
  rw [hk2] at g0
  obtain ⟨nx, hnx⟩ : ∃ k, (rootN us).n = k := ⟨_, rfl⟩
  obtain ⟨ny, hny⟩ : ∃ k, (rootN vs).n = k := ⟨_, rfl⟩
  obtain ⟨sx, hsx⟩ : ∃ k, (rootN us).s = k := ⟨_, rfl⟩
  obtain ⟨sy, hsy⟩ : ∃ k, (rootN vs).s = k := ⟨_, rfl⟩
  rw [hnx] at d1
  rw [hny] at g1
  rw [hsx] at d2
  rw [hsy] at g2
  obtain ⟨WA, hWA⟩ : ∃ WA, ((w.alloc (.cells #[.int .i64 5, .int .i64 nx, .string sx, .slice aK1 nK1 cK1, .slice aI1 nI1 cI1] 37)).alloc (.cells #[.int .i64 5, .int .i64 ny, .string sy, .slice aK2 nK2 cK2, .slice aI2 nI2 cI2] 37)) = WA := ⟨_, rfl⟩
  have HWA := hideIt hWA
  have HL0 : Hid (WA.heap.size = w.heap.size + 1 + 1) := by rw [Hid, ← hWA]; simp
  have HBA : Hid (Below w.heap.size w WA) := by rw [Hid, ← hWA]; exact ((Below.refl _ _).alloc (Nat.le_refl _) _).alloc (by simp) _
  have hbx : Below w.heap.size w (w.alloc (.cells #[.int .i64 5, .int .i64 nx, .string sx, .slice aK1 nK1 cK1, .slice aI1 nI1 cI1] 37)) := (Below.refl _ _).alloc (Nat.le_refl _) _
  have e0 := (below_cell hbx (show b2 < w.heap.size by omega)).trans g0
  have e1 := (below_cell hbx (show b2 < w.heap.size by omega)).trans g1
  have e2 := (below_cell hbx (show b2 < w.heap.size by omega)).trans g2
  have e3 := (below_cell hbx (show b2 < w.heap.size by omega)).trans g3
  have e4 := (below_cell hbx (show b2 < w.heap.size by omega)).trans g4
  clear hbx g0 g1 g2 g3 g4 hn1 hn2 hN1 hN2 hnx hny hsx hsy ok1 ok2 hk1 hk2 hWA
  go_enter Tryz.func13, Tryz.ntmps13
  go_wp2_with fail
  rw [HWA.out]
  clear d0 d1 d2 d3 d4 e0 e1 e2 e3 e4 HWA
  have hzA := HBA.out.size
  obtain ⟨WB, hWB⟩ : ∃ WB, WA.alloc (.cells #[] 24) = WB := ⟨_, rfl⟩
  have HRA : Hid (WB.ownsRow w.heap.size 24 1 (.slice (some ⟨WA.heap.size, 0, none⟩) 0 0) 0 []) := by
    have := World.ownsRow_lit (base := w.heap.size) (e := 24) (size := 1) WA #[] 0 hzA (by simp [maxLen]) rfl
    rw [hWB] at this
    simpa [Hid] using this
  have HBB : Hid (Below w.heap.size w WB) := by rw [Hid, ← hWB]; exact HBA.out.alloc hzA _
  have hzB : WB.heap.size = WA.heap.size + 1 := by rw [← hWB]; simp
  rw [hWB]
  clear hWB
  refine (l1Parts_any B _ us WB (HV1.out.below (HBB.out.mono hB)) (Nat.le_trans hB HBB.out.size) HOK1.out).mono ?_
  rintro e w1 ⟨r1, rs1, K1, I1, lo1, rfl, hr1, hb1'⟩
  have HB1 := hideIt (HBB.out.trans (hb1'.mono HBB.out.size))
  have HR1 := hideIt hr1
  have HRA1 := hideIt (own_from HRA.out ((From.refl w.heap.size WB).below hb1'))
  have zs1 := hb1'.size
  obtain ⟨M, hM⟩ : ∃ M, (rootKids us).length = M := ⟨_, rfl⟩
  obtain ⟨M', hM'⟩ : ∃ M', (rootKids vs).length = M' := ⟨_, rfl⟩
  obtain ⟨aM, cM, eM⟩ := own_slice hr1.row
  rw [hM] at eM HR1 HPF1 HHO HLN HLL
  rw [hM'] at HPF2 HHO HLS
  subst eM
  have HMM := hideIt hM
  have HMM' := hideIt hM'
  clear hr1 hb1' hM hM'
  go_wp2_with fail
  refine (l1Parts_any B _ vs w1 (HV2.out.below (HB1.out.mono hB)) (Nat.le_trans hB HB1.out.size) HOK2.out).mono ?_
  rintro e WW ⟨r2, rs2, K2, I2, lo2, rfl, hr2, hb2'⟩
  rw [HMM'.out] at hr2
  have HBW := hideIt (HB1.out.trans (hb2'.mono HB1.out.size))
  have HR1W := hideIt (HR1.out.below hb2')
  have HR2W := hideIt hr2
  have HRW := hideIt (own_from HRA1.out ((From.refl w.heap.size w1).below hb2'))
  have zs2 := hb2'.size
  obtain ⟨aG0, cG0, eG0⟩ := own_slice hr2.row
  subst eG0
  have hM80 : M ≤ 80 := HPF1.out.1
  have hM80' : M' ≤ 80 := HPF2.out.1
  clear hr2 hb2' HR1 HRA1 HRA
  go_wp2_with fail
  go_loopw [8, 11, 12, 13] (fun o i _ _ wr => ∃ (n : Nat), n ≤ M ∧ i = .int .i64 n ∧ wr.ownsRow w.heap.size 24 1 o (leftIx us vs n).length ((leftIx us vs n).map rs1) ∧ (∀ g, o.ownBlock = some g → g = WA.heap.size ∨ WW.heap.size ≤ g) ∧ From (WA.heap.size + 1) WW wr ∧ Below w.heap.size w wr) (fun _ i _ _ _ => M - (intOf i).toNat)
  case atStart => exact ⟨0, Nat.zero_le _, rfl, by rw [← HL0.out]; exact HRW.out, fun g hg => by have := HL0.out; simp [Value.ownBlock] at hg; omega, From.refl _ _, HBW.out⟩
  case round =>
    obtain ⟨i, hi, rfl, hrow, hown, hfr, hbl⟩ := hrel
    obtain ⟨W, rfl⟩ : ∃ W, W = wr := ⟨_, rfl⟩
    have HROW := hideIt hrow
    have HOWN := hideIt hown
    have HFR := hideIt hfr
    have HBL := hideIt hbl
    have HRM := hideIt (HR1W.out.from (HFR.out.mono (by omega)))
    have HRG := hideIt (HR2W.out.from (HFR.out.mono (by omega)))
    have zW := hbl.size
    have zWW := hfr.1
    have HIX := hideIt (HLX.out i)
    have HLSi := hideIt (HLS.out i)
    obtain ⟨ps, hps⟩ : ∃ ps, leftIx us vs i = ps := ⟨_, rfl⟩
    have HPS := hideIt hps
    rw [hps] at HROW HIX HLSi
    obtain ⟨NP, hNP⟩ : ∃ NP, ps.length = NP := ⟨_, rfl⟩
    have HNP := hideIt hNP
    obtain ⟨ao, co, eo⟩ := own_slice HROW.out
    rw [hNP] at eo
    subst eo
    have hNPi : NP ≤ i := by rw [← hNP]; exact HIX.out.1
    clear hrow hown hfr hbl hps hNP
    by_cases hlt : i < M
    · obtain ⟨b1, c1', em, hbm, hlm⟩ := HRM.out.row.form (show 0 < M by omega)
      cases em
      have hcm : W.cell? ⟨b1, i, none⟩ = some (rs1 i) := by rw [HRM.out.row.cellAt i (by omega)]; simp [hlt]
      have HN1 := hideIt ((HRM.out.nest i hlt).nodes (by have := (HPF1.out.2 i hlt).1.1; omega) (HPF1.out.2 i hlt).2)
      obtain ⟨aR, cR, eR⟩ := own_slice (HRM.out.nest i hlt).row
      obtain ⟨NR, hNR⟩ : ∃ NR, (PL us i).length = NR := ⟨_, rfl⟩
      have HRI : Hid (rs1 i = .slice aR NR cR) := by rw [Hid, eR, hNR]
      rw [HRI.out] at hcm HN1
      clear hNR eR
      go_wp2_with fail
      go_loopw [12, 13] (fun h k w4 => ∃ (n : Nat) (q : Bool), n ≤ M' ∧ k = .int .i64 n ∧ h = .bool q ∧ Hid (q = anyTo (hitB us vs i) n) ∧ Below W.heap.size W w4) (fun _ k _ => M' - (intOf k).toNat)
      case atStart => exact ⟨0, false, Nat.zero_le _, rfl, rfl, rfl, Below.refl _ _⟩
      case round =>
        obtain ⟨k, q, hk, rfl, rfl, HQ, hbk⟩ := hrel
        obtain ⟨W4, rfl⟩ : ∃ W4, W4 = wr := ⟨_, rfl⟩
        by_cases hlk : k < M'
        · obtain ⟨b2, c2', eg, hbg, hlg⟩ := HRG.out.row.form (show 0 < M' by omega)
          cases eg
          have hcg : W4.cell? ⟨b2, k, none⟩ = some (rs2 k) := (below_cell hbk hlg).trans (by rw [HRG.out.row.cellAt k (by omega)]; simp [hlk])
          have hcm4 : W4.cell? ⟨b1, i, none⟩ = some (.slice aR NR cR) := (below_cell hbk hlm).trans hcm
          have HNG := hideIt ((HRG.out.nest k hlk).nodes (by have := (HPF2.out.2 k hlk).1.1; omega) (HPF2.out.2 k hlk).2)
          obtain ⟨aG, cG, eG⟩ := own_slice (HRG.out.nest k hlk).row
          obtain ⟨NG, hNG⟩ : ∃ NG, (PL vs k).length = NG := ⟨_, rfl⟩
          rw [eG, hNG] at hcg HNG
          have HHK := hideIt (HHO.out i k hlt hlk)
          have HAN : Hid (anyTo (hitB us vs i) (k + 1) = (anyTo (hitB us vs i) k || hitB us vs i k)) := rfl
          have HHB : Hid (hitB us vs i k = decide (orderOf (PL us i) (PL vs k) = 0)) := rfl
          clear hNG eG
          cases q
          · obtain ⟨Q, hQQ⟩ : ∃ Q, orderOf (PL us i) (PL vs k) = Q := ⟨_, rfl⟩
            rw [hQQ] at HHB HHK
            have HCMP : Hid (∀ W', Below W4.heap.size W4 W' → Calls Tryz.prog 31 #[.slice aR NR cR, .slice aG NG cG] W' fun e w' => e = .returned (.int .i64 Q) ∧ Below W'.heap.size W' w') := fun W' hb' => by
              have hz := Nat.le_trans hbk.size hb'.size
              have hbb : Below W.heap.size W W' := hbk.trans (hb'.mono hbk.size)
              have a1 := okB_parts HHK.out.1
              have a2 := okB_parts HHK.out.2.1
              have := l1Compare_any W.heap.size _ _ (PL us i) (PL vs k) W' ⟨HN1.out.below hbb, HNG.out.below hbb, a1.2.1, a2.2.1⟩ hz a1.1 a2.1
              rw [HHK.out.2.2] at this
              exact this
            have HBQ : Hid (Below W4.heap.size W4 W4.drew) := (Below.refl _ _).drew
            clear hQQ
            rcases (show ((Q == 0) = true ∧ Hid (true = anyTo (hitB us vs i) (k + 1))) ∨ ((Q == 0) = false ∧ Hid (false = anyTo (hitB us vs i) (k + 1))) by
              by_cases hQ0 : Q = 0
              · exact .inl ⟨by simpa using hQ0, by rw [Hid, HAN.out, HHB.out, hQ0]; simp⟩
              · exact .inr ⟨by simpa using hQ0, by rw [Hid, HAN.out, HHB.out, ← HQ.out]; simp [hQ0]⟩) with ⟨hQb, HANQ⟩ | ⟨hQb, HANQ⟩
            all_goals
              go_wp2_with fail
              refine wp_region_any (by kernel_rfl) ?_
              change wpAny _ _ _ _ _ _ _ (World.drew _)
              refine wpAny_take (i := 0) (v := .bool false) rfl (by kernel_rfl) (by kernel_rfl) (by kernel_rfl) (fun _ _ _ h => h) (Or.inl ⟨by kernel_rfl, fun w => ?_⟩) ?_
              · go_simp
              refine wpAny_take (i := 1) (v := .bool false) rfl (by kernel_rfl) (by kernel_rfl) (by kernel_rfl) (fun _ _ _ h => h) (Or.inl ⟨by kernel_rfl, fun w => ?_⟩) ?_
              · go_simp
              refine wpAny_take (i := 2) (v := .slice (some ⟨b1, 0, none⟩) M cM) rfl (by kernel_rfl) (by kernel_rfl) (by kernel_rfl) (fun _ _ _ h => h) (Or.inl ⟨by kernel_rfl, fun w => ?_⟩) ?_
              · go_simp
              refine wpAny_take (i := 3) (v := .int .i64 i) rfl (by kernel_rfl) (by kernel_rfl) (by kernel_rfl) (fun _ _ _ h => h) (Or.inl ⟨by kernel_rfl, fun w => ?_⟩) ?_
              · go_simp
              refine wpAny_take (i := 4) (v := .pointer (some ⟨b1, i, none⟩)) rfl (by kernel_rfl) (by kernel_rfl) (by kernel_rfl) (fun _ _ _ h => h) (Or.inl ⟨by kernel_rfl, fun w => ?_⟩) ?_
              · go_simp
              refine wpAny_take (i := 6) (v := .slice (some ⟨b2, 0, none⟩) M' cG0) rfl (by kernel_rfl) (by kernel_rfl) (by kernel_rfl) (fun _ _ _ h => h) (Or.inl ⟨by kernel_rfl, fun w => ?_⟩) ?_
              · go_simp
              refine wpAny_take (i := 7) (v := .int .i64 k) rfl (by kernel_rfl) (by kernel_rfl) (by kernel_rfl) (fun _ _ _ h => h) (Or.inl ⟨by kernel_rfl, fun w => ?_⟩) ?_
              · go_simp
              refine wpAny_take (i := 8) (v := .pointer (some ⟨b2, k, none⟩)) rfl (by kernel_rfl) (by kernel_rfl) (by kernel_rfl) (fun _ _ _ h => h) (Or.inl ⟨by kernel_rfl, fun w => ?_⟩) ?_
              · go_simp
              refine wpAny_ready (rs := [5, 9]) (by kernel_rfl) (by simp) ?_
              refine AllReady.cons rfl (fun K hK => ?_) ?_
              · go_simp
                refine hK _ _ ?_
                clear hK K
                refine wpAny_ready (rs := [9]) (by kernel_rfl) (by simp) ?_
                refine AllReady.cons rfl (fun K hK => ?_) AllReady.nil
                go_simp
                refine hK _ _ ?_
                clear hK K
                refine wpAny_ready (rs := [10]) (by kernel_rfl) (by simp) ?_
                refine AllReady.cons rfl (fun K hK => ?_) AllReady.nil
                refine step_call2g (by kernel_rfl) 31 (.tmp 73) (.tmp 77) 24 24 (by kernel_rfl) (.slice aR NR cR) (.slice aG NG cG) (by kernel_rfl) (by kernel_rfl) (call_compare _ _) (HCMP.out _ HBQ.out) ?_
                rintro e w5 ⟨rfl, hb5⟩
                have HB5 : Hid (Below W.heap.size W w5) := hbk.trans ((HBQ.out.trans (hb5.mono HBQ.out.size)).mono hbk.size)
                clear hb5
                refine ⟨_, rfl, ?_⟩
                go_simp
                refine hK _ _ ?_
                clear hK K
                refine wpAny_ready (rs := [11]) (by kernel_rfl) (by simp) ?_
                refine AllReady.cons rfl (fun K hK => ?_) AllReady.nil
                go_simp
                refine hK _ _ ?_
                clear hK K
                refine wpAny_ready (rs := [12]) (by kernel_rfl) (by simp) ?_
                refine AllReady.cons rfl (fun K hK => ?_) AllReady.nil
                go_simp
                refine hK _ _ ?_
                clear hK K
                refine wpAny_ready (rs := [13]) (by kernel_rfl) (by simp) ?_
                refine AllReady.cons rfl (fun K hK => ?_) AllReady.nil
                go_simp
                refine hK _ _ ?_
                clear hK K
                refine wpAny_done (by kernel_rfl) ?_ _
                go_wp2_with fail
                go_roundw
                case rel => exact ⟨k + 1, _, by omega, by go_num, rfl, HANQ, HB5.out⟩
                case measure => simp [intOf]; omega
              · refine AllReady.cons rfl (fun K hK => ?_) AllReady.nil
                go_simp
                refine hK _ _ ?_
                clear hK K
                refine wpAny_ready (rs := [5]) (by kernel_rfl) (by simp) ?_
                refine AllReady.cons rfl (fun K hK => ?_) AllReady.nil
                go_simp
                refine hK _ _ ?_
                clear hK K
                refine wpAny_ready (rs := [10]) (by kernel_rfl) (by simp) ?_
                refine AllReady.cons rfl (fun K hK => ?_) AllReady.nil
                refine step_call2g (by kernel_rfl) 31 (.tmp 73) (.tmp 77) 24 24 (by kernel_rfl) (.slice aR NR cR) (.slice aG NG cG) (by kernel_rfl) (by kernel_rfl) (call_compare _ _) (HCMP.out _ HBQ.out) ?_
                rintro e w5 ⟨rfl, hb5⟩
                have HB5 : Hid (Below W.heap.size W w5) := hbk.trans ((HBQ.out.trans (hb5.mono HBQ.out.size)).mono hbk.size)
                clear hb5
                refine ⟨_, rfl, ?_⟩
                go_simp
                refine hK _ _ ?_
                clear hK K
                refine wpAny_ready (rs := [11]) (by kernel_rfl) (by simp) ?_
                refine AllReady.cons rfl (fun K hK => ?_) AllReady.nil
                go_simp
                refine hK _ _ ?_
                clear hK K
                refine wpAny_ready (rs := [12]) (by kernel_rfl) (by simp) ?_
                refine AllReady.cons rfl (fun K hK => ?_) AllReady.nil
                go_simp
                refine hK _ _ ?_
                clear hK K
                refine wpAny_ready (rs := [13]) (by kernel_rfl) (by simp) ?_
                refine AllReady.cons rfl (fun K hK => ?_) AllReady.nil
                go_simp
                refine hK _ _ ?_
                clear hK K
                refine wpAny_done (by kernel_rfl) ?_ _
                go_wp2_with fail
                go_roundw
                case rel => exact ⟨k + 1, _, by omega, by go_num, rfl, HANQ, HB5.out⟩
                case measure => simp [intOf]; omega
          · have HANQ : Hid (true = anyTo (hitB us vs i) (k + 1)) := by rw [Hid, HAN.out, ← HQ.out]; rfl
            go_wp2_with fail
            go_quiet (fail)
            go_wp2_with fail
            go_roundw
            case rel => exact ⟨k + 1, true, by omega, by go_num, rfl, HANQ, below_drewN hbk nq⟩
            case measure => simp [intOf]; omega
        · obtain rfl : k = M' := by omega
          have hcm4 : W4.cell? ⟨b1, i, none⟩ = some (.slice aR NR cR) := (below_cell hbk hlm).trans hcm
          have HFR4 := hideIt (HFR.out.below hbk)
          have HBL4 := hideIt (HBL.out.trans (hbk.mono zW))
          have HROW4 := hideIt (own_from HROW.out ((From.refl w.heap.size W).below hbk))
          cases q
          · have HPK : Hid (leftIx us vs (i + 1) = ps ++ [i]) := by rw [Hid, HLSi.out, ← HQ.out]; rfl
            go_wp2_with (at_builtin; refine wpList_append_own_at _ rfl _ _ 51 rfl w.heap.size 24 i0 (.slice none 0 0) 1 24 Tryz.underlying51 hi0 hz0 hs0 hy0 rfl (by decide) _ _ _ rfl (HROW4.out.alloc _) ⟨W4.heap.size, 0, none⟩ 1 1 [.slice aR NR cR] rfl rfl ?c1 ?c2 ?c3 ?c4 ?c5 ?_)
            case c1 => exact cell_one_new _ _ _
            case c2 => intro u hu; simp at hu; subst hu; rfl
            case c3 => have := HNP.out; unfold maxLen; omega
            case c4 => have := HNP.out; omega
            case c5 => have := HBL4.out.size; simp; omega
            intro v' w5 hown hgrow _ hat
            have HR5 : Hid (w5.ownsRow w.heap.size 24 1 v' (leftIx us vs (i + 1)).length ((leftIx us vs (i + 1)).map rs1)) := by
              rw [Hid, HPK.out, List.map_append, List.length_append]
              simp only [List.map_cons, List.map_nil, List.length_singleton]
              rw [HRI.out]
              exact hown
            have z4 := hbk.size
            have HO5 : Hid (∀ g, v'.ownBlock = some g → g = WA.heap.size ∨ WW.heap.size ≤ g) := fun g hg => by
              rcases hat with e | e
              · rw [e] at hg; exact HOWN.out g hg
              · rw [e] at hg; simp at hg; omega
            have HF5 : Hid (From (WA.heap.size + 1) WW w5) := by
              have hs5 := hgrow.size
              refine ⟨by have := HFR4.out.1; simp at hs5; omega, fun c h1 h2 => ?_⟩
              refine Eq.trans ?_ (HFR4.out.2 c h1 h2)
              have hc4 : c < W4.heap.size := by have := HFR4.out.1; omega
              refine (hgrow.block c (by simp; omega) (fun e => ?_)).trans (((Below.refl W4.heap.size W4).alloc (Nat.le_refl _) _).block c hc4)
              have := HOWN.out c (by simpa using e.symm)
              omega
            have HB5 : Hid (Below w.heap.size w w5) := (HBL4.out.alloc HBL4.out.size _).grown hgrow (by have := HBL4.out.size; simp; omega) (fun y hy => (HROW4.out.lt y hy).1)
            clear hown hgrow hat
            go_wp2_with fail
            go_roundw
            case rel => exact ⟨i + 1, by omega, by go_num, HR5.out, HO5.out, HF5.out, HB5.out⟩
            case measure => simp [intOf]; omega
          · have HPK : Hid (leftIx us vs (i + 1) = ps) := by rw [Hid, HLSi.out, ← HQ.out, if_pos rfl]
            have HR5 : Hid (W4.ownsRow w.heap.size 24 1 (.slice ao NP co) (leftIx us vs (i + 1)).length ((leftIx us vs (i + 1)).map rs1)) := by rw [Hid, HPK.out]; exact HROW4.out
            go_wp2_with fail
            go_roundw
            case rel => exact ⟨i + 1, by omega, by go_num, HR5.out, HOWN.out, HFR4.out, HBL4.out⟩
            case measure => simp [intOf]; omega
    · obtain rfl : i = M := by omega
      have HRP := hideIt (rows_pick (L := PL us) HROW.out (by have := HNP.out; omega) (Nat.le_refl _) (m := i) HIX.out.2 (fun j hj => (HRM.out.nest j hj).nodes (by have := (HPF1.out.2 j hj).1.1; omega) (HPF1.out.2 j hj).2))
      rw [HNP.out] at HRP
      have HEQ : Hid (leftNs us vs = makeNs 5 [] (fun j => PL us (ps.getD j 0)) NP) := by rw [Hid, HLN.out, HLL.out, HPS.out, HNP.out]
      have HOKL : Hid (∀ j, j < NP → okB (PL us (ps.getD j 0)) = true) := fun j hj => by
        have := HLO.out j
        rw [HMM.out, HPS.out, HNP.out, HLL.out, HPS.out] at this
        exact this hj
      have HLE := hideIt (catNs_le HOKL.out NP (Nat.le_refl _))
      go_wp2_with fail
      refine (l1Make_any W.heap.size 5 _ _ [] NP (fun j => PL us (ps.getD j 0)) W ⟨by simp, fun i hi => absurd hi (by simp), none, 0, rfl, fun h => absurd h (by simp)⟩ HRP.out (Nat.le_refl _) (by omega) (by simp) (by have := HLE.out; omega) (near_of HOKL.out)).mono ?_
      rintro e w6 ⟨r, KV, IV, rfl, hn6, hb6⟩
      rw [← HEQ.out] at hn6
      have HN6 := hideIt hn6
      have HB6 := hideIt (HBL.out.trans (hb6.mono zW))
      obtain ⟨ar, cr, er⟩ := own_slice hn6.row
      obtain ⟨NN, hNN⟩ : ∃ NN, (leftNs us vs).length = NN := ⟨_, rfl⟩
      rw [hNN] at er
      subst er
      clear hn6 hb6 hNN
      go_wp2_with fail
      go_ret2
      exact ⟨_, W.heap.size, KV, IV, by rw [HM.out.1]; rfl, zW, by rw [HM.out.2]; exact HN6.out, HB6.out⟩
end Go.Proofs.YtgmnihofkpjboaaGreatDoor
