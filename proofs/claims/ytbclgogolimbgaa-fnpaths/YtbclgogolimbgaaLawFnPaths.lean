/-
  The law FnPaths: the call returns true and turns nothing that was there.
-/
import Derived.Test.YtbclgogolimbgaaBigC
import Derived.Test.YtbclgogolimbgaaPathQ
import Derived.Test.YtbclgogolimbgaaSameP
import Derived.Test.YtbclgogolimbgaaIPaths
import Derived.Test.YtbclgogolimbgaaIGot
import Derived.Test.YtbclgogolimbgaaIParts
import Derived.Test.YtbclgogolimbgaaVOf
import Derived.Deep.RegionWith
import Derived.Test.YtbclgogolimbgaaStepN
namespace Go.Proofs.Ytbclgogolimbgaa
open Go.RowKit
set_option linter.unusedSimpArgs false
set_option linter.unusedVariables false

theorem RowsPAt.below {B : Nat} {w w' : World} {v : Value} {Ls : List (List PS)} (h : RowsPAt B w v Ls) (hb : Below B w w') : RowsPAt B w' v Ls := by
  obtain ⟨h1, a, cap, e, h3⟩ := h
  refine ⟨h1, a, cap, e, fun hl => ?_⟩
  obtain ⟨b, ea, hbB, hc⟩ := h3 hl
  refine ⟨b, ea, hbB, fun i hi => ?_⟩
  obtain ⟨r, h4, h5⟩ := hc i hi
  exact ⟨r, (below_cell hb hbB).trans h4, h5.below hb⟩

theorem RowsPAt.wide {B B' : Nat} {w : World} {v : Value} {Ls : List (List PS)} (h : RowsPAt B w v Ls) (hb : B ≤ B') : RowsPAt B' w v Ls := by
  obtain ⟨h1, a, cap, e, h3⟩ := h
  refine ⟨h1, a, cap, e, fun hl => ?_⟩
  obtain ⟨b, ea, hbB, hc⟩ := h3 hl
  refine ⟨b, ea, by omega, fun i hi => ?_⟩
  obtain ⟨r, h4, h5⟩ := hc i hi
  exact ⟨r, h4, h5.wide hb⟩

/-- Of the same path it says true. -/
theorem samePath_yes (B : Nat) (v1 v2 : Value) (ps : List PS) (w : World) (h1 : StepsAt B w v1 ps) (h2 : StepsAt B w v2 ps) (hB : B ≤ w.heap.size) :
    Calls Try.prog 14 #[v1, v2] w fun e w' => e = .returned (.bool true) ∧ Below w.heap.size w w' :=
  (samePath_any B v1 v2 ps ps w h1 h2 hB).mono fun e w' ⟨⟨b, he, hb⟩, hbel⟩ => ⟨by rw [he, hb.2 rfl], hbel⟩

theorem samePath_no (B : Nat) (v1 v2 : Value) (ps qs : List PS) (w : World) (h1 : StepsAt B w v1 ps) (h2 : StepsAt B w v2 qs) (hB : B ≤ w.heap.size) (hne : ps ≠ qs) :
    Calls Try.prog 14 #[v1, v2] w fun e w' => e = .returned (.bool false) ∧ Below w.heap.size w w' :=
  (samePath_any B v1 v2 ps qs w h1 h2 hB).mono fun e w' ⟨⟨b, he, hb⟩, hbel⟩ => ⟨by rw [he, show b = false by cases b; rfl; exact absurd (hb.1 rfl) hne], hbel⟩

theorem call_samePath (u v : Value) (w : World) : (callFunc 14 #[u, v]).run Try.prog w = .ok (.enter 14 #[u, v]) w := by
  kernel_rfl
theorem call_PathOk (u : Value) (w : World) : (callFunc 15 #[u]).run Try.prog w = .ok (.enter 15 #[u]) w := by
  kernel_rfl

set_option maxRecDepth 100000 in
set_option maxHeartbeats 8000000 in
theorem lawFnPaths_walk (v : Value) (n : Nat) (w : World) (h : RawCode w v n) :
    Calls Try.prog 3 #[v] w fun e w' => e = .returned (.bool true) ∧ Below w.heap.size w w' := by
  obtain ⟨hn, a, cap, rfl, hc⟩ := h
  have HCL : Hid (n ≤ 1048576 → CodeAt w.heap.size w (.slice a n cap) n) := fun h => ⟨h, a, cap, rfl, hc⟩
  clear hc
  go_enter Try.func3, Try.ntmps3
  go_wp2_with fail
  refine (big_any a n cap w hn).mono ?_
  rintro e w1 ⟨rfl, rfl⟩
  by_cases hbig : 1048576 < n
  · go_wp2_with fail
    go_ret
    exact ⟨rfl, Below.refl _ _⟩
  have HC := hideIt (HCL.out (by omega))
  clear HCL
  go_wp2_with fail
  refine (drawPathsOf_any w1.heap.size _ n w1 HC.out (Nat.le_refl _)).mono ?_
  rintro e w2 ⟨r, vs, KV, IV, rfl, hf1, hn1, hb2⟩
  have HF1 := hideIt hf1
  have HND2 := hideIt (hn1.nodes (by have := HF1.out.2.1; omega) (HF1.out.few (by omega)).2)
  have HB2 := hideIt hb2
  have z2 := hb2.size
  have h40 : vs.length ≤ 40 := hf1.2.1
  obtain ⟨ar, cr, er⟩ := own_slice hn1.row
  obtain ⟨L, hL⟩ : ∃ M, vs.length = M := ⟨_, rfl⟩
  rw [hL] at er h40
  subst er
  have HL := hideIt hL
  clear hf1 hn1 hb2 hL
  go_wp2_with fail
  refine (implPathsOf_any w2.heap.size _ vs w2 HND2.out (Nat.le_refl _)).mono ?_
  rintro e w3 ⟨r3, base3, rs3, lo3, rfl, hbase3, hrow3, hb3⟩
  have HP3 := hideIt (hrow3.read (by have := pathsLs_le vs; omega) (fun i hi => (pathsLs_short vs i hi).wide (by omega)))
  have HB3 := hideIt hb3
  have z3 := hb3.size
  obtain ⟨a3, c3, e3⟩ := own_slice hrow3.row
  obtain ⟨M, hM⟩ : ∃ M, (pathsLs vs).length = M := ⟨_, rfl⟩
  have h80 : M ≤ 80 := by rw [← hM]; exact pathsLs_le vs
  rw [hM] at e3
  subst e3
  have HM := hideIt hM
  clear hrow3 hb3 hM
  go_wp2_with fail
  refine (specPathsOf_any w2.heap.size _ vs w3 (HND2.out.below HB3.out) z3).mono ?_
  rintro e w4 ⟨r4, base4, rs4, lo4, rfl, hbase4, hrow4, hb4⟩
  have HP4 := hideIt (hrow4.read (by have := pathsLs_le vs; omega) (fun i hi => (pathsLs_short vs i hi).wide (by omega)))
  have HB4 := hideIt hb4
  have z4 := hb4.size
  obtain ⟨a4, c4, e4⟩ := own_slice hrow4.row
  rw [HM.out] at e4
  subst e4
  clear hrow4 hb4
  have HP3' := hideIt ((HP3.out.below HB4.out).wide z4)
  have HND4 := hideIt ((HND2.out.below (HB3.out.trans (HB4.out.mono z3))).wide (show w2.heap.size ≤ w4.heap.size by omega))
  have HBW := hideIt (HB2.out.trans ((HB3.out.trans (HB4.out.mono z3)).mono z2))
  have qM : ((M : Int) != (M : Int)) = false := by simp
  have qM2 : ((M : Int) == (M : Int)) = true := by simp
  go_wp2_with fail
  refine (specOk_any w4.heap.size _ vs w4 HND4.out (Nat.le_refl _)).mono ?_
  rintro e w5 ⟨rfl, hb5⟩
  have HB5 := hideIt hb5
  have z5 := hb5.size
  clear hb5
  cases hok : okB vs
  · clear hok
    go_wp2_with fail
    go_ret
    exact ⟨rfl, HBW.out.trans (HB5.out.mono (by omega))⟩
  have HOK := hideIt hok
  have HPL : Hid (pathsLs vs = pathsN vs vs.length (vs.length - 1) []) := if_pos hok
  have hML : M = L := by
    rw [← HM.out, ← HL.out, HPL.out, ← pn_paths vs, List.length_map]
    exact pnAll_length hok
  subst hML
  have h1 : 1 ≤ M := by rw [← HL.out]; exact (okB_parts hok).1.1
  have HROW : Hid (∀ i, i < M → rowP (pathsLs vs) i = (pnAt vs i).1) := fun i hi => by
    rw [HPL.out]
    exact pnAll_rows HOK.out (by rw [HL.out]; exact hi)
  clear hok
  go_wp2_with fail
  go_loopw [6, 7] (fun s i wr => ∃ (k q : Nat), k ≤ M ∧ i = .int .i64 k ∧ s = .int .i64 q ∧ Hid (q = sumTo vs k) ∧ q ≤ k * 80 ∧ Below w4.heap.size w4 wr) (fun _ i _ => M - (intOf i).toNat)
  case atStart => exact ⟨0, 0, Nat.zero_le _, rfl, rfl, (sumTo_zero vs).symm, by omega, HB5.out⟩
  case round =>
    obtain ⟨k, q, hk, rfl, rfl, HQ, hq, hbel⟩ := hrel
    by_cases hlt : k < M
    case neg =>
      obtain rfl : k = M := by omega
      have HS : Hid ((q : Int) = (k : Int) - 1) := by
        have := sumTo_all HOK.out
        rw [HL.out, ← HQ.out] at this
        rw [Hid]
        omega
      have qs : ((q : Int) == (k : Int) - 1) = true := by rw [HS.out]; simp
      go_wp2_with fail
      go_ret
      exact ⟨rfl, HBW.out.trans (hbel.mono (by omega))⟩
    case pos =>
    obtain ⟨_, a3', cap3', e3', hr3⟩ := HP3'.out
    obtain ⟨_, a4', cap4', e4', hr4⟩ := HP4.out
    rw [HM.out] at e3' e4' hr3 hr4
    cases e3'
    cases e4'
    obtain ⟨g3, rfl, hg3, hc3⟩ := hr3 (by omega)
    obtain ⟨g4, rfl, hg4, hc4⟩ := hr4 (by omega)
    obtain ⟨s3, d3, hs3⟩ := hc3 k hlt
    obtain ⟨s4, d4, hs4⟩ := hc4 k hlt
    have HC3 := hideIt hc3
    have HS3 := hideIt hs3
    have HS4 := hideIt hs4
    clear hc3 hc4 hr3 hr4
    have hzr := hbel.size
    have HD3 := hideIt d3
    have HD4 := hideIt d4
    have f3 := (below_cell hbel hg3).trans d3
    have f4 := (below_cell hbel hg4).trans d4
    obtain ⟨hsl, _, aS, cS, eS, _⟩ := hs3
    obtain ⟨hsl4, _, aT, cT, eT, _⟩ := hs4
    clear d3 d4
    obtain ⟨SL, hSL⟩ : ∃ SL, (rowP (pathsLs vs) k).length = SL := ⟨_, rfl⟩
    rw [hSL] at eS eT hsl hsl4
    subst eS eT
    clear hSL
    obtain ⟨g1, g2, g3', g4'⟩ := pnAt_says HOK.out (i := k) (by rw [HL.out]; exact hlt)
    have HPB : Hid (pathB (rowP (pathsLs vs) k) = true) := by rw [Hid, HROW.out k hlt]; exact g1
    have HGB : Hid (gotB vs (rowP (pathsLs vs) k) = true) := by rw [Hid, HROW.out k hlt]; exact g2
    have HGN : Hid (gotNs vs (rowP (pathsLs vs) k) = partOf vs (pnAt vs k).2) := by rw [Hid, HROW.out k hlt]; exact g3'
    have HMK := hideIt g4'
    have HSUM : Hid (sumTo vs (k + 1) = q + partsN (partOf vs (pnAt vs k).2)) := by rw [Hid, sumTo_succ HOK.out (by rw [HL.out]; exact hlt), ← HQ.out]
    clear g1 g2 g3' g4'
    go_wp2_with fail
    refine (implGot_any w4.heap.size _ _ vs (rowP (pathsLs vs) k) wr (HND4.out.below hbel) (HS3.out.below hbel) hzr).mono ?_
    rintro e w6 ⟨r6, base6, KV6, IV6, rfl, hbase6, hbase6', hn6, hb6⟩
    rw [HGN.out] at hn6
    rw [HGB.out]
    have HFT : Hid (∀ i, i < vs.length → Fits (nodeAt vs i)) := (HF1.out.few (by omega)).2
    have HPT := hideIt (part_fits HOK.out HFT.out HMK.out)
    have HP80 := hideIt (lay_part HOK.out (Nat.lt_succ_self _) HMK.out).2
    have HND6 := hideIt (hn6.nodes (by have := HP80.out; omega) (fun i hi => (HPT.out i hi).1))
    have HPN : Hid (partsN (partOf vs (pnAt vs k).2) ≤ 80) := by rw [Hid, parts_part HOK.out HMK.out]; exact (keys_few HOK.out _ HMK.out).2.1
    obtain ⟨a6, c6, e6⟩ := own_slice hn6.row
    obtain ⟨L6, hL6⟩ : ∃ L6, (partOf vs (pnAt vs k).2).length = L6 := ⟨_, rfl⟩
    rw [hL6] at e6
    subst e6
    have HB46 := hideIt (hbel.trans (hb6.mono hzr))
    have z6 := hb6.size
    have h46 : w4.heap.size ≤ w6.heap.size := by omega
    have x3 := (below_cell hb6 (show g3 < wr.heap.size by omega)).trans f3
    have x4 := (below_cell hb6 (show g4 < wr.heap.size by omega)).trans f4
    clear hn6 hb6 hL6 f3 f4 hbase6 hbase6'
    have HX3 := hideIt (HS3.out.below HB46.out)
    have HX4 := hideIt (HS4.out.below HB46.out)
    have HX3d : Hid (StepsAt w4.heap.size w6.drew (.slice aS SL cS) (rowP (pathsLs vs) k)) := HX3.out.below (bsame rfl rfl rfl rfl)
    have HX4d : Hid (StepsAt w4.heap.size w6.drew (.slice aT SL cT) (rowP (pathsLs vs) k)) := HX4.out.below (bsame rfl rfl rfl rfl)
    have h46d : w4.heap.size ≤ w6.drew.heap.size := h46
    have hg36 : g3 < w6.heap.size := by omega
    go_wp2_with fail
    refine wp_region_any (by kernel_rfl) ?_
    change wpAny _ _ _ _ _ _ _ (World.drew _)
    refine wpAny_take (i := 0) (v := .slice (some ⟨g3, 0, none⟩) M c3) rfl (by kernel_rfl) (by kernel_rfl) (by kernel_rfl) (fun _ _ _ h => h) (Or.inl ⟨by kernel_rfl, fun w => ?_⟩) ?_
    · go_simp
    refine wpAny_take (i := 1) (v := .int .i64 k) rfl (by kernel_rfl) (by kernel_rfl) (by kernel_rfl) (fun _ _ _ h => h) (Or.inl ⟨by kernel_rfl, fun w => ?_⟩) ?_
    · go_simp
    refine wpAny_take (i := 2) (v := .pointer (some ⟨g3, k, none⟩)) rfl (by kernel_rfl) (by kernel_rfl) (by kernel_rfl) (fun _ _ _ h => h) (Or.inl ⟨by kernel_rfl, fun w => ?_⟩) ?_
    · go_simp
    refine wpAny_take (i := 4) (v := .slice (some ⟨g4, 0, none⟩) M c4) rfl (by kernel_rfl) (by kernel_rfl) (by kernel_rfl) (fun _ _ _ h => h) (Or.inl ⟨by kernel_rfl, fun w => ?_⟩) ?_
    · go_simp
    refine wpAny_take (i := 5) (v := .int .i64 k) rfl (by kernel_rfl) (by kernel_rfl) (by kernel_rfl) (fun _ _ _ h => h) (Or.inl ⟨by kernel_rfl, fun w => ?_⟩) ?_
    · go_simp
    refine wpAny_take (i := 6) (v := .pointer (some ⟨g4, k, none⟩)) rfl (by kernel_rfl) (by kernel_rfl) (by kernel_rfl) (fun _ _ _ h => h) (Or.inl ⟨by kernel_rfl, fun w => ?_⟩) ?_
    · go_simp
    refine wpAny_ready (rs := [3, 7]) (by kernel_rfl) (by simp) ?_
    refine AllReady.cons rfl (fun K hK => ?_) ?_
    · go_simp
      refine hK _ _ ?_
      clear hK K
      refine wpAny_ready (rs := [7]) (by kernel_rfl) (by simp) ?_
      refine AllReady.cons rfl (fun K hK => ?_) AllReady.nil
      go_simp
      refine hK _ _ ?_
      clear hK K
      refine wpAny_ready (rs := [8]) (by kernel_rfl) (by simp) ?_
      refine AllReady.cons rfl (fun K hK => ?_) AllReady.nil
      refine step_call2 (by kernel_rfl) 14 (.tmp 52) (.tmp 56) 31 31 (by kernel_rfl) (.slice aS SL cS) (.slice aT SL cT) (by kernel_rfl) (by kernel_rfl) (call_samePath _ _) (samePath_yes w4.heap.size _ _ (rowP (pathsLs vs) k) _ HX3d.out HX4d.out h46d) ?_
      rintro e w7 ⟨rfl, hq7⟩
      have HB67 : Hid (Below w6.heap.size w6 w7) := (Below.refl _ w6).drew.trans (hq7.mono (by simp))
      have y3 := (below_cell HB67.out hg36).trans x3
      have z7 := HB67.out.size
      clear hq7
      refine ⟨_, rfl, ?_⟩
      go_simp
      refine hK _ _ ?_
      clear hK K
      refine wpAny_ready (rs := [9]) (by kernel_rfl) (by simp) ?_
      refine AllReady.cons rfl (fun K hK => ?_) AllReady.nil
      go_simp
      refine hK _ _ ?_
      clear hK K
      refine wpAny_ready (rs := [10]) (by kernel_rfl) (by simp) ?_
      refine AllReady.cons rfl (fun K hK => ?_) AllReady.nil
      go_simp
      refine hK _ _ ?_
      clear hK K
      refine wpAny_ready (rs := [11]) (by kernel_rfl) (by simp) ?_
      refine AllReady.cons rfl (fun K hK => ?_) AllReady.nil
      go_simp
      refine hK _ _ ?_
      clear hK K
      refine wpAny_ready (rs := [12]) (by kernel_rfl) (by simp) ?_
      refine AllReady.cons rfl (fun K hK => ?_) AllReady.nil
      go_simp
      refine hK _ _ ?_
      clear hK K
      refine wpAny_ready (rs := [13]) (by kernel_rfl) (by simp) ?_
      refine AllReady.cons rfl (fun K hK => ?_) AllReady.nil
      go_simp
      refine hK _ _ ?_
      clear hK K
      refine wpAny_ready (rs := [14]) (by kernel_rfl) (by simp) ?_
      refine AllReady.cons rfl (fun K hK => ?_) AllReady.nil
      go_simp
      refine hK _ _ ?_
      clear hK K
      refine wpAny_take (i := 15) (v := .slice (some ⟨g3, 0, none⟩) M c3) rfl (by kernel_rfl) (by kernel_rfl) (by kernel_rfl) (fun _ _ _ h => h) (Or.inl ⟨by kernel_rfl, fun w => ?_⟩) ?_
      · go_simp
      refine wpAny_ready (rs := [16]) (by kernel_rfl) (by simp) ?_
      refine AllReady.cons rfl (fun K hK => ?_) AllReady.nil
      go_simp
      refine hK _ _ ?_
      clear hK K
      refine wpAny_ready (rs := [17]) (by kernel_rfl) (by simp) ?_
      refine AllReady.cons rfl (fun K hK => ?_) AllReady.nil
      go_simp
      refine hK _ _ ?_
      clear hK K
      refine wpAny_ready (rs := [18]) (by kernel_rfl) (by simp) ?_
      refine AllReady.cons rfl (fun K hK => ?_) AllReady.nil
      go_simp
      refine hK _ _ ?_
      clear hK K
      refine wpAny_ready (rs := [19]) (by kernel_rfl) (by simp) ?_
      refine AllReady.cons rfl (fun K hK => ?_) AllReady.nil
      refine step_call1g (by kernel_rfl) 15 (.tmp 67) 31 (by kernel_rfl) (.slice aS SL cS) (by kernel_rfl) (call_PathOk _) (implPathOk_any w4.heap.size _ (rowP (pathsLs vs) k) _ (HX3.out.below (HB67.out.mono h46)) (Nat.le_trans h46 z7)) ?_
      rintro e w8 ⟨he8, hq8⟩
      rw [HPB.out] at he8
      subst he8
      have HB68 : Hid (Below w6.heap.size w6 w8) := HB67.out.trans (hq8.mono z7)
      clear hq8
      refine ⟨_, rfl, ?_⟩
      go_simp
      refine hK _ _ ?_
      clear hK K
      refine wpAny_ready (rs := [20]) (by kernel_rfl) (by simp) ?_
      refine AllReady.cons rfl (fun K hK => ?_) AllReady.nil
      go_simp
      refine hK _ _ ?_
      clear hK K
      refine wpAny_ready (rs := [21]) (by kernel_rfl) (by simp) ?_
      refine AllReady.cons rfl (fun K hK => ?_) AllReady.nil
      go_simp
      refine hK _ _ ?_
      clear hK K
      refine wpAny_done (by kernel_rfl) ?_ _
      clear HB67 y3 z7 x3 x4 HX3d HX4d h46d
      obtain ⟨W0, rfl⟩ : ∃ W0, W0 = wr := ⟨_, rfl⟩
      go_wp2_with fail
      go_loopw [10] (fun i wr => ∃ j : Nat, j ≤ k ∧ i = .int .i64 j ∧ Below w6.heap.size w6 wr) (fun i _ => k - (intOf i).toNat)
      case atStart => exact ⟨0, Nat.zero_le _, rfl, HB68.out⟩
      case round =>
        obtain ⟨j, hj, rfl, hbj⟩ := hrel
        have hzj := hbj.size
        have HB4j := hideIt (HB46.out.trans (hbj.mono h46))
        by_cases hlj : j < k
        case neg =>
          have hjk : ¬ (j : Int) < (k : Int) := by omega
          have HND7 := hideIt (HND6.out.below hbj)
          go_wp2_with fail
          refine (implPartsOf_any w6.heap.size _ (partOf vs (pnAt vs k).2) wr HND7.out hzj).mono ?_
          rintro e w9 ⟨r9, base9, rs9, KV9, IV9, lo9, rfl, hbase9, hrow9, hb9⟩
          obtain ⟨a9, c9, e9⟩ := own_slice hrow9.row
          obtain ⟨PN, hPN⟩ : ∃ PN, partsN (partOf vs (pnAt vs k).2) = PN := ⟨_, rfl⟩
          rw [hPN] at e9
          subst e9
          have hP80 : PN ≤ 80 := by rw [← hPN]; exact HPN.out
          have HQ2 : Hid (q + PN = sumTo vs (k + 1)) := by rw [Hid, HSUM.out, hPN]
          have HB9 : Hid (Below w4.heap.size w4 w9) := HB4j.out.trans (hb9.mono (by omega))
          clear hrow9 hb9 hPN
          go_wp2_with fail
          go_roundw
          case rel => exact ⟨k + 1, q + PN, by omega, by go_num, by go_num, HQ2, by omega, HB9.out⟩
          case measure => simp [intOf]; omega
        case pos =>
        obtain ⟨s5, d5, hs5⟩ := HC3.out j (by omega)
        have hjM : j < M := by omega
        have HS5 := hideIt hs5
        have x5 := (below_cell HB4j.out hg3).trans d5
        have x6 := (below_cell HB4j.out hg3).trans HD3.out
        obtain ⟨hsl5, _, a5', c5', e5', _⟩ := hs5
        obtain ⟨S5, hS5⟩ : ∃ S5, (rowP (pathsLs vs) j).length = S5 := ⟨_, rfl⟩
        rw [hS5] at e5' hsl5
        subst e5'
        clear hS5 d5
        have HNE : Hid (rowP (pathsLs vs) k ≠ rowP (pathsLs vs) j) := by
          rw [Hid, HROW.out k hlt, HROW.out j (by omega)]
          exact pnAt_ne HOK.out (by rw [HL.out]; exact hlt) hlj
        have hzd : w4.heap.size ≤ wr.drew.heap.size := by show w4.heap.size ≤ wr.heap.size; omega
        have HX6d : Hid (StepsAt w4.heap.size wr.drew (.slice aS SL cS) (rowP (pathsLs vs) k)) := (HS3.out.below HB4j.out).below (bsame rfl rfl rfl rfl)
        have HX5d : Hid (StepsAt w4.heap.size wr.drew (.slice a5' S5 c5') (rowP (pathsLs vs) j)) := (HS5.out.below HB4j.out).below (bsame rfl rfl rfl rfl)
        go_wp2_with fail
        refine wp_region_any (by kernel_rfl) ?_
        change wpAny _ _ _ _ _ _ _ (World.drew _)
        refine wpAny_take (i := 0) (v := .slice (some ⟨g3, 0, none⟩) M c3) rfl (by kernel_rfl) (by kernel_rfl) (by kernel_rfl) (fun _ _ _ h => h) (Or.inl ⟨by kernel_rfl, fun w => ?_⟩) ?_
        · go_simp
        refine wpAny_take (i := 1) (v := .int .i64 k) rfl (by kernel_rfl) (by kernel_rfl) (by kernel_rfl) (fun _ _ _ h => h) (Or.inl ⟨by kernel_rfl, fun w => ?_⟩) ?_
        · go_simp
        refine wpAny_take (i := 2) (v := .pointer (some ⟨g3, k, none⟩)) rfl (by kernel_rfl) (by kernel_rfl) (by kernel_rfl) (fun _ _ _ h => h) (Or.inl ⟨by kernel_rfl, fun w => ?_⟩) ?_
        · go_simp
        refine wpAny_take (i := 4) (v := .slice (some ⟨g3, 0, none⟩) M c3) rfl (by kernel_rfl) (by kernel_rfl) (by kernel_rfl) (fun _ _ _ h => h) (Or.inl ⟨by kernel_rfl, fun w => ?_⟩) ?_
        · go_simp
        refine wpAny_take (i := 5) (v := .int .i64 j) rfl (by kernel_rfl) (by kernel_rfl) (by kernel_rfl) (fun _ _ _ h => h) (Or.inl ⟨by kernel_rfl, fun w => ?_⟩) ?_
        · go_simp
        refine wpAny_take (i := 6) (v := .pointer (some ⟨g3, j, none⟩)) rfl (by kernel_rfl) (by kernel_rfl) (by kernel_rfl) (fun _ _ _ h => h) (Or.inl ⟨by kernel_rfl, fun w => ?_⟩) ?_
        · go_simp
        refine wpAny_ready (rs := [3, 7]) (by kernel_rfl) (by simp) ?_
        refine AllReady.cons rfl (fun K hK => ?_) ?_
        · go_simp
          refine hK _ _ ?_
          clear hK K
          refine wpAny_ready (rs := [7]) (by kernel_rfl) (by simp) ?_
          refine AllReady.cons rfl (fun K hK => ?_) AllReady.nil
          go_simp
          refine hK _ _ ?_
          clear hK K
          refine wpAny_ready (rs := [8]) (by kernel_rfl) (by simp) ?_
          refine AllReady.cons rfl (fun K hK => ?_) AllReady.nil
          refine step_call2 (by kernel_rfl) 14 (.tmp 79) (.tmp 83) 31 31 (by kernel_rfl) (.slice aS SL cS) (.slice a5' S5 c5') (by kernel_rfl) (by kernel_rfl) (call_samePath _ _) (samePath_no w4.heap.size _ _ (rowP (pathsLs vs) k) (rowP (pathsLs vs) j) _ HX6d.out HX5d.out hzd HNE.out) ?_
          rintro e w11 ⟨rfl, hq11⟩
          have HBN : Hid (Below w6.heap.size w6 w11) := hbj.drew.trans (hq11.mono hzj)
          clear hq11
          refine ⟨_, rfl, ?_⟩
          go_simp
          refine hK _ _ ?_
          clear hK K
          refine wpAny_done (by kernel_rfl) ?_ _
          go_wp2_with fail
          go_roundw
          case rel => exact ⟨j + 1, by omega, by go_num, HBN.out⟩
          case measure => simp [intOf]; omega
        · refine AllReady.cons rfl (fun K hK => ?_) AllReady.nil
          go_simp
          refine hK _ _ ?_
          clear hK K
          refine wpAny_ready (rs := [3]) (by kernel_rfl) (by simp) ?_
          refine AllReady.cons rfl (fun K hK => ?_) AllReady.nil
          go_simp
          refine hK _ _ ?_
          clear hK K
          refine wpAny_ready (rs := [8]) (by kernel_rfl) (by simp) ?_
          refine AllReady.cons rfl (fun K hK => ?_) AllReady.nil
          refine step_call2 (by kernel_rfl) 14 (.tmp 79) (.tmp 83) 31 31 (by kernel_rfl) (.slice aS SL cS) (.slice a5' S5 c5') (by kernel_rfl) (by kernel_rfl) (call_samePath _ _) (samePath_no w4.heap.size _ _ (rowP (pathsLs vs) k) (rowP (pathsLs vs) j) _ HX6d.out HX5d.out hzd HNE.out) ?_
          rintro e w11 ⟨rfl, hq11⟩
          have HBN : Hid (Below w6.heap.size w6 w11) := hbj.drew.trans (hq11.mono hzj)
          clear hq11
          refine ⟨_, rfl, ?_⟩
          go_simp
          refine hK _ _ ?_
          clear hK K
          refine wpAny_done (by kernel_rfl) ?_ _
          go_wp2_with fail
          go_roundw
          case rel => exact ⟨j + 1, by omega, by go_num, HBN.out⟩
          case measure => simp [intOf]; omega
    · refine AllReady.cons rfl (fun K hK => ?_) AllReady.nil
      go_simp
      refine hK _ _ ?_
      clear hK K
      refine wpAny_ready (rs := [3]) (by kernel_rfl) (by simp) ?_
      refine AllReady.cons rfl (fun K hK => ?_) AllReady.nil
      go_simp
      refine hK _ _ ?_
      clear hK K
      refine wpAny_ready (rs := [8]) (by kernel_rfl) (by simp) ?_
      refine AllReady.cons rfl (fun K hK => ?_) AllReady.nil
      refine step_call2 (by kernel_rfl) 14 (.tmp 52) (.tmp 56) 31 31 (by kernel_rfl) (.slice aS SL cS) (.slice aT SL cT) (by kernel_rfl) (by kernel_rfl) (call_samePath _ _) (samePath_yes w4.heap.size _ _ (rowP (pathsLs vs) k) _ HX3d.out HX4d.out h46d) ?_
      rintro e w7 ⟨rfl, hq7⟩
      have HB67 : Hid (Below w6.heap.size w6 w7) := (Below.refl _ w6).drew.trans (hq7.mono (by simp))
      have y3 := (below_cell HB67.out hg36).trans x3
      have z7 := HB67.out.size
      clear hq7
      refine ⟨_, rfl, ?_⟩
      go_simp
      refine hK _ _ ?_
      clear hK K
      refine wpAny_ready (rs := [9]) (by kernel_rfl) (by simp) ?_
      refine AllReady.cons rfl (fun K hK => ?_) AllReady.nil
      go_simp
      refine hK _ _ ?_
      clear hK K
      refine wpAny_ready (rs := [10]) (by kernel_rfl) (by simp) ?_
      refine AllReady.cons rfl (fun K hK => ?_) AllReady.nil
      go_simp
      refine hK _ _ ?_
      clear hK K
      refine wpAny_ready (rs := [11]) (by kernel_rfl) (by simp) ?_
      refine AllReady.cons rfl (fun K hK => ?_) AllReady.nil
      go_simp
      refine hK _ _ ?_
      clear hK K
      refine wpAny_ready (rs := [12]) (by kernel_rfl) (by simp) ?_
      refine AllReady.cons rfl (fun K hK => ?_) AllReady.nil
      go_simp
      refine hK _ _ ?_
      clear hK K
      refine wpAny_ready (rs := [13]) (by kernel_rfl) (by simp) ?_
      refine AllReady.cons rfl (fun K hK => ?_) AllReady.nil
      go_simp
      refine hK _ _ ?_
      clear hK K
      refine wpAny_ready (rs := [14]) (by kernel_rfl) (by simp) ?_
      refine AllReady.cons rfl (fun K hK => ?_) AllReady.nil
      go_simp
      refine hK _ _ ?_
      clear hK K
      refine wpAny_take (i := 15) (v := .slice (some ⟨g3, 0, none⟩) M c3) rfl (by kernel_rfl) (by kernel_rfl) (by kernel_rfl) (fun _ _ _ h => h) (Or.inl ⟨by kernel_rfl, fun w => ?_⟩) ?_
      · go_simp
      refine wpAny_ready (rs := [16]) (by kernel_rfl) (by simp) ?_
      refine AllReady.cons rfl (fun K hK => ?_) AllReady.nil
      go_simp
      refine hK _ _ ?_
      clear hK K
      refine wpAny_ready (rs := [17]) (by kernel_rfl) (by simp) ?_
      refine AllReady.cons rfl (fun K hK => ?_) AllReady.nil
      go_simp
      refine hK _ _ ?_
      clear hK K
      refine wpAny_ready (rs := [18]) (by kernel_rfl) (by simp) ?_
      refine AllReady.cons rfl (fun K hK => ?_) AllReady.nil
      go_simp
      refine hK _ _ ?_
      clear hK K
      refine wpAny_ready (rs := [19]) (by kernel_rfl) (by simp) ?_
      refine AllReady.cons rfl (fun K hK => ?_) AllReady.nil
      refine step_call1g (by kernel_rfl) 15 (.tmp 67) 31 (by kernel_rfl) (.slice aS SL cS) (by kernel_rfl) (call_PathOk _) (implPathOk_any w4.heap.size _ (rowP (pathsLs vs) k) _ (HX3.out.below (HB67.out.mono h46)) (Nat.le_trans h46 z7)) ?_
      rintro e w8 ⟨he8, hq8⟩
      rw [HPB.out] at he8
      subst he8
      have HB68 : Hid (Below w6.heap.size w6 w8) := HB67.out.trans (hq8.mono z7)
      clear hq8
      refine ⟨_, rfl, ?_⟩
      go_simp
      refine hK _ _ ?_
      clear hK K
      refine wpAny_ready (rs := [20]) (by kernel_rfl) (by simp) ?_
      refine AllReady.cons rfl (fun K hK => ?_) AllReady.nil
      go_simp
      refine hK _ _ ?_
      clear hK K
      refine wpAny_ready (rs := [21]) (by kernel_rfl) (by simp) ?_
      refine AllReady.cons rfl (fun K hK => ?_) AllReady.nil
      go_simp
      refine hK _ _ ?_
      clear hK K
      refine wpAny_done (by kernel_rfl) ?_ _
      clear HB67 y3 z7 x3 x4 HX3d HX4d h46d
      obtain ⟨W0, rfl⟩ : ∃ W0, W0 = wr := ⟨_, rfl⟩
      go_wp2_with fail
      go_loopw [10] (fun i wr => ∃ j : Nat, j ≤ k ∧ i = .int .i64 j ∧ Below w6.heap.size w6 wr) (fun i _ => k - (intOf i).toNat)
      case atStart => exact ⟨0, Nat.zero_le _, rfl, HB68.out⟩
      case round =>
        obtain ⟨j, hj, rfl, hbj⟩ := hrel
        have hzj := hbj.size
        have HB4j := hideIt (HB46.out.trans (hbj.mono h46))
        by_cases hlj : j < k
        case neg =>
          have hjk : ¬ (j : Int) < (k : Int) := by omega
          have HND7 := hideIt (HND6.out.below hbj)
          go_wp2_with fail
          refine (implPartsOf_any w6.heap.size _ (partOf vs (pnAt vs k).2) wr HND7.out hzj).mono ?_
          rintro e w9 ⟨r9, base9, rs9, KV9, IV9, lo9, rfl, hbase9, hrow9, hb9⟩
          obtain ⟨a9, c9, e9⟩ := own_slice hrow9.row
          obtain ⟨PN, hPN⟩ : ∃ PN, partsN (partOf vs (pnAt vs k).2) = PN := ⟨_, rfl⟩
          rw [hPN] at e9
          subst e9
          have hP80 : PN ≤ 80 := by rw [← hPN]; exact HPN.out
          have HQ2 : Hid (q + PN = sumTo vs (k + 1)) := by rw [Hid, HSUM.out, hPN]
          have HB9 : Hid (Below w4.heap.size w4 w9) := HB4j.out.trans (hb9.mono (by omega))
          clear hrow9 hb9 hPN
          go_wp2_with fail
          go_roundw
          case rel => exact ⟨k + 1, q + PN, by omega, by go_num, by go_num, HQ2, by omega, HB9.out⟩
          case measure => simp [intOf]; omega
        case pos =>
        obtain ⟨s5, d5, hs5⟩ := HC3.out j (by omega)
        have hjM : j < M := by omega
        have HS5 := hideIt hs5
        have x5 := (below_cell HB4j.out hg3).trans d5
        have x6 := (below_cell HB4j.out hg3).trans HD3.out
        obtain ⟨hsl5, _, a5', c5', e5', _⟩ := hs5
        obtain ⟨S5, hS5⟩ : ∃ S5, (rowP (pathsLs vs) j).length = S5 := ⟨_, rfl⟩
        rw [hS5] at e5' hsl5
        subst e5'
        clear hS5 d5
        have HNE : Hid (rowP (pathsLs vs) k ≠ rowP (pathsLs vs) j) := by
          rw [Hid, HROW.out k hlt, HROW.out j (by omega)]
          exact pnAt_ne HOK.out (by rw [HL.out]; exact hlt) hlj
        have hzd : w4.heap.size ≤ wr.drew.heap.size := by show w4.heap.size ≤ wr.heap.size; omega
        have HX6d : Hid (StepsAt w4.heap.size wr.drew (.slice aS SL cS) (rowP (pathsLs vs) k)) := (HS3.out.below HB4j.out).below (bsame rfl rfl rfl rfl)
        have HX5d : Hid (StepsAt w4.heap.size wr.drew (.slice a5' S5 c5') (rowP (pathsLs vs) j)) := (HS5.out.below HB4j.out).below (bsame rfl rfl rfl rfl)
        go_wp2_with fail
        refine wp_region_any (by kernel_rfl) ?_
        change wpAny _ _ _ _ _ _ _ (World.drew _)
        refine wpAny_take (i := 0) (v := .slice (some ⟨g3, 0, none⟩) M c3) rfl (by kernel_rfl) (by kernel_rfl) (by kernel_rfl) (fun _ _ _ h => h) (Or.inl ⟨by kernel_rfl, fun w => ?_⟩) ?_
        · go_simp
        refine wpAny_take (i := 1) (v := .int .i64 k) rfl (by kernel_rfl) (by kernel_rfl) (by kernel_rfl) (fun _ _ _ h => h) (Or.inl ⟨by kernel_rfl, fun w => ?_⟩) ?_
        · go_simp
        refine wpAny_take (i := 2) (v := .pointer (some ⟨g3, k, none⟩)) rfl (by kernel_rfl) (by kernel_rfl) (by kernel_rfl) (fun _ _ _ h => h) (Or.inl ⟨by kernel_rfl, fun w => ?_⟩) ?_
        · go_simp
        refine wpAny_take (i := 4) (v := .slice (some ⟨g3, 0, none⟩) M c3) rfl (by kernel_rfl) (by kernel_rfl) (by kernel_rfl) (fun _ _ _ h => h) (Or.inl ⟨by kernel_rfl, fun w => ?_⟩) ?_
        · go_simp
        refine wpAny_take (i := 5) (v := .int .i64 j) rfl (by kernel_rfl) (by kernel_rfl) (by kernel_rfl) (fun _ _ _ h => h) (Or.inl ⟨by kernel_rfl, fun w => ?_⟩) ?_
        · go_simp
        refine wpAny_take (i := 6) (v := .pointer (some ⟨g3, j, none⟩)) rfl (by kernel_rfl) (by kernel_rfl) (by kernel_rfl) (fun _ _ _ h => h) (Or.inl ⟨by kernel_rfl, fun w => ?_⟩) ?_
        · go_simp
        refine wpAny_ready (rs := [3, 7]) (by kernel_rfl) (by simp) ?_
        refine AllReady.cons rfl (fun K hK => ?_) ?_
        · go_simp
          refine hK _ _ ?_
          clear hK K
          refine wpAny_ready (rs := [7]) (by kernel_rfl) (by simp) ?_
          refine AllReady.cons rfl (fun K hK => ?_) AllReady.nil
          go_simp
          refine hK _ _ ?_
          clear hK K
          refine wpAny_ready (rs := [8]) (by kernel_rfl) (by simp) ?_
          refine AllReady.cons rfl (fun K hK => ?_) AllReady.nil
          refine step_call2 (by kernel_rfl) 14 (.tmp 79) (.tmp 83) 31 31 (by kernel_rfl) (.slice aS SL cS) (.slice a5' S5 c5') (by kernel_rfl) (by kernel_rfl) (call_samePath _ _) (samePath_no w4.heap.size _ _ (rowP (pathsLs vs) k) (rowP (pathsLs vs) j) _ HX6d.out HX5d.out hzd HNE.out) ?_
          rintro e w11 ⟨rfl, hq11⟩
          have HBN : Hid (Below w6.heap.size w6 w11) := hbj.drew.trans (hq11.mono hzj)
          clear hq11
          refine ⟨_, rfl, ?_⟩
          go_simp
          refine hK _ _ ?_
          clear hK K
          refine wpAny_done (by kernel_rfl) ?_ _
          go_wp2_with fail
          go_roundw
          case rel => exact ⟨j + 1, by omega, by go_num, HBN.out⟩
          case measure => simp [intOf]; omega
        · refine AllReady.cons rfl (fun K hK => ?_) AllReady.nil
          go_simp
          refine hK _ _ ?_
          clear hK K
          refine wpAny_ready (rs := [3]) (by kernel_rfl) (by simp) ?_
          refine AllReady.cons rfl (fun K hK => ?_) AllReady.nil
          go_simp
          refine hK _ _ ?_
          clear hK K
          refine wpAny_ready (rs := [8]) (by kernel_rfl) (by simp) ?_
          refine AllReady.cons rfl (fun K hK => ?_) AllReady.nil
          refine step_call2 (by kernel_rfl) 14 (.tmp 79) (.tmp 83) 31 31 (by kernel_rfl) (.slice aS SL cS) (.slice a5' S5 c5') (by kernel_rfl) (by kernel_rfl) (call_samePath _ _) (samePath_no w4.heap.size _ _ (rowP (pathsLs vs) k) (rowP (pathsLs vs) j) _ HX6d.out HX5d.out hzd HNE.out) ?_
          rintro e w11 ⟨rfl, hq11⟩
          have HBN : Hid (Below w6.heap.size w6 w11) := hbj.drew.trans (hq11.mono hzj)
          clear hq11
          refine ⟨_, rfl, ?_⟩
          go_simp
          refine hK _ _ ?_
          clear hK K
          refine wpAny_done (by kernel_rfl) ?_ _
          go_wp2_with fail
          go_roundw
          case rel => exact ⟨j + 1, by omega, by go_num, HBN.out⟩
          case measure => simp [intOf]; omega
end Go.Proofs.Ytbclgogolimbgaa
