/-
  impl.minus at two numbers.
-/
import Derived.Test.YtgmnihofkpjboaaGreatDoorIMrg
import Derived.Test.YtgmnihofkpjboaaGreatDoorMinP
import Derived.Test.YtgmnihofkpjboaaGreatDoorCmpE
import Derived.Deep.RegionWith
import Derived.Test.YtgmnihofkpjboaaGreatDoorStepC
import Derived.Test.YtgmnihofkpjboaaGreatDoorIMinL
import Derived.Test.YtgmnihofkpjboaaGreatDoorComp
namespace Go.Proofs.YtgmnihofkpjboaaGreatDoor
open Go.RowKit
set_option linter.unusedSimpArgs false
set_option linter.unusedVariables false

theorem tree_num (B : Nat) (w : World) (n : Int) : TreeAt B w 1 (.mk 3 n ByteArray.empty [] []) (.iface 69 (.agg #[.int .i64 n])) := Or.inr (Or.inr (Or.inl ⟨rfl, rfl, rfl, rfl, rfl⟩))

set_option maxRecDepth 100000 in
set_option maxHeartbeats 3200000 in
theorem minus_diff (us vs : List VN) (h1 : okB us = true) (h2 : okB vs = true) (lo B lo' B' : Nat) (hlo : lo ≤ B) (hlo' : lo' ≤ B') (x y : Value) (w : World) (hx : ValG lo B w us us.length (us.length - 1) x) (hy : ValG lo' B' w vs vs.length (vs.length - 1) y) (hB : B ≤ w.heap.size) (hB' : B' ≤ w.heap.size) (hE : Errs2 w) (hk3 : (rootN us).kind = 3) (hk3' : (rootN vs).kind = 3) :
    Calls Tryz.prog 16 #[x, y] w fun e w' => MergeAns (minC us vs) (minNs us vs) e w' ∧ Below w.heap.size w w' := by
  obtain ⟨tx, vx, Fx, rfl, kx⟩ := kindIs hx
  obtain ⟨ty, vy, Fy, rfl, ky⟩ := kindIs hy
  have HKX := hideIt kx
  have HKY := hideIt ky
  have HE := hideIt hE
  have m1 := kx.meth
  have e1 := kx.enter
  have m2 := ky.meth
  have e2 := ky.enter
  clear kx ky hE
  have heq : ((nodeAt us (us.length - 1)).kind != (nodeAt vs (vs.length - 1)).kind) = false := by
    have : (nodeAt us (us.length - 1)).kind = (nodeAt vs (vs.length - 1)).kind := hk3.trans hk3'.symm
    simpa using this
  have ti1 := ta_int_int
  have tbi := tb_int
  have fli := fld_int
  obtain ⟨p1, _, _, _⟩ := okB_parts h1
  obtain ⟨p2, _, _, _⟩ := okB_parts h2
  obtain ⟨f, hf⟩ : ∃ f, us.length = f + 1 := ⟨us.length - 1, by omega⟩
  obtain ⟨f', hf'⟩ : ∃ f', vs.length = f' + 1 := ⟨vs.length - 1, by omega⟩
  have n1 := root_n h1 hk3
  have n2 := root_n h2 hk3'
  have HM := hideIt (min_diff h1 h2 ⟨hk3, hk3'⟩)
  have HDN : Hid (diffNs us vs = leafN 3 ((rootN us).n - (rootN vs).n) ByteArray.empty) := rfl
  obtain ⟨nx, hnx⟩ : ∃ nx, (rootN us).n = nx := ⟨_, rfl⟩
  obtain ⟨ny, hny⟩ : ∃ ny, (rootN vs).n = ny := ⟨_, rfl⟩
  rw [hnx] at n1 HDN
  rw [hny] at n2 HDN
  have ex : vx = .agg #[.int .i64 nx] ∧ tx = 69 := by
    have hx2 := hx
    rw [hf, show f + 1 - 1 = f by omega] at hx2
    have hr : nodeAt us f = rootN us := by unfold rootN; rw [hf]; rfl
    unfold ValG at hx2
    rw [hr, hnx] at hx2
    rcases hx2 with ⟨k, e⟩ | ⟨k, e⟩ | ⟨k, e⟩ | ⟨k, e⟩ | ⟨k, it, e, hi⟩ | ⟨k, ks, it, e, hs, hi⟩
    case inr.inr.inl => cases e; exact ⟨rfl, rfl⟩
    all_goals exact absurd k (by omega)
  have ey : vy = .agg #[.int .i64 ny] ∧ ty = 69 := by
    have hy2 := hy
    rw [hf', show f' + 1 - 1 = f' by omega] at hy2
    have hr : nodeAt vs f' = rootN vs := by unfold rootN; rw [hf']; rfl
    unfold ValG at hy2
    rw [hr, hny] at hy2
    rcases hy2 with ⟨k, e⟩ | ⟨k, e⟩ | ⟨k, e⟩ | ⟨k, e⟩ | ⟨k, it, e, hi⟩ | ⟨k, ks, it, e, hs, hi⟩
    case inr.inr.inl => cases e; exact ⟨rfl, rfl⟩
    all_goals exact absurd k (by omega)
  obtain ⟨rfl, rfl⟩ := ex
  obtain ⟨rfl, rfl⟩ := ey
  obtain ⟨n1a, n1b⟩ := n1
  obtain ⟨n2a, n2b⟩ := n2
  have HLF := hideIt (leaf_few (nx - ny) (by omega) (by omega))
  clear hx hy hnx hny p1 p2 hf hf'
  go_enter Tryz.func16, Tryz.ntmps16
  go_wp2_with fail
  refine (HKX.out.says _).mono ?_
  rintro e w1 ⟨rfl, hb1⟩
  have HB1 := hideIt hb1
  clear hb1
  go_wp2_with fail
  refine (HKY.out.says _).mono ?_
  rintro e w2 ⟨rfl, hb2⟩
  have HB2 := hideIt (HB1.out.trans (hb2.mono HB1.out.size))
  have HE2 := hideIt ((HE.out.below HB2.out).below ((Below.refl _ _).alloc (Nat.le_refl _) (.cells #[.int .i64 nx] 69)))
  clear hb2
  go_wp2_with fail
  obtain ⟨W, hW⟩ : ∃ W, w2.alloc (.cells #[.int .i64 nx] 69) = W := ⟨_, rfl⟩
  have c0 : W.cell? ⟨w2.heap.size, 0, none⟩ = some (.int .i64 nx) := by rw [← hW]; simp
  have HBW : Hid (Below w.heap.size w W) := by rw [Hid, ← hW]; exact HB2.out.alloc HB2.out.size _
  rw [hW] at HE2 ⊢
  have HED := hideIt (HE2.out.below (w' := W.drew) (bsame rfl rfl rfl rfl))
  have HBD : Hid (Below w.heap.size w W.drew) := HBW.out.drew
  clear hW
  have HDW : Hid (IntKind.i64.wrap (nx - ny) = nx - ny) := by
    unfold Hid
    simp [IntKind.wrap, IntKind.signed, IntKind.bits]
    omega
  have HDM : Hid (diffNs us vs = leafN 3 (IntKind.i64.wrap (nx - ny)) ByteArray.empty) := by rw [Hid, HDW.out]; exact HDN.out
  have HLG : Hid (∀ i, i < (leafN 3 (IntKind.i64.wrap (nx - ny)) ByteArray.empty).length → Fits (nodeAt (leafN 3 (IntKind.i64.wrap (nx - ny)) ByteArray.empty) i)) := by rw [Hid, HDW.out]; exact HLF.out.2
  cases ok : okB (leafN 3 (IntKind.i64.wrap (nx - ny)) ByteArray.empty)
  · go_region_law (refine step_call1 (by rfl) 38 _ _ (by rfl) (.iface 69 (.agg #[.int .i64 (IntKind.i64.wrap (nx - ny))])) (by rfl) (call_unless _) (unlessWrong_no 1 (.mk 3 (IntKind.i64.wrap (nx - ny)) ByteArray.empty [] []) _ (leafN 3 (IntKind.i64.wrap (nx - ny)) ByteArray.empty) _ (tree_num _ _ _) (lay_number _) (by simp [leafN]) HLG.out HED.out ok) ?_; rintro e w3 ⟨te, xe, rfl, hrs, hq⟩; refine ⟨_, rfl, ?_⟩)
    all_goals
      have HB3 := hideIt (HBD.out.trans (hq.mono HBD.out.size))
      clear hq
      go_wp2_with fail
      go_ret2
      exact ⟨Or.inr ⟨by rw [HM.out.2, HDM.out, ok]; rfl, _, rfl, by rw [HM.out.1, HDM.out, ok]; exact ⟨te, xe, rfl, hrs⟩⟩, HB3.out⟩
  · go_region_law (refine step_call1 (by rfl) 38 _ _ (by rfl) (.iface 69 (.agg #[.int .i64 (IntKind.i64.wrap (nx - ny))])) (by rfl) (call_unless _) (unlessWrong_yes 1 (.mk 3 (IntKind.i64.wrap (nx - ny)) ByteArray.empty [] []) _ (leafN 3 (IntKind.i64.wrap (nx - ny)) ByteArray.empty) _ (tree_num _ _ _) (lay_number _) (by simp [leafN]) HLG.out HED.out ok) ?_; rintro e w3 ⟨rfl, hq⟩; refine ⟨_, rfl, ?_⟩)
    all_goals
      have HB3 := hideIt (HBD.out.trans (hq.mono HBD.out.size))
      clear hq
      go_wp2_with fail
      go_ret2
      exact ⟨Or.inl ⟨by rw [HM.out.1, HDM.out, ok]; rfl, 1, _, _, _, rfl, tree_num _ _ _, by rw [HM.out.2, HDM.out, ok]; exact lay_number _⟩, HB3.out⟩
end Go.Proofs.YtgmnihofkpjboaaGreatDoor

/-
  impl.Minus.
-/
namespace Go.Proofs.YtgmnihofkpjboaaGreatDoor
open Go.RowKit
set_option linter.unusedSimpArgs false
set_option linter.unusedVariables false

set_option maxRecDepth 100000 in
set_option maxHeartbeats 3200000 in
theorem minus_any (us vs : List VN) (h1 : okB us = true) (h2 : okB vs = true) (lo B lo' B' : Nat) (hlo : lo ≤ B) (hlo' : lo' ≤ B') (x y : Value) (w : World) (hx : ValG lo B w us us.length (us.length - 1) x) (hy : ValG lo' B' w vs vs.length (vs.length - 1) y) (hB : B ≤ w.heap.size) (hB' : B' ≤ w.heap.size) (hE : Errs2 w) :
    Calls Tryz.prog 16 #[x, y] w fun e w' => MergeAns (minC us vs) (minNs us vs) e w' ∧ Below w.heap.size w w' := by
  obtain ⟨tx, vx, Fx, rfl, kx⟩ := kindIs hx
  obtain ⟨ty, vy, Fy, rfl, ky⟩ := kindIs hy
  have HKX := hideIt kx
  have HKY := hideIt ky
  have HE := hideIt hE
  have m1 := kx.meth
  have e1 := kx.enter
  have m2 := ky.meth
  have e2 := ky.enter
  clear kx ky hE
  by_cases hk : (rootN us).kind = (rootN vs).kind
  case neg =>
    have HM := hideIt (min_other h1 h2 (by omega) (by omega))
    have hne : ((nodeAt us (us.length - 1)).kind != (nodeAt vs (vs.length - 1)).kind) = true := by
      have : ¬ (nodeAt us (us.length - 1)).kind = (nodeAt vs (vs.length - 1)).kind := hk
      simpa using this
    go_enter Tryz.func16, Tryz.ntmps16
    go_wp2_with fail
    refine (HKX.out.says _).mono ?_
    rintro e w1 ⟨rfl, hb1⟩
    have HB1 := hideIt hb1
    clear hb1
    go_wp2_with fail
    refine (HKY.out.says _).mono ?_
    rintro e w2 ⟨rfl, hb2⟩
    have HB2 := hideIt (HB1.out.trans (hb2.mono HB1.out.size))
    have HE2 := hideIt (HE.out.below HB2.out)
    clear hb2
    go_wp2_with fail
    refine (wrongKind_any _ HE2.out.errs).mono ?_
    rintro e w3 ⟨⟨v, rfl, te, xe, rfl, hrs⟩, rfl⟩
    go_wp2_with fail
    go_ret2
    exact ⟨Or.inr ⟨HM.out.2, _, rfl, by rw [HM.out.1]; exact ⟨te, xe, rfl, hrs⟩⟩, HB2.out⟩
  case pos =>
  have heq : ((nodeAt us (us.length - 1)).kind != (nodeAt vs (vs.length - 1)).kind) = false := by
    have : (nodeAt us (us.length - 1)).kind = (nodeAt vs (vs.length - 1)).kind := hk
    simpa using this
  have ta1 := ta_null_int
  have ta2 := ta_null_list
  have tb1 := ta_bool_int
  have tb2 := ta_bool_list
  have ti1 := ta_int_int
  have tt1 := ta_text_int
  have tt2 := ta_text_list
  have tl1 := ta_list_int
  have tl2 := ta_list_list
  have tm1 := ta_map_int
  have tm2 := ta_map_list
  have tbi := tb_int
  have fli := fld_int
  obtain ⟨p1, _, _, _⟩ := okB_parts h1
  obtain ⟨p2, _, _, _⟩ := okB_parts h2
  obtain ⟨f, hf⟩ : ∃ f, us.length = f + 1 := ⟨us.length - 1, by omega⟩
  obtain ⟨f', hf'⟩ : ∃ f', vs.length = f' + 1 := ⟨vs.length - 1, by omega⟩
  by_cases hk3 : (rootN us).kind = 3
  case pos =>
    exact minus_diff us vs h1 h2 lo B lo' B' hlo hlo' _ _ w hx hy hB hB' HE.out hk3 (by omega)
  case neg =>
  by_cases hk5 : (rootN us).kind = 5
  case pos =>
    exact minus_list us vs h1 h2 lo B lo' B' hlo hlo' _ _ w hx hy hB hB' hk5 (by omega)
  case neg =>
    have HM := hideIt (min_other h1 h2 (by omega) (by omega))
    have hx2 := hx
    rw [hf, show f + 1 - 1 = f by omega] at hx2
    clear hx
    rcases hx2 with ⟨k, e⟩ | ⟨k, e⟩ | ⟨k, e⟩ | ⟨k, e⟩ | ⟨k, it, e, hi⟩ | ⟨k, ks, it, e, hs, hi⟩
    case inr.inr.inl => exact absurd (show (rootN us).kind = 3 by unfold rootN; rw [hf]; exact k) hk3
    case inr.inr.inr.inr.inl => exact absurd (show (rootN us).kind = 5 by unfold rootN; rw [hf]; exact k) hk5
    all_goals
      cases e
      clear k hf hf' p1 p2 hy hk3 hk5 hk
      have HE2' : Hid (∀ W, Below w.heap.size w W → Errs2 W) := fun W hb => HE.out.below hb
      go_enter Tryz.func16, Tryz.ntmps16
      go_wp2_with fail
      refine (HKX.out.says _).mono ?_
      rintro e w1 ⟨rfl, hb1⟩
      have HB1 := hideIt hb1
      clear hb1
      go_wp2_with fail
      refine (HKY.out.says _).mono ?_
      rintro e w2 ⟨rfl, hb2⟩
      have HB2 := hideIt (HB1.out.trans (hb2.mono HB1.out.size))
      have HE2 := hideIt (HE.out.below HB2.out)
      clear hb2
      go_wp2_with fail
      refine (wrongKind_any _ HE2.out.errs).mono ?_
      rintro e w3 ⟨⟨v, rfl, te, xe, rfl, hrs⟩, rfl⟩
      go_wp2_with fail
      go_ret2
      exact ⟨Or.inr ⟨HM.out.2, _, rfl, by rw [HM.out.1]; exact ⟨te, xe, rfl, hrs⟩⟩, HB2.out⟩

set_option maxRecDepth 100000 in
set_option maxHeartbeats 3200000 in
theorem mergedMinus_any (B : Nat) (v1 v2 : Value) (us vs : List VN) (w : World) (hn1 : NodesAt B w v1 us) (hn2 : NodesAt B w v2 vs) (hB : B ≤ w.heap.size) (hE : Errs2 w) (hf : ∀ i, i < us.length → Fits (nodeAt us i)) :
    Calls Tryz.prog 15 #[v1, v2, .func (.func 16) #[] #[]] w fun e w' => ∃ r base KV IV, e = .returned (.tuple #[r, .int .i64 (minC us vs)]) ∧ w.heap.size ≤ base ∧ base ≤ w'.heap.size ∧ Nest base w' r (minNs us vs) KV IV ∧ Below w.heap.size w w' := by
  have H1 := hideIt hn1
  have H2 := hideIt hn2
  have HE := hideIt hE
  obtain ⟨_, a1, c1, rfl, _⟩ := hn1
  obtain ⟨_, a2, c2, rfl, _⟩ := hn2
  have HNO : Hid (¬ (okB us = true ∧ okB vs = true) → minC us vs = 1 ∧ minNs us vs = []) := fun h => by unfold minC minNs; rw [if_neg h, if_neg h]; exact ⟨rfl, rfl⟩
  have HFW := hideIt (min_few (us := us) (vs := vs) hf)
  clear hE hf
  cases ok1 : okB us
  · have HN := hideIt (HNO.out (by rw [ok1]; simp))
    cases ok2 : okB vs
    · go_enter Tryz.func15, Tryz.ntmps15
      go_wp2_with fail
      refine (valueOf_no B _ us _ H1.out hB ok1).mono ?_
      rintro e w1 ⟨rfl, hb1⟩
      have HB1 := hideIt hb1
      clear hb1
      go_wp2_with fail
      refine (valueOf_no B _ vs _ (H2.out.below (HB1.out.mono hB)) (Nat.le_trans hB HB1.out.size) ok2).mono ?_
      rintro e w2 ⟨rfl, hb2⟩
      have HB2 := hideIt (HB1.out.trans (hb2.mono HB1.out.size))
      clear hb2
      go_wp2_with fail
      go_ret2
      exact ⟨_, w.heap.size, fun _ => undef, fun _ => undef, by rw [HN.out.1]; rfl, Nat.le_refl _, HB2.out.size, by rw [HN.out.2]; exact Nest.nil _ _ _ _, HB2.out⟩
    · go_enter Tryz.func15, Tryz.ntmps15
      go_wp2_with fail
      refine (valueOf_no B _ us _ H1.out hB ok1).mono ?_
      rintro e w1 ⟨rfl, hb1⟩
      have HB1 := hideIt hb1
      clear hb1
      go_wp2_with fail
      refine (valueOf_yes B _ vs _ (H2.out.below (HB1.out.mono hB)) (Nat.le_trans hB HB1.out.size) ok2).mono ?_
      rintro e w2 ⟨lo2, t2, x2, rfl, _, _, _, hb2⟩
      have HB2 := hideIt (HB1.out.trans (hb2.mono HB1.out.size))
      clear hb2
      go_wp2_with fail
      go_ret2
      exact ⟨_, w.heap.size, fun _ => undef, fun _ => undef, by rw [HN.out.1]; rfl, Nat.le_refl _, HB2.out.size, by rw [HN.out.2]; exact Nest.nil _ _ _ _, HB2.out⟩
  · cases ok2 : okB vs
    · have HN := hideIt (HNO.out (by rw [ok2]; simp))
      go_enter Tryz.func15, Tryz.ntmps15
      go_wp2_with fail
      refine (valueOf_yes B _ us _ H1.out hB ok1).mono ?_
      rintro e w1 ⟨lo1, t1, x1, rfl, _, _, _, hb1⟩
      have HB1 := hideIt hb1
      clear hb1
      go_wp2_with fail
      refine (valueOf_no B _ vs _ (H2.out.below (HB1.out.mono hB)) (Nat.le_trans hB HB1.out.size) ok2).mono ?_
      rintro e w2 ⟨rfl, hb2⟩
      have HB2 := hideIt (HB1.out.trans (hb2.mono HB1.out.size))
      clear hb2
      go_wp2_with fail
      go_ret2
      exact ⟨_, w.heap.size, fun _ => undef, fun _ => undef, by rw [HN.out.1]; rfl, Nat.le_refl _, HB2.out.size, by rw [HN.out.2]; exact Nest.nil _ _ _ _, HB2.out⟩
    · go_enter Tryz.func15, Tryz.ntmps15
      go_wp2_with fail
      refine (valueOf_yes B _ us _ H1.out hB ok1).mono ?_
      rintro e w1 ⟨lo1, t1, x1, rfl, hl1, hl1', hv1, hb1⟩
      have HB1 := hideIt hb1
      have HV1 := hideIt hv1
      clear hb1 hv1
      go_wp2_with fail
      refine (valueOf_yes B _ vs _ (H2.out.below (HB1.out.mono hB)) (Nat.le_trans hB HB1.out.size) ok2).mono ?_
      rintro e w2 ⟨lo2, t2, x2, rfl, hl2, hl2', hv2, hb2⟩
      have HB2 := hideIt (HB1.out.trans (hb2.mono HB1.out.size))
      have HV2 := hideIt hv2
      have HV12 := hideIt (ValG.keep (keepG_below hb2) (Nat.le_refl _) (show lo1 ≤ w1.heap.size by omega) (HV1.out.gen (by omega)))
      have z2 := hb2.size
      have HE2 := hideIt (HE.out.below HB2.out)
      clear hb2 hv2
      go_wp2_with fail
      refine (minus_any us vs ok1 ok2 lo1 w1.heap.size lo2 w2.heap.size (by omega) (by omega) _ _ w2 HV12.out (HV2.out.gen (by omega)) z2 (Nat.le_refl _) HE2.out).mono ?_
      rintro e w3 ⟨hans, hb3⟩
      have HB3 := hideIt (HB2.out.trans (hb3.mono HB2.out.size))
      have HE3 := hideIt (HE.out.below HB3.out)
      clear hb3
      rcases hans with ⟨hc, f, t, ty, xv, rfl, ht, hl⟩ | ⟨hn, v, rfl, te, xe, rfl, _⟩
      · have HT := hideIt ht
        have HL := hideIt hl
        have HC := hideIt hc
        clear ht hl hc
        go_wp2_with fail
        refine (nodesOr_yes f t _ (minNs us vs) w3 HT.out HL.out (by have := HFW.out.1.1; omega)).mono ?_
        rintro e w4 ⟨r, KV, IV, rfl, hn4, hb4⟩
        have HN4 := hideIt hn4
        have HB4 := hideIt (HB3.out.trans (hb4.mono HB3.out.size))
        have z4 := hb4.size
        obtain ⟨ar, cr, er⟩ := own_slice hn4.row
        obtain ⟨N, hN⟩ : ∃ N, (minNs us vs).length = N := ⟨_, rfl⟩
        rw [hN] at er
        subst er
        clear hn4 hb4 hN
        go_wp2_with fail
        go_ret2
        exact ⟨_, w3.heap.size, KV, IV, by rw [HC.out]; rfl, HB3.out.size, z4, HN4.out, HB4.out⟩
      · have HN := hideIt hn
        clear hn
        obtain ⟨C, hC⟩ : ∃ C, minC us vs = C := ⟨_, rfl⟩
        have HC := hideIt hC
        rw [hC]
        clear hC
        go_wp2_with fail
        refine (nodesOr_no C _ _ w3 ⟨te, xe, rfl⟩ (Or.inl rfl) HE3.out.errs).mono ?_
        rintro e w4 ⟨rfl, hb4⟩
        have HB4 := hideIt (HB3.out.trans (hb4.mono HB3.out.size))
        clear hb4
        go_wp2_with fail
        go_ret2
        exact ⟨_, w.heap.size, fun _ => undef, fun _ => undef, by rw [HC.out]; rfl, Nat.le_refl _, HB4.out.size, by rw [HN.out]; exact Nest.nil _ _ _ _, HB4.out⟩

set_option maxHeartbeats 800000 in
theorem implMinus_any (B : Nat) (v1 v2 : Value) (us vs : List VN) (w : World) (hn1 : NodesAt B w v1 us) (hn2 : NodesAt B w v2 vs) (hB : B ≤ w.heap.size) (hE : Errs2 w) :
    Calls Tryz.prog 7 #[v1, v2] w fun e w' => ∃ r base KV IV, e = .returned (.tuple #[r, .int .i64 (minC us vs)]) ∧ w.heap.size ≤ base ∧ base ≤ w'.heap.size ∧ Nest base w' r (minNs us vs) KV IV ∧ Below w.heap.size w w' := by
  have H1 := hideIt hn1
  have H2 := hideIt hn2
  have HE := hideIt hE
  obtain ⟨_, a1, c1, rfl, _⟩ := hn1
  obtain ⟨_, a2, c2, rfl, _⟩ := hn2
  clear hE
  go_enter Tryz.func7, Tryz.ntmps7
  go_wp2_with fail
  refine (mergedMinus_any B _ _ us vs w H1.out H2.out hB HE.out H1.out.fits).mono ?_
  rintro e w1 ⟨r, base, KV, IV, rfl, hb0, hb0', hn, hb⟩
  have HN := hideIt hn
  have HB := hideIt hb
  obtain ⟨C, hC⟩ : ∃ C, minC us vs = C := ⟨_, rfl⟩
  have HC := hideIt hC
  rw [hC]
  obtain ⟨ar, cr, er⟩ := own_slice hn.row
  obtain ⟨N, hN⟩ : ∃ N, (minNs us vs).length = N := ⟨_, rfl⟩
  rw [hN] at er
  subst er
  clear hn hb hN hC
  go_wp2_with fail
  go_ret2
  exact ⟨_, base, KV, IV, by rw [HC.out]; rfl, hb0, hb0', HN.out, HB.out⟩
end Go.Proofs.YtgmnihofkpjboaaGreatDoor
