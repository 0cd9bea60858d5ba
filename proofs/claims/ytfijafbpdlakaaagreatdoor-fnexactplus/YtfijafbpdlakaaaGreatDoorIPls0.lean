/-
  impl.plus at two numbers.
-/
import Derived.Test.YtfijafbpdlakaaaGreatDoorPlusP
import Derived.Test.YtfijafbpdlakaaaGreatDoorCmpE
import Derived.Deep.RegionWith
import Derived.Test.YtfijafbpdlakaaaGreatDoorStepN
import Derived.Test.YtfijafbpdlakaaaGreatDoorGotP
namespace Go.Proofs.YtfijafbpdlakaaaGreatDoor
open Go.RowKit
set_option linter.unusedSimpArgs false
set_option linter.unusedVariables false

set_option maxRecDepth 100000 in
set_option maxHeartbeats 3200000 in
theorem plus_sum (us vs : List VN) (h1 : okB us = true) (h2 : okB vs = true) (lo B lo' B' : Nat) (hlo : lo ≤ B) (hlo' : lo' ≤ B') (x y : Value) (w : World) (hx : ValIs lo B w us us.length (us.length - 1) x) (hy : ValIs lo' B' w vs vs.length (vs.length - 1) y) (hB : B ≤ w.heap.size) (hB' : B' ≤ w.heap.size) (hE : Errs2 w) (hk3 : (rootN us).kind = 3) (hk3' : (rootN vs).kind = 3) :
    Calls Tryz.prog 25 #[x, y] w fun e w' => MergeAns (plusC us vs) (plusNs us vs) e w' ∧ Below w.heap.size w w' := by
  obtain ⟨tx, vx, Fx, rfl, kx⟩ := kindIs hx
  obtain ⟨ty, vy, Fy, rfl, ky⟩ := kindIs hy
  have HKX := hideIt kx
  have HKY := hideIt ky
  have HE := hideIt hE
  have m1 := kx.meth
  have e1 := kx.enter
  have m2 := ky.meth
  have e2 := ky.enter
  clear kx ky hE
  have heq : ((nodeAt us (us.length - 1)).kind != (nodeAt vs (vs.length - 1)).kind) = false := by
    have : (nodeAt us (us.length - 1)).kind = (nodeAt vs (vs.length - 1)).kind := hk3.trans hk3'.symm
    simpa using this
  have ti1 := ta_int_int
  have tbi := tb_int
  have fli := fld_int
  obtain ⟨p1, _, _, _⟩ := okB_parts h1
  obtain ⟨p2, _, _, _⟩ := okB_parts h2
  obtain ⟨f, hf⟩ : ∃ f, us.length = f + 1 := ⟨us.length - 1, by omega⟩
  obtain ⟨f', hf'⟩ : ∃ f', vs.length = f' + 1 := ⟨vs.length - 1, by omega⟩
  have n1 := root_n h1 hk3
  have n2 := root_n h2 hk3'
  have HM := hideIt (plus_raw h1 h2 (by omega) (by omega) (by omega))
  rw [raw_sum hk3] at HM
  have hz1 : ((nodeAt us (us.length - 1)).kind == 1) = false := by
    have : ¬ (nodeAt us (us.length - 1)).kind = 1 := by have : (nodeAt us (us.length - 1)).kind = 3 := hk3
                                                        omega
    simpa using this
  have hz2 : ((nodeAt vs (vs.length - 1)).kind == 1) = false := by
    have : ¬ (nodeAt vs (vs.length - 1)).kind = 1 := by have : (nodeAt vs (vs.length - 1)).kind = 3 := hk3'
                                                        omega
    simpa using this
  have HDN : Hid (sumNs us vs = leafN 3 ((rootN us).n + (rootN vs).n) ByteArray.empty) := rfl
  obtain ⟨nx, hnx⟩ : ∃ nx, (rootN us).n = nx := ⟨_, rfl⟩
  obtain ⟨ny, hny⟩ : ∃ ny, (rootN vs).n = ny := ⟨_, rfl⟩
  rw [hnx] at n1 HDN
  rw [hny] at n2 HDN
  have ex : vx = .agg #[.int .i64 nx] ∧ tx = 86 := by
    have hx2 := hx
    rw [hf, show f + 1 - 1 = f by omega] at hx2
    have hr : nodeAt us f = rootN us := by unfold rootN; rw [hf]; rfl
    unfold ValIs at hx2
    rw [hr, hnx] at hx2
    rcases hx2 with ⟨k, e⟩ | ⟨k, e⟩ | ⟨k, e⟩ | ⟨k, e⟩ | ⟨k, it, e, hi⟩ | ⟨k, ks, it, e, hs, hi⟩
    case inr.inr.inl => cases e; exact ⟨rfl, rfl⟩
    all_goals exact absurd k (by omega)
  have ey : vy = .agg #[.int .i64 ny] ∧ ty = 86 := by
    have hy2 := hy
    rw [hf', show f' + 1 - 1 = f' by omega] at hy2
    have hr : nodeAt vs f' = rootN vs := by unfold rootN; rw [hf']; rfl
    unfold ValIs at hy2
    rw [hr, hny] at hy2
    rcases hy2 with ⟨k, e⟩ | ⟨k, e⟩ | ⟨k, e⟩ | ⟨k, e⟩ | ⟨k, it, e, hi⟩ | ⟨k, ks, it, e, hs, hi⟩
    case inr.inr.inl => cases e; exact ⟨rfl, rfl⟩
    all_goals exact absurd k (by omega)
  obtain ⟨rfl, rfl⟩ := ex
  obtain ⟨rfl, rfl⟩ := ey
  obtain ⟨n1a, n1b⟩ := n1
  obtain ⟨n2a, n2b⟩ := n2
  have HLF := hideIt (leaf_few (nx + ny) (by omega) (by omega))
  clear hx hy hnx hny p1 p2 hf hf'
  go_enter Tryz.func25, Tryz.ntmps25
  go_wp2_with fail
  refine (HKX.out.says _).mono ?_
  rintro e w1 ⟨rfl, hb1⟩
  have HB1 := hideIt hb1
  clear hb1
  go_wp2_with fail
  refine (HKY.out.says _).mono ?_
  rintro e wa ⟨rfl, hba⟩
  have HBa := hideIt (HB1.out.trans (hba.mono HB1.out.size))
  clear hba
  go_wp2_with fail
  refine (HKX.out.says _).mono ?_
  rintro e wb ⟨rfl, hbb⟩
  have HBb := hideIt (HBa.out.trans (hbb.mono HBa.out.size))
  clear hbb
  go_wp2_with fail
  refine (HKY.out.says _).mono ?_
  rintro e w2 ⟨rfl, hb2⟩
  have HB2 := hideIt (HBb.out.trans (hb2.mono HBb.out.size))
  have HE2 := hideIt ((HE.out.below HB2.out).below ((Below.refl _ _).alloc (Nat.le_refl _) (.cells #[.int .i64 nx] 86)))
  clear hb2
  go_wp2_with fail
  obtain ⟨W, hW⟩ : ∃ W, w2.alloc (.cells #[.int .i64 nx] 86) = W := ⟨_, rfl⟩
  have c0 : W.cell? ⟨w2.heap.size, 0, none⟩ = some (.int .i64 nx) := by rw [← hW]; simp
  have HBW : Hid (Below w.heap.size w W) := by rw [Hid, ← hW]; exact HB2.out.alloc HB2.out.size _
  rw [hW] at HE2 ⊢
  have HED := hideIt (HE2.out.below (w' := W.drew) (bsame rfl rfl rfl rfl))
  have HBD : Hid (Below w.heap.size w W.drew) := HBW.out.drew
  clear hW
  have HDW : Hid (IntKind.i64.wrap (nx + ny) = nx + ny) := by
    unfold Hid
    simp [IntKind.wrap, IntKind.signed, IntKind.bits]
    omega
  have HDM : Hid (sumNs us vs = leafN 3 (IntKind.i64.wrap (nx + ny)) ByteArray.empty) := by rw [Hid, HDW.out]; exact HDN.out
  have HLG : Hid (∀ i, i < (leafN 3 (IntKind.i64.wrap (nx + ny)) ByteArray.empty).length → Fits (nodeAt (leafN 3 (IntKind.i64.wrap (nx + ny)) ByteArray.empty) i)) := by rw [Hid, HDW.out]; exact HLF.out.2
  cases ok : okB (leafN 3 (IntKind.i64.wrap (nx + ny)) ByteArray.empty)
  · go_region_law (refine step_call1 (by rfl) 53 _ _ (by rfl) (.iface 86 (.agg #[.int .i64 (IntKind.i64.wrap (nx + ny))])) (by rfl) (call_unless _) (unlessWrong_no 1 (.mk 3 (IntKind.i64.wrap (nx + ny)) ByteArray.empty [] []) _ (leafN 3 (IntKind.i64.wrap (nx + ny)) ByteArray.empty) _ (tree_num _ _ _) (lay_number _) (by simp [leafN]) HLG.out HED.out ok) ?_; rintro e w3 ⟨te, xe, rfl, hq⟩; refine ⟨_, rfl, ?_⟩)
    all_goals
      have HB3 := hideIt (HBD.out.trans (hq.mono HBD.out.size))
      clear hq
      go_wp2_with fail
      go_ret2
      exact ⟨Or.inr ⟨by rw [HM.out.2, HDM.out, ok]; rfl, _, rfl, by rw [HM.out.1, HDM.out, ok]; exact ⟨te, xe, rfl⟩⟩, HB3.out⟩
  · go_region_law (refine step_call1 (by rfl) 53 _ _ (by rfl) (.iface 86 (.agg #[.int .i64 (IntKind.i64.wrap (nx + ny))])) (by rfl) (call_unless _) (unlessWrong_yes 1 (.mk 3 (IntKind.i64.wrap (nx + ny)) ByteArray.empty [] []) _ (leafN 3 (IntKind.i64.wrap (nx + ny)) ByteArray.empty) _ (tree_num _ _ _) (lay_number _) (by simp [leafN]) HLG.out HED.out ok) ?_; rintro e w3 ⟨rfl, hq⟩; refine ⟨_, rfl, ?_⟩)
    all_goals
      have HB3 := hideIt (HBD.out.trans (hq.mono HBD.out.size))
      clear hq
      go_wp2_with fail
      go_ret2
      exact ⟨Or.inl ⟨by rw [HM.out.1, HDM.out, ok]; rfl, 1, _, _, _, rfl, tree_num _ _ _, by rw [HM.out.2, HDM.out, ok]; exact lay_number _⟩, HB3.out⟩
end Go.Proofs.YtfijafbpdlakaaaGreatDoor

/-
  impl.plus where one side is null, where the kinds part, and at two truth values.
-/
namespace Go.Proofs.YtfijafbpdlakaaaGreatDoor
open Go.RowKit
set_option linter.unusedSimpArgs false
set_option linter.unusedVariables false

theorem whole_tree {vs : List VN} (h : okB vs = true) {lo B : Nat} {w w' : World} {v : Value} (hlo : lo ≤ B) (hB : B ≤ w'.heap.size) (hk : ∀ k, k < B → w'.heap[k]? = w.heap[k]?) (hv : ValIs lo B w vs vs.length (vs.length - 1) v) :
    TreeAt w'.heap.size w' vs.length (treeOf vs vs.length (vs.length - 1)) v ∧ layT vs.length (treeOf vs vs.length (vs.length - 1)) 0 = vs := by
  obtain ⟨p1, p2, _, p4⟩ := okB_parts h
  refine ⟨TreeAt.keep hk hB (ValIs.tree hlo p2 p4 p1.2 (by omega) hv), ?_⟩
  rw [(lay_part h (by omega) (by omega)).1, part_root h]

set_option maxRecDepth 100000 in
set_option maxHeartbeats 3200000 in
theorem plus_first (us vs : List VN) (h1 : okB us = true) (h2 : okB vs = true) (lo B lo' B' : Nat) (hlo : lo ≤ B) (hlo' : lo' ≤ B') (x y : Value) (w : World) (hx : ValIs lo B w us us.length (us.length - 1) x) (hy : ValIs lo' B' w vs vs.length (vs.length - 1) y) (hB : B ≤ w.heap.size) (hB' : B' ≤ w.heap.size) (hE : Errs2 w) (hk : (rootN us).kind = 1) :
    Calls Tryz.prog 25 #[x, y] w fun e w' => MergeAns (plusC us vs) (plusNs us vs) e w' ∧ Below w.heap.size w w' := by
  obtain ⟨tx, vx, Fx, rfl, kx⟩ := kindIs hx
  obtain ⟨ty, vy, Fy, rfl, ky⟩ := kindIs hy
  have HKX := hideIt kx
  have HKY := hideIt ky
  have HE := hideIt hE
  have m1 := kx.meth
  have e1 := kx.enter
  have m2 := ky.meth
  have e2 := ky.enter
  clear kx ky hE
  have hz1 : ((nodeAt us (us.length - 1)).kind == 1) = true := by simpa using (show (nodeAt us (us.length - 1)).kind = 1 from hk)
  have HM := hideIt (plus_null1 h1 h2 hk)
  have HW := hideIt (fun (w' : World) (hb : Below w.heap.size w w') => whole_tree (w' := w') h2 hlo' (Nat.le_trans hB' hb.size) (fun k hk => hb.block k (by omega)) hy)
  clear hx hy
  go_enter Tryz.func25, Tryz.ntmps25
  go_wp2_with fail
  refine (HKX.out.says _).mono ?_
  rintro e w1 ⟨rfl, hb1⟩
  have HB1 := hideIt hb1
  clear hb1
  go_wp2_with fail
  go_ret2
  exact ⟨Or.inl ⟨HM.out.1, _, _, _, _, rfl, (HW.out _ HB1.out).1, by rw [HM.out.2]; exact (HW.out _ HB1.out).2⟩, HB1.out⟩

set_option maxRecDepth 100000 in
set_option maxHeartbeats 3200000 in
theorem plus_second (us vs : List VN) (h1 : okB us = true) (h2 : okB vs = true) (lo B lo' B' : Nat) (hlo : lo ≤ B) (hlo' : lo' ≤ B') (x y : Value) (w : World) (hx : ValIs lo B w us us.length (us.length - 1) x) (hy : ValIs lo' B' w vs vs.length (vs.length - 1) y) (hB : B ≤ w.heap.size) (hB' : B' ≤ w.heap.size) (hE : Errs2 w) (hk1 : (rootN us).kind ≠ 1) (hk : (rootN vs).kind = 1) :
    Calls Tryz.prog 25 #[x, y] w fun e w' => MergeAns (plusC us vs) (plusNs us vs) e w' ∧ Below w.heap.size w w' := by
  obtain ⟨tx, vx, Fx, rfl, kx⟩ := kindIs hx
  obtain ⟨ty, vy, Fy, rfl, ky⟩ := kindIs hy
  have HKX := hideIt kx
  have HKY := hideIt ky
  have HE := hideIt hE
  have m1 := kx.meth
  have e1 := kx.enter
  have m2 := ky.meth
  have e2 := ky.enter
  clear kx ky hE
  have hz1 : ((nodeAt us (us.length - 1)).kind == 1) = false := by simpa using (show ¬ (nodeAt us (us.length - 1)).kind = 1 from hk1)
  have hz2 : ((nodeAt vs (vs.length - 1)).kind == 1) = true := by simpa using (show (nodeAt vs (vs.length - 1)).kind = 1 from hk)
  have HM := hideIt (plus_null2 h1 h2 hk1 hk)
  have HW := hideIt (fun (w' : World) (hb : Below w.heap.size w w') => whole_tree (w' := w') h1 hlo (Nat.le_trans hB hb.size) (fun k hk => hb.block k (by omega)) hx)
  clear hx hy
  go_enter Tryz.func25, Tryz.ntmps25
  go_wp2_with fail
  refine (HKX.out.says _).mono ?_
  rintro e w1 ⟨rfl, hb1⟩
  have HB1 := hideIt hb1
  clear hb1
  go_wp2_with fail
  refine (HKY.out.says _).mono ?_
  rintro e wa ⟨rfl, hba⟩
  have HBa := hideIt (HB1.out.trans (hba.mono HB1.out.size))
  clear hba
  go_wp2_with fail
  go_ret2
  exact ⟨Or.inl ⟨HM.out.1, _, _, _, _, rfl, (HW.out _ HBa.out).1, by rw [HM.out.2]; exact (HW.out _ HBa.out).2⟩, HBa.out⟩

set_option maxRecDepth 100000 in
set_option maxHeartbeats 3200000 in
theorem plus_other (us vs : List VN) (h1 : okB us = true) (h2 : okB vs = true) (lo B lo' B' : Nat) (hlo : lo ≤ B) (hlo' : lo' ≤ B') (x y : Value) (w : World) (hx : ValIs lo B w us us.length (us.length - 1) x) (hy : ValIs lo' B' w vs vs.length (vs.length - 1) y) (hB : B ≤ w.heap.size) (hB' : B' ≤ w.heap.size) (hE : Errs2 w) (hk1 : (rootN us).kind ≠ 1) (hk2 : (rootN vs).kind ≠ 1) (hk : (rootN us).kind ≠ (rootN vs).kind) :
    Calls Tryz.prog 25 #[x, y] w fun e w' => MergeAns (plusC us vs) (plusNs us vs) e w' ∧ Below w.heap.size w w' := by
  obtain ⟨tx, vx, Fx, rfl, kx⟩ := kindIs hx
  obtain ⟨ty, vy, Fy, rfl, ky⟩ := kindIs hy
  have HKX := hideIt kx
  have HKY := hideIt ky
  have HE := hideIt hE
  have m1 := kx.meth
  have e1 := kx.enter
  have m2 := ky.meth
  have e2 := ky.enter
  clear kx ky hE
  have hz1 : ((nodeAt us (us.length - 1)).kind == 1) = false := by simpa using (show ¬ (nodeAt us (us.length - 1)).kind = 1 from hk1)
  have hz2 : ((nodeAt vs (vs.length - 1)).kind == 1) = false := by simpa using (show ¬ (nodeAt vs (vs.length - 1)).kind = 1 from hk2)
  have hne : ((nodeAt us (us.length - 1)).kind != (nodeAt vs (vs.length - 1)).kind) = true := by
    have : ¬ (nodeAt us (us.length - 1)).kind = (nodeAt vs (vs.length - 1)).kind := hk
    simpa using this
  have HM := hideIt (plus_unlike h1 h2 hk1 hk2 (fun h => hk h.1))
  clear hx hy
  go_enter Tryz.func25, Tryz.ntmps25
  go_wp2_with fail
  refine (HKX.out.says _).mono ?_
  rintro e w1 ⟨rfl, hb1⟩
  have HB1 := hideIt hb1
  clear hb1
  go_wp2_with fail
  refine (HKY.out.says _).mono ?_
  rintro e wa ⟨rfl, hba⟩
  have HBa := hideIt (HB1.out.trans (hba.mono HB1.out.size))
  clear hba
  go_wp2_with fail
  refine (HKX.out.says _).mono ?_
  rintro e wb ⟨rfl, hbb⟩
  have HBb := hideIt (HBa.out.trans (hbb.mono HBa.out.size))
  clear hbb
  go_wp2_with fail
  refine (HKY.out.says _).mono ?_
  rintro e w2 ⟨rfl, hb2⟩
  have HB2 := hideIt (HBb.out.trans (hb2.mono HBb.out.size))
  have HE2 := hideIt (HE.out.below HB2.out)
  clear hb2
  go_wp2_with fail
  refine (wrongKind_any _ HE2.out.errs).mono ?_
  rintro e w3 ⟨⟨v, rfl, te, xe, rfl⟩, rfl⟩
  go_wp2_with fail
  go_ret2
  exact ⟨Or.inr ⟨HM.out.2, _, rfl, by rw [HM.out.1]; exact ⟨te, xe, rfl⟩⟩, HB2.out⟩

theorem tp_bool_text (x : Value) (w : World) : (Instr.typeAssert (.iface 105 x) 54 89 true).run Tryz.prog w = .ok (.tuple #[.agg #[.string ByteArray.empty], .bool false]) w := by kernel_rfl
theorem tp_bool_map (x : Value) (w : World) : (Instr.typeAssert (.iface 105 x) 54 94 true).run Tryz.prog w = .ok (.tuple #[.agg #[.slice none 0 0, .slice none 0 0], .bool false]) w := by kernel_rfl

set_option maxRecDepth 100000 in
set_option maxHeartbeats 3200000 in
theorem plus_bools (us vs : List VN) (h1 : okB us = true) (h2 : okB vs = true) (lo B lo' B' : Nat) (hlo : lo ≤ B) (hlo' : lo' ≤ B') (x y : Value) (w : World) (hx : ValIs lo B w us us.length (us.length - 1) x) (hy : ValIs lo' B' w vs vs.length (vs.length - 1) y) (hB : B ≤ w.heap.size) (hB' : B' ≤ w.heap.size) (hE : Errs2 w) (hk : (rootN us).kind = 2) (hk' : (rootN vs).kind = 2) :
    Calls Tryz.prog 25 #[x, y] w fun e w' => MergeAns (plusC us vs) (plusNs us vs) e w' ∧ Below w.heap.size w w' := by
  obtain ⟨tx, vx, Fx, rfl, kx⟩ := kindIs hx
  obtain ⟨ty, vy, Fy, rfl, ky⟩ := kindIs hy
  have HKX := hideIt kx
  have HKY := hideIt ky
  have HE := hideIt hE
  have m1 := kx.meth
  have e1 := kx.enter
  have m2 := ky.meth
  have e2 := ky.enter
  clear kx ky hE
  have hz1 : ((nodeAt us (us.length - 1)).kind == 1) = false := by simpa using (show ¬ (nodeAt us (us.length - 1)).kind = 1 from (by have : (nodeAt us (us.length - 1)).kind = 2 := hk; omega))
  have hz2 : ((nodeAt vs (vs.length - 1)).kind == 1) = false := by simpa using (show ¬ (nodeAt vs (vs.length - 1)).kind = 1 from (by have : (nodeAt vs (vs.length - 1)).kind = 2 := hk'; omega))
  have heq : ((nodeAt us (us.length - 1)).kind != (nodeAt vs (vs.length - 1)).kind) = false := by
    have : (nodeAt us (us.length - 1)).kind = (nodeAt vs (vs.length - 1)).kind := hk.trans hk'.symm
    simpa using this
  have HM := hideIt (plus_unlike h1 h2 (by omega) (by omega) (fun h => h.2 hk))
  obtain ⟨p1, _, _, _⟩ := okB_parts h1
  obtain ⟨f, hf⟩ : ∃ f, us.length = f + 1 := ⟨us.length - 1, by omega⟩
  have et : tx = 105 := by
    have hx2 := hx
    rw [hf, show f + 1 - 1 = f by omega] at hx2
    have hr : (nodeAt us f).kind = 2 := by have : rootN us = nodeAt us f := by unfold rootN; rw [hf]; rfl
                                           rw [← this]; exact hk
    rcases hx2 with ⟨k, e⟩ | ⟨k, e⟩ | ⟨k, e⟩ | ⟨k, e⟩ | ⟨k, it, e, hi⟩ | ⟨k, ks, it, e, hs, hi⟩
    case inr.inl => cases e; rfl
    all_goals exact absurd k (by omega)
  subst et
  have tb1 := ta_bool_int
  have tb2 := ta_bool_list
  have tb3 := tp_bool_text
  have tb4 := tp_bool_map
  clear hx hy p1 hf
  go_enter Tryz.func25, Tryz.ntmps25
  go_wp2_with fail
  refine (HKX.out.says _).mono ?_
  rintro e w1 ⟨rfl, hb1⟩
  have HB1 := hideIt hb1
  clear hb1
  go_wp2_with fail
  refine (HKY.out.says _).mono ?_
  rintro e wa ⟨rfl, hba⟩
  have HBa := hideIt (HB1.out.trans (hba.mono HB1.out.size))
  clear hba
  go_wp2_with fail
  refine (HKX.out.says _).mono ?_
  rintro e wb ⟨rfl, hbb⟩
  have HBb := hideIt (HBa.out.trans (hbb.mono HBa.out.size))
  clear hbb
  go_wp2_with fail
  refine (HKY.out.says _).mono ?_
  rintro e w2 ⟨rfl, hb2⟩
  have HB2 := hideIt (HBb.out.trans (hb2.mono HBb.out.size))
  have HE2 := hideIt (HE.out.below HB2.out)
  clear hb2
  go_wp2_with fail
  refine (wrongKind_any _ HE2.out.errs).mono ?_
  rintro e w3 ⟨⟨v, rfl, te, xe, rfl⟩, rfl⟩
  go_wp2_with fail
  go_ret2
  exact ⟨Or.inr ⟨HM.out.2, _, rfl, by rw [HM.out.1]; exact ⟨te, xe, rfl⟩⟩, HB2.out⟩
end Go.Proofs.YtfijafbpdlakaaaGreatDoor
