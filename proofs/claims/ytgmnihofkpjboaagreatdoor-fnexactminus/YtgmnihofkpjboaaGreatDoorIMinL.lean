/-
  impl.minus at two lists.
-/
import Derived.Test.YtgmnihofkpjboaaGreatDoorIMrg
import Derived.Test.YtgmnihofkpjboaaGreatDoorLowN
import Derived.Test.YtgmnihofkpjboaaGreatDoorMinP
import Derived.Test.YtgmnihofkpjboaaGreatDoorComp
import Derived.Test.YtgmnihofkpjboaaGreatDoorStepI
import Derived.Deep.RegionWith
namespace Go.Proofs.YtgmnihofkpjboaaGreatDoor
open Go.RowKit
set_option linter.unusedSimpArgs false
set_option linter.unusedVariables false

theorem items_vals {lo B n : Nat} {w : World} {it : Value} {P : Nat → Value → Prop} (h : ItemsG lo B w it n P) (hB : B ≤ w.heap.size) : ∃ V, ValsAt w it n V ∧ ∀ j, j < n → P j (V j) := by
  obtain ⟨a, cap, rfl, hc⟩ := h
  rcases Nat.eq_zero_or_pos n with e | e
  · exact ⟨fun _ => undef, ⟨a, cap, rfl, fun hp => by omega, fun j hj => by omega⟩, fun j hj => by omega⟩
  · obtain ⟨b, rfl, _, hb, hcc⟩ := hc e
    refine ⟨fun j => (w.cell? ⟨b, j, none⟩).getD undef, ⟨_, cap, rfl, fun _ => ⟨b, rfl, by omega, fun j hj => ?_⟩, fun j hj => ?_⟩, fun j hj => ?_⟩
    · obtain ⟨t, x, h1, _⟩ := hcc j hj
      simp only [h1]; rfl
    · obtain ⟨t, x, h1, _⟩ := hcc j hj
      exact ⟨t, x, by simp only [h1]; rfl⟩
    · obtain ⟨t, x, h1, h2⟩ := hcc j hj
      simp only [h1]; exact h2

set_option maxHeartbeats 800000 in
theorem without1_any (xb : Nat) (x y : Value) (us vs : List VN) (hu : FineU us) (hv : FineU vs) (lo B lo' B' : Nat) (hlo : lo ≤ B) (hlo' : lo' ≤ B') (f f' n k : Nat) (w : World) (hn : n < us.length) (hk : k < vs.length)
    (h1 : ValG lo B w us f n x) (h2 : ValG lo' B' w vs f' k y) (hB : B ≤ w.heap.size) (hB' : B' ≤ w.heap.size) (hc : w.cell? ⟨xb, 0, none⟩ = some x) :
    Calls Tryz.prog 52 #[y, .pointer (some ⟨xb, 0, none⟩)] w fun e w' => e = .returned (.bool (decide (ord us vs f n k = 0))) ∧ Below w.heap.size w w' := by
  obtain ⟨tx, vx, rfl⟩ := h1.iface
  obtain ⟨ty, vy, rfl⟩ := h2.iface
  have HC := hideIt (compared_any us vs hu hv lo B lo' B' hlo hlo' f f' n k _ _ w hn hk h1 h2 hB hB')
  obtain ⟨r, hr⟩ : ∃ r, ord us vs f n k = r := ⟨_, rfl⟩
  rw [hr] at HC ⊢
  clear h1 h2 hr
  by_cases h0 : r = 0
  · go_enter Tryz.func52, Tryz.ntmps52
    go_wp2_with fail
    refine HC.out.mono ?_
    rintro e w1 ⟨rfl, hb⟩
    go_wp2_with fail
    go_ret
    exact ⟨ret_bool (by simp [h0]), hb⟩
  · have h0' : (r == 0) = false := by simpa using h0
    go_enter Tryz.func52, Tryz.ntmps52
    go_wp2_with fail
    refine HC.out.mono ?_
    rintro e w1 ⟨rfl, hb⟩
    go_wp2_with fail
    go_ret
    exact ⟨ret_bool (by simp [h0]), hb⟩

theorem kid_hit {us vs : List VN} (h1 : okB us = true) (h2 : okB vs = true) {f : Nat} (hf : us.length = f + 1) {i k : Nat} (hi : i < (rootKids us).length) (hk : k < (rootKids vs).length) :
    decide (ord us vs f (intAt (rootKids us) i).toNat (intAt (rootKids vs) k).toNat = 0) = hitB us vs i k := by
  obtain ⟨q, hq, hql⟩ := root_kid h1 hi
  obtain ⟨r, hr, hrl⟩ := root_kid h2 hk
  unfold hitB
  have e1 : PL us i = partOf us q := by unfold PL; rw [hq]; simp
  have e2 : PL vs k = partOf vs r := by unfold PL; rw [hr]; simp
  rw [hq, hr, e1, e2]
  simp only [Int.toNat_natCast]
  have a := part_same h1 h2 (n := q) (k := r) (f := f) (by omega) (by omega) (by omega)
  have b := orderOf_zero (part_okB h1 (show q < us.length by omega)) (part_okB h2 (show r < vs.length by omega))
  rw [Bool.eq_iff_iff]
  simp only [decide_eq_true_eq]
  rw [a, b]

/-- What is left, as a row of values: the list's tree. -/
theorem left_tree {us vs : List VN} {lo B base : Nat} {w : World} {r : Value} {V : Nat → Value} {f : Nat} (hf : us.length = f + 1) (h1 : okB us = true) (hB : B ≤ w.heap.size) (hlo : lo ≤ B)
    (hV : ∀ j, j < (rootKids us).length → ValG lo B w us f (intAt (rootKids us) j).toNat (V j))
    (hr : w.ownsRow base 59 1 r (leftIx us vs (rootKids us).length).length ((leftIx us vs (rootKids us).length).map V)) :
    TreeAt w.heap.size w (us.length + 1) (.mk 5 0 ByteArray.empty [] (leftTs us vs us.length)) (.iface 73 (.agg #[r])) := by
  obtain ⟨p1, p2, _, p4⟩ := okB_parts h1
  have hl := leftIx_lt us vs (rootKids us).length
  have h80 := (parts_ok h1).2
  have hlen : (leftTs us vs us.length).length = (leftIx us vs (rootKids us).length).length := by simp [leftTs]
  refine Or.inr (Or.inr (Or.inr (Or.inr (Or.inl ⟨rfl, rfl, rfl, rfl, r, rfl, ?_⟩))))
  rw [hlen]
  obtain ⟨a, c, e⟩ := own_slice hr
  subst e
  refine ⟨by omega, a, c, rfl, fun hp => ?_⟩
  obtain ⟨g, cap, e, _, hlt⟩ := hr.form hp
  cases e
  refine ⟨g, rfl, hlt, fun j hj => ?_⟩
  have hx := hl.2 _ (List.getElem_mem hj)
  have hv := hV _ hx
  obtain ⟨t, x, ex⟩ := hv.iface
  obtain ⟨q, hq, hql⟩ := root_kid h1 hx
  rw [ex] at hv
  refine ⟨t, x, ?_, ?_⟩
  · rw [hr.cellAt j (by omega), List.getElem?_map, List.getElem?_eq_getElem hj]
    simp only [Option.map_some, ex]
  · have hkt : kidT (leftTs us vs us.length) j = treeOf us us.length q := by
      unfold leftTs kidT
      rw [List.getD_eq_getElem?_getD, List.getElem?_map, List.getElem?_eq_getElem hj]
      simp only [Option.map_some, Option.getD_some]
      rw [hq]; simp
    show TreeAt w.heap.size w us.length (kidT (leftTs us vs us.length) j) (.iface t x)
    rw [hkt]
    rw [hq] at hv
    simp only [Int.toNat_natCast] at hv
    exact TreeAt.keep (fun _ _ => rfl) hB (ValG.tree hlo p2 p4 p1.2 (by omega) (ValG.more (show f ≤ us.length by omega) hv))

theorem call_without (u v : Value) : ∀ w, (callFunc 39 #[u, v]).run Tryz.prog w = .ok (.enter 39 #[u, v]) w := fun w => by kernel_rfl
theorem parts_meth (x : Value) : ∀ w, (Go.method (Tryz.prog.types.size + Made.depth) 73 x "loop.example/g00345/impl.parts").run Tryz.prog w = .ok (101, x) w := fun w => by kernel_rfl
theorem parts_call (x : Value) : ∀ w, (callFunc 101 #[x]).run Tryz.prog w = .ok (.enter 101 #[x]) w := fun w => by kernel_rfl

theorem list_of {lo B : Nat} {w : World} {us : List VN} {f : Nat} {t : TypeId} {v : Value} (hf : us.length = f + 1) (hk : (rootN us).kind = 5) (h : ValG lo B w us us.length (us.length - 1) (.iface t v)) :
    t = 73 ∧ ∃ it, v = .agg #[it] ∧ ItemsG lo B w it (rootKids us).length (fun j u => ValG lo B w us f (intAt (rootKids us) j).toNat u) := by
  rw [hf, show f + 1 - 1 = f by omega] at h
  have hr : nodeAt us f = rootN us := by unfold rootN; rw [hf]; rfl
  have hr2 : rootKids us = (rootN us).kids := rfl
  unfold ValG at h
  rw [hr] at h
  rcases h with ⟨k, e⟩ | ⟨k, e⟩ | ⟨k, e⟩ | ⟨k, e⟩ | ⟨k, it, e, hi⟩ | ⟨k, ks, it, e, hs, hi⟩
  case inr.inr.inr.inr.inl => cases e; exact ⟨rfl, it, rfl, by rw [hr2]; exact hi⟩
  all_goals exact absurd k (by omega)

/-- The values of a list, from a world on. -/
theorem without_left (us vs : List VN) (h1 : okB us = true) (h2 : okB vs = true) (lo B lo' B' : Nat) (hlo : lo ≤ B) (hlo' : lo' ≤ B') {f f' : Nat} (hf : us.length = f + 1) (hf' : vs.length = f' + 1) (it it' : Value) (V V' : Nat → Value) (w : World)
    (hv : ValsAt w it (rootKids us).length V) (hv' : ValsAt w it' (rootKids vs).length V') (hV : ∀ j, j < (rootKids us).length → ValG lo B w us f (intAt (rootKids us) j).toNat (V j)) (hV' : ∀ j, j < (rootKids vs).length → ValG lo' B' w vs f' (intAt (rootKids vs) j).toNat (V' j)) (hB : B ≤ w.heap.size) (hB' : B' ≤ w.heap.size) :
    Calls Tryz.prog 39 #[it, it'] w fun e w' => ∃ r, e = .returned r ∧ (∃ a c, r = .slice a (leftIx us vs (rootKids us).length).length c) ∧ TreeAt w'.heap.size w' (us.length + 1) (.mk 5 0 ByteArray.empty [] (leftTs us vs us.length)) (.iface 73 (.agg #[r])) ∧ Below w.heap.size w w' := by
  have fu := fine_of h1
  have fv := fine_of h2
  have k1 := (parts_ok h1).2
  have k2 := (parts_ok h2).2
  refine (without_any it it' (rootKids us).length (rootKids vs).length V V' (fun i k => decide (ord us vs f (intAt (rootKids us) i).toNat (intAt (rootKids vs) k).toNat = 0)) w hv hv' (by omega) (by omega) ?_).mono ?_
  · intro w1 hb1 xb i hi hc hxb w2 hb2 k hk
    obtain ⟨q, hq, hql⟩ := root_kid h1 hi
    obtain ⟨r, hr, hrl⟩ := root_kid h2 hk
    have hb12 : Below w.heap.size w w2 := hb1.trans (hb2.mono hb1.size)
    have a1 := ValG.keep (keepG_below (hb12.mono hB)) (Nat.le_refl _) hlo (hV i hi)
    have a2 := ValG.keep (keepG_below (hb12.mono hB')) (Nat.le_refl _) hlo' (hV' k hk)
    exact without1_any xb (V i) (V' k) us vs fu fv lo B lo' B' hlo hlo' f f' _ _ w2 (by rw [hq]; simp; omega) (by rw [hr]; simp; omega) a1 a2 (Nat.le_trans hB hb12.size) (Nat.le_trans hB' hb12.size) ((below_cell hb2 hxb).trans hc)
  · rintro e w' ⟨r, rfl, hrow, hb⟩
    have e : pickIx (fun i => anyTo (fun k => decide (ord us vs f (intAt (rootKids us) i).toNat (intAt (rootKids vs) k).toNat = 0)) (rootKids vs).length) (rootKids us).length = leftIx us vs (rootKids us).length := by
      unfold leftIx
      exact pickIx_same _ (fun i hi => anyTo_same _ (fun k hk => kid_hit h1 h2 hf hi hk))
    rw [e] at hrow
    obtain ⟨a, c, ec⟩ := own_slice hrow
    exact ⟨r, rfl, ⟨a, c, ec⟩, left_tree hf h1 (Nat.le_trans hB hb.size) hlo (fun j hj => ValG.keep (keepG_below (hb.mono hB)) (Nat.le_refl _) hlo (hV j hj)) hrow, hb⟩

set_option maxRecDepth 100000 in
set_option maxHeartbeats 3200000 in
theorem minus_list (us vs : List VN) (h1 : okB us = true) (h2 : okB vs = true) (lo B lo' B' : Nat) (hlo : lo ≤ B) (hlo' : lo' ≤ B') (x y : Value) (w : World) (hx : ValG lo B w us us.length (us.length - 1) x) (hy : ValG lo' B' w vs vs.length (vs.length - 1) y) (hB : B ≤ w.heap.size) (hB' : B' ≤ w.heap.size) (hk5 : (rootN us).kind = 5) (hk5' : (rootN vs).kind = 5) :
    Calls Tryz.prog 16 #[x, y] w fun e w' => MergeAns (minC us vs) (minNs us vs) e w' ∧ Below w.heap.size w w' := by
  obtain ⟨tx, vx, Fx, rfl, kx⟩ := kindIs hx
  obtain ⟨ty, vy, Fy, rfl, ky⟩ := kindIs hy
  have HM := hideIt (min_list h1 h2 ⟨hk5, hk5'⟩)
  have HKX := hideIt kx
  have HKY := hideIt ky
  have m1 := kx.meth
  have e1 := kx.enter
  have m2 := ky.meth
  have e2 := ky.enter
  have heq : ((nodeAt us (us.length - 1)).kind != (nodeAt vs (vs.length - 1)).kind) = false := by
    have : (nodeAt us (us.length - 1)).kind = (nodeAt vs (vs.length - 1)).kind := hk5.trans hk5'.symm
    simpa using this
  have tl1 := ta_list_int
  have tl2 := ta_list_list
  obtain ⟨p1, _, _, _⟩ := okB_parts h1
  obtain ⟨p2, _, _, _⟩ := okB_parts h2
  obtain ⟨f, hf⟩ : ∃ f, us.length = f + 1 := ⟨us.length - 1, by omega⟩
  obtain ⟨f', hf'⟩ : ∃ f', vs.length = f' + 1 := ⟨vs.length - 1, by omega⟩
  obtain ⟨rfl, it, rfl, hi⟩ := list_of hf hk5 hx
  obtain ⟨rfl, it', rfl, hi'⟩ := list_of hf' hk5' hy
  obtain ⟨V, hv, hV⟩ := items_vals hi hB
  obtain ⟨V', hv', hV'⟩ := items_vals hi' hB'
  have HLL := hideIt (lay_left h1 vs (Nat.le_refl us.length))
  have HWL : Hid (∀ W, Below w.heap.size w W → Calls Tryz.prog 39 #[it, it'] W fun e w' => ∃ r, e = .returned r ∧ (∃ a c, r = .slice a (leftIx us vs (rootKids us).length).length c) ∧ TreeAt w'.heap.size w' (us.length + 1) (.mk 5 0 ByteArray.empty [] (leftTs us vs us.length)) (.iface 73 (.agg #[r])) ∧ Below W.heap.size W w') :=
    fun W hb => without_left us vs h1 h2 lo B lo' B' hlo hlo' hf hf' it it' V V' W (hv.below hb) (hv'.below hb) (fun j hj => ValG.keep (keepG_below (hb.mono hB)) (Nat.le_refl _) hlo (hV j hj)) (fun j hj => ValG.keep (keepG_below (hb.mono hB')) (Nat.le_refl _) hlo' (hV' j hj)) (Nat.le_trans hB hb.size) (Nat.le_trans hB' hb.size)
  obtain ⟨a, cap, rfl, _⟩ := hi
  obtain ⟨a', cap', rfl, _⟩ := hi'
  obtain ⟨N, hN⟩ : ∃ N, (leftIx us vs (rootKids us).length).length = N := ⟨_, rfl⟩
  rw [hN] at HWL
  obtain ⟨M, hM⟩ : ∃ M, (rootKids us).length = M := ⟨_, rfl⟩
  obtain ⟨M', hM'⟩ : ∃ M', (rootKids vs).length = M' := ⟨_, rfl⟩
  rw [hM, hM'] at HWL
  rw [hM] at HKX m1 e1 ⊢
  rw [hM'] at HKY m2 e2 ⊢
  clear kx ky hx hy hv hv' hV hV' p1 p2 hf hf' hN hM hM'
  go_enter Tryz.func16, Tryz.ntmps16
  go_wp2_with fail
  refine (HKX.out.says _).mono ?_
  rintro e w1 ⟨rfl, hb1⟩
  have HB1 := hideIt hb1
  clear hb1
  go_wp2_with fail
  refine (HKY.out.says _).mono ?_
  rintro e w2 ⟨rfl, hb2⟩
  have HB2 := hideIt (HB1.out.trans (hb2.mono HB1.out.size))
  clear hb2
  go_wp2_with fail
  obtain ⟨W, hW⟩ : ∃ W, w2.alloc (.cells #[.slice a M cap] 73) = W := ⟨_, rfl⟩
  have c0 : W.cell? ⟨w2.heap.size, 0, none⟩ = some (.slice a M cap) := by rw [← hW]; simp
  have hlt : w2.heap.size < W.heap.size := by rw [← hW]; simp
  have HBD : Hid (Below w.heap.size w W.drew) := by rw [Hid, ← hW]; exact (HB2.out.alloc HB2.out.size _).drew
  have c0d : W.drew.cell? ⟨w2.heap.size, 0, none⟩ = some (.slice a M cap) := c0
  have hltd : w2.heap.size < W.drew.heap.size := by simpa using hlt
  rw [hW]
  clear hW
  go_region_law
    (first
      | (refine step_invoke (by rfl) _ _ (by rfl) 73 (.agg #[.slice a' M' cap']) (by rfl) 101 (parts_meth _) (parts_call _) (parts5_any a' M' cap' _) ?_; rintro e w3 ⟨rfl, hb3⟩; have hS1 := (below_cell hb3 hltd).trans c0d; refine ⟨_, rfl, ?_⟩)
      | (refine step_call2 (by rfl) 39 _ _ _ _ (by rfl) (.slice a M cap) (.slice a' M' cap') (by rfl) (by rfl) (call_without _ _) (HWL.out w3 (HBD.out.trans (hb3.mono HBD.out.size))) ?_; rintro e w4 ⟨r, rfl, ⟨ar, cr, rfl⟩, htr, hb4⟩; refine ⟨_, rfl, ?_⟩))
  all_goals
    have HB3 := hideIt (HBD.out.trans (hb3.mono HBD.out.size))
    have HB4 := hideIt (HB3.out.trans (hb4.mono HB3.out.size))
    have HTR := hideIt htr
    clear hb3 hb4 htr
    go_wp2_with fail
    go_ret2
    exact ⟨Or.inl ⟨HM.out.1, _, _, _, _, rfl, HTR.out, by rw [HM.out.2]; exact HLL.out⟩, HB4.out⟩
end Go.Proofs.YtgmnihofkpjboaaGreatDoor
