/-
  Two maps in one: the tree of what withKeysOf answers, and its nodes.
-/
import Derived.Test.YtfijafbpdlakaaaGreatDoorLayG
import Derived.Test.YtfijafbpdlakaaaGreatDoorIWk
import Derived.Test.YtfijafbpdlakaaaGreatDoorBSrch
import Derived.Test.YtfijafbpdlakaaaGreatDoorStepN
namespace Go.Proofs.YtfijafbpdlakaaaGreatDoor
open Go.RowKit
set_option linter.unusedSimpArgs false
set_option linter.unusedVariables false

theorem map_tree2 {w1 w2 : World} {base : Nat} {l : List ByteArray} {V : Nat → Value} {f : Nat → Int} {m F : Nat} {T : Nat → VT} {k2 i2 : Value} (hm : m ≤ 1000) (hl : l.length = m) (hks : ∀ i, i < l.length → (keyAt l i).size ≤ 140737488355328)
    (hv : ∀ j, j < m → TreeAt w1.heap.size w1 F (T j) (V j)) (hf : Blk (RK l) (fun p => (p : Int)) f 0 m) (hk : w2.ownsRow base 9 1 k2 m (keysTo l f m)) (hi : w2.ownsRow base 54 1 i2 m (itemsTo V f m)) (hb : Below w1.heap.size w1 w2) :
    TreeAt w2.heap.size w2 (F + 1) (.mk 6 0 ByteArray.empty (keysF l f m) ((List.range m).map fun j => T (f j).toNat)) (.iface 94 (.agg #[k2, i2])) := by
  have hp : ∀ j, j < m → (f j).toNat < m := fun j hj => by
    obtain ⟨q, q1, q2, q3⟩ := hf.1 j (Nat.zero_le _) hj
    simp only at q3
    omega
  have hkl : (keysF l f m).length = m := by simp [keysF]
  refine Or.inr (Or.inr (Or.inr (Or.inr (Or.inr ⟨rfl, rfl, rfl, k2, i2, rfl, ?_, ?_⟩))))
  · refine own_strs (base := base) ?_ (by omega) (fun i hi => ?_)
    · rw [hkl]
      have : (keysF l f m).map Value.string = keysTo l f m := by simp [keysF, keysTo]
      rw [this]; exact hk
    · rw [hkl] at hi
      rw [keysF_at hi]
      exact hks _ (by have := hp i hi; omega)
  · refine row_trees (V := fun j => V (f j).toNat) (by simp) hm hi (fun j hj => ?_)
    have hkt : kidT ((List.range m).map fun j => T (f j).toNat) j = T (f j).toNat := by
      unfold kidT
      rw [List.getD_eq_getElem?_getD, List.getElem?_map, List.getElem?_range hj]
      rfl
    rw [hkt]
    exact TreeAt.keep (fun c hc => hb.block c hc) hb.size (hv _ (hp j hj))

/-- The trees of the joined rows. -/
def joinT (us vs : List VN) (F : Nat) (j : Nat) : VT :=
  if j < (rootKids vs).length then treeOf vs F (intAt (rootKids vs) j).toNat else treeOf us F (intAt (rootKids us) ((moreIx us vs (rootN us).keys.length).getD (j - (rootKids vs).length) 0)).toNat

theorem more_lt {us vs : List VN} (h1 : okB us = true) (hk1 : (rootN us).kind = 6) {j : Nat} (h : j < (moreIx us vs (rootN us).keys.length).length) : (moreIx us vs (rootN us).keys.length).getD j 0 < (rootKids us).length := by
  rw [← (map_keys h1 hk1).1]
  exact wkIx_lt (rootN us).keys (rootN vs).keys h

theorem join_is (us vs : List VN) : joinK us vs = wkK (rootN us).keys (rootN vs).keys := rfl

theorem join_part {us vs : List VN} (h1 : okB us = true) (h2 : okB vs = true) (hk1 : (rootN us).kind = 6) {F : Nat} (hF1 : us.length ≤ F) (hF2 : vs.length ≤ F) {j : Nat} (hj : j < joinN us vs) :
    ∃ ns q, okB ns = true ∧ q < F ∧ q < ns.length ∧ joinT us vs F j = treeOf ns F q ∧ joinL us vs j = partOf ns q := by
  unfold joinN at hj
  by_cases hlt : j < (rootKids vs).length
  · obtain ⟨q, hq, hql⟩ := root_kid h2 hlt
    refine ⟨vs, q, h2, by omega, by omega, ?_, ?_⟩
    · unfold joinT; rw [if_pos hlt, hq]; simp
    · unfold joinL PL; rw [if_pos hlt, hq]; simp
  · obtain ⟨q, hq, hql⟩ := root_kid h1 (more_lt h1 hk1 (show j - (rootKids vs).length < (moreIx us vs (rootN us).keys.length).length by omega))
    refine ⟨us, q, h1, by omega, by omega, ?_, ?_⟩
    · unfold joinT; rw [if_neg hlt, hq]; simp
    · unfold joinL PL; rw [if_neg hlt, hq]; simp

theorem lay_join {us vs : List VN} (h1 : okB us = true) (h2 : okB vs = true) (hk1 : (rootN us).kind = 6) (hk2 : (rootN vs).kind = 6) {F : Nat} (hF1 : us.length ≤ F) (hF2 : vs.length ≤ F) {f : Nat → Int} (hf : Blk (RK (joinK us vs)) (fun p => (p : Int)) f 0 (joinK us vs).length) :
    layT (F + 1) (.mk 6 0 ByteArray.empty (keysF (joinK us vs) f (joinN us vs)) ((List.range (joinN us vs)).map fun j => joinT us vs F (f j).toNat)) 0 = joinNs us vs := by
  have hl := join_len (us := us) h2 hk2
  obtain ⟨ns, ps, hs, he⟩ := join_sorted h1 h2 hk1 hk2
  have hp : ∀ j, j < joinN us vs → (f j).toNat < joinN us vs := fun j hj => by
    obtain ⟨q, q1, q2, q3⟩ := hf.1 j (Nat.zero_le _) (by omega)
    simp only at q3
    omega
  have hlen : ((List.range (joinN us vs)).map fun j => joinT us vs F (f j).toNat).length = joinN us vs := by simp
  rw [lay_gen (L := permL (joinL us vs) f) (fun k hk => ?_), hlen, he, ← sort_same (L := joinL us vs) hl hs hf]
  rw [hlen] at hk
  obtain ⟨ms, q, a1, a2, a3, a4, a5⟩ := join_part h1 h2 hk1 hF1 hF2 (hp k hk)
  refine ⟨ms, q, a1, a2, a3, ?_, a5⟩
  unfold kidT
  rw [List.getD_eq_getElem?_getD, List.getElem?_map, List.getElem?_range hk]
  exact a4

theorem join_few {us vs : List VN} (h1 : okB us = true) (h2 : okB vs = true) (hk1 : (rootN us).kind = 6) (hk2 : (rootN vs).kind = 6) : joinN us vs ≤ 160 := by
  have k1 := (parts_ok h1).2
  have k2 := (parts_ok h2).2
  have hm := (pickIx_lt (fun i => hasK (rootN vs).keys (keyAt (rootN us).keys i)) (rootN us).keys.length).1
  have e := (map_keys h1 hk1).1
  unfold joinN moreIx
  omega

theorem join_okB {us vs : List VN} (h1 : okB us = true) (h2 : okB vs = true) (hk1 : (rootN us).kind = 6) : ∀ j, j < joinN us vs → okB (joinL us vs j) = true := by
  intro j hj
  unfold joinN at hj
  unfold joinL
  split
  · rename_i h; exact allB_yes (parts_ok h2).1 _ h
  · rename_i h; exact allB_yes (parts_ok h1).1 _ (more_lt h1 hk1 (by omega))

theorem join_fits {us vs : List VN} (h1 : okB us = true) (h2 : okB vs = true) (hk1 : (rootN us).kind = 6) (hk2 : (rootN vs).kind = 6) (hfu : ∀ i, i < us.length → Fits (nodeAt us i)) (hfv : ∀ i, i < vs.length → Fits (nodeAt vs i)) {f : Nat → Int} (hf : Blk (RK (joinK us vs)) (fun p => (p : Int)) f 0 (joinK us vs).length)
    (hs1 : ∀ i, i < (joinK us vs).length → (keyAt (joinK us vs) i).size ≤ 140737488355328) : (joinNs us vs).length ≤ 16001 ∧ ∀ i, i < (joinNs us vs).length → Nice2 (nodeAt (joinNs us vs) i) := by
  have hl := join_len (us := us) h2 hk2
  have h160 := join_few h1 h2 hk1 hk2
  obtain ⟨ns, ps, hs, he⟩ := join_sorted h1 h2 hk1 hk2
  have p1 := PL_few hfu
  have p2 := PL_few hfv
  have e1 : partsN us = (rootKids us).length := by unfold partsN; rw [if_pos h1]
  have e2 : partsN vs = (rootKids vs).length := by unfold partsN; rw [if_pos h2]
  rw [e1] at p1
  rw [e2] at p2
  have hp : ∀ j, j < joinN us vs → (f j).toNat < joinN us vs := fun j hj => by
    obtain ⟨q, q1, q2, q3⟩ := hf.1 j (Nat.zero_le _) (by omega)
    simp only at q3
    omega
  rw [he, ← sort_same (L := joinL us vs) hl hs hf]
  refine make_nice2 (by omega) (fun i hi => join_okB h1 h2 hk1 _ (hp i hi)) (fun i hi => ?_) (by omega) (by omega) (by simp [keysF]; omega) (fun i hi => ?_)
  · have hq := hp i hi
    unfold joinN at hq
    unfold joinL
    split
    · rename_i h; exact (p2.2 _ h).2
    · rename_i h; exact (p1.2 _ (more_lt h1 hk1 (by omega))).2
  · have hi' : i < joinN us vs := by simpa [keysF] using hi
    rw [keysF_at hi']
    exact hs1 _ (by have := hp i hi'; omega)
end Go.Proofs.YtfijafbpdlakaaaGreatDoor

/-
  impl.plus at two maps.
-/
namespace Go.Proofs.YtfijafbpdlakaaaGreatDoor
open Go.RowKit
set_option linter.unusedSimpArgs false
set_option linter.unusedVariables false

theorem call_wk (u v : Value) : ∀ w, (callFunc 55 #[u, v]).run Tryz.prog w = .ok (.enter 55 #[u, v]) w := fun w => by kernel_rfl

theorem map_of {lo B : Nat} {w : World} {us : List VN} {f : Nat} {t : TypeId} {v : Value} (hlo : lo ≤ B) (hf : us.length = f + 1) (hk : (rootN us).kind = 6) (h : ValIs lo B w us us.length (us.length - 1) (.iface t v)) :
    t = 94 ∧ ∃ ks it, v = .agg #[ks, it] ∧ StrsAt B w ks (rootN us).keys ∧ ItemsAt lo B w it (rootKids us).length (fun j u => ValIs lo B w us f (intAt (rootKids us) j).toNat u) := by
  rw [hf, show f + 1 - 1 = f by omega] at h
  have hr : nodeAt us f = rootN us := by unfold rootN; rw [hf]; rfl
  have hr2 : rootKids us = (rootN us).kids := rfl
  unfold ValIs at h
  rw [hr] at h
  rcases h with ⟨k, e⟩ | ⟨k, e⟩ | ⟨k, e⟩ | ⟨k, e⟩ | ⟨k, it, e, hi⟩ | ⟨k, ks, it, e, hs, hi⟩
  case inr.inr.inr.inr.inr => cases e; exact ⟨rfl, ks, it, rfl, hs.wide hlo, by rw [hr2]; exact hi⟩
  all_goals exact absurd k (by omega)

/-- Both maps in one, from a world on. -/
theorem join_both (us vs : List VN) (h1 : okB us = true) (h2 : okB vs = true) (hk1 : (rootN us).kind = 6) (hk2 : (rootN vs).kind = 6) (hfu : ∀ i, i < us.length → Fits (nodeAt us i)) (hfv : ∀ i, i < vs.length → Fits (nodeAt vs i)) (lo B lo' B' : Nat) (hlo : lo ≤ B) (hlo' : lo' ≤ B') {f f' : Nat} (hf : us.length = f + 1) (hf' : vs.length = f' + 1) (ks it ks' it' : Value) (V V' : Nat → Value) (w : World)
    (hks : StrsAt B w ks (rootN us).keys) (hks' : StrsAt B' w ks' (rootN vs).keys) (hv : ValsAt w it (rootKids us).length V) (hv' : ValsAt w it' (rootKids vs).length V') (hV : ∀ j, j < (rootKids us).length → ValIs lo B w us f (intAt (rootKids us) j).toNat (V j)) (hV' : ∀ j, j < (rootKids vs).length → ValIs lo' B' w vs f' (intAt (rootKids vs) j).toNat (V' j)) (hB : B ≤ w.heap.size) (hB' : B' ≤ w.heap.size) :
    Calls Tryz.prog 55 #[.agg #[ks, it], .agg #[ks', it']] w fun e w' => ∃ k2 i2 T, e = .returned (.agg #[k2, i2]) ∧ (∃ a c, k2 = .slice a (joinN us vs) c) ∧ (∃ a c, i2 = .slice a (joinN us vs) c) ∧ TreeAt w'.heap.size w' (us.length + vs.length + 1) T (.iface 94 (.agg #[k2, i2])) ∧ layT (us.length + vs.length + 1) T 0 = joinNs us vs ∧ ((joinNs us vs).length ≤ 16001 ∧ ∀ i, i < (joinNs us vs).length → Nice2 (nodeAt (joinNs us vs) i)) ∧ Below w.heap.size w w' := by
  have k1 := (parts_ok h1).2
  have k2 := (parts_ok h2).2
  obtain ⟨a1, a2⟩ := map_keys h1 hk1
  obtain ⟨b1, b2⟩ := map_keys h2 hk2
  obtain ⟨p1, p2, _, p4⟩ := okB_parts h1
  obtain ⟨q1, q2, _, q4⟩ := okB_parts h2
  have hl := join_len (us := us) h2 hk2
  have h160 := join_few h1 h2 hk1 hk2
  have hsz := wkK_size hks.2.1 hks'.2.1
  rw [← join_is] at hsz
  refine (withKeysOf_any w.heap.size ks it ks' it' (rootN us).keys (rootN vs).keys V V' w (hks.wide hB) (by rw [a1]; exact hv) (hks'.wide hB') (by rw [b1]; exact hv') (Nat.le_refl _) (riseB_rise b2) (by omega) (by omega)).mono ?_
  rintro e w' ⟨g, x, y, rfl, hg, hx, hy, hbl⟩
  rw [← join_is] at hg hx hy
  have hlay := lay_join h1 h2 hk1 hk2 (F := us.length + vs.length) (by omega) (by omega) hg
  have hfit := join_fits h1 h2 hk1 hk2 hfu hfv hg hsz
  rw [hl] at hg hx hy
  obtain ⟨ax, cx, ex⟩ := own_slice hx
  obtain ⟨ay, cy, ey⟩ := own_slice hy
  refine ⟨x, y, _, rfl, ⟨ax, cx, ex⟩, ⟨ay, cy, ey⟩, map_tree2 (T := joinT us vs (us.length + vs.length)) (by omega) hl hsz (fun j hj => ?_) hg hx hy hbl, hlay, hfit, hbl⟩
  unfold joinN at hj
  unfold joinT wkV
  rw [b1]
  by_cases hlt : j < (rootKids vs).length
  · rw [if_pos hlt, if_pos hlt]
    obtain ⟨q, hq, hql⟩ := root_kid h2 hlt
    exact TreeAt.keep (fun _ _ => rfl) hB' (ValIs.tree hlo' q2 q4 q1.2 (by rw [hq]; simp; omega) (ValIs.more (show f' ≤ us.length + vs.length by omega) (hV' j hlt)))
  · rw [if_neg hlt, if_neg hlt]
    have hm := more_lt h1 hk1 (show j - (rootKids vs).length < (moreIx us vs (rootN us).keys.length).length by omega)
    obtain ⟨q, hq, hql⟩ := root_kid h1 hm
    exact TreeAt.keep (fun _ _ => rfl) hB (ValIs.tree hlo p2 p4 p1.2 (by rw [hq]; simp; omega) (ValIs.more (show f ≤ us.length + vs.length by omega) (hV _ hm)))

set_option maxRecDepth 100000 in
set_option maxHeartbeats 6400000 in
theorem plus_map (us vs : List VN) (h1 : okB us = true) (h2 : okB vs = true) (lo B lo' B' : Nat) (hlo : lo ≤ B) (hlo' : lo' ≤ B') (x y : Value) (w : World) (hx : ValIs lo B w us us.length (us.length - 1) x) (hy : ValIs lo' B' w vs vs.length (vs.length - 1) y) (hB : B ≤ w.heap.size) (hB' : B' ≤ w.heap.size) (hE : Errs2 w) (hfu : ∀ i, i < us.length → Fits (nodeAt us i)) (hfv : ∀ i, i < vs.length → Fits (nodeAt vs i)) (hk6 : (rootN us).kind = 6) (hk6' : (rootN vs).kind = 6) :
    Calls Tryz.prog 25 #[x, y] w fun e w' => MergeAns (plusC us vs) (plusNs us vs) e w' ∧ Below w.heap.size w w' := by
  obtain ⟨tx, vx, Fx, rfl, kx⟩ := kindIs hx
  obtain ⟨ty, vy, Fy, rfl, ky⟩ := kindIs hy
  have HM := hideIt (plus_raw h1 h2 (by omega) (by omega) (by omega))
  rw [raw_join hk6] at HM
  have HKX := hideIt kx
  have HKY := hideIt ky
  have HE := hideIt hE
  have m1 := kx.meth
  have e1 := kx.enter
  have m2 := ky.meth
  have e2 := ky.enter
  have heq : ((nodeAt us (us.length - 1)).kind != (nodeAt vs (vs.length - 1)).kind) = false := by
    have : (nodeAt us (us.length - 1)).kind = (nodeAt vs (vs.length - 1)).kind := hk6.trans hk6'.symm
    simpa using this
  have hz1 : ((nodeAt us (us.length - 1)).kind == 1) = false := by simpa using (show ¬ (nodeAt us (us.length - 1)).kind = 1 from (by have : (nodeAt us (us.length - 1)).kind = 6 := hk6; omega))
  have hz2 : ((nodeAt vs (vs.length - 1)).kind == 1) = false := by simpa using (show ¬ (nodeAt vs (vs.length - 1)).kind = 1 from (by have : (nodeAt vs (vs.length - 1)).kind = 6 := hk6'; omega))
  have tl1 := ta_map_int
  have tl2 := ta_map_list
  have tl3 := ta_map_text
  have tl4 := ta_map_map
  have tl5 := tb_map
  obtain ⟨p1, _, _, _⟩ := okB_parts h1
  obtain ⟨p2, _, _, _⟩ := okB_parts h2
  obtain ⟨f, hf⟩ : ∃ f, us.length = f + 1 := ⟨us.length - 1, by omega⟩
  obtain ⟨f', hf'⟩ : ∃ f', vs.length = f' + 1 := ⟨vs.length - 1, by omega⟩
  obtain ⟨rfl, ks, it, rfl, hks, hi⟩ := map_of hlo hf hk6 hx
  obtain ⟨rfl, ks', it', rfl, hks', hi'⟩ := map_of hlo' hf' hk6' hy
  obtain ⟨V, hv, hV⟩ := items_vals hi hB
  obtain ⟨V', hv', hV'⟩ := items_vals hi' hB'
  have HWC : Hid (∀ W, Below w.heap.size w W → Calls Tryz.prog 55 #[.agg #[ks, it], .agg #[ks', it']] W fun e w' => ∃ k2 i2 T, e = .returned (.agg #[k2, i2]) ∧ (∃ a c, k2 = .slice a (joinN us vs) c) ∧ (∃ a c, i2 = .slice a (joinN us vs) c) ∧ TreeAt w'.heap.size w' (us.length + vs.length + 1) T (.iface 94 (.agg #[k2, i2])) ∧ layT (us.length + vs.length + 1) T 0 = joinNs us vs ∧ ((joinNs us vs).length ≤ 16001 ∧ ∀ i, i < (joinNs us vs).length → Nice2 (nodeAt (joinNs us vs) i)) ∧ Below W.heap.size W w') :=
    fun W hb => join_both us vs h1 h2 hk6 hk6' hfu hfv lo B lo' B' hlo hlo' hf hf' ks it ks' it' V V' W (hks.below (hb.mono hB)) (hks'.below (hb.mono hB')) (hv.below hb) (hv'.below hb) (fun j hj => ValIs.keep (Keep.of_below (hb.mono hB)) (Nat.le_refl _) hlo (hV j hj)) (fun j hj => ValIs.keep (Keep.of_below (hb.mono hB')) (Nat.le_refl _) hlo' (hV' j hj)) (Nat.le_trans hB hb.size) (Nat.le_trans hB' hb.size)
  obtain ⟨a, cap, rfl, _⟩ := hi
  obtain ⟨a', cap', rfl, _⟩ := hi'
  obtain ⟨_, _, b, bap, rfl, _⟩ := hks
  obtain ⟨_, _, b', bap', rfl, _⟩ := hks'
  obtain ⟨F, hF⟩ : ∃ F, us.length + vs.length + 1 = F := ⟨_, rfl⟩
  obtain ⟨J, hJ⟩ : ∃ J, joinN us vs = J := ⟨_, rfl⟩
  obtain ⟨M, hM⟩ : ∃ M, (rootKids us).length = M := ⟨_, rfl⟩
  obtain ⟨M', hM'⟩ : ∃ M', (rootKids vs).length = M' := ⟨_, rfl⟩
  obtain ⟨Q, hQ⟩ : ∃ Q, (rootN us).keys.length = Q := ⟨_, rfl⟩
  obtain ⟨Q', hQ'⟩ : ∃ Q', (rootN vs).keys.length = Q' := ⟨_, rfl⟩
  rw [hF, hM, hM', hQ, hQ', hJ] at HWC
  rw [hM, hQ] at HKX m1 e1 ⊢
  rw [hM', hQ'] at HKY m2 e2 ⊢
  obtain ⟨NS, hNS⟩ : ∃ NS, joinNs us vs = NS := ⟨_, rfl⟩
  rw [hNS] at HM HWC
  clear kx ky hx hy hv hv' hV hV' p1 p2 hf hf' hM hM' hQ hQ' hE hF hJ hNS hfu hfv
  go_enter Tryz.func25, Tryz.ntmps25
  go_wp2_with fail
  refine (HKX.out.says _).mono ?_
  rintro e w1 ⟨rfl, hb1⟩
  have HB1 := hideIt hb1
  clear hb1
  go_wp2_with fail
  refine (HKY.out.says _).mono ?_
  rintro e wa ⟨rfl, hba⟩
  have HBa := hideIt (HB1.out.trans (hba.mono HB1.out.size))
  clear hba
  go_wp2_with fail
  refine (HKX.out.says _).mono ?_
  rintro e wb ⟨rfl, hbb⟩
  have HBb := hideIt (HBa.out.trans (hbb.mono HBa.out.size))
  clear hbb
  go_wp2_with fail
  refine (HKY.out.says _).mono ?_
  rintro e w2 ⟨rfl, hb2⟩
  have HB2 := hideIt (HBb.out.trans (hb2.mono HBb.out.size))
  clear hb2
  go_wp2_with fail
  obtain ⟨W, hW⟩ : ∃ W, w2.alloc (.cells #[.slice b Q bap, .slice a M cap] 94) = W := ⟨_, rfl⟩
  have c0 : W.cell? ⟨w2.heap.size, 0, none⟩ = some (.slice b Q bap) := by rw [← hW]; simp
  have c1 : W.cell? ⟨w2.heap.size, 1, none⟩ = some (.slice a M cap) := by rw [← hW]; simp
  have HBD : Hid (Below w.heap.size w W.drew) := by rw [Hid, ← hW]; exact (HB2.out.alloc HB2.out.size _).drew
  rw [hW]
  clear hW
  cases ok : okB NS
  · go_region_law
      (first
        | (refine step_call2 (by rfl) 55 _ _ _ _ (by rfl) (.agg #[.slice b Q bap, .slice a M cap]) (.agg #[.slice b' Q' bap', .slice a' M' cap']) (by rfl) (by rfl) (call_wk _ _) (HWC.out W.drew HBD.out) ?_; rintro e w4 ⟨k2, i2, T, rfl, ⟨a5, c5, rfl⟩, ⟨a6, c6, rfl⟩, htr, hlay, hfit, hb4⟩; refine ⟨_, rfl, ?_⟩)
        | (refine step_call1 (by rfl) 53 _ _ (by rfl) (.iface 94 (.agg #[.slice a5 J c5, .slice a6 J c6])) (by rfl) (call_unless _) (unlessWrong_no F T _ NS w4 htr hlay (Nat.le_trans hfit.1 (by omega)) (fun i hi => (hfit.2 i hi).1) (HE.out.below (HBD.out.trans (hb4.mono HBD.out.size))) ok) ?_; rintro e w5 ⟨te, xe, rfl, hb5⟩; refine ⟨_, rfl, ?_⟩))
    all_goals
      have HB4 := hideIt (HBD.out.trans (hb4.mono HBD.out.size))
      have HB5 := hideIt (HB4.out.trans (hb5.mono HB4.out.size))
      clear hb4 hb5 htr hlay hfit
      go_wp2_with fail
      go_ret2
      exact ⟨Or.inr ⟨by rw [HM.out.2, ok]; rfl, _, rfl, by rw [HM.out.1, ok]; exact ⟨te, xe, rfl⟩⟩, HB5.out⟩
  · go_region_law
      (first
        | (refine step_call2 (by rfl) 55 _ _ _ _ (by rfl) (.agg #[.slice b Q bap, .slice a M cap]) (.agg #[.slice b' Q' bap', .slice a' M' cap']) (by rfl) (by rfl) (call_wk _ _) (HWC.out W.drew HBD.out) ?_; rintro e w4 ⟨k2, i2, T, rfl, ⟨a5, c5, rfl⟩, ⟨a6, c6, rfl⟩, htr, hlay, hfit, hb4⟩; refine ⟨_, rfl, ?_⟩)
        | (refine step_call1 (by rfl) 53 _ _ (by rfl) (.iface 94 (.agg #[.slice a5 J c5, .slice a6 J c6])) (by rfl) (call_unless _) (unlessWrong_yes F T _ NS w4 htr hlay (Nat.le_trans hfit.1 (by omega)) (fun i hi => (hfit.2 i hi).1) (HE.out.below (HBD.out.trans (hb4.mono HBD.out.size))) ok) ?_; rintro e w5 ⟨rfl, hb5⟩; refine ⟨_, rfl, ?_⟩))
    all_goals
      have HB4 := hideIt (HBD.out.trans (hb4.mono HBD.out.size))
      have HB5 := hideIt (HB4.out.trans (hb5.mono HB4.out.size))
      have HTR := hideIt (TreeAt.keep (fun k hk => hb5.block k hk) hb5.size htr)
      have HLY := hideIt hlay
      clear hb4 hb5 htr hlay hfit
      go_wp2_with fail
      go_ret2
      exact ⟨Or.inl ⟨by rw [HM.out.1, ok]; rfl, F, T, _, _, rfl, HTR.out, by rw [HM.out.2, ok]; exact HLY.out⟩, HB5.out⟩
end Go.Proofs.YtfijafbpdlakaaaGreatDoor
