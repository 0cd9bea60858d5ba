/-
  impl.plus at two lists.
-/
import Derived.Test.YtfijafbpdlakaaaGreatDoorIPls0
import Derived.Test.YtfijafbpdlakaaaGreatDoorIMinL
import Derived.Test.YtfijafbpdlakaaaGreatDoorLayG
import Derived.Test.YtfijafbpdlakaaaGreatDoorSPart
import Derived.Test.YtfijafbpdlakaaaGreatDoorSpc2
import Derived.Lib.SliceRun
import Derived.Test.YtfijafbpdlakaaaGreatDoorIMinA
import Derived.Test.YtfijafbpdlakaaaGreatDoorRd
import Derived.Test.YtfijafbpdlakaaaGreatDoorProg
import Derived.Deep.QuietTactic
import Derived.BigQuiet
import Derived.WalkSmall
namespace Go.Proofs.YtfijafbpdlakaaaGreatDoor
open Go.RowKit
set_option linter.unusedSimpArgs false
set_option linter.unusedVariables false

theorem call_concat (u : Value) : ∀ w, (callFunc 54 #[u]).run Tryz.prog w = .ok (.enter 54 #[u]) w := fun w => by kernel_rfl
theorem tp_list_text (x : Value) (w : World) : (Instr.typeAssert (.iface 91 x) 54 89 true).run Tryz.prog w = .ok (.tuple #[.agg #[.string ByteArray.empty], .bool false]) w := by kernel_rfl

/-- Both rows in one, from a world on. -/
theorem concat_both (us vs : List VN) (h1 : okB us = true) (h2 : okB vs = true) (lo B lo' B' : Nat) (hlo : lo ≤ B) (hlo' : lo' ≤ B') {f f' : Nat} (hf : us.length = f + 1) (hf' : vs.length = f' + 1) (b : Nat) (it it' : Value) (V V' : Nat → Value) (w : World)
    (hv : ValsAt w it (rootKids us).length V) (hv' : ValsAt w it' (rootKids vs).length V') (hV : ∀ j, j < (rootKids us).length → ValIs lo B w us f (intAt (rootKids us) j).toNat (V j)) (hV' : ∀ j, j < (rootKids vs).length → ValIs lo' B' w vs f' (intAt (rootKids vs) j).toNat (V' j)) (hB : B ≤ w.heap.size) (hB' : B' ≤ w.heap.size)
    (c0 : w.cell? ⟨b, 0, none⟩ = some it) (c1 : w.cell? ⟨b, 1, none⟩ = some it') (hb : b < w.heap.size) :
    Calls Tryz.prog 54 #[.slice (some ⟨b, 0, none⟩) 2 2] w fun e w' => ∃ r, e = .returned r ∧ (∃ a c, r = .slice a ((rootKids us).length + (rootKids vs).length) c) ∧ TreeAt w'.heap.size w' (us.length + vs.length + 1) (.mk 5 0 ByteArray.empty [] (bothTs us vs (us.length + vs.length))) (.iface 91 (.agg #[r])) ∧ Below w.heap.size w w' := by
  have k1 := (parts_ok h1).2
  have k2 := (parts_ok h2).2
  obtain ⟨p1, p2, _, p4⟩ := okB_parts h1
  obtain ⟨q1, q2, _, q4⟩ := okB_parts h2
  refine (concat_any b it it' (rootKids us).length (rootKids vs).length V V' w hv hv' (by omega) (by omega) c0 c1 hb).mono ?_
  rintro e w' ⟨r, rfl, hrow, hbl⟩
  rw [range_both] at hrow
  obtain ⟨a, c, ec⟩ := own_slice hrow
  refine ⟨r, rfl, ⟨a, c, ec⟩, Or.inr (Or.inr (Or.inr (Or.inr (Or.inl ⟨rfl, rfl, rfl, rfl, r, rfl, row_trees (both_len us vs _) (by omega) hrow (fun j hj => ?_)⟩)))), hbl⟩
  by_cases hlt : j < (rootKids us).length
  · simp only [if_pos hlt]
    rw [both_at1 us vs _ hlt]
    obtain ⟨q, hq, hql⟩ := root_kid h1 hlt
    exact TreeAt.keep (fun k hk => hbl.block k (by omega)) (Nat.le_trans hB hbl.size) (ValIs.tree hlo p2 p4 p1.2 (by rw [hq]; simp; omega) (ValIs.more (show f ≤ us.length + vs.length by omega) (hV j hlt)))
  · simp only [if_neg hlt]
    rw [both_at2 us vs _ hlt (by omega)]
    obtain ⟨q, hq, hql⟩ := root_kid h2 (show j - (rootKids us).length < (rootKids vs).length by omega)
    exact TreeAt.keep (fun k hk => hbl.block k (by omega)) (Nat.le_trans hB' hbl.size) (ValIs.tree hlo' q2 q4 q1.2 (by rw [hq]; simp; omega) (ValIs.more (show f' ≤ us.length + vs.length by omega) (hV' _ (by omega))))

set_option maxRecDepth 100000 in
set_option maxHeartbeats 6400000 in
theorem plus_list (us vs : List VN) (h1 : okB us = true) (h2 : okB vs = true) (lo B lo' B' : Nat) (hlo : lo ≤ B) (hlo' : lo' ≤ B') (x y : Value) (w : World) (hx : ValIs lo B w us us.length (us.length - 1) x) (hy : ValIs lo' B' w vs vs.length (vs.length - 1) y) (hB : B ≤ w.heap.size) (hB' : B' ≤ w.heap.size) (hE : Errs2 w) (hfu : ∀ i, i < us.length → Fits (nodeAt us i)) (hfv : ∀ i, i < vs.length → Fits (nodeAt vs i)) (hk5 : (rootN us).kind = 5) (hk5' : (rootN vs).kind = 5) :
    Calls Tryz.prog 25 #[x, y] w fun e w' => MergeAns (plusC us vs) (plusNs us vs) e w' ∧ Below w.heap.size w w' := by
  obtain ⟨tx, vx, Fx, rfl, kx⟩ := kindIs hx
  obtain ⟨ty, vy, Fy, rfl, ky⟩ := kindIs hy
  have HM := hideIt (plus_raw h1 h2 (by omega) (by omega) (by omega))
  rw [raw_both hk5] at HM
  have HKX := hideIt kx
  have HKY := hideIt ky
  have HE := hideIt hE
  have m1 := kx.meth
  have e1 := kx.enter
  have m2 := ky.meth
  have e2 := ky.enter
  have heq : ((nodeAt us (us.length - 1)).kind != (nodeAt vs (vs.length - 1)).kind) = false := by
    have : (nodeAt us (us.length - 1)).kind = (nodeAt vs (vs.length - 1)).kind := hk5.trans hk5'.symm
    simpa using this
  have hz1 : ((nodeAt us (us.length - 1)).kind == 1) = false := by simpa using (show ¬ (nodeAt us (us.length - 1)).kind = 1 from (by have : (nodeAt us (us.length - 1)).kind = 5 := hk5; omega))
  have hz2 : ((nodeAt vs (vs.length - 1)).kind == 1) = false := by simpa using (show ¬ (nodeAt vs (vs.length - 1)).kind = 1 from (by have : (nodeAt vs (vs.length - 1)).kind = 5 := hk5'; omega))
  have tl1 := ta_list_int
  have tl2 := ta_list_list
  have tl3 := tp_list_text
  obtain ⟨p1, _, _, _⟩ := okB_parts h1
  obtain ⟨p2, _, _, _⟩ := okB_parts h2
  obtain ⟨f, hf⟩ : ∃ f, us.length = f + 1 := ⟨us.length - 1, by omega⟩
  obtain ⟨f', hf'⟩ : ∃ f', vs.length = f' + 1 := ⟨vs.length - 1, by omega⟩
  obtain ⟨rfl, it, rfl, hi⟩ := list_of hf hk5 hx
  obtain ⟨rfl, it', rfl, hi'⟩ := list_of hf' hk5' hy
  obtain ⟨V, hv, hV⟩ := items_vals hi hB
  obtain ⟨V', hv', hV'⟩ := items_vals hi' hB'
  have HLL := hideIt (lay_both h1 h2 (F := us.length + vs.length) (by omega) (by omega))
  have HFT := hideIt (both_fits h1 h2 hfu hfv)
  have HWC : Hid (∀ W b, Below w.heap.size w W → W.cell? ⟨b, 0, none⟩ = some it → W.cell? ⟨b, 1, none⟩ = some it' → b < W.heap.size → Calls Tryz.prog 54 #[.slice (some ⟨b, 0, none⟩) 2 2] W fun e w' => ∃ r, e = .returned r ∧ (∃ a c, r = .slice a ((rootKids us).length + (rootKids vs).length) c) ∧ TreeAt w'.heap.size w' (us.length + vs.length + 1) (.mk 5 0 ByteArray.empty [] (bothTs us vs (us.length + vs.length))) (.iface 91 (.agg #[r])) ∧ Below W.heap.size W w') :=
    fun W b hb c0 c1 hbl => concat_both us vs h1 h2 lo B lo' B' hlo hlo' hf hf' b it it' V V' W (hv.below hb) (hv'.below hb) (fun j hj => ValIs.keep (Keep.of_below (hb.mono hB)) (Nat.le_refl _) hlo (hV j hj)) (fun j hj => ValIs.keep (Keep.of_below (hb.mono hB')) (Nat.le_refl _) hlo' (hV' j hj)) (Nat.le_trans hB hb.size) (Nat.le_trans hB' hb.size) c0 c1 hbl
  obtain ⟨a, cap, rfl, _⟩ := hi
  obtain ⟨a', cap', rfl, _⟩ := hi'
  obtain ⟨T, hT⟩ : ∃ T, (VT.mk 5 0 ByteArray.empty [] (bothTs us vs (us.length + vs.length))) = T := ⟨_, rfl⟩
  obtain ⟨F, hF⟩ : ∃ F, us.length + vs.length + 1 = F := ⟨_, rfl⟩
  obtain ⟨M, hM⟩ : ∃ M, (rootKids us).length = M := ⟨_, rfl⟩
  obtain ⟨M', hM'⟩ : ∃ M', (rootKids vs).length = M' := ⟨_, rfl⟩
  rw [hT, hF, hM, hM'] at HWC
  rw [hT, hF] at HLL
  rw [hM] at HKX m1 e1 ⊢
  rw [hM'] at HKY m2 e2 ⊢
  obtain ⟨NS, hNS⟩ : ∃ NS, bothNs us vs = NS := ⟨_, rfl⟩
  rw [hNS] at HM HLL HFT
  clear kx ky hx hy hv hv' hV hV' p1 p2 hf hf' hM hM' hE hT hF hNS hfu hfv
  go_enter Tryz.func25, Tryz.ntmps25
  go_wp2_with fail
  refine (HKX.out.says _).mono ?_
  rintro e w1 ⟨rfl, hb1⟩
  have HB1 := hideIt hb1
  clear hb1
  go_wp2_with fail
  refine (HKY.out.says _).mono ?_
  rintro e wa ⟨rfl, hba⟩
  have HBa := hideIt (HB1.out.trans (hba.mono HB1.out.size))
  clear hba
  go_wp2_with fail
  refine (HKX.out.says _).mono ?_
  rintro e wb ⟨rfl, hbb⟩
  have HBb := hideIt (HBa.out.trans (hbb.mono HBa.out.size))
  clear hbb
  go_wp2_with fail
  refine (HKY.out.says _).mono ?_
  rintro e w2 ⟨rfl, hb2⟩
  have HB2 := hideIt (HBb.out.trans (hb2.mono HBb.out.size))
  clear hb2
  go_wp2_with fail
  obtain ⟨W, hW⟩ : ∃ W, w2.alloc (.cells #[.slice a M cap] 91) = W := ⟨_, rfl⟩
  have c0 : W.cell? ⟨w2.heap.size, 0, none⟩ = some (.slice a M cap) := by rw [← hW]; simp
  have hlt : w2.heap.size < W.heap.size := by rw [← hW]; simp
  have HBD : Hid (Below w.heap.size w W.drew) := by rw [Hid, ← hW]; exact (HB2.out.alloc HB2.out.size _).drew
  have c0d : W.drew.cell? ⟨w2.heap.size, 0, none⟩ = some (.slice a M cap) := c0
  have hltd : w2.heap.size < W.drew.heap.size := by simpa using hlt
  rw [hW]
  clear hW
  cases ok : okB NS
  · go_region_law
      (first
        | (refine step_invoke (by rfl) _ _ (by rfl) 91 (.agg #[.slice a' M' cap']) (by rfl) 147 (parts_meth _) (parts_call _) (parts5_any a' M' cap' _) ?_; rintro e w3 ⟨rfl, hb3⟩; have hS1 := (below_cell hb3 hltd).trans c0d; refine ⟨_, rfl, ?_⟩)
        | (refine step_call1 (by rfl) 54 _ _ (by rfl) (.slice (some ⟨w3.heap.size, 0, none⟩) 2 2) (by rfl) (call_concat _) (HWC.out (w3.alloc (.cells #[.slice a M cap, .slice a' M' cap'] 57)) w3.heap.size ((HBD.out.trans (hb3.mono HBD.out.size)).alloc (HBD.out.trans (hb3.mono HBD.out.size)).size _) (by simp) (by simp) (by simp)) ?_; rintro e w4 ⟨r, rfl, ⟨ar, cr, rfl⟩, htr, hb4⟩; refine ⟨_, rfl, ?_⟩)
        | (refine step_call1 (by rfl) 53 _ _ (by rfl) (.iface 91 (.agg #[.slice ar (M + M') cr])) (by rfl) (call_unless _) (unlessWrong_no F T _ NS w4 htr HLL.out (Nat.le_trans HFT.out.1 (by omega)) (fun i hi => (HFT.out.2 i hi).1) (HE.out.below (((HBD.out.trans (hb3.mono HBD.out.size)).alloc (HBD.out.trans (hb3.mono HBD.out.size)).size _).trans (hb4.mono ((HBD.out.trans (hb3.mono HBD.out.size)).alloc (HBD.out.trans (hb3.mono HBD.out.size)).size _).size))) ok) ?_; rintro e w5 ⟨te, xe, rfl, hb5⟩; refine ⟨_, rfl, ?_⟩))
    all_goals
      have HB3 := hideIt ((HBD.out.trans (hb3.mono HBD.out.size)).alloc (HBD.out.trans (hb3.mono HBD.out.size)).size (.cells #[.slice a M cap, .slice a' M' cap'] 57))
      have HB4 := hideIt (HB3.out.trans (hb4.mono HB3.out.size))
      have HB5 := hideIt (HB4.out.trans (hb5.mono HB4.out.size))
      clear hb3 hb4 hb5 htr
      go_wp2_with fail
      go_ret2
      exact ⟨Or.inr ⟨by rw [HM.out.2, ok]; rfl, _, rfl, by rw [HM.out.1, ok]; exact ⟨te, xe, rfl⟩⟩, HB5.out⟩
  · go_region_law
      (first
        | (refine step_invoke (by rfl) _ _ (by rfl) 91 (.agg #[.slice a' M' cap']) (by rfl) 147 (parts_meth _) (parts_call _) (parts5_any a' M' cap' _) ?_; rintro e w3 ⟨rfl, hb3⟩; have hS1 := (below_cell hb3 hltd).trans c0d; refine ⟨_, rfl, ?_⟩)
        | (refine step_call1 (by rfl) 54 _ _ (by rfl) (.slice (some ⟨w3.heap.size, 0, none⟩) 2 2) (by rfl) (call_concat _) (HWC.out (w3.alloc (.cells #[.slice a M cap, .slice a' M' cap'] 57)) w3.heap.size ((HBD.out.trans (hb3.mono HBD.out.size)).alloc (HBD.out.trans (hb3.mono HBD.out.size)).size _) (by simp) (by simp) (by simp)) ?_; rintro e w4 ⟨r, rfl, ⟨ar, cr, rfl⟩, htr, hb4⟩; refine ⟨_, rfl, ?_⟩)
        | (refine step_call1 (by rfl) 53 _ _ (by rfl) (.iface 91 (.agg #[.slice ar (M + M') cr])) (by rfl) (call_unless _) (unlessWrong_yes F T _ NS w4 htr HLL.out (Nat.le_trans HFT.out.1 (by omega)) (fun i hi => (HFT.out.2 i hi).1) (HE.out.below (((HBD.out.trans (hb3.mono HBD.out.size)).alloc (HBD.out.trans (hb3.mono HBD.out.size)).size _).trans (hb4.mono ((HBD.out.trans (hb3.mono HBD.out.size)).alloc (HBD.out.trans (hb3.mono HBD.out.size)).size _).size))) ok) ?_; rintro e w5 ⟨rfl, hb5⟩; refine ⟨_, rfl, ?_⟩))
    all_goals
      have HB3 := hideIt ((HBD.out.trans (hb3.mono HBD.out.size)).alloc (HBD.out.trans (hb3.mono HBD.out.size)).size (.cells #[.slice a M cap, .slice a' M' cap'] 57))
      have HB4 := hideIt (HB3.out.trans (hb4.mono HB3.out.size))
      have HB5 := hideIt (HB4.out.trans (hb5.mono HB4.out.size))
      have HTR := hideIt (TreeAt.keep (fun k hk => hb5.block k hk) hb5.size htr)
      clear hb3 hb4 hb5 htr
      go_wp2_with fail
      go_ret2
      exact ⟨Or.inl ⟨by rw [HM.out.1, ok]; rfl, F, T, _, _, rfl, HTR.out, by rw [HM.out.2, ok]; exact HLL.out⟩, HB5.out⟩
end Go.Proofs.YtfijafbpdlakaaaGreatDoor

/-
  slices.Clone of texts: a row of one's own.
-/
namespace Go.Proofs.YtfijafbpdlakaaaGreatDoor
open Go.RowKit
set_option linter.unusedSimpArgs false
set_option linter.unusedVariables false

theorem infoStr2 : (Tryz.prog.info? 9).map (fun i => (i.zero, i.size, i.bytes)) = some (some (.string ByteArray.empty), 1, 16) := by kernel_rfl

set_option maxRecDepth 100000 in
set_option maxHeartbeats 1600000 in
theorem cloneStr_any (B : Nat) (v : Value) (l : List ByteArray) (w : World) (h : StrsAt B w v l) (hB : B ≤ w.heap.size) :
    Calls Tryz.prog 77 #[v] w fun e w' => ∃ r, e = .returned r ∧ w'.ownsRow w.heap.size 9 1 r l.length (l.map .string) ∧ Below w.heap.size w w' := by
  obtain ⟨hl, _, a, cap, rfl, hc⟩ := h
  have HC := hideIt hc
  clear hc
  obtain ⟨i1, hi1, hz1, hs1, hy1⟩ := info_parts infoStr2
  cases a with
  | none =>
    have h0 : l.length = 0 := by
      rcases Nat.eq_zero_or_pos l.length with e | e
      · exact e
      · obtain ⟨b, o, e2, _⟩ := HC.out e
        cases e2
    obtain rfl : l = [] := List.eq_nil_of_length_eq_zero h0
    clear HC h0
    have hnil := fun w => Lib.run_eql_slice_nil (P := Tryz.prog) w 31 9 none 0 cap 0 0 Tryz.underlying31
    go_enter Tryz.func77, Tryz.ntmps77
    go_wp2_with fail
    go_ret
    exact ⟨.slice none 0 0, rfl, World.ownsRow_nil _ _ _ _, Below.refl _ _⟩
  | some ad =>
    have HOWN : Hid ((w.alloc (.cells #[] 9)).ownsRow w.heap.size 9 1 (.slice (some ⟨w.heap.size, 0, none⟩) 0 0) 0 []) := by
      have := World.ownsRow_lit (base := w.heap.size) (e := 9) (size := 1) w #[] 0 (Nat.le_refl _) (by simp [maxLen]) rfl
      simpa [Hid] using this
    have hw1 : Below w.heap.size w (w.alloc (.cells #[] 9)) := (Below.refl _ _).alloc (Nat.le_refl _) _
    have HSRC : Hid (0 < l.length → ∃ ad', some ad = some ad' ∧ ∀ j u, (l.map Value.string)[j]? = some u → (w.alloc (.cells #[] 9)).cell? (ad'.add j) = some u) := by
      intro hp
      obtain ⟨bk, ok, e, hbk, hck⟩ := HC.out hp
      refine ⟨ad, rfl, fun j u hj => ?_⟩
      obtain rfl : ad = ⟨bk, ok, none⟩ := by simpa using e
      have hj' : j < l.length := by have := (List.getElem?_eq_some_iff.1 hj).1; simpa using this
      rw [show (⟨bk, ok, none⟩ : Addr).add j = ⟨bk, ok + j, none⟩ by simp [Addr.add], below_cell hw1 (by omega), hck j hj']
      simp [hj', keyAt] at hj ⊢
      exact hj
    have HW1 := hideIt hw1
    clear hw1
    have hnil := fun w => Lib.run_eql_slice_nil (P := Tryz.prog) w 31 9 (some ad) l.length cap 0 0 Tryz.underlying31
    go_enter Tryz.func77, Tryz.ntmps77
    go_wp2_with (at_builtin; refine wpList_append_src rfl _ _ 31 rfl w.heap.size 9 i1 (.string ByteArray.empty) 1 16 Tryz.underlying31 hi1 hz1 hs1 hy1 rfl (by decide) _ 0 [] rfl HOWN.out (some ad) l.length cap (l.map .string) rfl (by simp) HSRC.out ?c2 ?c3 ?c4 ?c5 ?_)
    case c2 => intro u hu; obtain ⟨q, _, rfl⟩ := List.mem_map.1 hu; rfl
    case c3 => unfold maxLen; omega
    case c4 => omega
    case c5 => simp
    intro v' w2 hk2 hg2 hat2
    (try simp only [Nat.zero_add, List.nil_append] at hk2)
    have hb2 : Below w.heap.size w w2 := HW1.out.grown hg2 (by simp) (fun r hr => by simp [Value.ownBlock] at hr; omega)
    obtain ⟨ar, cr, er⟩ := own_slice hk2
    subst er
    clear hg2 hat2
    go_wp2_with fail
    go_ret
    exact ⟨_, rfl, hk2, hb2⟩
end Go.Proofs.YtfijafbpdlakaaaGreatDoor

/-
  slices.Clone of a row of values.
-/
namespace Go.Proofs.YtfijafbpdlakaaaGreatDoor
open Go.RowKit
set_option linter.unusedSimpArgs false
set_option linter.unusedVariables false

set_option maxRecDepth 100000 in
set_option maxHeartbeats 1600000 in
theorem cloneVal_any (v : Value) (m : Nat) (V : Nat → Value) (w : World) (h : ValsAt w v m V) (hm : m ≤ 1000) :
    Calls Tryz.prog 78 #[v] w fun e w' => ∃ r, e = .returned r ∧ w'.ownsRow w.heap.size 54 1 r m ((List.range m).map V) ∧ Below w.heap.size w w' := by
  have HV := hideIt h
  obtain ⟨a, cap, rfl, hc, _⟩ := h
  have HC := hideIt hc
  clear hc
  obtain ⟨i0, hi0, hz0, hs0, hy0⟩ := info_parts infoVal
  cases a with
  | none =>
    have h0 : m = 0 := by
      rcases Nat.eq_zero_or_pos m with e | e
      · exact e
      · obtain ⟨b, e2, _⟩ := HC.out e
        cases e2
    subst h0
    clear HC HV
    have hnil := fun w => Lib.run_eql_slice_nil (P := Tryz.prog) w 57 54 none 0 cap 0 0 Tryz.underlying57
    go_enter Tryz.func78, Tryz.ntmps78
    go_wp2_with fail
    go_ret
    exact ⟨.slice none 0 0, rfl, World.ownsRow_nil _ _ _ _, Below.refl _ _⟩
  | some ad =>
    have HOWN : Hid ((w.alloc (.cells #[] 54)).ownsRow w.heap.size 54 1 (.slice (some ⟨w.heap.size, 0, none⟩) 0 0) 0 []) := by
      have := World.ownsRow_lit (base := w.heap.size) (e := 54) (size := 1) w #[] 0 (Nat.le_refl _) (by simp [maxLen]) rfl
      simpa [Hid] using this
    have hw1 : Below w.heap.size w (w.alloc (.cells #[] 54)) := (Below.refl _ _).alloc (Nat.le_refl _) _
    have HSRC := hideIt (vals_src HV.out hw1)
    have HW1 := hideIt hw1
    clear hw1
    have hnil := fun w => Lib.run_eql_slice_nil (P := Tryz.prog) w 57 54 (some ad) m cap 0 0 Tryz.underlying57
    go_enter Tryz.func78, Tryz.ntmps78
    go_wp2_with (at_builtin; refine wpList_append_src rfl _ _ 57 rfl w.heap.size 54 i0 .nilIface 1 16 Tryz.underlying57 hi0 hz0 hs0 hy0 rfl (by decide) _ 0 [] rfl HOWN.out (some ad) m cap ((List.range m).map V) rfl (by simp) HSRC.out (vals_one HV.out) ?c3 ?c4 ?c5 ?_)
    case c3 => unfold maxLen; omega
    case c4 => omega
    case c5 => simp
    intro v' w2 hk2 hg2 hat2
    (try simp only [Nat.zero_add, List.nil_append] at hk2)
    have hb2 : Below w.heap.size w w2 := HW1.out.grown hg2 (by simp) (fun r hr => by simp [Value.ownBlock] at hr; omega)
    obtain ⟨ar, cr, er⟩ := own_slice hk2
    subst er
    clear hg2 hat2
    go_wp2_with fail
    go_ret
    exact ⟨_, rfl, hk2, hb2⟩
end Go.Proofs.YtfijafbpdlakaaaGreatDoor

/-
  slices.BinarySearch among keys that rise: how many are ahead, and whether the key is there.
-/
namespace Go.Proofs.YtfijafbpdlakaaaGreatDoor
open Go.RowKit
set_option linter.unusedSimpArgs false
set_option linter.unusedVariables false

theorem cmpNaN_any (s : ByteArray) (w : World) : Calls Tryz.prog 108 #[.string s] w fun e w' => e = .returned (.bool false) ∧ w' = w := by
  have f3 : (s.toList == s.toList) = true := by simp
  go_enter Tryz.func108, Tryz.ntmps108
  go_wp2_with fail
  go_ret
  exact ⟨by simp, rfl⟩

theorem slNaN_any (s : ByteArray) (w : World) : Calls Tryz.prog 92 #[.string s] w fun e w' => e = .returned (.bool false) ∧ w' = w := by
  have f3 : (s.toList == s.toList) = true := by simp
  go_enter Tryz.func92, Tryz.ntmps92
  go_wp2_with fail
  go_ret
  exact ⟨by simp, rfl⟩

theorem cmpLess_any (a b : ByteArray) (w : World) : Calls Tryz.prog 91 #[.string a, .string b] w fun e w' => e = .returned (.bool (lessB a b)) ∧ w' = w := by
  go_enter Tryz.func91, Tryz.ntmps91
  go_wp2_with (go_at_call 108; refine (cmpNaN_any _ _).mono ?_; rintro e w' ⟨rfl, rfl⟩)
  go_ret
  exact ⟨rfl, rfl⟩

set_option maxRecDepth 100000 in
set_option maxHeartbeats 1600000 in
theorem search_any (B : Nat) (v : Value) (l : List ByteArray) (key : ByteArray) (w : World) (h : StrsAt B w v l) (hr : Rise l) (hl : l.length ≤ 1048576) :
    Calls Tryz.prog 79 #[v, .string key] w fun e w' => e = .returned (.tuple #[.int .i64 (posK l key : Nat), .bool (hasK l key)]) ∧ w' = w := by
  obtain ⟨_, _, a, cap, rfl, hc⟩ := h
  have HC := hideIt hc
  have HR := hideIt hr
  clear hc hr
  go_enter Tryz.func79, Tryz.ntmps79
  go_wp2_with fail
  go_loop [7, 8, 9] (fun p q _ => ∃ i j : Nat, i ≤ j ∧ j ≤ l.length ∧ p = .int .i64 i ∧ q = .int .i64 j ∧ Hid (∀ t, t < i → lessB (keyAt l t) key = true) ∧ Hid (j < l.length → lessB (keyAt l j) key = false)) (fun p q _ => (intOf q).toNat - (intOf p).toNat)
  case atStart => exact ⟨0, l.length, Nat.zero_le _, Nat.le_refl _, rfl, rfl, fun t ht => by omega, fun h => absurd h (by omega)⟩
  case round =>
    obtain ⟨i, j, hij, hjl, rfl, rfl, HL, HG⟩ := hrel
    by_cases hlt : i < j
    · obtain ⟨b, o, rfl, hbB, hcc⟩ := HC.out (by omega)
      obtain ⟨h, hh⟩ : ∃ h : Nat, h = (i + j) / 2 := ⟨_, rfl⟩
      have h1 : i ≤ h := by omega
      have h2 : h < j := by omega
      have hck := hcc h (by omega)
      have p0 : ((i : Int) + (j : Int)) / 2 = (h : Int) := by omega
      have hhl : h < l.length := by omega
      clear hcc hh
      go_wp2_with fail
      refine (cmpLess_any _ _ _).mono ?_
      rintro e w1 ⟨rfl, rfl⟩
      cases hle : lessB (keyAt l h) key
      · have HG2 : Hid (h < l.length → lessB (keyAt l h) key = false) := fun _ => hle
        go_wp2_with fail
        go_round
        case rel => exact ⟨i, h, h1, by omega, rfl, rfl, HL, HG2⟩
        case measure => simp [intOf]; omega
      · have HL2 : Hid (∀ t, t < h + 1 → lessB (keyAt l t) key = true) := fun t ht => by
          by_cases e : t = h
          · subst e; exact hle
          · exact less_trans (HR.out t h (by omega) hhl) hle
        go_wp2_with fail
        go_round
        case rel => exact ⟨h + 1, j, by omega, hjl, by go_num, rfl, HL2, HG⟩
        case measure => simp [intOf]; omega
    · obtain rfl : i = j := by omega
      have HP := hideIt (posK_eq hjl HL.out HG.out)
      by_cases hil : i < l.length
      · obtain ⟨b, o, rfl, hbB, hcc⟩ := HC.out (by omega)
        have hck := hcc i hil
        by_cases he : (keyAt l i).toList = key.toList
        · have HH : Hid (hasK l key = true) := by unfold Hid hasK; rw [HP.out]; simp [hil, he]
          have hz : ((keyAt l i).toList == key.toList) = true := by simp [he]
          clear hcc
          go_wp2_with fail
          go_ret2
          exact ⟨by rw [HH.out, HP.out]; rfl, rfl⟩
        · have HH : Hid (hasK l key = false) := by unfold Hid hasK; rw [HP.out]; simp [hil, he]
          have hz : ((keyAt l i).toList == key.toList) = false := by simpa using he
          clear hcc
          go_wp2_with (go_at_call 92; refine (slNaN_any _ _).mono ?_; rintro e w' ⟨rfl, rfl⟩)
          go_ret2
          exact ⟨by rw [HH.out, HP.out]; rfl, rfl⟩
      · have HH : Hid (hasK l key = false) := by unfold Hid hasK; rw [HP.out]; simp [hil]
        have hil' : ¬ ((i : Int) < (l.length : Int)) := by omega
        go_wp2_with fail
        go_ret2
        exact ⟨by rw [HH.out, HP.out]; rfl, rfl⟩
end Go.Proofs.YtfijafbpdlakaaaGreatDoor
