/-
  spec.l8Plus where one side is null, where the kinds part, at two truth values, numbers, texts.
-/
import Derived.Test.YtfijafbpdlakaaaGreatDoorPlusP
import Derived.Test.YtfijafbpdlakaaaGreatDoorSMin
import Derived.Laws.Concat
import Derived.Test.YtfijafbpdlakaaaGreatDoorLayG
import Derived.Test.YtfijafbpdlakaaaGreatDoorIWk
namespace Go.Proofs.YtfijafbpdlakaaaGreatDoor
open Go.RowKit
set_option linter.unusedSimpArgs false
set_option linter.unusedVariables false

theorem l1WordX (s : ByteArray) (w : World) : Calls Tryz.prog 47 #[.string s] w fun e w' => ∃ r KV IV, e = .returned r ∧ Nest w.heap.size w' r (leafN 4 0 s) KV IV ∧ Below w.heap.size w w' := by
  go_enter Tryz.func47, Tryz.ntmps47
  go_wp2_with fail
  go_ret
  exact ⟨_, _, _, rfl, leaf_nest w 4 0 _, (Below.refl _ _).alloc (Nat.le_refl _) _⟩

theorem l1CopyX (B : Nat) (v : Value) (vs : List VN) (w : World) (h : NodesAt B w v vs) (ok : okB vs = true) (hB : B ≤ w.heap.size) :
    Calls Tryz.prog 56 #[v] w fun e w' => ∃ r KV IV, e = .returned r ∧ Nest w.heap.size w' r vs KV IV ∧ Below w.heap.size w w' := by
  have H := hideIt h
  obtain ⟨_, a, cap, rfl, _⟩ := h
  have hl := (okB_parts ok).1
  have HNR := hideIt (near_of (L := fun _ => vs) (m := 1) (fun i hi => ok) 0 (by omega)).2
  go_enter Tryz.func56, Tryz.ntmps56
  go_wp2_with fail
  refine (l1Add_any w.heap.size w.heap.size (.slice none 0 0) _ [] vs (fun _ => undef) (fun _ => undef) w (Nest.nil _ _ _ _) (NodesAt.wide H.out hB) (Nat.le_refl _) (Nat.le_refl _) (by simp; omega) HNR.out).mono ?_
  rintro e w2 ⟨r, KV, IV, rfl, hl2⟩
  have hb : Below w.heap.size w w2 := (Below.refl _ _).grown hl2.2.1 (Nat.le_refl _) (fun k hk => by simp [Value.ownBlock] at hk)
  have hn := hl2.1
  have e0 : vs.map (shiftN (([] : List VN).length : Int)) = vs := by
    have : ∀ x : VN, shiftN (([] : List VN).length : Int) x = x := fun x => shift_zero x
    rw [List.map_congr_left (fun x _ => this x)]; simp
  rw [List.nil_append, e0] at hn
  have HN := hideIt hn
  have HB := hideIt hb
  obtain ⟨ar, cr, er⟩ := own_slice hn.row
  obtain ⟨M, hM⟩ : ∃ M, vs.length = M := ⟨_, rfl⟩
  rw [hM] at er
  subst er
  clear hl2 hn hb hM
  go_wp2_with fail
  go_ret
  exact ⟨_, KV, IV, rfl, HN.out, HB.out⟩

theorem root_s' {us : List VN} (hok : okB us = true) (hk : (rootN us).kind = 4) : (rootN us).s.size ≤ 60 := by
  rcases root_says hok with k | k | ⟨k, a, b⟩ | ⟨k, a⟩ | ⟨k, a⟩ | ⟨k, a⟩
  · omega
  · omega
  · omega
  · exact a
  · omega
  · omega
theorem text_few' (s : ByteArray) (h : s.size ≤ 140737488355328) : ∀ i, i < (leafN 4 0 s).length → Fits (nodeAt (leafN 4 0 s) i) := by
  intro i hi
  obtain rfl : i = 0 := by simp [leafN] at hi; omega
  refine ⟨by simp [leafN, nodeAt], fun i hi => absurd hi (by simp [leafN, nodeAt]), by simp [leafN, nodeAt], fun i hi => absurd hi (by simp [leafN, nodeAt]), by simpa [leafN, nodeAt] using h, by simp [leafN, nodeAt], by simp [leafN, nodeAt], by simp [leafN, nodeAt], by simp [leafN, nodeAt]⟩

set_option maxRecDepth 100000 in
set_option maxHeartbeats 3200000 in
theorem l8Plus_flat (B : Nat) (v1 v2 : Value) (us vs : List VN) (w : World) (hn1 : NodesAt B w v1 us) (hn2 : NodesAt B w v2 vs) (hB : B ≤ w.heap.size) (ok1 : okB us = true) (ok2 : okB vs = true) (hno : (rootN us).kind ≠ (rootN vs).kind ∨ ((rootN us).kind ≠ 5 ∧ (rootN us).kind ≠ 6)) :
    Calls Tryz.prog 26 #[v1, v2] w fun e w' => ∃ r base KV IV, e = .returned (.tuple #[r, .int .i64 (plusC us vs)]) ∧ w.heap.size ≤ base ∧ Nest base w' r (plusNs us vs) KV IV ∧ Below w.heap.size w w' := by
  obtain ⟨p1a, p1b⟩ := (okB_parts ok1).1
  obtain ⟨p2a, p2b⟩ := (okB_parts ok2).1
  obtain ⟨b1, o1, c1, aK1, nK1, cK1, aI1, nI1, cI1, rfl, hb1, u1, u2, d0, d1, d2, d3, d4⟩ := root_cells hn1 (by omega)
  clear u1 u2
  obtain ⟨b2, o2, c2, aK2, nK2, cK2, aI2, nI2, cI2, rfl, hb2, u1, u2, g0, g1, g2, g3, g4⟩ := root_cells hn2 (by omega)
  clear u1 u2
  have H1 := hideIt (fun a => plus_null1 ok1 ok2 a)
  have H2 := hideIt (fun a b => plus_null2 ok1 ok2 a b)
  have H3 := hideIt (fun a b c => plus_unlike ok1 ok2 a b c)
  have H4 := hideIt (fun a b c => plus_raw ok1 ok2 a b c)
  have H5 := hideIt (fun a => raw_sum (us := us) (vs := vs) a)
  have H6 := hideIt (fun a => raw_text (us := us) (vs := vs) a)
  have HRN1 := hideIt (fun a => root_n ok1 a)
  have HRN2 := hideIt (fun a => root_n ok2 a)
  have HRS1 := hideIt (fun a => root_s' ok1 a)
  have HRS2 := hideIt (fun a => root_s' ok2 a)
  have HC1 := hideIt (fun W (hb : Below w.heap.size w W) => l1CopyX B _ us W (hn1.below (hb.mono hB)) ok1 (Nat.le_trans hB hb.size))
  have HC2 := hideIt (fun W (hb : Below w.heap.size w W) => l1CopyX B _ vs W (hn2.below (hb.mono hB)) ok2 (Nat.le_trans hB hb.size))
  have HSN : Hid (sumNs us vs = leafN 3 ((rootN us).n + (rootN vs).n) ByteArray.empty) := rfl
  have HTN : Hid (textNs us vs = leafN 4 0 ((rootN us).s ++ (rootN vs).s)) := rfl
  have HRT := hideIt (root_says ok1)
  obtain ⟨N1, hN1⟩ : ∃ N1, us.length = N1 := ⟨_, rfl⟩
  obtain ⟨N2, hN2⟩ : ∃ N2, vs.length = N2 := ⟨_, rfl⟩
  rw [hN1] at p1a p1b d0 d1 d2 d3 d4 HC1 ⊢
  rw [hN2] at p2a p2b g0 g1 g2 g3 g4 HC2 ⊢
  have HL1 := hideIt hN1
  have HL2 := hideIt hN2
  have z1 : ((N1 : Int) - 1).toNat = N1 - 1 := by omega
  have z2 : ((N2 : Int) - 1).toNat = N2 - 1 := by omega
  obtain ⟨kx, hkx⟩ : ∃ k, (rootN us).kind = k := ⟨_, rfl⟩
  obtain ⟨ky, hky⟩ : ∃ k, (rootN vs).kind = k := ⟨_, rfl⟩
  obtain ⟨nx, hnx⟩ : ∃ k, (rootN us).n = k := ⟨_, rfl⟩
  obtain ⟨ny, hny⟩ : ∃ k, (rootN vs).n = k := ⟨_, rfl⟩
  obtain ⟨sx, hsx⟩ : ∃ k, (rootN us).s = k := ⟨_, rfl⟩
  obtain ⟨sy, hsy⟩ : ∃ k, (rootN vs).s = k := ⟨_, rfl⟩
  have HKX := hideIt hkx
  have HKY := hideIt hky
  rw [hkx] at d0 H1 H2 H3 H4 H5 H6 HRN1 HRS1 hno
  rw [hky] at g0 H2 H3 H4 HRN2 HRS2 hno
  rw [hnx] at d1 HSN HRN1
  rw [hny] at g1 HSN HRN2
  rw [hsx] at d2 HTN HRS1
  rw [hsy] at g2 HTN HRS2
  have HKQ : Hid (kx = 1 ∨ kx = 2 ∨ kx = 3 ∨ kx = 4 ∨ kx = 5 ∨ kx = 6) := by
    rw [Hid, ← hkx]
    rcases HRT.out with k | k | ⟨k, _, _⟩ | ⟨k, _⟩ | ⟨k, _⟩ | ⟨k, _⟩ <;> omega
  have HBA : Hid (Below w.heap.size w ((w.alloc (.cells #[.int .i64 kx, .int .i64 nx, .string sx, .slice aK1 nK1 cK1, .slice aI1 nI1 cI1] 34)).alloc (.cells #[.int .i64 ky, .int .i64 ny, .string sy, .slice aK2 nK2 cK2, .slice aI2 nI2 cI2] 34))) := ((Below.refl _ _).alloc (Nat.le_refl _) _).alloc (by simp) _
  clear hn1 hn2 hN1 hN2 hkx hky hnx hny hsx hsy ok1 ok2 HRT
  have hbx : Below w.heap.size w (w.alloc (.cells #[.int .i64 kx, .int .i64 nx, .string sx, .slice aK1 nK1 cK1, .slice aI1 nI1 cI1] 34)) := (Below.refl _ _).alloc (Nat.le_refl _) _
  have e0 := (below_cell hbx (show b2 < w.heap.size by omega)).trans g0
  have e1 := (below_cell hbx (show b2 < w.heap.size by omega)).trans g1
  have e2 := (below_cell hbx (show b2 < w.heap.size by omega)).trans g2
  have e3 := (below_cell hbx (show b2 < w.heap.size by omega)).trans g3
  have e4 := (below_cell hbx (show b2 < w.heap.size by omega)).trans g4
  clear hbx g0 g1 g2 g3 g4
  by_cases k1 : kx = 1
  · have HM := hideIt (H1.out k1)
    have q1 : (kx == 1) = true := by simpa using k1
    clear k1 hno
    go_enter Tryz.func26, Tryz.ntmps26
    go_wp2_with fail
    refine (HC2.out _ HBA.out).mono ?_
    rintro e w3 ⟨r, KV, IV, rfl, hn, hb⟩
    have HB3 := hideIt (HBA.out.trans (hb.mono HBA.out.size))
    have HN3 := hideIt (hn.low HBA.out.size)
    obtain ⟨ar, cr, er⟩ := own_slice hn.row
    rw [HL2.out] at er
    subst er
    clear hn hb
    go_wp2_with fail
    go_ret2
    exact ⟨_, w.heap.size, KV, IV, by rw [HM.out.1]; rfl, Nat.le_refl _, by rw [HM.out.2]; exact HN3.out, HB3.out⟩
  have q1 : (kx == 1) = false := by simpa using k1
  by_cases k2 : ky = 1
  · have HM := hideIt (H2.out k1 k2)
    have q2 : (ky == 1) = true := by simpa using k2
    clear k1 k2 hno
    go_enter Tryz.func26, Tryz.ntmps26
    go_wp2_with fail
    refine (HC1.out _ HBA.out).mono ?_
    rintro e w3 ⟨r, KV, IV, rfl, hn, hb⟩
    have HB3 := hideIt (HBA.out.trans (hb.mono HBA.out.size))
    have HN3 := hideIt (hn.low HBA.out.size)
    obtain ⟨ar, cr, er⟩ := own_slice hn.row
    rw [HL1.out] at er
    subst er
    clear hn hb
    go_wp2_with fail
    go_ret2
    exact ⟨_, w.heap.size, KV, IV, by rw [HM.out.1]; rfl, Nat.le_refl _, by rw [HM.out.2]; exact HN3.out, HB3.out⟩
  have q2 : (ky == 1) = false := by simpa using k2
  by_cases k : kx = ky
  case neg =>
    have HM := hideIt (H3.out k1 k2 (fun h => k h.1))
    have q3 : (kx != ky) = true := by simpa using k
    clear k1 k2 k hno
    go_enter Tryz.func26, Tryz.ntmps26
    go_wp2_with fail
    go_ret2
    exact ⟨_, w.heap.size, fun _ => undef, fun _ => undef, by rw [HM.out.1]; rfl, Nat.le_refl _, by rw [HM.out.2]; exact Nest.nil _ _ _ _, HBA.out⟩
  case pos =>
  have q3 : (kx != ky) = false := by simpa using k
  have h56 : kx ≠ 5 ∧ kx ≠ 6 := by rcases hno with h | h; exact absurd k h; exact h
  by_cases k3 : kx = 3
  · have HM := hideIt (H4.out k1 k (by omega))
    rw [H5.out k3, HSN.out] at HM
    have q4 : (kx == 3) = true := by simpa using k3
    obtain ⟨n1a, n1b⟩ := HRN1.out k3
    obtain ⟨n2a, n2b⟩ := HRN2.out (by omega)
    have HLF := hideIt (leaf_few (nx + ny) (by omega) (by omega)).2
    clear k1 k2 k k3 hno h56
    go_enter Tryz.func26, Tryz.ntmps26
    go_wp2_with fail
    refine (l1NumberX (nx + ny) _).mono ?_
    rintro e w3 ⟨r, KV, IV, rfl, hn, hb⟩
    have HB3 := hideIt (HBA.out.trans (hb.mono HBA.out.size))
    have HN3 := hideIt (hn.low HBA.out.size)
    have HND := hideIt (hn.nodes (by simp [leafN]) HLF.out)
    obtain ⟨ar, cr, er⟩ := own_slice hn.row
    simp only [leafN, List.length_cons, List.length_nil] at er
    subst er
    clear hn hb
    cases ok : okB (leafN 3 (nx + ny) ByteArray.empty)
    · go_wp2_with fail
      refine (l8Right_no w3.heap.size _ _ w3 HND.out (Nat.le_refl _) ok).mono ?_
      rintro e w4 ⟨rfl, hb4⟩
      have HB4 := hideIt (HB3.out.trans (hb4.mono HB3.out.size))
      clear hb4
      go_wp2_with fail
      go_ret2
      exact ⟨_, w.heap.size, fun _ => undef, fun _ => undef, by rw [HM.out.1, ok]; rfl, Nat.le_refl _, by rw [HM.out.2, ok]; exact Nest.nil _ _ _ _, HB4.out⟩
    · go_wp2_with fail
      refine (l8Right_yes w3.heap.size _ _ w3 HND.out (Nat.le_refl _) ok).mono ?_
      rintro e w4 ⟨rfl, hb4⟩
      have HB4 := hideIt (HB3.out.trans (hb4.mono HB3.out.size))
      have HN4 := hideIt (HN3.out.below hb4)
      clear hb4
      go_wp2_with fail
      go_ret2
      exact ⟨_, w.heap.size, KV, IV, by rw [HM.out.1, ok]; rfl, Nat.le_refl _, by rw [HM.out.2, ok]; exact HN4.out, HB4.out⟩
  have q4 : (kx == 3) = false := by simpa using k3
  by_cases k4 : kx = 4
  · have HM := hideIt (H4.out k1 k (by omega))
    rw [H6.out k4, HTN.out] at HM
    have q5 : (kx == 4) = true := by simpa using k4
    have s1 := HRS1.out k4
    have s2 := HRS2.out (by omega)
    have hcat : ∀ w, (Op.stringOp .add sx sy).run Tryz.prog w = .ok (.string (sx ++ sy)) w := fun w => run_string_add_sum w sx sy (by omega)
    have hsum : ¬ (sx.size + sy.size > 9223372036854775807) := by omega
    have HLF := hideIt (text_few' (sx ++ sy) (by rw [ByteArray.size_append]; omega))
    clear k1 k2 k k3 k4 hno h56
    go_enter Tryz.func26, Tryz.ntmps26
    go_wp2_with fail
    refine (l1WordX (sx ++ sy) _).mono ?_
    rintro e w3 ⟨r, KV, IV, rfl, hn, hb⟩
    have HB3 := hideIt (HBA.out.trans (hb.mono HBA.out.size))
    have HN3 := hideIt (hn.low HBA.out.size)
    have HND := hideIt (hn.nodes (by simp [leafN]) HLF.out)
    obtain ⟨ar, cr, er⟩ := own_slice hn.row
    simp only [leafN, List.length_cons, List.length_nil] at er
    subst er
    clear hn hb
    cases ok : okB (leafN 4 0 (sx ++ sy))
    · go_wp2_with fail
      refine (l8Right_no w3.heap.size _ _ w3 HND.out (Nat.le_refl _) ok).mono ?_
      rintro e w4 ⟨rfl, hb4⟩
      have HB4 := hideIt (HB3.out.trans (hb4.mono HB3.out.size))
      clear hb4
      go_wp2_with fail
      go_ret2
      exact ⟨_, w.heap.size, fun _ => undef, fun _ => undef, by rw [HM.out.1, ok]; rfl, Nat.le_refl _, by rw [HM.out.2, ok]; exact Nest.nil _ _ _ _, HB4.out⟩
    · go_wp2_with fail
      refine (l8Right_yes w3.heap.size _ _ w3 HND.out (Nat.le_refl _) ok).mono ?_
      rintro e w4 ⟨rfl, hb4⟩
      have HB4 := hideIt (HB3.out.trans (hb4.mono HB3.out.size))
      have HN4 := hideIt (HN3.out.below hb4)
      clear hb4
      go_wp2_with fail
      go_ret2
      exact ⟨_, w.heap.size, KV, IV, by rw [HM.out.1, ok]; rfl, Nat.le_refl _, by rw [HM.out.2, ok]; exact HN4.out, HB4.out⟩
  have q5 : (kx == 4) = false := by simpa using k4
  · have k7 : kx = 2 := by rcases HKQ.out with h | h | h | h | h | h <;> omega
    have HM := hideIt (H3.out k1 k2 (fun h => h.2 k7))
    have q6 : (kx == 5) = false := by simp; omega
    have q7 : (kx == 6) = false := by simp; omega
    clear k1 k2 k k3 k4 k7 hno h56
    go_enter Tryz.func26, Tryz.ntmps26
    go_wp2_with fail
    go_ret2
    exact ⟨_, w.heap.size, fun _ => undef, fun _ => undef, by rw [HM.out.1]; rfl, Nat.le_refl _, by rw [HM.out.2]; exact Nest.nil _ _ _ _, HBA.out⟩
end Go.Proofs.YtfijafbpdlakaaaGreatDoor

/-
  spec.l8Plus at two lists.
-/
namespace Go.Proofs.YtfijafbpdlakaaaGreatDoor
open Go.RowKit
set_option linter.unusedSimpArgs false
set_option linter.unusedVariables false

theorem rows_own {base B n : Nat} {w : World} {v : Value} {cs : Nat → Value} {L : Nat → List VN} (h : w.ownsRow base 24 1 v n ((List.range n).map cs)) (hn : n ≤ 1048576) (hB : B ≤ w.heap.size) (hc : ∀ i, i < n → NodesAt B w (cs i) (L i)) : RowsAt w.heap.size w v n L := by
  obtain ⟨a, c, e⟩ := own_slice h
  subst e
  refine ⟨hn, a, c, rfl, fun hp => ?_⟩
  obtain ⟨g, c', e, _, hg⟩ := h.form hp
  cases e
  exact ⟨g, rfl, hg, fun i hi => ⟨cs i, by rw [h.cellAt i (by omega)]; simp [hi], (hc i hi).wide hB⟩⟩

/-- Nodes stay where a row of rows grows. -/
theorem nest_far {base b' n' : Nat} {w w' : World} {v v' : Value} {vs : List VN} {KV IV : Nat → Value} {xs : List Value} (h : Nest base w v vs KV IV) (h' : w.ownsRow b' 24 1 v' n' xs) (hg : w.grownBy w' v'.ownBlock) : Nest base w' v vs KV IV :=
  h.kept hg (own_two h' h.row (by decide)) (fun i hi => own_two h' (h.rk i hi) (by decide)) (fun i hi => own_two h' (h.ri i hi) (by decide))

theorem rows_src {base n : Nat} {w : World} {a : Option Addr} {c : Nat} {cs : Nat → Value} (h : w.ownsRow base 24 1 (.slice a n c) n ((List.range n).map cs)) : 0 < n → ∃ ad, a = some ad ∧ ∀ j u, ((List.range n).map cs)[j]? = some u → w.cell? (ad.add j) = some u := by
  intro hp
  obtain ⟨g, c', e, _, hg⟩ := h.form hp
  cases e
  refine ⟨_, rfl, fun j u hj => ?_⟩
  have hj' : j < n := by have := (List.getElem?_eq_some_iff.1 hj).1; simpa using this
  rw [show (⟨g, 0, none⟩ : Addr).add j = ⟨g, j, none⟩ by simp [Addr.add]; omega, h.cellAt j (by omega)]
  exact hj

theorem rows_one {base : Nat} {w : World} {v : Value} {m : Nat} {L : Nat → List VN} {rs : Nat → Value} {KV IV : Nat → Nat → Value} {lo : Nat → Nat} (h : Rows2 base w v m L rs KV IV lo) : ∀ u ∈ (List.range m).map rs, u.oneCell' = true := by
  intro u hu
  obtain ⟨j, hj, rfl⟩ := List.mem_map.1 hu
  obtain ⟨a, c, e⟩ := own_slice (h.nest j (by simpa using hj)).row
  rw [e]; rfl

set_option maxRecDepth 100000 in
set_option maxHeartbeats 3200000 in
theorem l8Plus_list (B : Nat) (v1 v2 : Value) (us vs : List VN) (w : World) (hn1 : NodesAt B w v1 us) (hn2 : NodesAt B w v2 vs) (hB : B ≤ w.heap.size) (ok1 : okB us = true) (ok2 : okB vs = true) (hk1 : (rootN us).kind = 5) (hk2 : (rootN vs).kind = 5) :
    Calls Tryz.prog 26 #[v1, v2] w fun e w' => ∃ r base KV IV, e = .returned (.tuple #[r, .int .i64 (plusC us vs)]) ∧ w.heap.size ≤ base ∧ Nest base w' r (plusNs us vs) KV IV ∧ Below w.heap.size w w' := by
  obtain ⟨p1a, p1b⟩ := (okB_parts ok1).1
  obtain ⟨p2a, p2b⟩ := (okB_parts ok2).1
  obtain ⟨b1, o1, c1, aK1, nK1, cK1, aI1, nI1, cI1, rfl, hb1, u1, u2, d0, d1, d2, d3, d4⟩ := root_cells hn1 (by omega)
  clear u1 u2
  obtain ⟨b2, o2, c2, aK2, nK2, cK2, aI2, nI2, cI2, rfl, hb2, u1, u2, g0, g1, g2, g3, g4⟩ := root_cells hn2 (by omega)
  clear u1 u2
  have HM := hideIt (plus_raw ok1 ok2 (by omega) (by omega) (by omega))
  rw [raw_both hk1] at HM
  have HPT1 := hideIt (fun W (hb : Below w.heap.size w W) => l1Parts_any B _ us W (hn1.below (hb.mono hB)) (Nat.le_trans hB hb.size) ok1)
  have HPT2 := hideIt (fun W (hb : Below w.heap.size w W) => l1Parts_any B _ vs W (hn2.below (hb.mono hB)) (Nat.le_trans hB hb.size) ok2)
  have HF1 := hideIt (PL_few hn1.fits)
  have HF2 := hideIt (PL_few hn2.fits)
  have e1 : partsN us = (rootKids us).length := by unfold partsN; rw [if_pos ok1]
  have e2 : partsN vs = (rootKids vs).length := by unfold partsN; rw [if_pos ok2]
  rw [e1] at HF1
  rw [e2] at HF2
  have HOK := hideIt (both_ok ok1 ok2)
  have HBF := hideIt (both_fits ok1 ok2 hn1.fits hn2.fits)
  have HBN : Hid (bothNs us vs = makeNs 5 [] (bothL us vs) ((rootKids us).length + (rootKids vs).length)) := rfl
  have HBL : Hid (∀ j, bothL us vs j = if j < (rootKids us).length then PL us j else PL vs (j - (rootKids us).length)) := fun j => rfl
  clear e1 e2
  obtain ⟨N1, hN1⟩ : ∃ N1, us.length = N1 := ⟨_, rfl⟩
  obtain ⟨N2, hN2⟩ : ∃ N2, vs.length = N2 := ⟨_, rfl⟩
  rw [hN1] at p1a p1b d0 d1 d2 d3 d4 HPT1 ⊢
  rw [hN2] at p2a p2b g0 g1 g2 g3 g4 HPT2 ⊢
  have HL1 := hideIt hN1
  have HL2 := hideIt hN2
  have z1 : ((N1 : Int) - 1).toNat = N1 - 1 := by omega
  have z2 : ((N2 : Int) - 1).toNat = N2 - 1 := by omega
  obtain ⟨kx, hkx⟩ : ∃ k, (rootN us).kind = k := ⟨_, rfl⟩
  obtain ⟨ky, hky⟩ : ∃ k, (rootN vs).kind = k := ⟨_, rfl⟩
  obtain ⟨nx, hnx⟩ : ∃ k, (rootN us).n = k := ⟨_, rfl⟩
  obtain ⟨ny, hny⟩ : ∃ k, (rootN vs).n = k := ⟨_, rfl⟩
  obtain ⟨sx, hsx⟩ : ∃ k, (rootN us).s = k := ⟨_, rfl⟩
  obtain ⟨sy, hsy⟩ : ∃ k, (rootN vs).s = k := ⟨_, rfl⟩
  rw [hkx] at d0 hk1
  rw [hky] at g0 hk2
  rw [hnx] at d1
  rw [hny] at g1
  rw [hsx] at d2
  rw [hsy] at g2
  have HBA : Hid (Below w.heap.size w ((w.alloc (.cells #[.int .i64 kx, .int .i64 nx, .string sx, .slice aK1 nK1 cK1, .slice aI1 nI1 cI1] 34)).alloc (.cells #[.int .i64 ky, .int .i64 ny, .string sy, .slice aK2 nK2 cK2, .slice aI2 nI2 cI2] 34))) := ((Below.refl _ _).alloc (Nat.le_refl _) _).alloc (by simp) _
  clear hn1 hn2 hN1 hN2 hkx hky hnx hny hsx hsy ok1 ok2
  have hbx : Below w.heap.size w (w.alloc (.cells #[.int .i64 kx, .int .i64 nx, .string sx, .slice aK1 nK1 cK1, .slice aI1 nI1 cI1] 34)) := (Below.refl _ _).alloc (Nat.le_refl _) _
  have e0 := (below_cell hbx (show b2 < w.heap.size by omega)).trans g0
  have e1 := (below_cell hbx (show b2 < w.heap.size by omega)).trans g1
  have e2 := (below_cell hbx (show b2 < w.heap.size by omega)).trans g2
  have e3 := (below_cell hbx (show b2 < w.heap.size by omega)).trans g3
  have e4 := (below_cell hbx (show b2 < w.heap.size by omega)).trans g4
  clear hbx g0 g1 g2 g3 g4
  have q1 : (kx == 1) = false := by simp; omega
  have q2 : (ky == 1) = false := by simp; omega
  have q3 : (kx != ky) = false := by simp; omega
  have q4 : (kx == 3) = false := by simp; omega
  have q5 : (kx == 4) = false := by simp; omega
  have q6 : (kx == 5) = true := by simp; omega
  obtain ⟨i0, hi0, hz0, hs0, hy0⟩ := info_parts info_row
  obtain ⟨M, hM⟩ : ∃ M, (rootKids us).length = M := ⟨_, rfl⟩
  obtain ⟨M', hM'⟩ : ∃ M', (rootKids vs).length = M' := ⟨_, rfl⟩
  rw [hM] at HF1 HPT1 HOK HBN HBL
  rw [hM'] at HF2 HPT2 HOK HBN
  clear hM hM' hk1 hk2
  have hM80 : M ≤ 80 := HF1.out.1
  have hM80' : M' ≤ 80 := HF2.out.1
  go_enter Tryz.func26, Tryz.ntmps26
  go_wp2_with fail
  refine (HPT1.out _ HBA.out).mono ?_
  rintro e w1 ⟨r1, rs1, K1, I1, lo1, rfl, hr1, hb1'⟩
  have HB1 := hideIt (HBA.out.trans (hb1'.mono HBA.out.size))
  have HR1 := hideIt hr1
  obtain ⟨aM, cM, eM⟩ := own_slice hr1.row
  subst eM
  clear hr1 hb1'
  go_wp2_with fail
  refine (HPT2.out _ HB1.out).mono ?_
  rintro e w2 ⟨r2, rs2, K2, I2, lo2, rfl, hr2, hb2'⟩
  have HB2 := hideIt (HB1.out.trans (hb2'.mono HB1.out.size))
  have HR1W := hideIt (HR1.out.below hb2')
  have HR2 := hideIt hr2
  have z2 := hb2'.size
  obtain ⟨aG, cG, eG⟩ := own_slice hr2.row
  subst eG
  clear hr2 hb2' HR1
  have HSRC := hideIt (rows_src HR2.out.row)
  have HRO := hideIt (rows_one HR2.out)
  have zz := HB2.out.size
  have HRX := hideIt (own_mono HR1W.out.row (show w.heap.size ≤ _ from HBA.out.size))
  go_wp2_with (at_builtin; refine wpList_append_src rfl _ _ 36 rfl w.heap.size 24 i0 (.slice none 0 0) 1 24 Tryz.underlying36 hi0 hz0 hs0 hy0 rfl (by decide) _ M _ rfl HRX.out aG M' cG ((List.range M').map rs2) rfl (by simp) HSRC.out HRO.out ?c3 ?c4 ?c5 ?_)
  case c3 => unfold maxLen; omega
  case c4 => omega
  case c5 => exact zz
  intro v5 w5 hown hgrow _
  have HB5 : Hid (Below w.heap.size w w5) := HB2.out.grown hgrow zz (fun y hy => (HRX.out.lt y hy).1)
  have z5 := HB5.out.size
  have HRR : Hid (RowsAt w5.heap.size w5 v5 (M + M') (bothL us vs)) := by
    rw [range_both] at hown
    refine rows_own hown (by omega) (Nat.le_refl _) (fun i hi => ?_)
    rw [HBL.out i]
    by_cases hlt : i < M
    · rw [if_pos hlt, if_pos hlt]
      exact (nest_far (HR1W.out.nest i hlt) HR1W.out.row hgrow).nodes (Nat.le_trans (HF1.out.2 i hlt).1.1 (by omega)) (HF1.out.2 i hlt).2
    · rw [if_neg hlt, if_neg hlt]
      exact (nest_far (HR2.out.nest (i - M) (by omega)) HR1W.out.row hgrow).nodes (Nat.le_trans (HF2.out.2 (i - M) (by omega)).1.1 (by omega)) (HF2.out.2 (i - M) (by omega)).2
  have HCL : Hid ((catNs (bothL us vs) (M + M')).length + 1 ≤ 16001) := by
    have := HBF.out.1
    rw [HBN.out] at this
    unfold makeNs at this
    simpa [Hid] using this
  obtain ⟨av, cv, ev⟩ := own_slice hown
  subst ev
  clear hown hgrow HRX HSRC HRO
  go_wp2_with fail
  refine (l1Make_any w5.heap.size 5 _ _ [] (M + M') (bothL us vs) w5 ⟨by simp, fun i hi => absurd hi (by simp), none, 0, rfl, fun h => absurd h (by simp)⟩ HRR.out (Nat.le_refl _) (by omega) (by simp) (by have := HCL.out; omega) (near_of HOK.out)).mono ?_
  rintro e w6 ⟨r, KV, IV, rfl, hn6, hb6⟩
  rw [← HBN.out] at hn6
  have HB6 := hideIt (HB5.out.trans (hb6.mono z5))
  have HN6 := hideIt (hn6.low z5)
  have HND := hideIt (hn6.nodes (Nat.le_trans HBF.out.1 (by omega)) (fun i hi => (HBF.out.2 i hi).1))
  obtain ⟨ar, cr, er⟩ := own_slice hn6.row
  obtain ⟨NS, hNS⟩ : ∃ NS, bothNs us vs = NS := ⟨_, rfl⟩
  rw [hNS] at HM HN6 HND er
  obtain ⟨NN, hNN⟩ : ∃ NN, NS.length = NN := ⟨_, rfl⟩
  rw [hNN] at er
  subst er
  clear hn6 hb6 hNN hNS HBN HBF HRR HCL
  cases ok : okB NS
  · go_wp2_with fail
    refine (l8Right_no w6.heap.size _ _ w6 HND.out (Nat.le_refl _) ok).mono ?_
    rintro e w7 ⟨rfl, hb7⟩
    have HB7 := hideIt (HB6.out.trans (hb7.mono HB6.out.size))
    clear hb7
    go_wp2_with fail
    go_ret2
    exact ⟨_, w.heap.size, fun _ => undef, fun _ => undef, by rw [HM.out.1, ok]; rfl, Nat.le_refl _, by rw [HM.out.2, ok]; exact Nest.nil _ _ _ _, HB7.out⟩
  · go_wp2_with fail
    refine (l8Right_yes w6.heap.size _ _ w6 HND.out (Nat.le_refl _) ok).mono ?_
    rintro e w7 ⟨rfl, hb7⟩
    have HB7 := hideIt (HB6.out.trans (hb7.mono HB6.out.size))
    have HN7 := hideIt (HN6.out.below hb7)
    clear hb7
    go_wp2_with fail
    go_ret2
    exact ⟨_, w.heap.size, KV, IV, by rw [HM.out.1, ok]; rfl, Nat.le_refl _, by rw [HM.out.2, ok]; exact HN7.out, HB7.out⟩
end Go.Proofs.YtfijafbpdlakaaaGreatDoor
