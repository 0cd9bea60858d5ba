/-
  spec.Minus.
-/
import Derived.Test.YtgmnihofkpjboaaGreatDoorMinP
import Derived.Test.YtgmnihofkpjboaaGreatDoorLowN
import Derived.Test.YtgmnihofkpjboaaGreatDoorSMake
import Derived.Test.YtgmnihofkpjboaaGreatDoorComp
import Derived.Test.YtgmnihofkpjboaaGreatDoorStepI
namespace Go.Proofs.YtgmnihofkpjboaaGreatDoor
open Go.RowKit
set_option linter.unusedSimpArgs false
set_option linter.unusedVariables false

set_option maxHeartbeats 800000 in
theorem l8Right_yes (B : Nat) (v : Value) (vs : List VN) (w : World) (h : NodesAt B w v vs) (hB : B ≤ w.heap.size) (ok : okB vs = true) :
    Calls Tryz.prog 28 #[v] w fun e w' => e = .returned (.tuple #[v, .int .i64 0]) ∧ Below w.heap.size w w' := by
  have HV := hideIt h
  obtain ⟨_, a, cap, rfl, _⟩ := h
  go_enter Tryz.func28, Tryz.ntmps28
  go_wp2_with fail
  refine (specOk_any B _ vs _ HV.out hB).mono ?_
  rintro e w1 ⟨rfl, hb1⟩
  rw [ok]
  go_wp2_with fail
  go_ret2
  exact ⟨rfl, hb1⟩
set_option maxHeartbeats 800000 in
theorem l8Right_no (B : Nat) (v : Value) (vs : List VN) (w : World) (h : NodesAt B w v vs) (hB : B ≤ w.heap.size) (ok : okB vs = false) :
    Calls Tryz.prog 28 #[v] w fun e w' => e = .returned (.tuple #[.slice none 0 0, .int .i64 3]) ∧ Below w.heap.size w w' := by
  have HV := hideIt h
  obtain ⟨_, a, cap, rfl, _⟩ := h
  go_enter Tryz.func28, Tryz.ntmps28
  go_wp2_with fail
  refine (specOk_any B _ vs _ HV.out hB).mono ?_
  rintro e w1 ⟨rfl, hb1⟩
  rw [ok]
  go_wp2_with fail
  go_ret2
  exact ⟨rfl, hb1⟩

theorem call_compare (u v : Value) : ∀ w, (callFunc 31 #[u, v]).run Tryz.prog w = .ok (.enter 31 #[u, v]) w := fun w => by kernel_rfl

/-- Rows that were picked, as they are read. -/
theorem rows_pick {base B m : Nat} {w : World} {v : Value} {ps : List Nat} {cs : Nat → Value} {L : Nat → List VN} (h : w.ownsRow base 24 1 v ps.length (ps.map cs)) (hm : ps.length ≤ 1048576) (hB : B ≤ w.heap.size) (hps : ∀ x ∈ ps, x < m) (hc : ∀ i, i < m → NodesAt B w (cs i) (L i)) : RowsAt w.heap.size w v ps.length (fun j => L (ps.getD j 0)) := by
  obtain ⟨a, c, e⟩ := own_slice h
  subst e
  refine ⟨hm, a, c, rfl, fun hp => ?_⟩
  obtain ⟨g, c', e, _, hg⟩ := h.form hp
  cases e
  refine ⟨g, rfl, hg, fun i hi => ⟨cs (ps.getD i 0), ?_, ?_⟩⟩
  · rw [h.cellAt i (by omega), List.getElem?_map, List.getElem?_eq_getElem (by omega), List.getD_eq_getElem?_getD, List.getElem?_eq_getElem (by omega)]
    rfl
  · refine (hc _ ?_).wide hB
    apply hps
    rw [List.getD_eq_getElem?_getD, List.getElem?_eq_getElem (by omega)]
    exact List.getElem_mem _

theorem rows_vals {B m : Nat} {w : World} {u : Value} {L : Nat → List VN} (h : RowsAt B w u m L) : ∃ cs : Nat → Value, (∀ i, i < m → NodesAt B w (cs i) (L i)) ∧ ∃ a c, u = .slice a m c ∧ (0 < m → ∃ b, a = some ⟨b, 0, none⟩ ∧ b < B ∧ ∀ i, i < m → w.cell? ⟨b, i, none⟩ = some (cs i)) := by
  obtain ⟨hm, a, c, rfl, hc⟩ := h
  rcases Nat.eq_zero_or_pos m with e | e
  · exact ⟨fun _ => undef, fun i hi => by omega, a, c, rfl, fun hp => by omega⟩
  · obtain ⟨b, rfl, hb, hr⟩ := hc e
    refine ⟨fun i => (w.cell? ⟨b, i, none⟩).getD undef, fun i hi => ?_, _, c, rfl, fun _ => ⟨b, rfl, hb, fun i hi => ?_⟩⟩
    · obtain ⟨r, e1, hn⟩ := hr i hi
      simp only [e1]; exact hn
    · obtain ⟨r, e1, hn⟩ := hr i hi
      simp only [e1]; rfl

theorem info_row : (Tryz.prog.info? 24).map (fun i => (i.zero, i.size, i.bytes)) = some (some (.slice none 0 0), 1, 24) := by kernel_rfl

/-- A root's cells. -/
theorem root_cells {B : Nat} {w : World} {v : Value} {us : List VN} (h : NodesAt B w v us) (hl : 0 < us.length) : ∃ b o c aK nK cK aI nI cI, v = .slice (some ⟨b, o, none⟩) us.length c ∧ b < B ∧ nI = (rootN us).kids.length ∧ nK = (rootN us).keys.length ∧ w.cell? ⟨b, o + (us.length - 1) * 5, none⟩ = some (.int .i64 (rootN us).kind) ∧ w.cell? ⟨b, o + (us.length - 1) * 5 + 1, none⟩ = some (.int .i64 (rootN us).n) ∧ w.cell? ⟨b, o + (us.length - 1) * 5 + 2, none⟩ = some (.string (rootN us).s) ∧ w.cell? ⟨b, o + (us.length - 1) * 5 + 3, none⟩ = some (.slice aK nK cK) ∧ w.cell? ⟨b, o + (us.length - 1) * 5 + 4, none⟩ = some (.slice aI nI cI) := by
  obtain ⟨_, a, c, rfl, hc⟩ := h
  obtain ⟨b, o, rfl, hb, hcc⟩ := hc hl
  obtain ⟨ka, ki, hn⟩ := hcc (us.length - 1) (by omega)
  obtain ⟨_, _, aK, cK, eK, _⟩ := hn.inn.keys
  obtain ⟨_, _, aI, cI, eI, _⟩ := hn.inn.kids
  exact ⟨b, o, c, aK, _, cK, aI, _, cI, rfl, hb, rfl, rfl, hn.c0, hn.c1, hn.c2, by rw [hn.c3, eK]; rfl, by rw [hn.c4, eI]; rfl⟩

set_option maxRecDepth 100000 in
set_option maxHeartbeats 3200000 in
theorem l8Minus_flat (B : Nat) (v1 v2 : Value) (us vs : List VN) (w : World) (hn1 : NodesAt B w v1 us) (hn2 : NodesAt B w v2 vs) (hB : B ≤ w.heap.size) (ok1 : okB us = true) (ok2 : okB vs = true) (hno : ¬ ((rootN us).kind = 5 ∧ (rootN vs).kind = 5)) :
    Calls Tryz.prog 13 #[v1, v2] w fun e w' => ∃ r base KV IV, e = .returned (.tuple #[r, .int .i64 (minC us vs)]) ∧ w.heap.size ≤ base ∧ Nest base w' r (minNs us vs) KV IV ∧ Below w.heap.size w w' := by
  obtain ⟨p1a, p1b⟩ := (okB_parts ok1).1
  obtain ⟨p2a, p2b⟩ := (okB_parts ok2).1
  obtain ⟨b1, o1, c1, aK1, nK1, cK1, aI1, nI1, cI1, rfl, hb1, u1, u2, d0, d1, d2, d3, d4⟩ := root_cells hn1 (by omega)
  clear u1 u2
  obtain ⟨b2, o2, c2, aK2, nK2, cK2, aI2, nI2, cI2, rfl, hb2, u1, u2, g0, g1, g2, g3, g4⟩ := root_cells hn2 (by omega)
  clear u1 u2
  have HO := hideIt (fun a => min_other ok1 ok2 a hno)
  have HD := hideIt (fun a => min_diff ok1 ok2 a)
  have HRN1 := hideIt (fun a => root_n ok1 a)
  have HRN2 := hideIt (fun a => root_n ok2 a)
  have HDN : Hid (diffNs us vs = leafN 3 ((rootN us).n - (rootN vs).n) ByteArray.empty) := rfl
  obtain ⟨N1, hN1⟩ : ∃ N1, us.length = N1 := ⟨_, rfl⟩
  obtain ⟨N2, hN2⟩ : ∃ N2, vs.length = N2 := ⟨_, rfl⟩
  rw [hN1] at p1a p1b d0 d1 d2 d3 d4 ⊢
  rw [hN2] at p2a p2b g0 g1 g2 g3 g4 ⊢
  have z1 : ((N1 : Int) - 1).toNat = N1 - 1 := by omega
  have z2 : ((N2 : Int) - 1).toNat = N2 - 1 := by omega
  obtain ⟨kx, hkx⟩ : ∃ k, (rootN us).kind = k := ⟨_, rfl⟩
  obtain ⟨ky, hky⟩ : ∃ k, (rootN vs).kind = k := ⟨_, rfl⟩
  obtain ⟨nx, hnx⟩ : ∃ k, (rootN us).n = k := ⟨_, rfl⟩
  obtain ⟨ny, hny⟩ : ∃ k, (rootN vs).n = k := ⟨_, rfl⟩
  obtain ⟨sx, hsx⟩ : ∃ k, (rootN us).s = k := ⟨_, rfl⟩
  obtain ⟨sy, hsy⟩ : ∃ k, (rootN vs).s = k := ⟨_, rfl⟩
  rw [hkx] at d0 HO HD HRN1 hno
  rw [hky] at g0 HO HD HRN2 hno
  rw [hnx] at d1 HDN HRN1
  rw [hny] at g1 HDN HRN2
  rw [hsx] at d2
  rw [hsy] at g2
  have HBA : Hid (Below w.heap.size w ((w.alloc (.cells #[.int .i64 kx, .int .i64 nx, .string sx, .slice aK1 nK1 cK1, .slice aI1 nI1 cI1] 37)).alloc (.cells #[.int .i64 ky, .int .i64 ny, .string sy, .slice aK2 nK2 cK2, .slice aI2 nI2 cI2] 37))) := ((Below.refl _ _).alloc (Nat.le_refl _) _).alloc (by simp) _
  clear hn1 hn2 hN1 hN2 hkx hky hnx hny hsx hsy ok1 ok2
  have hbx : Below w.heap.size w (w.alloc (.cells #[.int .i64 kx, .int .i64 nx, .string sx, .slice aK1 nK1 cK1, .slice aI1 nI1 cI1] 37)) := (Below.refl _ _).alloc (Nat.le_refl _) _
  have e0 := (below_cell hbx (show b2 < w.heap.size by omega)).trans g0
  have e1 := (below_cell hbx (show b2 < w.heap.size by omega)).trans g1
  have e2 := (below_cell hbx (show b2 < w.heap.size by omega)).trans g2
  have e3 := (below_cell hbx (show b2 < w.heap.size by omega)).trans g3
  have e4 := (below_cell hbx (show b2 < w.heap.size by omega)).trans g4
  clear hbx g0 g1 g2 g3 g4
  by_cases h3 : kx = 3 ∧ ky = 3
  · obtain ⟨rfl, rfl⟩ := h3
    have HM := hideIt (HD.out ⟨rfl, rfl⟩)
    obtain ⟨n1a, n1b⟩ := HRN1.out rfl
    obtain ⟨n2a, n2b⟩ := HRN2.out rfl
    have HLF := hideIt (leaf_few (nx - ny) (by omega) (by omega))
    go_enter Tryz.func13, Tryz.ntmps13
    go_wp2_with fail
    refine (l1NumberX (nx - ny) _).mono ?_
    rintro e w3 ⟨r, KV, IV, rfl, hn, hb⟩
    have HB3 := hideIt (HBA.out.trans (hb.mono HBA.out.size))
    have HN3 := hideIt (hn.low HBA.out.size)
    have HND := hideIt (hn.nodes (by simp [leafN]) HLF.out.2)
    obtain ⟨ar, cr, er⟩ := own_slice hn.row
    simp only [leafN, List.length_cons, List.length_nil] at er
    subst er
    clear hn hb
    cases ok : okB (leafN 3 (nx - ny) ByteArray.empty)
    · go_wp2_with fail
      refine (l8Right_no w3.heap.size _ _ w3 HND.out (Nat.le_refl _) ok).mono ?_
      rintro e w4 ⟨rfl, hb4⟩
      have HB4 := hideIt (HB3.out.trans (hb4.mono HB3.out.size))
      clear hb4
      go_wp2_with fail
      go_ret2
      exact ⟨_, w.heap.size, fun _ => undef, fun _ => undef, by rw [HM.out.1, HDN.out, ok]; rfl, Nat.le_refl _, by rw [HM.out.2, HDN.out, ok]; exact Nest.nil _ _ _ _, HB4.out⟩
    · go_wp2_with fail
      refine (l8Right_yes w3.heap.size _ _ w3 HND.out (Nat.le_refl _) ok).mono ?_
      rintro e w4 ⟨rfl, hb4⟩
      have HB4 := hideIt (HB3.out.trans (hb4.mono HB3.out.size))
      have HN4 := hideIt (HN3.out.below hb4)
      clear hb4
      go_wp2_with fail
      go_ret2
      exact ⟨_, w.heap.size, KV, IV, by rw [HM.out.1, HDN.out, ok]; rfl, Nat.le_refl _, by rw [HM.out.2, HDN.out, ok]; exact HN4.out, HB4.out⟩
  · have HM := hideIt (HO.out h3)
    by_cases k3 : kx = 3
    · have q2 : (ky == 3) = false := by simp; intro e; exact h3 ⟨k3, e⟩
      have q1 : (kx == 3) = true := by simpa using k3
      have q3 : (kx != 5) = true := by simp; omega
      clear h3 k3 hno
      go_enter Tryz.func13, Tryz.ntmps13
      go_wp2_with fail
      go_ret2
      exact ⟨_, w.heap.size, fun _ => undef, fun _ => undef, by rw [HM.out.1]; rfl, Nat.le_refl _, by rw [HM.out.2]; exact Nest.nil _ _ _ _, HBA.out⟩
    · have q1 : (kx == 3) = false := by simpa using k3
      by_cases k5 : kx = 5
      · have q3 : (kx != 5) = false := by simpa using k5
        have q4 : (ky != 5) = true := by simp; intro e; exact hno ⟨k5, e⟩
        clear h3 k3 k5 hno
        go_enter Tryz.func13, Tryz.ntmps13
        go_wp2_with fail
        go_ret2
        exact ⟨_, w.heap.size, fun _ => undef, fun _ => undef, by rw [HM.out.1]; rfl, Nat.le_refl _, by rw [HM.out.2]; exact Nest.nil _ _ _ _, HBA.out⟩
      · have q3 : (kx != 5) = true := by simpa using k5
        clear h3 k3 k5 hno
        go_enter Tryz.func13, Tryz.ntmps13
        go_wp2_with fail
        go_ret2
        exact ⟨_, w.heap.size, fun _ => undef, fun _ => undef, by rw [HM.out.1]; rfl, Nat.le_refl _, by rw [HM.out.2]; exact Nest.nil _ _ _ _, HBA.out⟩
end Go.Proofs.YtgmnihofkpjboaaGreatDoor
