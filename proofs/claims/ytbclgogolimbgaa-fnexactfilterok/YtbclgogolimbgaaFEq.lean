/-
  The functions that hold two nodes, two rows of nodes of filters against each other: of what holds the same they say true.
-/
import Derived.Test.YtbclgogolimbgaaFP
import Derived.Test.YtbclgogolimbgaaEq
namespace Go.Proofs.Ytbclgogolimbgaa
open Go.RowKit
set_option linter.unusedSimpArgs false
set_option linter.unusedVariables false

set_option maxHeartbeats 3200000 in
theorem eqFNode_any (B : Nat) (x : FN) (kc kn ki kc' kn' ki' : Value) (w : World) (h : FNodeIn B w x kc kn ki) (h' : FNodeIn B w x kc' kn' ki') (hB : B ≤ w.heap.size) :
    Calls Try.prog 73 #[.agg #[.int .i64 x.kind, .string x.name, .int .i64 x.place, kc, kn, ki], .agg #[.int .i64 x.kind, .string x.name, .int .i64 x.place, kc', kn', ki']] w fun e w' => e = .returned (.bool true) ∧ Below w.heap.size w w' := by
  have H := hideIt h
  have H' := hideIt h'
  obtain ⟨_, a0, c0, e0, _⟩ := h.cst
  obtain ⟨_, _, a1, c1, e1, _⟩ := h.names
  obtain ⟨_, _, a2, c2, e2, _⟩ := h.kids
  obtain ⟨_, a3, c3, e3, _⟩ := h'.cst
  obtain ⟨_, _, a4, c4, e4, _⟩ := h'.names
  obtain ⟨_, _, a5, c5, e5, _⟩ := h'.kids
  have f1 : (x.kind != x.kind) = false := by simp
  have f2 : (x.place != x.place) = false := by simp
  have f3 : (x.name.toList == x.name.toList) = true := by simp
  subst e0 e1 e2 e3 e4 e5
  clear h h'
  obtain ⟨W1, hW1⟩ : ∃ W1, W1 = (w.alloc (.cells #[.int .i64 x.kind, .string x.name, .int .i64 x.place, .slice a0 x.cst.length c0, .slice a1 x.names.length c1, .slice a2 x.kids.length c2] 104)).alloc (.cells #[.int .i64 x.kind, .string x.name, .int .i64 x.place, .slice a3 x.cst.length c3, .slice a4 x.names.length c4, .slice a5 x.kids.length c5] 104) := ⟨_, rfl⟩
  have d3 : W1.cell? ⟨w.heap.size, 3, none⟩ = some (.slice a0 x.cst.length c0) := by rw [hW1]; simp
  have d4 : W1.cell? ⟨w.heap.size, 4, none⟩ = some (.slice a1 x.names.length c1) := by rw [hW1]; simp
  have d5 : W1.cell? ⟨w.heap.size, 5, none⟩ = some (.slice a2 x.kids.length c2) := by rw [hW1]; simp
  have g3 : W1.cell? ⟨w.heap.size + 1, 3, none⟩ = some (.slice a3 x.cst.length c3) := by rw [hW1]; simp
  have g4 : W1.cell? ⟨w.heap.size + 1, 4, none⟩ = some (.slice a4 x.names.length c4) := by rw [hW1]; simp
  have g5 : W1.cell? ⟨w.heap.size + 1, 5, none⟩ = some (.slice a5 x.kids.length c5) := by rw [hW1]; simp
  have HZ : Hid (W1.heap.size = w.heap.size + 1 + 1) := by rw [Hid, hW1]; simp
  have HBW : Hid (Below w.heap.size w W1) := by rw [Hid, hW1]; exact ((Below.refl _ _).alloc (Nat.le_refl _) _).alloc (by simp) _
  have HW1 := hideIt hW1
  clear hW1
  go_enter Try.func73, Try.ntmps73
  go_wp2_with fail
  rw [← HW1.out]
  refine (eqVNodeS_any B _ _ x.cst W1 (H.out.cst.below (HBW.out.mono hB)) (H'.out.cst.below (HBW.out.mono hB)) (by rw [HZ.out]; omega)).mono ?_
  rintro e w2 ⟨rfl, hb2⟩
  have j4 := (below_cell hb2 (show w.heap.size < W1.heap.size by rw [HZ.out]; omega)).trans d4
  have j5 := (below_cell hb2 (show w.heap.size < W1.heap.size by rw [HZ.out]; omega)).trans d5
  have k4 := (below_cell hb2 (show w.heap.size + 1 < W1.heap.size by rw [HZ.out]; omega)).trans g4
  have k5 := (below_cell hb2 (show w.heap.size + 1 < W1.heap.size by rw [HZ.out]; omega)).trans g5
  have z2 := hb2.size
  rw [HZ.out] at z2
  have HB2 : Hid (Below w.heap.size w w2) := HBW.out.trans (hb2.mono (by rw [HZ.out]; omega))
  clear hb2 d3 d4 d5 g3 g4 g5
  go_wp2_with fail
  refine (eqStringS_any B _ _ x.names _ (H.out.names.below (HB2.out.mono hB)) (H'.out.names.below (HB2.out.mono hB)) (by omega)).mono ?_
  rintro e w3 ⟨rfl, hb3⟩
  have l5 := (below_cell hb3 (show w.heap.size < w2.heap.size by omega)).trans j5
  have m5 := (below_cell hb3 (show w.heap.size + 1 < w2.heap.size by omega)).trans k5
  have z3 := hb3.size
  have HB3 : Hid (Below w.heap.size w w3) := HB2.out.trans (hb3.mono (by omega))
  clear hb3 j4 j5 k4 k5
  go_wp2_with fail
  refine (eqInt64S_any B _ _ x.kids _ (H.out.kids.below (HB3.out.mono hB)) (H'.out.kids.below (HB3.out.mono hB)) (by omega)).mono ?_
  rintro e w4 ⟨rfl, hb4⟩
  have HB4 : Hid (Below w.heap.size w w4) := HB3.out.trans (hb4.mono (by omega))
  clear hb4
  go_wp2_with fail
  go_ret
  exact ⟨rfl, HB4.out⟩

set_option maxHeartbeats 3200000 in
theorem eqFNodeS_any (B : Nat) (v1 v2 : Value) (fs : List FN) (w : World) (h1 : FNodesAt B w v1 fs) (h2 : FNodesAt B w v2 fs) (hB : B ≤ w.heap.size) :
    Calls Try.prog 35 #[v1, v2] w fun e w' => e = .returned (.bool true) ∧ Below w.heap.size w w' := by
  obtain ⟨hlen, a1, cap1, rfl, hcell1⟩ := h1
  obtain ⟨_, a2, cap2, rfl, hcell2⟩ := h2
  have hne : ((fs.length : Int) != (fs.length : Int)) = false := by simp
  have HC1 := hideIt hcell1
  have HC2 := hideIt hcell2
  clear hcell1 hcell2
  go_enter Try.func35, Try.ntmps35
  go_wp2_with fail
  go_loopw [5] (fun i wr => ∃ k : Nat, k ≤ fs.length ∧ i = .int .i64 k ∧ Below w.heap.size w wr) (fun i _ => fs.length - (intOf i).toNat)
  case atStart => exact ⟨0, Nat.zero_le _, rfl, Below.refl _ _⟩
  case round =>
    obtain ⟨k, hk, rfl, hbel⟩ := hrel
    by_cases hlt : k < fs.length
    · obtain ⟨b1, o1, rfl, hb1, hc1⟩ := HC1.out (by omega)
      obtain ⟨b2, o2, rfl, hb2, hc2⟩ := HC2.out (by omega)
      obtain ⟨kc, kn, ki, hn⟩ := hc1 k hlt
      obtain ⟨kc', kn', ki', hn'⟩ := hc2 k hlt
      have g := hn.below (hbel.mono hB) hb1
      have g' := hn'.below (hbel.mono hB) hb2
      have c0 := g.c0
      have c1 := g.c1
      have c2 := g.c2
      have c3 := g.c3
      have c4 := g.c4
      have c5 := g.c5
      have d0 := g'.c0
      have d1 := g'.c1
      have d2 := g'.c2
      have d3 := g'.c3
      have d4 := g'.c4
      have d5 := g'.c5
      have hin := g.inn
      have hin' := g'.inn
      have hsize := hbel.size
      clear hc1 hc2 hn hn' g g'
      go_wp2_with fail
      go_region_with (go_at_call 73; refine (eqFNode_any B (fnAt fs k) kc kn ki kc' kn' ki' _ ?_ ?_ ?_).mono ?_; exact hin.below (bsame rfl rfl rfl rfl); exact hin'.below (bsame rfl rfl rfl rfl); exact (by simp; omega); rintro e w1 ⟨rfl, hq⟩)
      all_goals
        have hb2 : Below w.heap.size w w1 := hbel.drew.trans (hq.mono (by simpa using hsize))
        go_wp2_with fail
        go_roundw
        case rel => exact ⟨k + 1, by omega, by go_num, hb2⟩
        case measure => simp [intOf]; omega
    · go_wp2_with fail
      go_ret
      exact ⟨rfl, hbel⟩
end Go.Proofs.Ytbclgogolimbgaa
