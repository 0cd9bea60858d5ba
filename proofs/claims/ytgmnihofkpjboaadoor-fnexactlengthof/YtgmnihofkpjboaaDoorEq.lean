/-
  The functions that hold two lists, two nodes, two values against each other: of what holds the same they say true.
-/
import Derived.Test.YtgmnihofkpjboaaDoorMem
import Derived.Test.YtgmnihofkpjboaaDoorProg
import Derived.Deep.QuietTactic
import Derived.BigQuiet
import Derived.WalkSmall
import Derived.Deep.RegionWith
namespace Go.Proofs.YtgmnihofkpjboaaDoor
open Go.RowKit
set_option linter.unusedSimpArgs false
set_option linter.unusedVariables false

set_option maxHeartbeats 800000 in
theorem eqInt64S_any (B : Nat) (v1 v2 : Value) (l : List Int) (w : World) (h1 : IntsAt B w v1 l) (h2 : IntsAt B w v2 l) (hB : B ≤ w.heap.size) :
    Calls Tryd.prog 53 #[v1, v2] w fun e w' => e = .returned (.bool true) ∧ Below w.heap.size w w' := by
  obtain ⟨hlen, _, a1, cap1, rfl, hcell1⟩ := h1
  obtain ⟨_, _, a2, cap2, rfl, hcell2⟩ := h2
  have hne : ((l.length : Int) != (l.length : Int)) = false := by simp
  go_enter Tryd.func53, Tryd.ntmps53
  go_wp2_with fail
  go_loopw [5] (fun i wr => ∃ k : Nat, k ≤ l.length ∧ i = .int .i64 k ∧ Below w.heap.size w wr) (fun i _ => l.length - (intOf i).toNat)
  case atStart => exact ⟨0, Nat.zero_le _, rfl, Below.refl _ _⟩
  case round =>
    obtain ⟨k, hk, rfl, hbel⟩ := hrel
    by_cases hlt : k < l.length
    · obtain ⟨b1, o1, rfl, hb1, hc1⟩ := hcell1 (by omega)
      obtain ⟨b2, o2, rfl, hb2, hc2⟩ := hcell2 (by omega)
      have d1 := (below_cell (o := o1 + k) hbel (show b1 < w.heap.size by omega)).trans (hc1 k hlt)
      have d2 := (below_cell (o := o2 + k) hbel (show b2 < w.heap.size by omega)).trans (hc2 k hlt)
      clear hc1 hc2 hcell1 hcell2
      go_wp2_with fail
      go_quiet (fail)
      go_wp2_with fail
      go_roundw
      case rel => exact ⟨k + 1, by omega, by go_num, below_drewN hbel nq⟩
      case measure => simp [intOf]; omega
    · go_wp2_with fail
      go_ret
      exact ⟨rfl, hbel⟩

set_option maxHeartbeats 800000 in
theorem eqStringS_any (B : Nat) (v1 v2 : Value) (l : List ByteArray) (w : World) (h1 : StrsAt B w v1 l) (h2 : StrsAt B w v2 l) (hB : B ≤ w.heap.size) :
    Calls Tryd.prog 52 #[v1, v2] w fun e w' => e = .returned (.bool true) ∧ Below w.heap.size w w' := by
  obtain ⟨hlen, _, a1, cap1, rfl, hcell1⟩ := h1
  obtain ⟨_, _, a2, cap2, rfl, hcell2⟩ := h2
  have hne : ((l.length : Int) != (l.length : Int)) = false := by simp
  go_enter Tryd.func52, Tryd.ntmps52
  go_wp2_with fail
  go_loopw [5] (fun i wr => ∃ k : Nat, k ≤ l.length ∧ i = .int .i64 k ∧ Below w.heap.size w wr) (fun i _ => l.length - (intOf i).toNat)
  case atStart => exact ⟨0, Nat.zero_le _, rfl, Below.refl _ _⟩
  case round =>
    obtain ⟨k, hk, rfl, hbel⟩ := hrel
    by_cases hlt : k < l.length
    · obtain ⟨b1, o1, rfl, hb1, hc1⟩ := hcell1 (by omega)
      obtain ⟨b2, o2, rfl, hb2, hc2⟩ := hcell2 (by omega)
      have d1 := (below_cell (o := o1 + k) hbel (show b1 < w.heap.size by omega)).trans (hc1 k hlt)
      have d2 := (below_cell (o := o2 + k) hbel (show b2 < w.heap.size by omega)).trans (hc2 k hlt)
      clear hc1 hc2 hcell1 hcell2
      go_wp2_with fail
      go_quiet (fail)
      go_wp2_with fail
      go_roundw
      case rel => exact ⟨k + 1, by omega, by go_num, below_drewN hbel nq⟩
      case measure => simp [intOf]; omega
    · go_wp2_with fail
      go_ret
      exact ⟨rfl, hbel⟩

set_option maxHeartbeats 1600000 in
theorem eqVNode_any (B : Nat) (x : VN) (ka ki ka' ki' : Value) (w : World) (h : NodeIn B w x ka ki) (h' : NodeIn B w x ka' ki') (hB : B ≤ w.heap.size) :
    Calls Tryd.prog 26 #[.agg #[.int .i64 x.kind, .int .i64 x.n, .string x.s, ka, ki], .agg #[.int .i64 x.kind, .int .i64 x.n, .string x.s, ka', ki']] w fun e w' => e = .returned (.bool true) ∧ Below w.heap.size w w' := by
  obtain ⟨_, _, a1, c1, e1, _⟩ := h.keys
  obtain ⟨_, _, a2, c2, e2, _⟩ := h.kids
  obtain ⟨_, _, a3, c3, e3, _⟩ := h'.keys
  obtain ⟨_, _, a4, c4, e4, _⟩ := h'.kids
  have H : Hid (NodeIn B w x ka ki) := h
  have H' : Hid (NodeIn B w x ka' ki') := h'
  have f1 : (x.kind != x.kind) = false := by simp
  have f2 : (x.n != x.n) = false := by simp
  have f3 : (x.s.toList == x.s.toList) = true := by simp
  subst e1 e2 e3 e4
  clear h h'
  have hb0 : ∀ (o o' : Obj), Below w.heap.size w ((w.alloc o).alloc o') := fun o o' => ((Below.refl _ _).alloc (Nat.le_refl _) _).alloc (by simp) _
  go_enter Tryd.func26, Tryd.ntmps26
  go_wp2_with fail
  refine (eqStringS_any B _ _ x.keys _ (H.out.keys.below ((hb0 _ _).mono hB)) (H'.out.keys.below ((hb0 _ _).mono hB)) (by simp; omega)).mono ?_
  rintro e w1 ⟨rfl, hb1⟩
  have hc1 : ∀ b o, b < w.heap.size + 1 + 1 → w1.cell? ⟨b, o, none⟩ = _ := fun b o h => hb1.cell (p := ⟨b, o, none⟩) (by simpa using h)
  have hz1 := hb1.size
  simp only [World.size_alloc] at hz1
  have hB1 : Below w.heap.size w w1 := (hb0 _ _).trans (hb1.mono (by simp; omega))
  go_wp2_with fail
  refine (eqInt64S_any B _ _ x.kids _ (H.out.kids.below (hB1.mono hB)) (H'.out.kids.below (hB1.mono hB)) (by omega)).mono ?_
  rintro e w2 ⟨rfl, hb2⟩
  go_wp2_with fail
  go_ret
  exact ⟨rfl, hB1.trans (hb2.mono (by omega))⟩

set_option maxHeartbeats 1600000 in
theorem eqVNodeS_any (B : Nat) (v1 v2 : Value) (vs : List VN) (w : World) (h1 : NodesAt B w v1 vs) (h2 : NodesAt B w v2 vs) (hB : B ≤ w.heap.size) :
    Calls Tryd.prog 11 #[v1, v2] w fun e w' => e = .returned (.bool true) ∧ Below w.heap.size w w' := by
  obtain ⟨hlen, a1, cap1, rfl, hcell1⟩ := h1
  obtain ⟨_, a2, cap2, rfl, hcell2⟩ := h2
  have hne : ((vs.length : Int) != (vs.length : Int)) = false := by simp
  go_enter Tryd.func11, Tryd.ntmps11
  go_wp2_with fail
  go_loopw [5] (fun i wr => ∃ k : Nat, k ≤ vs.length ∧ i = .int .i64 k ∧ Below w.heap.size w wr) (fun i _ => vs.length - (intOf i).toNat)
  case atStart => exact ⟨0, Nat.zero_le _, rfl, Below.refl _ _⟩
  case round =>
    obtain ⟨k, hk, rfl, hbel⟩ := hrel
    by_cases hlt : k < vs.length
    · obtain ⟨b1, o1, rfl, hb1, hc1⟩ := hcell1 (by omega)
      obtain ⟨b2, o2, rfl, hb2, hc2⟩ := hcell2 (by omega)
      obtain ⟨ka, ki, hn⟩ := hc1 k hlt
      obtain ⟨ka', ki', hn'⟩ := hc2 k hlt
      have g := hn.below (hbel.mono hB) hb1
      have g' := hn'.below (hbel.mono hB) hb2
      have c0 := g.c0
      have c1 := g.c1
      have c2 := g.c2
      have c3 := g.c3
      have c4 := g.c4
      have d0 := g'.c0
      have d1 := g'.c1
      have d2 := g'.c2
      have d3 := g'.c3
      have d4 := g'.c4
      have hin := g.inn
      have hin' := g'.inn
      have hsize := hbel.size
      clear hc1 hc2 hcell1 hcell2 hn hn' g g'
      go_wp2_with fail
      go_region_with (go_at_call 26; refine (eqVNode_any B (nodeAt vs k) ka ki ka' ki' _ ?_ ?_ ?_).mono ?_; exact hin.below (bsame rfl rfl rfl rfl); exact hin'.below (bsame rfl rfl rfl rfl); exact (by simp; omega); rintro e w1 ⟨rfl, hq⟩)
      all_goals
        have hb2 : Below w.heap.size w w1 := hbel.drew.trans (hq.mono (by simpa using hsize))
        go_wp2_with fail
        go_roundw
        case rel => exact ⟨k + 1, by omega, by go_num, hb2⟩
        case measure => simp [intOf]; omega
    · go_wp2_with fail
      go_ret
      exact ⟨rfl, hbel⟩
end Go.Proofs.YtgmnihofkpjboaaDoor
