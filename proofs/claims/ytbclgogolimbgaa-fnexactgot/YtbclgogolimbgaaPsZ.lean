/-
  Paths that come in: what takes their sizes from a budget; what copies them into new memory; what holds two against each other.
-/
import Derived.Test.YtbclgogolimbgaaStepC
import Derived.Test.YtbclgogolimbgaaProg
import Derived.Deep.OwnRows
import Derived.KernelRfl
import Derived.Deep.QuietTactic
import Derived.BigQuiet
import Derived.WalkSmall
import Derived.Deep.RegionWith
namespace Go.Proofs.Ytbclgogolimbgaa
open Go.RowKit
set_option linter.unusedSimpArgs false
set_option linter.unusedVariables false

abbrev RawSteps (B : Nat) (w : World) (v : Value) (ps : List PS) : Prop := StepsIn 9223372036854775807 9223372036854775807 B w v ps
abbrev StepsAt (B : Nat) (w : World) (v : Value) (ps : List PS) : Prop := StepsIn 1048576 1048576 B w v ps

set_option maxHeartbeats 800000 in
theorem szPStep_any (x : PS) (r : Int) (w : World) (hx : x.key.size ≤ 9223372036854775807) (h1 : 0 ≤ r) (h2 : r ≤ 1048576) :
    Calls Try.prog 51 #[.agg #[.bool x.named, .string x.key, .int .i64 x.pl], .int .i64 r] w fun e w' => (∃ q, e = .returned (.int .i64 q) ∧ q ≤ 1048576 ∧ (0 ≤ q → x.key.size ≤ 1048576)) ∧ Below w.heap.size w w' := by
  have hbel : ∀ (o : Obj), Below w.heap.size w (w.alloc o) := fun o => (Below.refl _ _).alloc (Nat.le_refl _) o
  go_enter Try.func51, Try.ntmps51
  go_wp2_with fail
  all_goals
    go_ret
    exact ⟨⟨_, rfl, by omega, fun h => by omega⟩, hbel _⟩

set_option maxHeartbeats 800000 in
theorem szPStepS_any (B : Nat) (v : Value) (ps : List PS) (r : Int) (w : World) (h : RawSteps B w v ps) (hB : B ≤ w.heap.size) (h1 : 0 ≤ r) (h2 : r ≤ 1048576) :
    Calls Try.prog 17 #[v, .int .i64 r] w fun e w' => (∃ q, e = .returned (.int .i64 q) ∧ q ≤ 1048576 ∧ (0 ≤ q → ps.length ≤ 1048576 ∧ ∀ i, i < ps.length → (stepAt ps i).key.size ≤ 1048576)) ∧ Below w.heap.size w w' := by
  obtain ⟨hlen, hfit, a, cap, rfl, hcell⟩ := h
  go_enter Try.func17, Try.ntmps17
  go_wp2_with fail
  · go_ret
    exact ⟨⟨_, rfl, by omega, fun h => by omega⟩, Below.refl _ _⟩
  · go_loopw [1, 5] (fun t i wr => ∃ (k : Nat) (q : Int), k ≤ ps.length ∧ i = .int .i64 k ∧ t = .int .i64 q ∧ 0 ≤ q ∧ q ≤ 1048576 ∧ Hid (∀ j, j < k → (stepAt ps j).key.size ≤ 1048576) ∧ Below w.heap.size w wr) (fun _ i _ => ps.length - (intOf i).toNat)
    case atStart => exact ⟨0, _, Nat.zero_le _, rfl, rfl, by omega, by omega, fun j hj => by omega, Below.refl _ _⟩
    case round =>
      obtain ⟨k, q, hk, rfl, rfl, hq0, hq1, HS, hbel⟩ := hrel
      by_cases hlt : k < ps.length
      · obtain ⟨b, o, rfl, hbB, hc⟩ := hcell (by omega)
        obtain ⟨hc0, hc1, hc2⟩ := hc k hlt
        have c0 := (below_cell (hbel.mono hB) hbB).trans hc0
        have c1 := (below_cell (hbel.mono hB) hbB).trans hc1
        have c2 := (below_cell (hbel.mono hB) hbB).trans hc2
        have hs := (hfit k hlt).1
        have hsize := hbel.size
        clear hc hcell hc0 hc1 hc2 hfit
        go_wp2_with fail
        refine (szPStep_any (stepAt ps k) _ _ hs (by omega) (by omega)).mono ?_
        rintro e w' ⟨⟨q', rfl, hq', hsm⟩, hb'⟩
        have hb2 : Below w.heap.size w w' := hbel.trans (hb'.mono hsize)
        have HM := hideIt hsm
        clear hsm
        go_wp2_with fail
        · go_ret
          exact ⟨⟨_, rfl, by omega, fun h => by omega⟩, hb2⟩
        · go_roundw
          case rel =>
            refine ⟨k + 1, _, by omega, by go_num, rfl, by omega, by omega, fun j hj => ?_, hb2⟩
            by_cases e : j = k
            · subst e; exact HM.out (by omega)
            · exact HS.out j (by omega)
          case measure => simp [intOf]; omega
      · obtain rfl : k = ps.length := by omega
        go_wp2_with fail
        go_ret
        exact ⟨⟨_, rfl, by omega, fun _ => ⟨by omega, HS.out⟩⟩, hbel⟩

set_option maxHeartbeats 800000 in
theorem toPStep_any (x : PS) (w : World) :
    Calls Try.prog 53 #[.agg #[.bool x.named, .string x.key, .int .i64 x.pl]] w fun e w' => e = .returned (.agg #[.bool x.named, .string x.key, .int .i64 x.pl]) ∧ Below w.heap.size w w' := by
  go_enter Try.func53, Try.ntmps53
  go_wp2_with fail
  refine bodyPost_ret (v := .agg #[.bool x.named, .string x.key, .int .i64 x.pl]) (by simp [results, Try.results53, go_sem]) rfl ⟨rfl, ?_⟩
  repeat (first | exact Below.refl _ _ | refine Below.setCell ?_ (by simp <;> omega) _ | refine Below.alloc ?_ (by simp <;> omega) _)

def zeroStep : Value := .agg #[.bool false, .string ByteArray.empty, .int .i64 0]
theorem infoStep : (Try.prog.info? 82).map (fun i => (i.zero, i.size, i.bytes)) = some (some zeroStep, 3, 32) := by kernel_rfl
def madeSteps (n : Nat) : Array Value := madeCells zeroStep.cells (n * 3)
theorem size_madeSteps (n : Nat) : (madeSteps n).size = n * 3 := size_madeCells _ _

theorem run_make_steps (n : Nat) (hb : 32 * n ≤ 281474976710656) (w : World) :
    (Instr.makeSlice 31 (.int .i64 (n : Int)) (.int .i64 (n : Int))).run Try.prog w = .ok (.slice (some ⟨w.heap.size, 0, none⟩) n n) (w.alloc (.cells (madeSteps n) 82)) := by
  obtain ⟨i, hi, hzz⟩ := Option.map_eq_some_iff.1 infoStep
  simp only [Prod.mk.injEq] at hzz
  obtain ⟨hz, hs, hby⟩ := hzz
  have hr := run_make (P := Try.prog) w 31 82 i zeroStep Try.underlying31 hi hz .i64 .i64 n n (by omega) (Int.le_refl _) (by rw [hby]; omega) (by omega)
  simp only [Int.toNat_natCast, hs] at hr
  exact hr

def stepCell (ps : List PS) (j : Nat) : Value :=
  if j % 3 = 0 then .bool (stepAt ps (j / 3)).named
  else if j % 3 = 1 then .string (stepAt ps (j / 3)).key
  else .int .i64 (stepAt ps (j / 3)).pl
theorem stepCell0 (ps : List PS) (i : Nat) : stepCell ps (i * 3) = .bool (stepAt ps i).named := by
  unfold stepCell
  rw [if_pos (by omega), show i * 3 / 3 = i by omega]
theorem stepCell1 (ps : List PS) (i : Nat) : stepCell ps (i * 3 + 1) = .string (stepAt ps i).key := by
  unfold stepCell
  rw [if_neg (by omega), if_pos (by omega), show (i * 3 + 1) / 3 = i by omega]
theorem stepCell2 (ps : List PS) (i : Nat) : stepCell ps (i * 3 + 2) = .int .i64 (stepAt ps i).pl := by
  unfold stepCell
  rw [if_neg (by omega), if_neg (by omega), show (i * 3 + 2) / 3 = i by omega]

def fillStep (ps : List PS) (z : Nat → Value) (k j : Nat) : Value := if j < k * 3 then stepCell ps j else z j

theorem fillStep_step {w : World} {b t m k : Nat} {ps : List PS} {z : Nat → Value} (h : w.rowIs b t m (fillStep ps z k)) :
    (((w.setCell ⟨b, k * 3, none⟩ (.bool (stepAt ps k).named)).setCell ⟨b, k * 3 + 1, none⟩ (.string (stepAt ps k).key)).setCell ⟨b, k * 3 + 2, none⟩ (.int .i64 (stepAt ps k).pl)).rowIs b t m (fillStep ps z (k + 1)) := by
  refine (((h.set (k * 3) _).set (k * 3 + 1) _).set (k * 3 + 2) _).congr fun j _ => ?_
  by_cases e2 : j = k * 3 + 2
  · subst e2
    rw [if_pos rfl, fillStep, if_pos (by omega), stepCell2]
  rw [if_neg e2]
  by_cases e1 : j = k * 3 + 1
  · subst e1
    rw [if_pos rfl, fillStep, if_pos (by omega), stepCell1]
  rw [if_neg e1]
  by_cases e0 : j = k * 3
  · subst e0
    rw [if_pos rfl, fillStep, if_pos (by omega), stepCell0]
  rw [if_neg e0]
  unfold fillStep
  by_cases hj : j < k * 3
  · rw [if_pos hj, if_pos (by omega)]
  · rw [if_neg hj, if_neg (by omega)]

theorem rowIs_below' {B b t n : Nat} {w w' : World} {f : Nat → Value} (h : w.rowIs b t n f) (hb : Below B w w') (hB : b < B) : w'.rowIs b t n f := h.of_block (hb.block b hB)

theorem ownSteps {w : World} {b : Nat} {ps : List PS} (h : w.rowIs b 82 (ps.length * 3) (stepCell ps)) (h1 : ps.length ≤ 1048576) (h2 : ∀ i, i < ps.length → (stepAt ps i).key.size ≤ 1048576 ∧ -9223372036854775808 ≤ (stepAt ps i).pl ∧ (stepAt ps i).pl ≤ 9223372036854775807) :
    StepsAt w.heap.size w (.slice (some ⟨b, 0, none⟩) ps.length ps.length) ps := by
  refine ⟨h1, h2, _, _, rfl, fun _ => ⟨b, 0, rfl, h.lt, fun i hi => ?_⟩⟩
  rw [Nat.zero_add]
  refine ⟨?_, ?_, ?_⟩
  · rw [h.cell (by omega), stepCell0]
  · rw [h.cell (by omega), stepCell1]
  · rw [h.cell (by omega), stepCell2]

set_option maxHeartbeats 1600000 in
theorem toPStepS_any (B : Nat) (v : Value) (ps : List PS) (w : World) (h : StepsAt B w v ps) (hB : B ≤ w.heap.size) :
    Calls Try.prog 19 #[v] w fun e w' => e = .returned (.slice (some ⟨w.heap.size, 0, none⟩) ps.length ps.length) ∧
      w'.rowIs w.heap.size 82 (ps.length * 3) (stepCell ps) ∧ Below w.heap.size w w' := by
  obtain ⟨hlen, hfit, a, cap, rfl, hcell⟩ := h
  have hmk := run_make_steps ps.length (by omega)
  go_enter Try.func19, Try.ntmps19
  go_wp2_with fail
  clear hmk
  obtain ⟨z, hz⟩ : ∃ z : Nat → Value, ∀ i, i < (madeSteps ps.length).size → (madeSteps ps.length)[i]? = some (z i) := ⟨fun i => ((madeSteps ps.length)[i]?).getD undef, fun i hi => by simp [hi]⟩
  have hr0 := World.rowIs_alloc w _ 82 z hz
  rw [size_madeSteps] at hr0
  have hr1 : (w.alloc (.cells (madeSteps ps.length) 82)).rowIs w.heap.size 82 (ps.length * 3) (fillStep ps z 0) := hr0.congr fun i _ => by simp [fillStep]
  have hb0 : Below w.heap.size w (w.alloc (.cells (madeSteps ps.length) 82)) := (Below.refl _ _).alloc (Nat.le_refl _) _
  clear hz hr0
  go_loopw [4] (fun i wr => ∃ (k : Nat), k ≤ ps.length ∧ i = .int .i64 k ∧ wr.rowIs w.heap.size 82 (ps.length * 3) (fillStep ps z k) ∧ Below w.heap.size w wr) (fun i _ => ps.length - (intOf i).toNat)
  case atStart => exact ⟨0, Nat.zero_le _, rfl, hr1, hb0⟩
  case round =>
    obtain ⟨k, hk, rfl, hrow, hbel⟩ := hrel
    clear hr1 hb0
    by_cases hlt : k < ps.length
    · obtain ⟨b, o, rfl, hbB, hc⟩ := hcell (by omega)
      obtain ⟨hc0, hc1, hc2⟩ := hc k hlt
      have c0 := (below_cell (hbel.mono hB) hbB).trans hc0
      have c1 := (below_cell (hbel.mono hB) hbB).trans hc1
      have c2 := (below_cell (hbel.mono hB) hbB).trans hc2
      have hsize := hbel.size
      have hlt0 := hrow.lt
      clear hc hcell hc0 hc1 hc2 hfit
      go_wp2_with fail
      refine (toPStep_any (stepAt ps k) _).mono ?_
      rintro e w1 ⟨rfl, hb1⟩
      have hrow1 := rowIs_below' hrow hb1 hlt0
      have hcs0 := hrow1.cell (i := k * 3) (by omega)
      have hcs1 := hrow1.cell (i := k * 3 + 1) (by omega)
      have hcs2 := hrow1.cell (i := k * 3 + 2) (by omega)
      have hfs := hrow1.frozen
      have hnew := fillStep_step hrow1
      have hbel1 : Below w.heap.size w w1 := hbel.trans (hb1.mono hsize)
      clear hrow
      go_wp2_with fail
      go_roundw
      case rel =>
        refine ⟨k + 1, by omega, by go_num, hnew, ?_⟩
        refine Below.setCell (Below.setCell (Below.setCell hbel1 ?_ _) ?_ _) ?_ _ <;> simp
      case measure => simp [intOf]; omega
    · obtain rfl : k = ps.length := by omega
      go_wp2_with fail
      go_ret
      exact ⟨rfl, hrow.congr fun i hi => by simp [fillStep, hi], hbel⟩

set_option maxHeartbeats 800000 in
theorem eqPStep_any (x : PS) (w : World) :
    Calls Try.prog 54 #[.agg #[.bool x.named, .string x.key, .int .i64 x.pl], .agg #[.bool x.named, .string x.key, .int .i64 x.pl]] w fun e w' => e = .returned (.bool true) ∧ Below w.heap.size w w' := by
  have hb0 : ∀ (o o' : Obj), Below w.heap.size w ((w.alloc o).alloc o') := fun o o' => ((Below.refl _ _).alloc (Nat.le_refl _) _).alloc (by simp) _
  have f1 : (x.named != x.named) = false := by simp
  have f2 : (x.pl != x.pl) = false := by simp
  have f3 : (x.key.toList == x.key.toList) = true := by simp
  go_enter Try.func54, Try.ntmps54
  go_wp2_with fail
  go_ret
  exact ⟨rfl, hb0 _ _⟩

set_option maxHeartbeats 1600000 in
theorem eqPStepS_any (B : Nat) (v1 v2 : Value) (ps : List PS) (w : World) (h1 : StepsAt B w v1 ps) (h2 : StepsAt B w v2 ps) (hB : B ≤ w.heap.size) :
    Calls Try.prog 20 #[v1, v2] w fun e w' => e = .returned (.bool true) ∧ Below w.heap.size w w' := by
  obtain ⟨hlen, _, a1, cap1, rfl, hcell1⟩ := h1
  obtain ⟨_, _, a2, cap2, rfl, hcell2⟩ := h2
  have hne : ((ps.length : Int) != (ps.length : Int)) = false := by simp
  go_enter Try.func20, Try.ntmps20
  go_wp2_with fail
  go_loopw [5] (fun i wr => ∃ k : Nat, k ≤ ps.length ∧ i = .int .i64 k ∧ Below w.heap.size w wr) (fun i _ => ps.length - (intOf i).toNat)
  case atStart => exact ⟨0, Nat.zero_le _, rfl, Below.refl _ _⟩
  case round =>
    obtain ⟨k, hk, rfl, hbel⟩ := hrel
    by_cases hlt : k < ps.length
    · obtain ⟨b1, o1, rfl, hb1, hc1⟩ := hcell1 (by omega)
      obtain ⟨b2, o2, rfl, hb2, hc2⟩ := hcell2 (by omega)
      obtain ⟨p0, p1, p2⟩ := hc1 k hlt
      obtain ⟨q0, q1, q2⟩ := hc2 k hlt
      have c0 := (below_cell (hbel.mono hB) hb1).trans p0
      have c1 := (below_cell (hbel.mono hB) hb1).trans p1
      have c2 := (below_cell (hbel.mono hB) hb1).trans p2
      have d0 := (below_cell (hbel.mono hB) hb2).trans q0
      have d1 := (below_cell (hbel.mono hB) hb2).trans q1
      have d2 := (below_cell (hbel.mono hB) hb2).trans q2
      have hsize := hbel.size
      clear hc1 hc2 hcell1 hcell2 p0 p1 p2 q0 q1 q2
      go_wp2_with fail
      go_region_with (go_at_call 54; refine (eqPStep_any (stepAt ps k) _).mono ?_; rintro e w1 ⟨rfl, hq⟩)
      all_goals
        have hb2 : Below w.heap.size w w1 := hbel.drew.trans (hq.mono (by simpa using hsize))
        go_wp2_with fail
        go_roundw
        case rel => exact ⟨k + 1, by omega, by go_num, hb2⟩
        case measure => simp [intOf]; omega
    · go_wp2_with fail
      go_ret
      exact ⟨rfl, hbel⟩
end Go.Proofs.Ytbclgogolimbgaa
