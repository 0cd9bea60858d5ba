/-
  Paths that come in: what takes their sizes from a budget; what copies them into new memory; what holds two against each other.
-/
import Derived.Test.YtpakfgonemiebaaPhase
import Derived.Test.YtpakfgonemiebaaProg
import Derived.Deep.OwnRows
import Derived.KernelRfl
import Derived.Deep.QuietTactic
import Derived.BigQuiet
import Derived.WalkSmall
import Derived.Deep.RegionWith
import Derived.Test.YtpakfgonemiebaaSpc2
import Derived.Deep.Light
namespace Go.Proofs.Ytpakfgonemiebaa
open Go.RowKit
set_option linter.unusedSimpArgs false
set_option linter.unusedVariables false

abbrev RawSteps (B : Nat) (w : World) (v : Value) (ps : List PS) : Prop := StepsIn 9223372036854775807 9223372036854775807 B w v ps
abbrev StepsAt (B : Nat) (w : World) (v : Value) (ps : List PS) : Prop := StepsIn 1048576 1048576 B w v ps

set_option maxHeartbeats 800000 in
theorem szPStep_any (x : PS) (r : Int) (w : World) (hx : x.key.size ≤ 9223372036854775807) (h1 : 0 ≤ r) (h2 : r ≤ 1048576) :
    Calls Try.prog 55 #[.agg #[.bool x.named, .string x.key, .int .i64 x.pl], .int .i64 r] w fun e w' => (∃ q, e = .returned (.int .i64 q) ∧ q ≤ 1048576 ∧ (0 ≤ q → x.key.size ≤ 1048576)) ∧ Below w.heap.size w w' := by
  have hbel : ∀ (o : Obj), Below w.heap.size w (w.alloc o) := fun o => (Below.refl _ _).alloc (Nat.le_refl _) o
  go_enter Try.func55, Try.ntmps55
  go_wp2_with fail
  all_goals
    go_ret
    exact ⟨⟨_, rfl, by omega, fun h => by omega⟩, hbel _⟩

set_option maxHeartbeats 800000 in
theorem szPStepS_any (B : Nat) (v : Value) (ps : List PS) (r : Int) (w : World) (h : RawSteps B w v ps) (hB : B ≤ w.heap.size) (h1 : 0 ≤ r) (h2 : r ≤ 1048576) :
    Calls Try.prog 23 #[v, .int .i64 r] w fun e w' => (∃ q, e = .returned (.int .i64 q) ∧ q ≤ 1048576 ∧ (0 ≤ q → ps.length ≤ 1048576 ∧ ∀ i, i < ps.length → (stepAt ps i).key.size ≤ 1048576)) ∧ Below w.heap.size w w' := by
  obtain ⟨hlen, hfit, a, cap, rfl, hcell⟩ := h
  go_enter Try.func23, Try.ntmps23
  go_wp2_with fail
  · go_ret
    exact ⟨⟨_, rfl, by omega, fun h => by omega⟩, Below.refl _ _⟩
  · go_loopw [1, 5] (fun t i wr => ∃ (k : Nat) (q : Int), k ≤ ps.length ∧ i = .int .i64 k ∧ t = .int .i64 q ∧ 0 ≤ q ∧ q ≤ 1048576 ∧ Hid (∀ j, j < k → (stepAt ps j).key.size ≤ 1048576) ∧ Below w.heap.size w wr) (fun _ i _ => ps.length - (intOf i).toNat)
    case atStart => exact ⟨0, _, Nat.zero_le _, rfl, rfl, by omega, by omega, fun j hj => by omega, Below.refl _ _⟩
    case round =>
      obtain ⟨k, q, hk, rfl, rfl, hq0, hq1, HS, hbel⟩ := hrel
      by_cases hlt : k < ps.length
      · obtain ⟨b, o, rfl, hbB, hc⟩ := hcell (by omega)
        obtain ⟨hc0, hc1, hc2⟩ := hc k hlt
        have c0 := (below_cell (hbel.mono hB) hbB).trans hc0
        have c1 := (below_cell (hbel.mono hB) hbB).trans hc1
        have c2 := (below_cell (hbel.mono hB) hbB).trans hc2
        have hs := (hfit k hlt).1
        have hsize := hbel.size
        clear hc hcell hc0 hc1 hc2 hfit
        go_wp2_with fail
        refine (szPStep_any (stepAt ps k) _ _ hs (by omega) (by omega)).mono ?_
        rintro e w' ⟨⟨q', rfl, hq', hsm⟩, hb'⟩
        have hb2 : Below w.heap.size w w' := hbel.trans (hb'.mono hsize)
        have HM := hideIt hsm
        clear hsm
        go_wp2_with fail
        · go_ret
          exact ⟨⟨_, rfl, by omega, fun h => by omega⟩, hb2⟩
        · go_roundw
          case rel =>
            refine ⟨k + 1, _, by omega, by go_num, rfl, by omega, by omega, fun j hj => ?_, hb2⟩
            by_cases e : j = k
            · subst e; exact HM.out (by omega)
            · exact HS.out j (by omega)
          case measure => simp [intOf]; omega
      · obtain rfl : k = ps.length := by omega
        go_wp2_with fail
        go_ret
        exact ⟨⟨_, rfl, by omega, fun _ => ⟨by omega, HS.out⟩⟩, hbel⟩

set_option maxHeartbeats 800000 in
theorem toPStep_any (x : PS) (w : World) :
    Calls Try.prog 57 #[.agg #[.bool x.named, .string x.key, .int .i64 x.pl]] w fun e w' => e = .returned (.agg #[.bool x.named, .string x.key, .int .i64 x.pl]) ∧ Below w.heap.size w w' := by
  go_enter Try.func57, Try.ntmps57
  go_wp2_with fail
  refine bodyPost_ret (v := .agg #[.bool x.named, .string x.key, .int .i64 x.pl]) (by simp [results, Try.results57, go_sem]) rfl ⟨rfl, ?_⟩
  repeat (first | exact Below.refl _ _ | refine Below.setCell ?_ (by simp <;> omega) _ | refine Below.alloc ?_ (by simp <;> omega) _)

def zeroStep : Value := .agg #[.bool false, .string ByteArray.empty, .int .i64 0]
theorem infoStep : (Try.prog.info? 39).map (fun i => (i.zero, i.size, i.bytes)) = some (some zeroStep, 3, 32) := by kernel_rfl
def madeSteps (n : Nat) : Array Value := madeCells zeroStep.cells (n * 3)
theorem size_madeSteps (n : Nat) : (madeSteps n).size = n * 3 := size_madeCells _ _

theorem run_make_steps (n : Nat) (hb : 32 * n ≤ 281474976710656) (w : World) :
    (Instr.makeSlice 25 (.int .i64 (n : Int)) (.int .i64 (n : Int))).run Try.prog w = .ok (.slice (some ⟨w.heap.size, 0, none⟩) n n) (w.alloc (.cells (madeSteps n) 39)) := by
  obtain ⟨i, hi, hzz⟩ := Option.map_eq_some_iff.1 infoStep
  simp only [Prod.mk.injEq] at hzz
  obtain ⟨hz, hs, hby⟩ := hzz
  have hr := run_make (P := Try.prog) w 25 39 i zeroStep Try.underlying25 hi hz .i64 .i64 n n (by omega) (Int.le_refl _) (by rw [hby]; omega) (by omega)
  simp only [Int.toNat_natCast, hs] at hr
  exact hr

def stepCell (ps : List PS) (j : Nat) : Value :=
  if j % 3 = 0 then .bool (stepAt ps (j / 3)).named
  else if j % 3 = 1 then .string (stepAt ps (j / 3)).key
  else .int .i64 (stepAt ps (j / 3)).pl
theorem stepCell0 (ps : List PS) (i : Nat) : stepCell ps (i * 3) = .bool (stepAt ps i).named := by
  unfold stepCell
  rw [if_pos (by omega), show i * 3 / 3 = i by omega]
theorem stepCell1 (ps : List PS) (i : Nat) : stepCell ps (i * 3 + 1) = .string (stepAt ps i).key := by
  unfold stepCell
  rw [if_neg (by omega), if_pos (by omega), show (i * 3 + 1) / 3 = i by omega]
theorem stepCell2 (ps : List PS) (i : Nat) : stepCell ps (i * 3 + 2) = .int .i64 (stepAt ps i).pl := by
  unfold stepCell
  rw [if_neg (by omega), if_neg (by omega), show (i * 3 + 2) / 3 = i by omega]

def fillStep (ps : List PS) (z : Nat → Value) (k j : Nat) : Value := if j < k * 3 then stepCell ps j else z j

theorem fillStep_step {w : World} {b t m k : Nat} {ps : List PS} {z : Nat → Value} (h : w.rowIs b t m (fillStep ps z k)) :
    (((w.setCell ⟨b, k * 3, none⟩ (.bool (stepAt ps k).named)).setCell ⟨b, k * 3 + 1, none⟩ (.string (stepAt ps k).key)).setCell ⟨b, k * 3 + 2, none⟩ (.int .i64 (stepAt ps k).pl)).rowIs b t m (fillStep ps z (k + 1)) := by
  refine (((h.set (k * 3) _).set (k * 3 + 1) _).set (k * 3 + 2) _).congr fun j _ => ?_
  by_cases e2 : j = k * 3 + 2
  · subst e2
    rw [if_pos rfl, fillStep, if_pos (by omega), stepCell2]
  rw [if_neg e2]
  by_cases e1 : j = k * 3 + 1
  · subst e1
    rw [if_pos rfl, fillStep, if_pos (by omega), stepCell1]
  rw [if_neg e1]
  by_cases e0 : j = k * 3
  · subst e0
    rw [if_pos rfl, fillStep, if_pos (by omega), stepCell0]
  rw [if_neg e0]
  unfold fillStep
  by_cases hj : j < k * 3
  · rw [if_pos hj, if_pos (by omega)]
  · rw [if_neg hj, if_neg (by omega)]

theorem rowIs_below' {B b t n : Nat} {w w' : World} {f : Nat → Value} (h : w.rowIs b t n f) (hb : Below B w w') (hB : b < B) : w'.rowIs b t n f := h.of_block (hb.block b hB)

theorem ownSteps {w : World} {b : Nat} {ps : List PS} (h : w.rowIs b 39 (ps.length * 3) (stepCell ps)) (h1 : ps.length ≤ 1048576) (h2 : ∀ i, i < ps.length → (stepAt ps i).key.size ≤ 1048576 ∧ -9223372036854775808 ≤ (stepAt ps i).pl ∧ (stepAt ps i).pl ≤ 9223372036854775807) :
    StepsAt w.heap.size w (.slice (some ⟨b, 0, none⟩) ps.length ps.length) ps := by
  refine ⟨h1, h2, _, _, rfl, fun _ => ⟨b, 0, rfl, h.lt, fun i hi => ?_⟩⟩
  rw [Nat.zero_add]
  refine ⟨?_, ?_, ?_⟩
  · rw [h.cell (by omega), stepCell0]
  · rw [h.cell (by omega), stepCell1]
  · rw [h.cell (by omega), stepCell2]

set_option maxHeartbeats 1600000 in
theorem toPStepS_any (B : Nat) (v : Value) (ps : List PS) (w : World) (h : StepsAt B w v ps) (hB : B ≤ w.heap.size) :
    Calls Try.prog 25 #[v] w fun e w' => e = .returned (.slice (some ⟨w.heap.size, 0, none⟩) ps.length ps.length) ∧
      w'.rowIs w.heap.size 39 (ps.length * 3) (stepCell ps) ∧ Below w.heap.size w w' := by
  obtain ⟨hlen, hfit, a, cap, rfl, hcell⟩ := h
  have hmk := run_make_steps ps.length (by omega)
  go_enter Try.func25, Try.ntmps25
  go_wp2_with fail
  clear hmk
  obtain ⟨z, hz⟩ : ∃ z : Nat → Value, ∀ i, i < (madeSteps ps.length).size → (madeSteps ps.length)[i]? = some (z i) := ⟨fun i => ((madeSteps ps.length)[i]?).getD undef, fun i hi => by simp [hi]⟩
  have hr0 := World.rowIs_alloc w _ 39 z hz
  rw [size_madeSteps] at hr0
  have hr1 : (w.alloc (.cells (madeSteps ps.length) 39)).rowIs w.heap.size 39 (ps.length * 3) (fillStep ps z 0) := hr0.congr fun i _ => by simp [fillStep]
  have hb0 : Below w.heap.size w (w.alloc (.cells (madeSteps ps.length) 39)) := (Below.refl _ _).alloc (Nat.le_refl _) _
  clear hz hr0
  go_loopw [4] (fun i wr => ∃ (k : Nat), k ≤ ps.length ∧ i = .int .i64 k ∧ wr.rowIs w.heap.size 39 (ps.length * 3) (fillStep ps z k) ∧ Below w.heap.size w wr) (fun i _ => ps.length - (intOf i).toNat)
  case atStart => exact ⟨0, Nat.zero_le _, rfl, hr1, hb0⟩
  case round =>
    obtain ⟨k, hk, rfl, hrow, hbel⟩ := hrel
    clear hr1 hb0
    by_cases hlt : k < ps.length
    · obtain ⟨b, o, rfl, hbB, hc⟩ := hcell (by omega)
      obtain ⟨hc0, hc1, hc2⟩ := hc k hlt
      have c0 := (below_cell (hbel.mono hB) hbB).trans hc0
      have c1 := (below_cell (hbel.mono hB) hbB).trans hc1
      have c2 := (below_cell (hbel.mono hB) hbB).trans hc2
      have hsize := hbel.size
      have hlt0 := hrow.lt
      clear hc hcell hc0 hc1 hc2 hfit
      go_wp2_with fail
      refine (toPStep_any (stepAt ps k) _).mono ?_
      rintro e w1 ⟨rfl, hb1⟩
      have hrow1 := rowIs_below' hrow hb1 hlt0
      have hcs0 := hrow1.cell (i := k * 3) (by omega)
      have hcs1 := hrow1.cell (i := k * 3 + 1) (by omega)
      have hcs2 := hrow1.cell (i := k * 3 + 2) (by omega)
      have hfs := hrow1.frozen
      have hnew := fillStep_step hrow1
      have hbel1 : Below w.heap.size w w1 := hbel.trans (hb1.mono hsize)
      clear hrow
      go_wp2_with fail
      go_roundw
      case rel =>
        refine ⟨k + 1, by omega, by go_num, hnew, ?_⟩
        refine Below.setCell (Below.setCell (Below.setCell hbel1 ?_ _) ?_ _) ?_ _ <;> simp
      case measure => simp [intOf]; omega
    · obtain rfl : k = ps.length := by omega
      go_wp2_with fail
      go_ret
      exact ⟨rfl, hrow.congr fun i hi => by simp [fillStep, hi], hbel⟩

set_option maxHeartbeats 800000 in
theorem eqPStep_any (x : PS) (w : World) :
    Calls Try.prog 59 #[.agg #[.bool x.named, .string x.key, .int .i64 x.pl], .agg #[.bool x.named, .string x.key, .int .i64 x.pl]] w fun e w' => e = .returned (.bool true) ∧ Below w.heap.size w w' := by
  have hb0 : ∀ (o o' : Obj), Below w.heap.size w ((w.alloc o).alloc o') := fun o o' => ((Below.refl _ _).alloc (Nat.le_refl _) _).alloc (by simp) _
  have f1 : (x.named != x.named) = false := by simp
  have f2 : (x.pl != x.pl) = false := by simp
  have f3 : (x.key.toList == x.key.toList) = true := by simp
  go_enter Try.func59, Try.ntmps59
  go_wp2_with fail
  go_ret
  exact ⟨rfl, hb0 _ _⟩

set_option maxHeartbeats 1600000 in
theorem eqPStepS_any (B : Nat) (v1 v2 : Value) (ps : List PS) (w : World) (h1 : StepsAt B w v1 ps) (h2 : StepsAt B w v2 ps) (hB : B ≤ w.heap.size) :
    Calls Try.prog 27 #[v1, v2] w fun e w' => e = .returned (.bool true) ∧ Below w.heap.size w w' := by
  obtain ⟨hlen, _, a1, cap1, rfl, hcell1⟩ := h1
  obtain ⟨_, _, a2, cap2, rfl, hcell2⟩ := h2
  have hne : ((ps.length : Int) != (ps.length : Int)) = false := by simp
  go_enter Try.func27, Try.ntmps27
  go_wp2_with fail
  go_loopw [5] (fun i wr => ∃ k : Nat, k ≤ ps.length ∧ i = .int .i64 k ∧ Below w.heap.size w wr) (fun i _ => ps.length - (intOf i).toNat)
  case atStart => exact ⟨0, Nat.zero_le _, rfl, Below.refl _ _⟩
  case round =>
    obtain ⟨k, hk, rfl, hbel⟩ := hrel
    by_cases hlt : k < ps.length
    · obtain ⟨b1, o1, rfl, hb1, hc1⟩ := hcell1 (by omega)
      obtain ⟨b2, o2, rfl, hb2, hc2⟩ := hcell2 (by omega)
      obtain ⟨p0, p1, p2⟩ := hc1 k hlt
      obtain ⟨q0, q1, q2⟩ := hc2 k hlt
      have c0 := (below_cell (hbel.mono hB) hb1).trans p0
      have c1 := (below_cell (hbel.mono hB) hb1).trans p1
      have c2 := (below_cell (hbel.mono hB) hb1).trans p2
      have d0 := (below_cell (hbel.mono hB) hb2).trans q0
      have d1 := (below_cell (hbel.mono hB) hb2).trans q1
      have d2 := (below_cell (hbel.mono hB) hb2).trans q2
      have hsize := hbel.size
      clear hc1 hc2 hcell1 hcell2 p0 p1 p2 q0 q1 q2
      go_wp2_with fail
      go_region_with (go_at_call 59; refine (eqPStep_any (stepAt ps k) _).mono ?_; rintro e w1 ⟨rfl, hq⟩)
      all_goals
        have hb2 : Below w.heap.size w w1 := hbel.drew.trans (hq.mono (by simpa using hsize))
        go_wp2_with fail
        go_roundw
        case rel => exact ⟨k + 1, by omega, by go_num, hb2⟩
        case measure => simp [intOf]; omega
    · go_wp2_with fail
      go_ret
      exact ⟨rfl, hbel⟩
end Go.Proofs.Ytpakfgonemiebaa

/-
  The program's checks of one node.
-/
namespace Go.Proofs.Ytpakfgonemiebaa
open Go.RowKit
set_option linter.unusedSimpArgs false
set_option linter.unusedVariables false

set_option maxHeartbeats 800000 in
theorem textOk_any (s : ByteArray) (w : World) (hs : s.size ≤ 140737488355328) :
    Calls Try.prog 90 #[.string s] w fun e w' => e = .returned (.bool (textB s)) ∧ w' = w := by
  by_cases h60 : 60 < s.size
  · have H : Hid (textB s = false) := by unfold textB Hid; simp; omega
    have h' : (60 : Int) < (s.size : Int) := by omega
    go_enter Try.func90, Try.ntmps90
    go_wp2
    go_ret
    exact ⟨ret_bool H.out.symm, rfl⟩
  have h' : ¬ (60 : Int) < (s.size : Int) := by omega
  go_enter Try.func90, Try.ntmps90
  go_wp2
  go_loop [9] (fun i => ∃ k : Nat, k ≤ s.size ∧ i = .int .i64 k ∧ low s k) (fun i => s.size - (intOf i).toNat)
  case atStart => exact ⟨0, Nat.zero_le _, rfl, fun j _ h => by omega⟩
  case round =>
    obtain ⟨k, hk, rfl, hlow⟩ := hrel
    by_cases hlt : k < s.size
    · by_cases hc : s[k].toNat ≤ 127
      · have H : Hid (low s (k + 1)) := low_succ hlt hlow hc
        have hc' : ¬ (127 : Int) < (s[k].toNat : Int) := by omega
        go_wp2
        go_round
        case rel => exact ⟨k + 1, by omega, by go_num, H.out⟩
        case measure => simp [intOf]; omega
      · have hc' : (127 : Int) < (s[k].toNat : Int) := by omega
        have H : Hid (textB s = false) := textB_high hlt (by omega)
        go_wp2
        go_ret
        exact ⟨ret_bool H.out.symm, rfl⟩
    · obtain rfl : k = s.size := by omega
      have H : Hid (textB s = decide (s.size ≤ 60)) := textB_of_low hlow
      go_wp2
      go_ret
      exact ⟨ret_bool (by rw [H.out]; simp; omega), rfl⟩

set_option maxHeartbeats 1600000 in
theorem keysRise_any (B : Nat) (v : Value) (l : List ByteArray) (w : World) (h : StrsAt B w v l) :
    Calls Try.prog 91 #[v] w fun e w' => e = .returned (.bool (riseB l)) ∧ w' = w := by
  obtain ⟨hkn, hks, a1, c1, rfl, hcell⟩ := h
  go_enter Try.func91, Try.ntmps91
  go_wp2_with fail
  go_loopw [7] (fun i wr => ∃ k : Nat, k ≤ l.length ∧ i = .int .i64 k ∧ (∀ j, j < k → riseAt l j = true) ∧ wr = w) (fun i _ => l.length - (intOf i).toNat)
  case atStart => exact ⟨0, Nat.zero_le _, rfl, fun j hj => by omega, rfl⟩
  case round =>
    obtain ⟨k, hkl, rfl, hrise, rfl⟩ := hrel
    by_cases hlt : k < l.length
    · obtain ⟨b, o, rfl, hbB, hc⟩ := hcell (by omega)
      have hck := hc k hlt
      have hs := hks k hlt
      by_cases ht : textB (keyAt l k) = true
      · by_cases h0 : k = 0
        · have HR : Hid (∀ j, j < k + 1 → riseAt l j = true) := fun j hj => by
            obtain rfl : j = k := by omega
            simp only [riseAt, ht, h0, decide_true, Bool.true_or, Bool.and_true]
            rw [h0] at ht
            exact ht
          have hd : ¬ (0 : Int) < (k : Int) := by omega
          have HX := hideIt h0
          clear hrise hc hcell h0
          go_wp2_with fail
          refine (textOk_any _ _ hs).mono ?_
          rintro e w1 ⟨rfl, rfl⟩
          go_wp2_with fail
          go_roundw
          case rel => exact ⟨k + 1, by omega, by go_num, HR.out, by trivial⟩
          case measure => simp [intOf]; omega
        · have hcm := hc (k - 1) (by omega)
          have hd : (0 : Int) < (k : Int) := by omega
          have p0 : ((k : Int) - 1).toNat = k - 1 := by omega
          by_cases hl : Op.bytesLess (keyAt l (k - 1)).toList (keyAt l k).toList = true
          · have HR : Hid (∀ j, j < k + 1 → riseAt l j = true) := fun j hj => by
              by_cases e : j = k
              · subst e; simp [riseAt, ht, lessB, hl]
              · exact hrise j (by omega)
            clear hrise hc hcell
            go_wp2_with fail
            refine (textOk_any _ _ hs).mono ?_
            rintro e w1 ⟨rfl, rfl⟩
            go_wp2_with fail
            go_roundw
            case rel => exact ⟨k + 1, by omega, by go_num, HR.out, by trivial⟩
            case measure => simp [intOf]; omega
          · have HR : Hid (riseB l = false) := riseB_false hlt (by simp [riseAt, ht, lessB, hl]; omega)
            have hl' : Op.bytesLess (keyAt l (k - 1)).toList (keyAt l k).toList = false := by simpa using hl
            clear hrise hc hcell hl
            go_wp2_with fail
            refine (textOk_any _ _ hs).mono ?_
            rintro e w1 ⟨rfl, rfl⟩
            go_wp2_with fail
            go_ret
            exact ⟨ret_bool HR.out.symm, rfl⟩
      · have HR : Hid (riseB l = false) := riseB_false hlt (by simp [riseAt, ht])
        have ht' : textB (keyAt l k) = false := by simpa using ht
        clear hrise hc hcell ht
        go_wp2_with fail
        refine (textOk_any _ _ hs).mono ?_
        rintro e w1 ⟨rfl, rfl⟩
        go_wp2_with fail
        go_ret
        exact ⟨ret_bool HR.out.symm, rfl⟩
    · obtain rfl : k = l.length := by omega
      have HR : Hid (riseB l = true) := riseB_true hrise
      clear hrise hcell
      go_wp2_with fail
      go_ret
      exact ⟨ret_bool HR.out.symm, rfl⟩

set_option maxHeartbeats 3200000 in
theorem unnamedZero_any (B : Nat) (x : VN) (ka ki : Value) (w : World) (h : NodeIn B w x ka ki) :
    Calls Try.prog 47 #[.agg #[.int .i64 x.kind, .int .i64 x.n, .string x.s, ka, ki]] w fun e w' => e = .returned (.bool (unnamedB x)) ∧ Below w.heap.size w w' := by
  obtain ⟨_, _, a1, c1, e1, _⟩ := h.keys
  obtain ⟨_, _, a2, c2, e2, _⟩ := h.kids
  subst e1 e2
  clear h
  go_enter Try.func47, Try.ntmps47
  go_wp2_with fail
  all_goals
    go_ret
    refine ⟨ret_bool ?_, (Below.refl _ _).alloc (Nat.le_refl _) _⟩
    go_light
    simp_all [unnamedB]

set_option maxHeartbeats 3200000 in
theorem namedOk_any (B : Nat) (x : VN) (ka ki : Value) (w : World) (h : NodeIn B w x ka ki) (hB : B ≤ w.heap.size) :
    Calls Try.prog 48 #[.agg #[.int .i64 x.kind, .int .i64 x.n, .string x.s, ka, ki]] w fun e w' => e = .returned (.bool (namedB x)) ∧ Below w.heap.size w w' := by
  have hsz := h.size
  have HK := hideIt h.keys
  obtain ⟨_, _, a1, c1, e1, _⟩ := h.keys
  obtain ⟨_, _, a2, c2, e2, _⟩ := h.kids
  subst e1 e2
  clear h
  have hw1 : ∀ o, Below w.heap.size w (w.alloc o) := fun o => (Below.refl _ _).alloc (Nat.le_refl _) o
  go_enter Try.func48, Try.ntmps48
  go_wp2_with (first
    | (go_at_call 90; refine (textOk_any _ _ hsz).mono ?_; rintro e w' ⟨rfl, rfl⟩)
    | (go_at_call 91; refine (keysRise_any B _ x.keys _ (HK.out.below ((hw1 _).mono hB))).mono ?_; rintro e w' ⟨rfl, rfl⟩))
  all_goals
    go_ret
    refine ⟨ret_bool ?_, hw1 _⟩
    go_light
    simp_all [namedB] <;> first | omega | (intro _; omega) | (intro g; exfalso; omega) | (rw [Bool.eq_iff_iff]; simp; omega)
end Go.Proofs.Ytpakfgonemiebaa

/-
  PathOk of the specification and of the program: both say the same of every path.
-/
namespace Go.Proofs.Ytpakfgonemiebaa
open Go.RowKit
set_option linter.unusedSimpArgs false
set_option linter.unusedVariables false

theorem stepB_named {x : PS} (h : x.named = true) : stepB x = (textB x.key && decide (x.pl = 0)) := by simp [stepB, h]
theorem stepB_plain {x : PS} (h : x.named = false) : stepB x = (decide (x.key.toList = []) && inB x.pl 0 80) := by simp [stepB, h, inB]

set_option maxHeartbeats 1600000 in
theorem stepOk_any (x : PS) (w : World) (hs : x.key.size ≤ 140737488355328) :
    Calls Try.prog 106 #[.agg #[.bool x.named, .string x.key, .int .i64 x.pl]] w fun e w' => e = .returned (.bool (stepB x)) ∧ Below w.heap.size w w' := by
  have hw1 : ∀ o, Below w.heap.size w (w.alloc o) := fun o => (Below.refl _ _).alloc (Nat.le_refl _) o
  cases hn : x.named
  · have HB := hideIt (stepB_plain hn)
    go_enter Try.func106, Try.ntmps106
    go_wp2_with fail
    all_goals
      go_ret
      refine ⟨ret_bool ?_, hw1 _⟩
      rw [HB.out]
      go_light
      simp_all [inB] <;> omega
  · have HB := hideIt (stepB_named hn)
    go_enter Try.func106, Try.ntmps106
    go_wp2_with (go_at_call 90; refine (textOk_any _ _ hs).mono ?_; rintro e w' ⟨rfl, rfl⟩)
    all_goals
      go_ret
      refine ⟨ret_bool ?_, hw1 _⟩
      rw [HB.out]
      go_light
      simp_all <;> (rw [Bool.eq_iff_iff]; simp)

set_option maxHeartbeats 1600000 in
theorem implPathOk_any (B : Nat) (v : Value) (ps : List PS) (w : World) (h : StepsAt B w v ps) (hB : B ≤ w.heap.size) :
    Calls Try.prog 77 #[v] w fun e w' => e = .returned (.bool (pathB ps)) ∧ Below w.heap.size w w' := by
  obtain ⟨hlen, hfit, a, cap, rfl, hcell⟩ := h
  have HC := hideIt hcell
  have HF := hideIt hfit
  clear hcell hfit
  by_cases h10 : 10 < ps.length
  · have HO : Hid (pathB ps = false) := by rw [Hid, pathB, decide_eq_false (by omega)]; rfl
    have h10' : (10 : Int) < (ps.length : Int) := by omega
    go_enter Try.func77, Try.ntmps77
    go_wp2_with fail
    go_ret
    exact ⟨ret_bool HO.out.symm, Below.refl _ _⟩
  have h10' : ¬ (10 : Int) < (ps.length : Int) := by omega
  go_enter Try.func77, Try.ntmps77
  go_wp2_with fail
  go_loopw [10] (fun i wr => ∃ (k : Nat), k ≤ ps.length ∧ i = .int .i64 k ∧ (∀ j, j < k → stepB (stepAt ps j) = true) ∧ Below w.heap.size w wr) (fun i _ => ps.length - (intOf i).toNat)
  case atStart => exact ⟨0, Nat.zero_le _, rfl, fun j hj => by omega, Below.refl _ _⟩
  case round =>
    obtain ⟨k, hk, rfl, hall, hbel⟩ := hrel
    have HA := hideIt hall
    clear hall
    have hsize := hbel.size
    by_cases hlt : k < ps.length
    · obtain ⟨b, o, rfl, hbB, hc⟩ := HC.out (by omega)
      obtain ⟨hc0, hc1, hc2⟩ := hc k hlt
      have c0 := (below_cell (hbel.mono hB) hbB).trans hc0
      have c1 := (below_cell (hbel.mono hB) hbB).trans hc1
      have c2 := (below_cell (hbel.mono hB) hbB).trans hc2
      have hs := (HF.out k hlt).1
      clear hc hc0 hc1 hc2
      go_wp2_with fail
      refine (stepOk_any (stepAt ps k) _ (by omega)).mono ?_
      rintro e w1 ⟨rfl, hb1⟩
      have hb2 : Below w.heap.size w w1 := (hbel.alloc hsize _).trans (hb1.mono (by simp; omega))
      clear hb1
      cases hst : stepB (stepAt ps k)
      · have HO := hideIt (pathB_false hlt hst)
        go_wp2_with fail
        go_ret
        exact ⟨ret_bool HO.out.symm, hb2⟩
      · have HA1 : Hid (∀ j, j < k + 1 → stepB (stepAt ps j) = true) := by
          intro j hj
          by_cases e : j = k
          · subst e; exact hst
          · exact HA.out j (by omega)
        go_wp2_with fail
        go_roundw
        case rel => exact ⟨k + 1, by omega, by go_num, HA1.out, hb2⟩
        case measure => simp [intOf]; omega
    · obtain rfl : k = ps.length := by omega
      have HO : Hid (pathB ps = true) := by rw [Hid, pathB_all HA.out]; simp; omega
      go_wp2_with fail
      go_ret
      exact ⟨ret_bool HO.out.symm, hbel⟩

set_option maxHeartbeats 3200000 in
theorem specPathOk_any (B : Nat) (v : Value) (ps : List PS) (w : World) (h : StepsAt B w v ps) (hB : B ≤ w.heap.size) :
    Calls Try.prog 43 #[v] w fun e w' => e = .returned (.bool (pathB ps)) ∧ Below w.heap.size w w' := by
  obtain ⟨hlen, hfit, a, cap, rfl, hcell⟩ := h
  have HC := hideIt hcell
  have HF := hideIt hfit
  clear hcell hfit
  go_enter Try.func43, Try.ntmps43
  go_wp2_with fail
  go_loopw [3] (fun i wr => ∃ (k : Nat), k ≤ ps.length ∧ i = .int .i64 k ∧ (∀ j, j < k → stepB (stepAt ps j) = true) ∧ Below w.heap.size w wr) (fun i _ => ps.length - (intOf i).toNat)
  case atStart => exact ⟨0, Nat.zero_le _, rfl, fun j hj => by omega, Below.refl _ _⟩
  case round =>
    obtain ⟨k, hk, rfl, hall, hbel⟩ := hrel
    have HA := hideIt hall
    clear hall
    have hsize := hbel.size
    by_cases hlt : k < ps.length
    · obtain ⟨b, o, rfl, hbB, hc⟩ := HC.out (by omega)
      obtain ⟨hc0, hc1, hc2⟩ := hc k hlt
      have c0 := (below_cell (hbel.mono hB) hbB).trans hc0
      have c1 := (below_cell (hbel.mono hB) hbB).trans hc1
      have c2 := (below_cell (hbel.mono hB) hbB).trans hc2
      have hs : (stepAt ps k).key.size ≤ 140737488355328 := by have := (HF.out k hlt).1; omega
      clear hc hc0 hc1 hc2
      have HY : stepB (stepAt ps k) = true → Hid (∀ j, j < k + 1 → stepB (stepAt ps j) = true) := by
        intro hst j hj
        by_cases e : j = k
        · subst e; exact hst
        · exact HA.out j (by omega)
      have HNO : stepB (stepAt ps k) = false → Hid (pathB ps = false) := fun hst => pathB_false hlt hst
      generalize stepAt ps k = x at *
      obtain ⟨nm, ky, pl⟩ := x
      simp only at c0 c1 c2 hs
      cases nm
      · by_cases he : ky.toList = []
        · have hz1 : (ky.toList == []) = true := by simp [he]
          have hz2 : (ky.toList != []) = false := by simp [he]
          cases hi : inB pl 0 80
          · have HR := HNO (by rw [stepB_plain rfl]; simp [hi])
            clear HY HNO
            go_wp2_with fail
            refine (l1In_any _ _ _ _).mono ?_
            rintro e w1 ⟨rfl, rfl⟩
            go_wp2_with fail
            go_ret
            exact ⟨ret_bool HR.out.symm, hbel⟩
          · have HR := HY (by rw [stepB_plain rfl]; simp [hi, he])
            clear HY HNO
            go_wp2_with fail
            refine (l1In_any _ _ _ _).mono ?_
            rintro e w1 ⟨rfl, rfl⟩
            go_wp2_with fail
            go_roundw
            case rel => exact ⟨k + 1, by omega, by go_num, HR.out, hbel⟩
            case measure => simp [intOf]; omega
        · have HR := HNO (by rw [stepB_plain rfl]; simp [he])
          have hz1 : (ky.toList == []) = false := by simpa using he
          have hz2 : (ky.toList != []) = true := by simpa using he
          clear HY HNO
          go_wp2_with fail
          go_ret
          exact ⟨ret_bool HR.out.symm, hbel⟩
      · by_cases he : pl = 0
        · subst he
          cases hi : textB ky
          · have HR := HNO (by rw [stepB_named rfl]; simp [hi])
            clear HY HNO
            go_wp2_with fail
            refine (l1Text_any _ _ hs).mono ?_
            rintro e w1 ⟨rfl, rfl⟩
            go_wp2_with fail
            go_ret
            exact ⟨ret_bool HR.out.symm, hbel⟩
          · have HR := HY (by rw [stepB_named rfl]; simp [hi])
            clear HY HNO
            go_wp2_with fail
            refine (l1Text_any _ _ hs).mono ?_
            rintro e w1 ⟨rfl, rfl⟩
            go_wp2_with fail
            go_roundw
            case rel => exact ⟨k + 1, by omega, by go_num, HR.out, hbel⟩
            case measure => simp [intOf]; omega
        · have HR := HNO (by rw [stepB_named rfl]; simp [he])
          have hz1 : (pl == 0) = false := by simpa using he
          have hz2 : (pl != 0) = true := by simpa using he
          clear HY HNO
          go_wp2_with fail
          go_ret
          exact ⟨ret_bool HR.out.symm, hbel⟩
    · obtain rfl : k = ps.length := by omega
      have HO := hideIt (pathB_all HA.out)
      go_wp2_with fail
      go_ret
      exact ⟨ret_bool (by rw [HO.out]; simp; omega), hbel⟩
end Go.Proofs.Ytpakfgonemiebaa
