/-
  The program's cborReader.readNumber.
-/
import Derived.Test.YtokhindolimchaaGreatNmT
import Derived.Test.YtokhindolimchaaGreatCbR
import Derived.Test.YtokhindolimchaaGreatEscP
import Derived.Lib.BufferWrite
import Derived.Deep.RegionHeld3
import Derived.Test.YtokhindolimchaaGreatSit
import Derived.Laws.Bits64b
namespace Go.Proofs.YtokhindolimchaaGreat
open Go.RowKit
set_option linter.unusedSimpArgs false
set_option linter.unusedVariables false


set_option maxRecDepth 100000 in
set_option maxHeartbeats 1600000 in
theorem number_short {rb p low : Nat} {s : ByteArray} {w : World} (h : BrAt w rb s p) (hl : low < 24) :
    Calls Tryz.prog 56 #[.pointer (some ⟨rb, 0, none⟩), .int .u8 low] w fun e w' => e = .returned (.int .i64 low) ∧ w' = w := by
  have hl' : (low : Int) < 24 := by omega
  go_enter Tryz.func56, Tryz.ntmps56
  go_wp2_with fail
  go_ret
  exact ⟨rfl, rfl⟩

set_option maxRecDepth 100000 in
set_option maxHeartbeats 1600000 in
theorem number_bad {rb p low : Nat} {s : ByteArray} {w : World} (h : BrAt w rb s p) (hl : 28 ≤ low) (hl2 : low < 32) :
    Calls Tryz.prog 56 #[.pointer (some ⟨rb, 0, none⟩), .int .u8 low] w fun e w' => e = gup ∧ w' = w := by
  have hl' : ¬ (low : Int) < 24 := by omega
  have hl3 : (3 : Int) < (low : Int) - 24 := by omega
  go_enter Tryz.func56, Tryz.ntmps56
  go_wp2_with fail
  exact ⟨rfl, rfl, rfl⟩

theorem under_eight : Tryz.prog.underlying 135 = some (.array (Tryz.prog.arrayLen 135) (Tryz.prog.elem 135)) := by kernel_rfl

theorem len_eight : Tryz.prog.arrayLen 135 = 8 := by kernel_rfl
theorem elem_eight : ∀ w, (sizeOf (Tryz.prog.elem 135)).run Tryz.prog w = .ok 1 w := fun w => by kernel_rfl
theorem slice_eight (g q : Nat) (hq : q < 8) (w : World) : (Instr.sliceAt 135 (.pointer (some ⟨g, 0, none⟩)) (some (.int .i64 (IntKind.i64.wrap (q : Int)))) none none).run Tryz.prog w = .ok (.slice (some ⟨g, q, none⟩) (8 - q) (8 - q)) w := by
  rw [show IntKind.i64.wrap (q : Int) = (q : Int) from i64_wrap (by omega) (by omega)]
  rw [run_sliceAt_array_l w 135 ⟨g, 0, none⟩ under_eight .i64 (q : Int) (by omega) (by rw [len_eight]; omega), elem_eight, len_eight]
  simp [Result.andThen, slicedAt, Addr.add]
  rw [if_neg (by omega)]
  split
  · rename_i e; subst e; rfl
  · rfl
set_option maxRecDepth 100000 in
set_option maxHeartbeats 3200000 in
theorem number_cut {rb p : Nat} {s : ByteArray} {w : World} (h : BrAt w rb s p) (hs : s.size ≤ 4000) (k : Nat) (hk : k < 4) (hp : s.size < p + 2 ^ k) :
    Calls Tryz.prog 56 #[.pointer (some ⟨rb, 0, none⟩), .int .u8 ((24 + k : Nat) : Int)] w fun e w' => e = gup ∧ But rb w w' := by
  have HB := hideB (fun o => (h.below (((Below.refl w.heap.size w).alloc (Nat.le_refl _) o).drew)))
  have HT := hideB (fun o => But.of_below (rb := rb) (((Below.refl w.heap.size w).alloc (Nat.le_refl _) o).drew))
  clear h
  rcases (show k = 0 ∨ k = 1 ∨ k = 2 ∨ k = 3 by omega) with rfl | rfl | rfl | rfl
  · have hsl : ∀ g w, (Instr.sliceAt 135 (.pointer (some ⟨g, 0, none⟩)) (some (.int .i64 (IntKind.i64.wrap 7))) none none).run Tryz.prog w = .ok (.slice (some ⟨g, 7, none⟩) 1 1) w := fun g w => slice_eight g 7 (by omega) w
    go_enter Tryz.func56, Tryz.ntmps56
    go_wp2_with fail
    refine wp_region_any (by kernel_rfl) ?_
    change wpAny _ _ _ _ _ _ _ (World.drew _)
    refine wpAny_take (i := 0) (v := .int .i64 1) rfl (by kernel_rfl) (by kernel_rfl) (by kernel_rfl) (fun _ _ _ h => h) (Or.inl ⟨by kernel_rfl, fun w => ?_⟩) ?_
    · go_simp
    refine wpAny_take (i := 1) (v := .int .i64 (IntKind.i64.wrap 7)) rfl (by kernel_rfl) (by kernel_rfl) (by kernel_rfl) (fun _ _ _ h => h) (Or.inl ⟨by kernel_rfl, fun w => ?_⟩) ?_
    · go_simp
    refine wpAny_take (i := 2) (v := .slice (some ⟨w.heap.size, 7, none⟩) 1 1) rfl (by kernel_rfl) (by kernel_rfl) (by kernel_rfl) (fun _ _ _ h => h) (Or.inl ⟨by kernel_rfl, fun w => ?_⟩) ?_
    · go_simp
    refine wpAny_take (i := 3) (v := .pointer (some ⟨rb, 0, none⟩)) rfl (by kernel_rfl) (by kernel_rfl) (by kernel_rfl) (fun _ _ _ h => h) (Or.inl ⟨by kernel_rfl, fun w => ?_⟩) ?_
    · go_simp
    refine wpAny_take (i := 4) (v := .pointer (some ⟨rb, 0, none⟩)) rfl (by kernel_rfl) (by kernel_rfl) (by kernel_rfl) (fun _ _ _ h => h) (Or.inl ⟨by kernel_rfl, fun w => ?_⟩) ?_
    · go_simp
    refine wpAny_take (i := 5) (v := .pointer (some ⟨rb, 0, none⟩)) rfl (by kernel_rfl) (by kernel_rfl) (by kernel_rfl) (fun _ _ _ h => h) (Or.inl ⟨by kernel_rfl, fun w => ?_⟩) ?_
    · go_simp
    refine wpAny_take (i := 6) (v := .int .i64 1) rfl (by kernel_rfl) (by kernel_rfl) (by kernel_rfl) (fun _ _ _ h => h) (Or.inl ⟨by kernel_rfl, fun w => ?_⟩) ?_
    · go_simp
    refine wpAny_ready (rs := [7]) (by kernel_rfl) (by simp) ?_
    refine AllReady.cons rfl (fun K hK => ?_) AllReady.nil
    refine step_call2p (by kernel_rfl) 57 (.tmp 29) (.tmp 30) 41 2 (by kernel_rfl) (.pointer (some ⟨rb, 0, none⟩)) (.int .i64 ((1 : Nat) : Int)) (by kernel_rfl) (by kernel_rfl) (call_take _ _) (take_no (HB.out _) (by simpa using hp) (by omega) (by omega)) ?_
    rintro e w1 ⟨rfl, b1⟩
    exact .inr ⟨_, rfl, rfl, rfl, (HT.out _).trans b1⟩
  · have hsl : ∀ g w, (Instr.sliceAt 135 (.pointer (some ⟨g, 0, none⟩)) (some (.int .i64 (IntKind.i64.wrap 6))) none none).run Tryz.prog w = .ok (.slice (some ⟨g, 6, none⟩) 2 2) w := fun g w => slice_eight g 6 (by omega) w
    go_enter Tryz.func56, Tryz.ntmps56
    go_wp2_with fail
    refine wp_region_any (by kernel_rfl) ?_
    change wpAny _ _ _ _ _ _ _ (World.drew _)
    refine wpAny_take (i := 0) (v := .int .i64 2) rfl (by kernel_rfl) (by kernel_rfl) (by kernel_rfl) (fun _ _ _ h => h) (Or.inl ⟨by kernel_rfl, fun w => ?_⟩) ?_
    · go_simp
    refine wpAny_take (i := 1) (v := .int .i64 (IntKind.i64.wrap 6)) rfl (by kernel_rfl) (by kernel_rfl) (by kernel_rfl) (fun _ _ _ h => h) (Or.inl ⟨by kernel_rfl, fun w => ?_⟩) ?_
    · go_simp
    refine wpAny_take (i := 2) (v := .slice (some ⟨w.heap.size, 6, none⟩) 2 2) rfl (by kernel_rfl) (by kernel_rfl) (by kernel_rfl) (fun _ _ _ h => h) (Or.inl ⟨by kernel_rfl, fun w => ?_⟩) ?_
    · go_simp
    refine wpAny_take (i := 3) (v := .pointer (some ⟨rb, 0, none⟩)) rfl (by kernel_rfl) (by kernel_rfl) (by kernel_rfl) (fun _ _ _ h => h) (Or.inl ⟨by kernel_rfl, fun w => ?_⟩) ?_
    · go_simp
    refine wpAny_take (i := 4) (v := .pointer (some ⟨rb, 0, none⟩)) rfl (by kernel_rfl) (by kernel_rfl) (by kernel_rfl) (fun _ _ _ h => h) (Or.inl ⟨by kernel_rfl, fun w => ?_⟩) ?_
    · go_simp
    refine wpAny_take (i := 5) (v := .pointer (some ⟨rb, 0, none⟩)) rfl (by kernel_rfl) (by kernel_rfl) (by kernel_rfl) (fun _ _ _ h => h) (Or.inl ⟨by kernel_rfl, fun w => ?_⟩) ?_
    · go_simp
    refine wpAny_take (i := 6) (v := .int .i64 2) rfl (by kernel_rfl) (by kernel_rfl) (by kernel_rfl) (fun _ _ _ h => h) (Or.inl ⟨by kernel_rfl, fun w => ?_⟩) ?_
    · go_simp
    refine wpAny_ready (rs := [7]) (by kernel_rfl) (by simp) ?_
    refine AllReady.cons rfl (fun K hK => ?_) AllReady.nil
    refine step_call2p (by kernel_rfl) 57 (.tmp 29) (.tmp 30) 41 2 (by kernel_rfl) (.pointer (some ⟨rb, 0, none⟩)) (.int .i64 ((2 : Nat) : Int)) (by kernel_rfl) (by kernel_rfl) (call_take _ _) (take_no (HB.out _) (by simpa using hp) (by omega) (by omega)) ?_
    rintro e w1 ⟨rfl, b1⟩
    exact .inr ⟨_, rfl, rfl, rfl, (HT.out _).trans b1⟩
  · have hsl : ∀ g w, (Instr.sliceAt 135 (.pointer (some ⟨g, 0, none⟩)) (some (.int .i64 (IntKind.i64.wrap 4))) none none).run Tryz.prog w = .ok (.slice (some ⟨g, 4, none⟩) 4 4) w := fun g w => slice_eight g 4 (by omega) w
    go_enter Tryz.func56, Tryz.ntmps56
    go_wp2_with fail
    refine wp_region_any (by kernel_rfl) ?_
    change wpAny _ _ _ _ _ _ _ (World.drew _)
    refine wpAny_take (i := 0) (v := .int .i64 4) rfl (by kernel_rfl) (by kernel_rfl) (by kernel_rfl) (fun _ _ _ h => h) (Or.inl ⟨by kernel_rfl, fun w => ?_⟩) ?_
    · go_simp
    refine wpAny_take (i := 1) (v := .int .i64 (IntKind.i64.wrap 4)) rfl (by kernel_rfl) (by kernel_rfl) (by kernel_rfl) (fun _ _ _ h => h) (Or.inl ⟨by kernel_rfl, fun w => ?_⟩) ?_
    · go_simp
    refine wpAny_take (i := 2) (v := .slice (some ⟨w.heap.size, 4, none⟩) 4 4) rfl (by kernel_rfl) (by kernel_rfl) (by kernel_rfl) (fun _ _ _ h => h) (Or.inl ⟨by kernel_rfl, fun w => ?_⟩) ?_
    · go_simp
    refine wpAny_take (i := 3) (v := .pointer (some ⟨rb, 0, none⟩)) rfl (by kernel_rfl) (by kernel_rfl) (by kernel_rfl) (fun _ _ _ h => h) (Or.inl ⟨by kernel_rfl, fun w => ?_⟩) ?_
    · go_simp
    refine wpAny_take (i := 4) (v := .pointer (some ⟨rb, 0, none⟩)) rfl (by kernel_rfl) (by kernel_rfl) (by kernel_rfl) (fun _ _ _ h => h) (Or.inl ⟨by kernel_rfl, fun w => ?_⟩) ?_
    · go_simp
    refine wpAny_take (i := 5) (v := .pointer (some ⟨rb, 0, none⟩)) rfl (by kernel_rfl) (by kernel_rfl) (by kernel_rfl) (fun _ _ _ h => h) (Or.inl ⟨by kernel_rfl, fun w => ?_⟩) ?_
    · go_simp
    refine wpAny_take (i := 6) (v := .int .i64 4) rfl (by kernel_rfl) (by kernel_rfl) (by kernel_rfl) (fun _ _ _ h => h) (Or.inl ⟨by kernel_rfl, fun w => ?_⟩) ?_
    · go_simp
    refine wpAny_ready (rs := [7]) (by kernel_rfl) (by simp) ?_
    refine AllReady.cons rfl (fun K hK => ?_) AllReady.nil
    refine step_call2p (by kernel_rfl) 57 (.tmp 29) (.tmp 30) 41 2 (by kernel_rfl) (.pointer (some ⟨rb, 0, none⟩)) (.int .i64 ((4 : Nat) : Int)) (by kernel_rfl) (by kernel_rfl) (call_take _ _) (take_no (HB.out _) (by simpa using hp) (by omega) (by omega)) ?_
    rintro e w1 ⟨rfl, b1⟩
    exact .inr ⟨_, rfl, rfl, rfl, (HT.out _).trans b1⟩
  · have hsl : ∀ g w, (Instr.sliceAt 135 (.pointer (some ⟨g, 0, none⟩)) (some (.int .i64 (IntKind.i64.wrap 0))) none none).run Tryz.prog w = .ok (.slice (some ⟨g, 0, none⟩) 8 8) w := fun g w => slice_eight g 0 (by omega) w
    go_enter Tryz.func56, Tryz.ntmps56
    go_wp2_with fail
    refine wp_region_any (by kernel_rfl) ?_
    change wpAny _ _ _ _ _ _ _ (World.drew _)
    refine wpAny_take (i := 0) (v := .int .i64 8) rfl (by kernel_rfl) (by kernel_rfl) (by kernel_rfl) (fun _ _ _ h => h) (Or.inl ⟨by kernel_rfl, fun w => ?_⟩) ?_
    · go_simp
    refine wpAny_take (i := 1) (v := .int .i64 (IntKind.i64.wrap 0)) rfl (by kernel_rfl) (by kernel_rfl) (by kernel_rfl) (fun _ _ _ h => h) (Or.inl ⟨by kernel_rfl, fun w => ?_⟩) ?_
    · go_simp
    refine wpAny_take (i := 2) (v := .slice (some ⟨w.heap.size, 0, none⟩) 8 8) rfl (by kernel_rfl) (by kernel_rfl) (by kernel_rfl) (fun _ _ _ h => h) (Or.inl ⟨by kernel_rfl, fun w => ?_⟩) ?_
    · go_simp
    refine wpAny_take (i := 3) (v := .pointer (some ⟨rb, 0, none⟩)) rfl (by kernel_rfl) (by kernel_rfl) (by kernel_rfl) (fun _ _ _ h => h) (Or.inl ⟨by kernel_rfl, fun w => ?_⟩) ?_
    · go_simp
    refine wpAny_take (i := 4) (v := .pointer (some ⟨rb, 0, none⟩)) rfl (by kernel_rfl) (by kernel_rfl) (by kernel_rfl) (fun _ _ _ h => h) (Or.inl ⟨by kernel_rfl, fun w => ?_⟩) ?_
    · go_simp
    refine wpAny_take (i := 5) (v := .pointer (some ⟨rb, 0, none⟩)) rfl (by kernel_rfl) (by kernel_rfl) (by kernel_rfl) (fun _ _ _ h => h) (Or.inl ⟨by kernel_rfl, fun w => ?_⟩) ?_
    · go_simp
    refine wpAny_take (i := 6) (v := .int .i64 8) rfl (by kernel_rfl) (by kernel_rfl) (by kernel_rfl) (fun _ _ _ h => h) (Or.inl ⟨by kernel_rfl, fun w => ?_⟩) ?_
    · go_simp
    refine wpAny_ready (rs := [7]) (by kernel_rfl) (by simp) ?_
    refine AllReady.cons rfl (fun K hK => ?_) AllReady.nil
    refine step_call2p (by kernel_rfl) 57 (.tmp 29) (.tmp 30) 41 2 (by kernel_rfl) (.pointer (some ⟨rb, 0, none⟩)) (.int .i64 ((8 : Nat) : Int)) (by kernel_rfl) (by kernel_rfl) (call_take _ _) (take_no (HB.out _) (by simpa using hp) (by omega) (by omega)) ?_
    rintro e w1 ⟨rfl, b1⟩
    exact .inr ⟨_, rfl, rfl, rfl, (HT.out _).trans b1⟩

/-- The eight bytes of the array as a number. -/
def valE (a : Nat → Nat) : Nat → Nat
  | 0 => 0
  | j + 1 => 256 * valE a j + a j
theorem valE_lt {a : Nat → Nat} (h : ∀ j, a j < 256) (j : Nat) : valE a j < 256 ^ j := by
  induction j with
  | zero => simp [valE]
  | succ j ih => have := h j; rw [valE, Nat.pow_succ]; omega
/-- The array when so many bytes have been copied to its end. -/
def arrE (L : List UInt8) (p w : Nat) (j : Nat) : Nat := if j < 8 - w then 0 else byAt L (p + (j - (8 - w)))
theorem arrE_lt (L : List UInt8) (p w j : Nat) : arrE L p w j < 256 := by
  unfold arrE
  split
  · omega
  · exact byAt_lt _ _
theorem valE_big (L : List UInt8) (p w : Nat) (hw : w ≤ 8) : valE (arrE L p w) 8 = bigN L p w := by
  have h1 : ∀ j, j ≤ 8 - w → valE (arrE L p w) j = 0 := by
    intro j
    induction j with
    | zero => intro _; rfl
    | succ j ih => intro hj; rw [valE, ih (by omega), arrE, if_pos (by omega)]
  have h2 : ∀ j, j ≤ w → valE (arrE L p w) (8 - w + j) = bigN L p j := by
    intro j
    induction j with
    | zero => intro _; rw [Nat.add_zero, h1 _ (Nat.le_refl _)]; rfl
    | succ j ih =>
      intro hj
      rw [← Nat.add_assoc, valE, ih (by omega), bigN, arrE, if_neg (by omega), Nat.add_sub_cancel_left]
  have := h2 w (Nat.le_refl _)
  rw [show 8 - w + w = 8 by omega] at this
  exact this
def eightC (a : Nat → Nat) : Array Value := #[.int .u8 (a 0), .int .u8 (a 1), .int .u8 (a 2), .int .u8 (a 3), .int .u8 (a 4), .int .u8 (a 5), .int .u8 (a 6), .int .u8 (a 7)]
theorem index_eight (a : Nat → Nat) {j : Nat} (hj : j < 8) (w : World) : (Instr.index 135 (.agg #[.int .u8 (a 0), .int .u8 (a 1), .int .u8 (a 2), .int .u8 (a 3), .int .u8 (a 4), .int .u8 (a 5), .int .u8 (a 6), .int .u8 (a 7)]) (.int .i64 j)).run Tryz.prog w = .ok (.int .u8 (a j)) w := by
  rcases (show j = 0 ∨ j = 1 ∨ j = 2 ∨ j = 3 ∨ j = 4 ∨ j = 5 ∨ j = 6 ∨ j = 7 by omega) with rfl | rfl | rfl | rfl | rfl | rfl | rfl | rfl <;> kernel_rfl
end Go.Proofs.YtokhindolimchaaGreat

/-
  Plain: bytes of a text from a place on; a byte behind a number.
-/
namespace Go.Proofs.YtokhindolimchaaGreat
open Go.RowKit
set_option linter.unusedSimpArgs false
set_option linter.unusedVariables false

theorem cut_list {L : List UInt8} {p n : Nat} (h : p + n ≤ L.length) : (L.drop p).take n = (List.range n).map fun i => L.getD (p + i) 0 := by
  apply List.ext_getElem?
  intro j
  rw [List.getElem?_take]
  by_cases hj : j < n
  · rw [if_pos hj, List.getElem?_drop, List.getElem?_map, List.getElem?_range hj, List.getElem?_eq_getElem (by omega)]
    simp [List.getElem?_eq_getElem (show p + j < L.length by omega)]
  · rw [if_neg hj, List.getElem?_eq_none (by simp; omega)]
theorem or_byte {v a : Nat} (hv : v < 72057594037927936) (ha : a < 256) : bits BinOp.or IntKind.u64 ((v : Int) * 256) (a : Int) = ((256 * v + a : Nat) : Int) := by
  have h1 : ((v : Int) * 256) = ((256 * v : Nat) : Int) := by omega
  rw [h1, bits_or_u64_nat (256 * v) a (by omega) (by omega)]
  have h2 := Nat.shiftLeft_add_eq_or_of_lt (i := 8) (b := a) (by omega) v
  rw [Nat.shiftLeft_eq] at h2
  rw [show 256 * v = v * 2 ^ 8 by omega, ← h2]
end Go.Proofs.YtokhindolimchaaGreat
