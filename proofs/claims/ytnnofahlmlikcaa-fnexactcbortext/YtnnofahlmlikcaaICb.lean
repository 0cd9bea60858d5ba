/-
  The program's cborWriter: heads, numbers and texts.
-/
import Derived.Test.YtnnofahlmlikcaaIHd
namespace Go.Proofs.Ytnnofahlmlikcaa
open Go.RowKit
set_option linter.unusedSimpArgs false
set_option linter.unusedVariables false

theorem FB.keep {T : TypeId} {B b : Nat} {rest : List Value} {l : List UInt8} {X Y : World} (h : FB T B b rest l X) (hk : Below X.heap.size X Y) : FB T B b rest l Y := by
  obtain ⟨hB, p, v, hp, hb, hrow, hne⟩ := h
  refine ⟨hB, p, v, hp, (hk.block b (lt_heap hb)).trans hb, ⟨hrow.1, ?_⟩, hne⟩
  rcases hrow.2 with h0 | ⟨g, cap, cur, hv, h1, h2, h3⟩
  · exact .inl h0
  · exact .inr ⟨g, cap, cur, hv, h1, (hk.block g (lt_heap h2)).trans h2, h3⟩
theorem under_nine : Try.prog.underlying 94 = some (.array (Try.prog.arrayLen 94) (Try.prog.elem 94)) := by kernel_rfl
theorem len_nine : Try.prog.arrayLen 94 = 9 := by kernel_rfl
theorem elem_nine : ∀ w, (sizeOf (Try.prog.elem 94)).run Try.prog w = .ok 1 w := fun w => by kernel_rfl
theorem slice_nine (g q : Nat) (hq : q ≤ 9) (w : World) : (Instr.sliceAt 94 (.pointer (some ⟨g, 0, none⟩)) none (some (.int .i64 q)) none).run Try.prog w = .ok (.slice (some ⟨g, 0, none⟩) q 9) w := by
  rw [run_sliceAt_array_h w 94 ⟨g, 0, none⟩ under_nine .i64 (q : Int) (by omega) (by rw [len_nine]; omega), elem_nine, len_nine]
  simp [Result.andThen, slicedAt, Addr.add]

set_option maxRecDepth 100000 in
set_option maxHeartbeats 3200000 in
theorem writeHead_any {B b : Nat} {l : List UInt8} {w : World} (hT : FT 46 0) (h : FB 46 B b [] l w) (k : Nat) (n : Int) (hk : k ≤ 6) (h0n : 0 ≤ n) (h1n : n ≤ 9223372036854775807) (hlen : l.length ≤ 100000000) (hBw : B ≤ w.heap.size) :
    Calls Try.prog 35 #[.pointer (some ⟨b, 0, none⟩), .int .u8 k, .int .i64 n] w fun e w' => e = .returned (.tuple #[]) ∧ FB 46 B b [] (l ++ headC k n) w' ∧ Below B w w' ∧ Beside b w w' := by
  have HF := hideB h
  have hbl := h.lt
  clear h
  have hh := headC_len k n
  obtain ⟨L, hL⟩ : ∃ L, headC k n = L := ⟨_, rfl⟩
  have HH := hideB (headOf_any k n · hk h0n (by omega))
  rw [hL] at hh HH ⊢
  clear hL
  obtain ⟨q, hq⟩ : ∃ q, L.length = q := ⟨_, rfl⟩
  have HQ := hideB hq
  rw [hq] at hh
  clear hq
  have hsl := fun g => slice_nine g q hh.2
  go_enter Try.func35, Try.ntmps35
  go_wp2_with (go_at_call 51; refine (HH.out _).mono ?_; rintro e w1 ⟨⟨c, rfl, hc⟩, hb1⟩; rw [HQ.out]; have HC := hideB hc; have HB1 := hideB hb1; have z1 := hb1.size; clear hc hb1; unfold nineC)
  have HW : Hid (∀ wr, Beside b (w1.alloc (.cells #[.int .u8 (c 0), .int .u8 (c 1), .int .u8 (c 2), .int .u8 (c 3), .int .u8 (c 4), .int .u8 (c 5), .int .u8 (c 6), .int .u8 (c 7), .int .u8 (c 8)] 94)) wr → ∀ i, i < 9 → wr.cell? ⟨w1.heap.size, i, none⟩ = some (.int .u8 (c i))) := fun wr hk i hi => by
    have hh : (w1.alloc (.cells #[.int .u8 (c 0), .int .u8 (c 1), .int .u8 (c 2), .int .u8 (c 3), .int .u8 (c 4), .int .u8 (c 5), .int .u8 (c 6), .int .u8 (c 7), .int .u8 (c 8)] 94)).heap[w1.heap.size]? = some (.cells (nineC c) 94 (0, 0)) := heap_alloc_new w1 _
    have := hk.2 w1.heap.size (by simp) (by omega) (fun cs z e => by rw [hh] at e; injection e with e; injection e with _ e2; revert e2; decide)
    exact cellAt (this.trans hh) (nineC_at c hi)
  have HF0 := hideB ((HF.out.keep HB1.out).alloc (.cells #[.int .u8 (c 0), .int .u8 (c 1), .int .u8 (c 2), .int .u8 (c 3), .int .u8 (c 4), .int .u8 (c 5), .int .u8 (c 6), .int .u8 (c 7), .int .u8 (c 8)] 94))
  have HK0 := hideB ((Beside.below (b := b) HB1.out).trans (Beside.alloc b w1 (.cells #[.int .u8 (c 0), .int .u8 (c 1), .int .u8 (c 2), .int .u8 (c 3), .int .u8 (c 4), .int .u8 (c 5), .int .u8 (c 6), .int .u8 (c 7), .int .u8 (c 8)] 94)))
  have HBL0 := hideB (((HB1.out.mono hBw)).alloc (show B ≤ w1.heap.size by omega) (.cells #[.int .u8 (c 0), .int .u8 (c 1), .int .u8 (c 2), .int .u8 (c 3), .int .u8 (c 4), .int .u8 (c 5), .int .u8 (c 6), .int .u8 (c 7), .int .u8 (c 8)] 94))
  have hz2 : w1.heap.size < (w1.alloc (.cells #[.int .u8 (c 0), .int .u8 (c 1), .int .u8 (c 2), .int .u8 (c 3), .int .u8 (c 4), .int .u8 (c 5), .int .u8 (c 6), .int .u8 (c 7), .int .u8 (c 8)] 94)).heap.size := by simp
  obtain ⟨W2, hW2⟩ : ∃ W2, w1.alloc (.cells #[.int .u8 (c 0), .int .u8 (c 1), .int .u8 (c 2), .int .u8 (c 3), .int .u8 (c 4), .int .u8 (c 5), .int .u8 (c 6), .int .u8 (c 7), .int .u8 (c 8)] 94) = W2 := ⟨_, rfl⟩
  rw [hW2] at HW HF0 HK0 HBL0 hz2
  rw [hW2]
  have HW2 := hideB hW2
  clear hW2
  go_loopw [9, 20] (fun _ i wr => ∃ j : Nat, j ≤ q ∧ i = .int .i64 j ∧ FB 46 B b [] (l ++ L.take j) wr ∧ Below B w wr ∧ Beside b W2 wr) (fun _ i _ => q - (intOf i).toNat)
  case atStart => exact ⟨0, Nat.zero_le _, rfl, by rw [List.take_zero, List.append_nil]; exact HF0.out, HBL0.out, Beside.refl _ _⟩
  case round =>
    obtain ⟨j, hj, rfl, hf, hb, hks⟩ := hrel
    have HFJ := hideB hf
    have HBJ := hideB hb
    have HKJ := hideB hks
    have zr := hb.size
    clear hf hb hks
    by_cases hlt : j < q
    · have hlt' : (j : Int) < (q : Int) := by omega
      obtain ⟨x, hx⟩ : ∃ x, L[j]? = some x := ⟨L[j]'(by rw [HQ.out]; exact hlt), List.getElem?_eq_getElem _⟩
      have cj := HW.out wr HKJ.out j (by omega)
      rw [HC.out j x hx] at cj
      have HX : Hid (L.take (j + 1) = L.take j ++ [x]) := by rw [Hid, List.take_add_one, hx]; rfl
      clear hx
      have hll : (l ++ L.take j).length + 1 ≤ 1000000000 := by rw [List.length_append, List.length_take]; omega
      have HLL := hideB hll
      clear hll
      go_wp2_with (go_at_call 32; refine (fb_byte hT HFJ.out x HLL.out (by omega)).mono ?_; rintro e w2 ⟨rfl, f2, b2, k2⟩; have HF2 := hideB f2; have HB2 := hideB (HBJ.out.trans b2); have HK2 := hideB (HKJ.out.trans k2); clear f2 b2 k2)
      exact ⟨⟨j + 1, by omega, by go_num, by rw [HX.out, ← List.append_assoc]; exact HF2.out, HB2.out, HK2.out⟩, by simp [intOf]; omega⟩
    · obtain rfl : j = q := by omega
      go_wp2_with fail
      go_end0
      refine ⟨rfl, ?_, HBJ.out, HK0.out.trans HKJ.out⟩
      have := HFJ.out
      rw [List.take_of_length_le (by rw [HQ.out]; omega)] at this
      exact this

set_option maxRecDepth 100000 in
set_option maxHeartbeats 1600000 in
theorem cbNumber_any {B b : Nat} {l : List UInt8} {w : World} (hT : FT 46 0) (h : FB 46 B b [] l w) (n : Int) (h0 : -1000000000000000 ≤ n) (h1 : n ≤ 1000000000000000) (hlen : l.length ≤ 100000000) (hBw : B ≤ w.heap.size) :
    Calls Try.prog 33 #[.pointer (some ⟨b, 0, none⟩), .int .i64 n] w fun e w' => e = .returned (.tuple #[]) ∧ FB 46 B b [] (l ++ cborN n) w' ∧ Below B w w' ∧ Beside b w w' := by
  by_cases a : n < 0
  · have HE := hideB (show cborN n = headC 1 (-1 - n) by unfold cborN; rw [if_pos a])
    have C1 := hideB (writeHead_any hT h 1 (-1 - n) (by omega) (by omega) (by omega) hlen hBw)
    go_enter Try.func33, Try.ntmps33
    go_wp2_with (go_at_call 35; refine C1.out.mono ?_; rintro e w1 ⟨rfl, f1, b1, k1⟩)
    exact bodyPost_ret (results_none rfl _ _ _) rfl ⟨rfl, by rw [HE.out]; exact f1, b1, k1⟩
  · have HE := hideB (show cborN n = headC 0 n by unfold cborN; rw [if_neg a])
    have C1 := hideB (writeHead_any hT h 0 n (by omega) (by omega) (by omega) hlen hBw)
    go_enter Try.func33, Try.ntmps33
    go_wp2_with (go_at_call 35; refine C1.out.mono ?_; rintro e w1 ⟨rfl, f1, b1, k1⟩)
    go_end0
    exact ⟨rfl, by rw [HE.out]; exact f1, b1, k1⟩

set_option maxRecDepth 100000 in
set_option maxHeartbeats 1600000 in
theorem cbText_any {B b : Nat} {l : List UInt8} {w : World} (hT : FT 46 0) (h : FB 46 B b [] l w) (s : ByteArray) (hs : s.size ≤ 200) (hlen : l.length ≤ 100000000) (hBw : B ≤ w.heap.size) :
    Calls Try.prog 34 #[.pointer (some ⟨b, 0, none⟩), .string s] w fun e w' => e = .returned (.tuple #[]) ∧ FB 46 B b [] (l ++ cborW s) w' ∧ Below B w w' ∧ Beside b w w' := by
  have hh := headC_len 3 s.size
  have C1 := hideB (writeHead_any hT h 3 (s.size : Int) (by omega) (by omega) (by omega) hlen hBw)
  have HE : Hid (cborW s = headC 3 s.size ++ s.data.toList) := rfl
  go_enter Try.func34, Try.ntmps34
  go_wp2_with (first | (go_at_call 35; refine C1.out.mono ?_; rintro e w1 ⟨rfl, f1, b1, k1⟩) | (go_at_call 50; refine (fb_text hT f1 s (by rw [List.length_append]; omega) (by have := b1.size; omega)).mono ?_; rintro e w2 ⟨rfl, f2, b2, k2⟩))
  go_end0
  exact ⟨rfl, by rw [HE.out, ← List.append_assoc]; exact f2, b1.trans b2, k1.trans k2⟩
end Go.Proofs.Ytnnofahlmlikcaa
