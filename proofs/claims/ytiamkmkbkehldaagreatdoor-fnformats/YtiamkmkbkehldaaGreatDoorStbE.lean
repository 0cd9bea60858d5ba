/-
  The program's cborWriter: heads, numbers and texts.
-/
import Derived.Test.YtiamkmkbkehldaaGreatDoorIHd
import Derived.Test.YtiamkmkbkehldaaGreatDoorStbA
import Derived.Test.YtiamkmkbkehldaaGreatDoorCbT
import Derived.Test.YtiamkmkbkehldaaGreatDoorVal
import Derived.Test.YtiamkmkbkehldaaGreatDoorOrd
namespace Go.Proofs.YtiamkmkbkehldaaGreatDoor
open Go.RowKit
set_option linter.unusedSimpArgs false
set_option linter.unusedVariables false

theorem under_nine : Tryz.prog.underlying 213 = some (.array (Tryz.prog.arrayLen 213) (Tryz.prog.elem 213)) := by kernel_rfl
theorem len_nine : Tryz.prog.arrayLen 213 = 9 := by kernel_rfl
theorem elem_nine : ∀ w, (sizeOf (Tryz.prog.elem 213)).run Tryz.prog w = .ok 1 w := fun w => by kernel_rfl
theorem slice_nine (g q : Nat) (hq : q ≤ 9) (w : World) : (Instr.sliceAt 213 (.pointer (some ⟨g, 0, none⟩)) none (some (.int .i64 q)) none).run Tryz.prog w = .ok (.slice (some ⟨g, 0, none⟩) q 9) w := by
  rw [run_sliceAt_array_h w 213 ⟨g, 0, none⟩ under_nine .i64 (q : Int) (by omega) (by rw [len_nine]; omega), elem_nine, len_nine]
  simp [Result.andThen, slicedAt, Addr.add]

set_option maxRecDepth 100000 in
set_option maxHeartbeats 3200000 in
theorem writeHead_any {B b : Nat} {l : List UInt8} {w : World} (hT : FT 95 0) (h : FB 95 B b [] l w) (k : Nat) (n : Int) (hk : k ≤ 6) (h0n : 0 ≤ n) (h1n : n ≤ 9223372036854775807) (hlen : l.length ≤ 100000000) (hBw : B ≤ w.heap.size) :
    Calls Tryz.prog 125 #[.pointer (some ⟨b, 0, none⟩), .int .u8 k, .int .i64 n] w fun e w' => e = .returned (.tuple #[]) ∧ FB 95 B b [] (l ++ headC k n) w' ∧ Below B w w' ∧ Beside b w w' := by
  have HF := hideB h
  have hbl := h.lt
  clear h
  have hh := headC_len k n
  obtain ⟨L, hL⟩ : ∃ L, headC k n = L := ⟨_, rfl⟩
  have HH := hideB (headOf_any k n · hk h0n (by omega))
  rw [hL] at hh HH ⊢
  clear hL
  obtain ⟨q, hq⟩ : ∃ q, L.length = q := ⟨_, rfl⟩
  have HQ := hideB hq
  rw [hq] at hh
  clear hq
  have hsl := fun g => slice_nine g q hh.2
  go_enter Tryz.func125, Tryz.ntmps125
  go_wp2_with (go_at_call 171; refine (HH.out _).mono ?_; rintro e w1 ⟨⟨c, rfl, hc⟩, hb1⟩; rw [HQ.out]; have HC := hideB hc; have HB1 := hideB hb1; have z1 := hb1.size; clear hc hb1; unfold nineC)
  have HW : Hid (∀ wr, Beside b (w1.alloc (.cells #[.int .u8 (c 0), .int .u8 (c 1), .int .u8 (c 2), .int .u8 (c 3), .int .u8 (c 4), .int .u8 (c 5), .int .u8 (c 6), .int .u8 (c 7), .int .u8 (c 8)] 213)) wr → ∀ i, i < 9 → wr.cell? ⟨w1.heap.size, i, none⟩ = some (.int .u8 (c i))) := fun wr hk i hi => by
    have hh : (w1.alloc (.cells #[.int .u8 (c 0), .int .u8 (c 1), .int .u8 (c 2), .int .u8 (c 3), .int .u8 (c 4), .int .u8 (c 5), .int .u8 (c 6), .int .u8 (c 7), .int .u8 (c 8)] 213)).heap[w1.heap.size]? = some (.cells (nineC c) 213 (0, 0)) := heap_alloc_new w1 _
    have := hk.2 w1.heap.size (by simp) (by omega) (fun cs z e => by rw [hh] at e; injection e with e; injection e with _ e2; revert e2; decide)
    exact cellAt (this.trans hh) (nineC_at c hi)
  have HF0 := hideB ((HF.out.keep HB1.out).alloc (.cells #[.int .u8 (c 0), .int .u8 (c 1), .int .u8 (c 2), .int .u8 (c 3), .int .u8 (c 4), .int .u8 (c 5), .int .u8 (c 6), .int .u8 (c 7), .int .u8 (c 8)] 213))
  have HK0 := hideB ((Beside.below (b := b) HB1.out).trans (Beside.alloc b w1 (.cells #[.int .u8 (c 0), .int .u8 (c 1), .int .u8 (c 2), .int .u8 (c 3), .int .u8 (c 4), .int .u8 (c 5), .int .u8 (c 6), .int .u8 (c 7), .int .u8 (c 8)] 213)))
  have HBL0 := hideB (((HB1.out.mono hBw)).alloc (show B ≤ w1.heap.size by omega) (.cells #[.int .u8 (c 0), .int .u8 (c 1), .int .u8 (c 2), .int .u8 (c 3), .int .u8 (c 4), .int .u8 (c 5), .int .u8 (c 6), .int .u8 (c 7), .int .u8 (c 8)] 213))
  have hz2 : w1.heap.size < (w1.alloc (.cells #[.int .u8 (c 0), .int .u8 (c 1), .int .u8 (c 2), .int .u8 (c 3), .int .u8 (c 4), .int .u8 (c 5), .int .u8 (c 6), .int .u8 (c 7), .int .u8 (c 8)] 213)).heap.size := by simp
  obtain ⟨W2, hW2⟩ : ∃ W2, w1.alloc (.cells #[.int .u8 (c 0), .int .u8 (c 1), .int .u8 (c 2), .int .u8 (c 3), .int .u8 (c 4), .int .u8 (c 5), .int .u8 (c 6), .int .u8 (c 7), .int .u8 (c 8)] 213) = W2 := ⟨_, rfl⟩
  rw [hW2] at HW HF0 HK0 HBL0 hz2
  rw [hW2]
  have HW2 := hideB hW2
  clear hW2
  go_loopw [9, 20] (fun _ i wr => ∃ j : Nat, j ≤ q ∧ i = .int .i64 j ∧ FB 95 B b [] (l ++ L.take j) wr ∧ Below B w wr ∧ Beside b W2 wr) (fun _ i _ => q - (intOf i).toNat)
  case atStart => exact ⟨0, Nat.zero_le _, rfl, by rw [List.take_zero, List.append_nil]; exact HF0.out, HBL0.out, Beside.refl _ _⟩
  case round =>
    obtain ⟨j, hj, rfl, hf, hb, hks⟩ := hrel
    have HFJ := hideB hf
    have HBJ := hideB hb
    have HKJ := hideB hks
    have zr := hb.size
    clear hf hb hks
    by_cases hlt : j < q
    · have hlt' : (j : Int) < (q : Int) := by omega
      obtain ⟨x, hx⟩ : ∃ x, L[j]? = some x := ⟨L[j]'(by rw [HQ.out]; exact hlt), List.getElem?_eq_getElem _⟩
      have cj := HW.out wr HKJ.out j (by omega)
      rw [HC.out j x hx] at cj
      have HX : Hid (L.take (j + 1) = L.take j ++ [x]) := by rw [Hid, List.take_add_one, hx]; rfl
      clear hx
      have hll : (l ++ L.take j).length + 1 ≤ 1000000000 := by rw [List.length_append, List.length_take]; omega
      have HLL := hideB hll
      clear hll
      go_wp2_with (go_at_call 38; refine (fb_byte hT HFJ.out x HLL.out (by omega)).mono ?_; rintro e w2 ⟨rfl, f2, b2, k2⟩; have HF2 := hideB f2; have HB2 := hideB (HBJ.out.trans b2); have HK2 := hideB (HKJ.out.trans k2); clear f2 b2 k2)
      exact ⟨⟨j + 1, by omega, by go_num, by rw [HX.out, ← List.append_assoc]; exact HF2.out, HB2.out, HK2.out⟩, by simp [intOf]; omega⟩
    · obtain rfl : j = q := by omega
      go_wp2_with fail
      go_end0
      refine ⟨rfl, ?_, HBJ.out, HK0.out.trans HKJ.out⟩
      have := HFJ.out
      rw [List.take_of_length_le (by rw [HQ.out]; omega)] at this
      exact this

set_option maxRecDepth 100000 in
set_option maxHeartbeats 1600000 in
theorem cbNumber_any {B b : Nat} {l : List UInt8} {w : World} (hT : FT 95 0) (h : FB 95 B b [] l w) (n : Int) (h0 : -1000000000000000 ≤ n) (h1 : n ≤ 1000000000000000) (hlen : l.length ≤ 100000000) (hBw : B ≤ w.heap.size) :
    Calls Tryz.prog 123 #[.pointer (some ⟨b, 0, none⟩), .int .i64 n] w fun e w' => e = .returned (.tuple #[]) ∧ FB 95 B b [] (l ++ cborN n) w' ∧ Below B w w' ∧ Beside b w w' := by
  by_cases a : n < 0
  · have HE := hideB (show cborN n = headC 1 (-1 - n) by unfold cborN; rw [if_pos a])
    have C1 := hideB (writeHead_any hT h 1 (-1 - n) (by omega) (by omega) (by omega) hlen hBw)
    go_enter Tryz.func123, Tryz.ntmps123
    go_wp2_with (go_at_call 125; refine C1.out.mono ?_; rintro e w1 ⟨rfl, f1, b1, k1⟩)
    exact bodyPost_ret (results_none rfl _ _ _) rfl ⟨rfl, by rw [HE.out]; exact f1, b1, k1⟩
  · have HE := hideB (show cborN n = headC 0 n by unfold cborN; rw [if_neg a])
    have C1 := hideB (writeHead_any hT h 0 n (by omega) (by omega) (by omega) hlen hBw)
    go_enter Tryz.func123, Tryz.ntmps123
    go_wp2_with (go_at_call 125; refine C1.out.mono ?_; rintro e w1 ⟨rfl, f1, b1, k1⟩)
    go_end0
    exact ⟨rfl, by rw [HE.out]; exact f1, b1, k1⟩

set_option maxRecDepth 100000 in
set_option maxHeartbeats 1600000 in
theorem cbText_any {B b : Nat} {l : List UInt8} {w : World} (hT : FT 95 0) (h : FB 95 B b [] l w) (s : ByteArray) (hs : s.size ≤ 200) (hlen : l.length ≤ 100000000) (hBw : B ≤ w.heap.size) :
    Calls Tryz.prog 124 #[.pointer (some ⟨b, 0, none⟩), .string s] w fun e w' => e = .returned (.tuple #[]) ∧ FB 95 B b [] (l ++ cborW s) w' ∧ Below B w w' ∧ Beside b w w' := by
  have hh := headC_len 3 s.size
  have C1 := hideB (writeHead_any hT h 3 (s.size : Int) (by omega) (by omega) (by omega) hlen hBw)
  have HE : Hid (cborW s = headC 3 s.size ++ s.data.toList) := rfl
  go_enter Tryz.func124, Tryz.ntmps124
  go_wp2_with (first | (go_at_call 125; refine C1.out.mono ?_; rintro e w1 ⟨rfl, f1, b1, k1⟩) | (go_at_call 35; refine (fb_text hT f1 s (by rw [List.length_append]; omega) (by have := b1.size; omega)).mono ?_; rintro e w2 ⟨rfl, f2, b2, k2⟩))
  go_end0
  exact ⟨rfl, by rw [HE.out, ← List.append_assoc]; exact f2, b1.trans b2, k1.trans k2⟩
end Go.Proofs.YtiamkmkbkehldaaGreatDoor

/-
  The program's sortedPlaces with shorterFirst: the places of texts, the shorter ones first, those of one length as they stand.
-/
namespace Go.Proofs.YtiamkmkbkehldaaGreatDoor
open Go.RowKit
set_option linter.unusedSimpArgs false
set_option linter.unusedVariables false


set_option maxHeartbeats 400000 in
theorem cmpInt3_any (a b : Int) (w : World) : Calls Tryz.prog 174 #[.int .i64 a, .int .i64 b] w fun e w' => e = .returned (.int .i64 (cmpI a b)) ∧ w' = w := by
  have ha : (a != a) = false := by simp
  have hb : (b != b) = false := by simp
  by_cases h1 : a < b
  · go_enter Tryz.func174, Tryz.ntmps174
    go_wp2
    go_ret
    exact ⟨ret_int (by simp [cmpI, h1]), rfl⟩
  · by_cases h2 : b < a
    · go_enter Tryz.func174, Tryz.ntmps174
      go_wp2
      go_ret
      exact ⟨ret_int (by unfold cmpI; rw [if_neg (by omega), if_pos (by omega)]), rfl⟩
    · go_enter Tryz.func174, Tryz.ntmps174
      go_wp2
      go_ret
      exact ⟨ret_int (by unfold cmpI; rw [if_neg (by omega), if_neg (by omega)]), rfl⟩
set_option maxHeartbeats 400000 in
theorem shorterFirst_any (a b : ByteArray) (w : World) : Calls Tryz.prog 127 #[.string a, .string b] w fun e w' => e = .returned (.int .i64 (cmpI a.size b.size)) ∧ w' = w := by
  go_enter Tryz.func127, Tryz.ntmps127
  go_wp2_with (go_at_call 174; refine (cmpInt3_any _ _ _).mono ?_; rintro e w1 ⟨rfl, rfl⟩)
  go_ret
  exact ⟨rfl, rfl⟩

theorem Sw.cellL {g : Nat} {w w' : World} (h : Sw g w w') {b o : Nat} (hb : b < w.heap.size) (hg : b ≠ g) : w'.cell? ⟨b, o, none⟩ = w.cell? ⟨b, o, none⟩ := h.2.2.2.cell hb hg

set_option maxRecDepth 100000 in
set_option maxHeartbeats 3200000 in
theorem closureL_any (B h g : Nat) (l : List ByteArray) (v : Value) (w0 : World) (hl : StrsAt B w0 v l) (h1 : w0.cell? ⟨h, 0, none⟩ = some v) (h2 : w0.cell? ⟨h + 1, 0, none⟩ = some (.func (.func 127) #[] #[])) (hh : h + 1 < w0.heap.size) (hg : h + 1 < g) (hB : B ≤ h) :
    CmpAt g l.length w0 (.pointer (some ⟨h + 1, 0, none⟩)) (.pointer (some ⟨h, 0, none⟩)) (cfL l) := by
  intro W hsw x y hx1 hx2 hy1 hy2
  obtain ⟨i, rfl⟩ : ∃ i : Nat, x = (i : Int) := ⟨x.toNat, by omega⟩
  obtain ⟨j, rfl⟩ : ∃ j : Nat, y = (j : Int) := ⟨y.toNat, by omega⟩
  obtain ⟨hln, _, a, cap, rfl, hc⟩ := hl
  obtain ⟨b, o, rfl, hb, hcc⟩ := hc (by omega)
  have d1 := (hsw.cellL (show h < w0.heap.size by omega) (show h ≠ g by omega)).trans h1
  have d2 := (hsw.cellL hh (show h + 1 ≠ g by omega)).trans h2
  have d3 := (hsw.cellL (show b < w0.heap.size by omega) (show b ≠ g by omega)).trans (hcc i (by omega))
  have d4 := (hsw.cellL (show b < w0.heap.size by omega) (show b ≠ g by omega)).trans (hcc j (by omega))
  have hi : i < l.length := by omega
  have hj : j < l.length := by omega
  have HE : Hid (cfL l (i : Int) (j : Int) = cmpI (keyAt l i).size (keyAt l j).size) := by rw [Hid, cfL, Int.toNat_natCast, Int.toNat_natCast]
  clear hcc hc h1 h2 hx1 hx2 hy1 hy2
  go_enter Tryz.func173, Tryz.ntmps173
  go_wp2_with fail
  go_quiet ((go_at_call 127; exact Calls.quiet_of_same (shorterFirst_any _ _ _)))
  go_wp2_with fail
  go_ret
  exact ⟨by rw [HE.out]; rfl, nq, rfl⟩

set_option maxHeartbeats 1600000 in
theorem sortStableL_any (R : Int → Int → Prop) (cf : Int → Int → Int) (g N cap : Nat) (w0 : World) (c1 c2 : Value) (f : Nat → Int) (w : World) (h : AskedS R cf g N w0 c1 c2 f w) :
    Calls Tryz.prog 172 #[.slice (some ⟨g, 0, none⟩) N cap, .func (.func 173) #[] #[c1, c2]] w fun e w' => e = .returned (.tuple #[]) ∧ ∃ f', w'.rowIs g 3 N (nums f') ∧ Blk R f f' 0 N ∧ Sw g w0 w' := by
  have H := hideIt h
  have hNN := h.NN
  clear h
  go_enter Tryz.func172, Tryz.ntmps172
  go_wp2_with fail
  refine (stable_any R cf g N cap w0 c1 c2 f w H.out).mono ?_
  rintro e w1 ⟨rfl, f1, hr1, hm1, hs1⟩
  have HH := hideIt (And.intro hr1 (And.intro hm1 hs1))
  clear hr1 hm1 hs1
  go_wp2_with fail
  exact ⟨rfl, .tuple #[], results_none rfl _ _ _, rfl, f1, HH.out⟩

theorem cell_new1L (w : World) (v : Value) (t : TypeId) : (w.alloc (.cells #[v] t)).cell? ⟨w.heap.size, 0, none⟩ = some v := by
  have h := heap_alloc_new w (.cells #[v] t)
  unfold World.cell?
  simp only [h]
  rfl
theorem cell_moreL {w : World} {b o : Nat} {v : Value} (h : w.cell? ⟨b, o, none⟩ = some v) (hb : b < w.heap.size) (ob : Obj) : (w.alloc ob).cell? ⟨b, o, none⟩ = some v := (below_cell ((Below.refl w.heap.size w).alloc (Nat.le_refl _) ob) hb).trans h

theorem infoIL : (Tryz.prog.info? 3).map (fun i => (i.zero, i.size, i.bytes)) = some (some (.int .i64 0), 1, 8) := by kernel_rfl

def fillL (k j : Nat) : Int := if j < k then (j : Int) else 0

set_option maxRecDepth 100000 in
set_option maxHeartbeats 3200000 in
theorem sortedPlacesL_any (B : Nat) (v : Value) (l : List ByteArray) (w : World) (h : StrsAt B w v l) (hB : B ≤ w.heap.size) (hn : l.length ≤ 1048576) :
    Calls Tryz.prog 126 #[v, .func (.func 127) #[] #[]] w fun e w' => ∃ g f', e = .returned (.slice (some ⟨g, 0, none⟩) l.length l.length) ∧ w.heap.size ≤ g ∧ w'.rowIs g 3 l.length (nums f') ∧ Blk (RL l) (fun p => (p : Int)) f' 0 l.length ∧ Below w.heap.size w w' := by
  have H := hideIt h
  obtain ⟨_, _, a, cap, rfl, _⟩ := h
  obtain ⟨N, hN⟩ : ∃ N, l.length = N := ⟨_, rfl⟩
  have HN := hideIt hN
  rw [hN] at hn ⊢
  rw [hN] at H
  clear hN
  have hmk := run_make_row' (P := Tryz.prog) 180 3 (.int .i64 0) 8 Tryz.underlying180 infoIL rfl .i64 .i64 N (by omega) (by omega)
  obtain ⟨W3, hW3⟩ : ∃ W3, W3 = ((w.alloc (.cells #[.slice a N cap] 70)).alloc (.cells #[.func (.func 127) #[] #[]] 165)).alloc (.cells (madeCells #[Value.int .i64 0] N) 3) := ⟨_, rfl⟩
  have hr0 : W3.rowIs (w.heap.size + 1 + 1) 3 N (nums (fillL 0)) := by
    have := World.rowIs_made ((w.alloc (.cells #[.slice a N cap] 70)).alloc (.cells #[.func (.func 127) #[] #[]] 165)) (.int .i64 0) N 3
    simp only [World.size_alloc] at this
    rw [hW3]
    exact this.congr fun j _ => by simp [nums, fillL]
  have d1 : W3.cell? ⟨w.heap.size, 0, none⟩ = some (.slice a N cap) := by
    rw [hW3]
    exact cell_moreL (cell_moreL (cell_new1L w _ _) (by rw [World.size_alloc]; omega) _) (by rw [World.size_alloc, World.size_alloc]; omega) _
  have d2 : W3.cell? ⟨w.heap.size + 1, 0, none⟩ = some (.func (.func 127) #[] #[]) := by
    rw [hW3]
    have := cell_new1L (w.alloc (.cells #[.slice a N cap] 70)) (.func (.func 127) #[] #[]) 165
    rw [World.size_alloc] at this
    exact cell_moreL this (by rw [World.size_alloc, World.size_alloc]; omega) _
  have HZ : Hid (W3.heap.size = w.heap.size + 1 + 1 + 1) := by rw [Hid, hW3]; simp
  have HBW : Hid (Below w.heap.size w W3) := by
    rw [Hid, hW3]
    exact (((Below.refl _ _).alloc (Nat.le_refl _) _).alloc (by simp) _).alloc (by simp; omega) _
  have HW3 := hideIt hW3
  have HR0 := hideIt hr0
  clear hW3 hr0
  go_enter Tryz.func126, Tryz.ntmps126
  go_wp2_with fail
  rw [← HW3.out]
  clear hmk
  go_loopw [12] (fun vi wr => ∃ k : Nat, k ≤ N ∧ vi = .int .i64 k ∧ wr.rowIs (w.heap.size + 1 + 1) 3 N (nums (fillL k)) ∧ Sw (w.heap.size + 1 + 1) W3 wr) (fun vi _ => N - (intOf vi).toNat)
  case atStart => exact ⟨0, Nat.zero_le _, rfl, HR0.out, Sw.refl _ _⟩
  case round =>
    obtain ⟨k, hk, rfl, hrow, hsw⟩ := hrel
    by_cases hlt : k < N
    · have c1 := hrow.cell hlt
      have f1 := hrow.frozen k
      have HNEW : Hid ((wr.setCell ⟨w.heap.size + 1 + 1, k, none⟩ (.int .i64 k)).rowIs (w.heap.size + 1 + 1) 3 N (nums (fillL (k + 1)))) := by
        refine (hrow.set k _).congr fun p _ => ?_
        unfold nums fillL
        by_cases e : p = k
        · subst e; rw [if_pos rfl, if_pos (by omega)]
        · rw [if_neg e]
          by_cases c : p < k
          · rw [if_pos c, if_pos (by omega)]
          · rw [if_neg c, if_neg (by omega)]
      have HSN := hideIt (hsw.set k (.int .i64 k))
      clear hrow hsw
      go_wp2_with fail
      go_roundw
      case rel => exact ⟨k + 1, by omega, by go_num, HNEW.out, HSN.out⟩
      case measure => simp [intOf]; omega
    · obtain rfl : k = N := by omega
      have HC1 := hideIt ((hsw.cellL (show w.heap.size < W3.heap.size by rw [HZ.out]; omega) (by omega)).trans d1)
      have HC2 := hideIt ((hsw.cellL (show w.heap.size + 1 < W3.heap.size by rw [HZ.out]; omega) (by omega)).trans d2)
      have HSZ : Hid (W3.heap.size ≤ wr.heap.size) := hsw.2.2.2.1
      have HBR : Hid (Below w.heap.size w wr) := HBW.out.trans (hsw.below (by omega) (by rw [HZ.out]; omega))
      have HCM : Hid (CmpAt (w.heap.size + 1 + 1) k wr (.pointer (some ⟨w.heap.size + 1, 0, none⟩)) (.pointer (some ⟨w.heap.size, 0, none⟩)) (cfL l)) := by
        have := closureL_any B w.heap.size (w.heap.size + 1 + 1) l (.slice a k cap) wr (H.out.below (HBR.out.mono hB)) HC1.out HC2.out (by have := HSZ.out; rw [HZ.out] at this; omega) (by omega) hB
        rw [HN.out] at this
        exact this
      have HA : Hid (AskedS (RL l) (cfL l) (w.heap.size + 1 + 1) k wr (.pointer (some ⟨w.heap.size + 1, 0, none⟩)) (.pointer (some ⟨w.heap.size, 0, none⟩)) (fun p => (p : Int)) wr) :=
        ⟨rl_tot l, HCM.out, rl_cross l, hrow.congr fun p hp => by unfold nums fillL; rw [if_pos hp], Sw.refl _ _, fun p hp => ⟨by omega, by omega⟩, hn, fun p q h1 h2 => by omega⟩
      clear hrow hsw d1 d2
      go_wp2_with fail
      refine (sortStableL_any (RL l) (cfL l) (w.heap.size + 1 + 1) k k wr _ _ (fun p => (p : Int)) wr HA.out).mono ?_
      rintro e w2 ⟨rfl, f2, hr2, hb2, hs2⟩
      have HFIN := hideIt (And.intro hr2 (And.intro hb2 (HBR.out.trans (hs2.below (by omega) (by have := HSZ.out; rw [HZ.out] at this; omega)))))
      clear hr2 hb2 hs2
      go_wp2_with fail
      go_ret
      exact ⟨_, f2, rfl, by omega, HFIN.out⟩
end Go.Proofs.YtiamkmkbkehldaaGreatDoor
