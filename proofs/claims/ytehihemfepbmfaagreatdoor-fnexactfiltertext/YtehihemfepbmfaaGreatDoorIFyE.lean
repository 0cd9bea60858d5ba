/-
  The program's filterWriter: writeWhole at words.
-/
import Derived.Test.YtehihemfepbmfaaGreatDoorIFy
namespace Go.Proofs.YtehihemfepbmfaaGreatDoor
open Go.RowKit
set_option linter.unusedSimpArgs false
set_option linter.unusedVariables false

theorem wkF_ne {m : Nat} (hm : m < 4) : wkF m = 11 + (m : Int) := by
  rcases (show m = 0 ∨ m = 1 ∨ m = 2 ∨ m = 3 by omega) with rfl | rfl | rfl | rfl <;> rfl

set_option maxRecDepth 100000 in
set_option maxHeartbeats 6400000 in
theorem ww_k11 {B b : Nat} {F : Value} {fs : List FN} {nm : ByteArray} {pl : Int} {aC aK aI : Option Addr} {MC cC MK cK M cI : Nat} (l : List UInt8) (w : World) (hg : GF B b F l w) (hp : FwP B F fs w) (hlen : (l ++ [108, 101, 110, 103, 116, 104]).length ≤ 100000000) :
    Calls Tryz.prog 58 #[.pointer (some ⟨b, 0, none⟩), .agg #[.int .i64 11, .string nm, .int .i64 pl, .slice aC MC cC, .slice aK MK cK, .slice aI M cI]] w fun e w' => e = .returned (.tuple #[]) ∧ GF B b F (l ++ [108, 101, 110, 103, 116, 104]) w' ∧ Below B w w' ∧ Beside b w w' := by
  have z0 := hp.hB
  have hbl := hg.lt
  obtain ⟨W1, hW1⟩ : ∃ W1, w.alloc (.cells #[.int .i64 11, .string nm, .int .i64 pl, .slice aC MC cC, .slice aK MK cK, .slice aI M cI] 51) = W1 := ⟨_, rfl⟩
  have HW1 := hideB hW1
  have HX1 : Hid (W1.heap[w.heap.size]? = some (.cells #[.int .i64 11, .string nm, .int .i64 pl, .slice aC MC cC, .slice aK MK cK, .slice aI M cI] 51 (0, 0))) := by rw [Hid, ← hW1]; exact heap_alloc_new w _
  have HF1 : Hid (GF B b F l W1) := by rw [Hid, ← hW1]; exact hg.alloc _
  have HB1 : Hid (Below B w W1) := by rw [Hid, ← hW1]; exact (Below.refl _ _).alloc z0 _
  have HK1 : Hid (Beside b w W1) := by rw [Hid, ← hW1]; exact Beside.alloc _ _ _
  have HP := hideB hp
  have hl0 := hlen
  simp only [List.length_append, List.length_cons, List.length_nil, len_is] at hl0
  obtain ⟨D, hD⟩ : ∃ D : Nat → List UInt8, ∀ m, D m = if 0 < m then l ++ [108, 101, 110, 103, 116, 104] else l := ⟨_, fun _ => rfl⟩
  have HD := hideB hD
  clear hg hp hW1 hlen hD
  go_enter Tryz.func58, Tryz.ntmps58
  go_upto_region 21 with fail
  try rw [HW1.out]
  refine wp_region_lit ?_
  refine wpList_load_mid rfl 133 (.global 1) rfl 1 0 rfl wordC _ (HP.out.wd _ HB1.out) w_und rfl w_inf ?_
  obtain ⟨J, hJ⟩ : ∃ J, wordC.toArray = J := ⟨_, rfl⟩
  rw [hJ]
  have HJ := hideB hJ
  clear hJ
  go_wp2_with fail
  go_loopw [5, 84] (fun _ i wr => ∃ m : Nat, m ≤ 4 ∧ i = .int .i64 m ∧ GF B b F (D m) wr ∧ Below B w wr ∧ Beside b w wr ∧ wr.heap[w.heap.size]? = some (.cells #[.int .i64 11, .string nm, .int .i64 pl, .slice aC MC cC, .slice aK MK cK, .slice aI M cI] 51 (0, 0))) (fun _ i _ => 4 - (intOf i).toNat)
  case atStart => exact ⟨0, by omega, rfl, by rw [HD.out, if_neg (by omega)]; exact HF1.out, HB1.out, HK1.out, HX1.out⟩
  case round =>
    obtain ⟨m, hm, rfl, hf, hb, hks, hx⟩ := hrel
    have HF := hideB hf
    have HB := hideB hb
    have HKS := hideB hks
    have HXR := hideB hx
    have zr := hb.size
    have hblr := hf.lt
    have x0 : wr.cell? ⟨w.heap.size, 0, none⟩ = some (.int .i64 11) := cellAt hx (i := 0) rfl
    have hxl := lt_heap hx
    clear hf hb hks hx
    rcases (show m = 4 ∨ m < 4 by omega) with rfl | hlt
    · go_wp2_with fail
      go_end0
      exact ⟨rfl, by have := HF.out; rw [HD.out, if_pos (by omega)] at this; exact this, HB.out, HKS.out⟩
    · have hlt' : (m : Int) < 4 := by omega
      have hne : ¬ w.heap.size = wr.heap.size := by omega
      have hle : w.heap.size < wr.heap.size := by omega
      by_cases hmx : m = 0
      · subst hmx
        have hix := wix0
        rw [HJ.out] at hix
        have HF9 : Hid (GF B b F l (wr.alloc (.cells #[.int .i64 11, .string (txt [108, 101, 110, 103, 116, 104])] 132))) := by have := HF.out; rw [HD.out, if_neg (by omega)] at this; exact this.alloc _
        have HB9 := hideB (HB.out.alloc (by omega) (.cells #[.int .i64 11, .string (txt [108, 101, 110, 103, 116, 104])] 132))
        have HK9 := hideB (HKS.out.trans (Beside.alloc b wr (.cells #[.int .i64 11, .string (txt [108, 101, 110, 103, 116, 104])] 132)))
        have HX9 : Hid ((wr.alloc (.cells #[.int .i64 11, .string (txt [108, 101, 110, 103, 116, 104])] 132)).heap[w.heap.size]? = some (.cells #[.int .i64 11, .string nm, .int .i64 pl, .slice aC MC cC, .slice aK MK cK, .slice aI M cI] 51 (0, 0))) := (Below.heap_alloc _ _ _ hle).trans HXR.out
        obtain ⟨KY, hKY⟩ : ∃ KY : ByteArray, txt [108, 101, 110, 103, 116, 104] = KY := ⟨_, rfl⟩
        have HEQ : Hid (l ++ KY.data.toList = l ++ [108, 101, 110, 103, 116, 104]) := by rw [Hid, ← hKY]; rfl
        have hkz : KY.size = 6 := by rw [← hKY]; rfl
        rw [hKY] at hix HF9 HB9 HK9 HX9
        obtain ⟨W9, hW9⟩ : ∃ W9, wr.alloc (.cells #[.int .i64 11, .string KY] 132) = W9 := ⟨_, rfl⟩
        rw [hW9] at HF9 HB9 HK9 HX9
        have c1 : W9.cell? ⟨wr.heap.size, 1, none⟩ = some (.string KY) := by rw [← hW9]; exact cellAt (heap_alloc_new wr _) (i := 1) rfl
        have HT := hideB (gb_text gt_filter HF9.out.drew KY (by omega) (by have := HB9.out.size; simp; omega))
        have HW9 := hideB hW9
        have HY9 : Hid (W9.heap[wr.heap.size]? = some (.cells #[.int .i64 11, .string KY] 132 (0, 0))) := by rw [Hid, ← hW9]; exact heap_alloc_new wr _
        have z9 := HF9.out.lt
        clear hKY hW9
        go_wp2_with fail
        try rw [HW9.out]
        go_region_held3 (fun w' => w'.cell? ⟨wr.heap.size, 1, none⟩ = some (.string KY))
          (first | exact cellAt (box_kept k5 HY9.out (by omega) (by decide)) (i := 1) rfl | exact c1)
          (first
            | (go_at_call 92; refine HT.out.mono ?_; rintro e w5 ⟨rfl, f5, b5, k5⟩))
        rw [HEQ.out] at f5
        have HF5 : Hid (GF B b F (D (0 + 1)) w5) := by rw [Hid, HD.out, if_pos (by omega)]; exact f5
        have HB5 := hideB (HB9.out.trans ((Below.drew (Below.refl _ _)).trans b5))
        have HK5 := hideB (HK9.out.trans (show Beside b W9 w5 from k5))
        have HX5 := hideB (box_kept k5 HX9.out (by omega) (by decide))
        clear f5 b5 k5 c1
        go_wp2_with fail
        first
          | exact ⟨⟨0 + 1, by omega, by go_num, HF5.out, HB5.out, HK5.out, HX5.out⟩, by simp [intOf]⟩
          | (go_roundw
             case rel => exact ⟨0 + 1, by omega, by go_num, HF5.out, HB5.out, HK5.out, HX5.out⟩
             case measure => simp [intOf])
      · obtain ⟨kk, sg, hix, hkk⟩ := wix_any HJ.out hlt
        rw [wkF_ne hlt] at hkk
        have hk2 : (kk == 11) = false := by simp; omega
        have hk3 : ¬ kk = 11 := by omega
        have HF9 : Hid (GF B b F (D (m + 1)) (wr.alloc (.cells #[.int .i64 kk, .string sg] 132))) := by
          have := HF.out
          rw [HD.out] at this
          rw [Hid, HD.out]
          by_cases g : 0 < m
          · rw [if_pos g] at this; rw [if_pos (by omega)]; exact this.alloc _
          · rw [if_neg g] at this; rw [if_neg (by omega)]; exact this.alloc _
        have HB9 := hideB (HB.out.alloc (by omega) (.cells #[.int .i64 kk, .string sg] 132))
        have HK9 := hideB (HKS.out.trans (Beside.alloc b wr (.cells #[.int .i64 kk, .string sg] 132)))
        have HX9 : Hid ((wr.alloc (.cells #[.int .i64 kk, .string sg] 132)).heap[w.heap.size]? = some (.cells #[.int .i64 11, .string nm, .int .i64 pl, .slice aC MC cC, .slice aK MK cK, .slice aI M cI] 51 (0, 0))) := (Below.heap_alloc _ _ _ hle).trans HXR.out
        clear hkk
        go_wp2_with fail
        first
          | exact ⟨⟨m + 1, by omega, by go_num, HF9.out, HB9.out, HK9.out, HX9.out⟩, by simp [intOf]; omega⟩
          | (go_roundw
             case rel => exact ⟨m + 1, by omega, by go_num, HF9.out, HB9.out, HK9.out, HX9.out⟩
             case measure => simp [intOf]; omega)

set_option maxRecDepth 100000 in
set_option maxHeartbeats 6400000 in
theorem ww_k12 {B b : Nat} {F : Value} {fs : List FN} {nm : ByteArray} {pl : Int} {aC aK aI : Option Addr} {MC cC MK cK M cI : Nat} (l : List UInt8) (w : World) (hg : GF B b F l w) (hp : FwP B F fs w) (hlen : (l ++ [107, 101, 121, 115]).length ≤ 100000000) :
    Calls Tryz.prog 58 #[.pointer (some ⟨b, 0, none⟩), .agg #[.int .i64 12, .string nm, .int .i64 pl, .slice aC MC cC, .slice aK MK cK, .slice aI M cI]] w fun e w' => e = .returned (.tuple #[]) ∧ GF B b F (l ++ [107, 101, 121, 115]) w' ∧ Below B w w' ∧ Beside b w w' := by
  have z0 := hp.hB
  have hbl := hg.lt
  obtain ⟨W1, hW1⟩ : ∃ W1, w.alloc (.cells #[.int .i64 12, .string nm, .int .i64 pl, .slice aC MC cC, .slice aK MK cK, .slice aI M cI] 51) = W1 := ⟨_, rfl⟩
  have HW1 := hideB hW1
  have HX1 : Hid (W1.heap[w.heap.size]? = some (.cells #[.int .i64 12, .string nm, .int .i64 pl, .slice aC MC cC, .slice aK MK cK, .slice aI M cI] 51 (0, 0))) := by rw [Hid, ← hW1]; exact heap_alloc_new w _
  have HF1 : Hid (GF B b F l W1) := by rw [Hid, ← hW1]; exact hg.alloc _
  have HB1 : Hid (Below B w W1) := by rw [Hid, ← hW1]; exact (Below.refl _ _).alloc z0 _
  have HK1 : Hid (Beside b w W1) := by rw [Hid, ← hW1]; exact Beside.alloc _ _ _
  have HP := hideB hp
  have hl0 := hlen
  simp only [List.length_append, List.length_cons, List.length_nil, len_is] at hl0
  obtain ⟨D, hD⟩ : ∃ D : Nat → List UInt8, ∀ m, D m = if 1 < m then l ++ [107, 101, 121, 115] else l := ⟨_, fun _ => rfl⟩
  have HD := hideB hD
  clear hg hp hW1 hlen hD
  go_enter Tryz.func58, Tryz.ntmps58
  go_upto_region 21 with fail
  try rw [HW1.out]
  refine wp_region_lit ?_
  refine wpList_load_mid rfl 133 (.global 1) rfl 1 0 rfl wordC _ (HP.out.wd _ HB1.out) w_und rfl w_inf ?_
  obtain ⟨J, hJ⟩ : ∃ J, wordC.toArray = J := ⟨_, rfl⟩
  rw [hJ]
  have HJ := hideB hJ
  clear hJ
  go_wp2_with fail
  go_loopw [5, 84] (fun _ i wr => ∃ m : Nat, m ≤ 4 ∧ i = .int .i64 m ∧ GF B b F (D m) wr ∧ Below B w wr ∧ Beside b w wr ∧ wr.heap[w.heap.size]? = some (.cells #[.int .i64 12, .string nm, .int .i64 pl, .slice aC MC cC, .slice aK MK cK, .slice aI M cI] 51 (0, 0))) (fun _ i _ => 4 - (intOf i).toNat)
  case atStart => exact ⟨0, by omega, rfl, by rw [HD.out, if_neg (by omega)]; exact HF1.out, HB1.out, HK1.out, HX1.out⟩
  case round =>
    obtain ⟨m, hm, rfl, hf, hb, hks, hx⟩ := hrel
    have HF := hideB hf
    have HB := hideB hb
    have HKS := hideB hks
    have HXR := hideB hx
    have zr := hb.size
    have hblr := hf.lt
    have x0 : wr.cell? ⟨w.heap.size, 0, none⟩ = some (.int .i64 12) := cellAt hx (i := 0) rfl
    have hxl := lt_heap hx
    clear hf hb hks hx
    rcases (show m = 4 ∨ m < 4 by omega) with rfl | hlt
    · go_wp2_with fail
      go_end0
      exact ⟨rfl, by have := HF.out; rw [HD.out, if_pos (by omega)] at this; exact this, HB.out, HKS.out⟩
    · have hlt' : (m : Int) < 4 := by omega
      have hne : ¬ w.heap.size = wr.heap.size := by omega
      have hle : w.heap.size < wr.heap.size := by omega
      by_cases hmx : m = 1
      · subst hmx
        have hix := wix1
        rw [HJ.out] at hix
        have HF9 : Hid (GF B b F l (wr.alloc (.cells #[.int .i64 12, .string (txt [107, 101, 121, 115])] 132))) := by have := HF.out; rw [HD.out, if_neg (by omega)] at this; exact this.alloc _
        have HB9 := hideB (HB.out.alloc (by omega) (.cells #[.int .i64 12, .string (txt [107, 101, 121, 115])] 132))
        have HK9 := hideB (HKS.out.trans (Beside.alloc b wr (.cells #[.int .i64 12, .string (txt [107, 101, 121, 115])] 132)))
        have HX9 : Hid ((wr.alloc (.cells #[.int .i64 12, .string (txt [107, 101, 121, 115])] 132)).heap[w.heap.size]? = some (.cells #[.int .i64 12, .string nm, .int .i64 pl, .slice aC MC cC, .slice aK MK cK, .slice aI M cI] 51 (0, 0))) := (Below.heap_alloc _ _ _ hle).trans HXR.out
        obtain ⟨KY, hKY⟩ : ∃ KY : ByteArray, txt [107, 101, 121, 115] = KY := ⟨_, rfl⟩
        have HEQ : Hid (l ++ KY.data.toList = l ++ [107, 101, 121, 115]) := by rw [Hid, ← hKY]; rfl
        have hkz : KY.size = 4 := by rw [← hKY]; rfl
        rw [hKY] at hix HF9 HB9 HK9 HX9
        obtain ⟨W9, hW9⟩ : ∃ W9, wr.alloc (.cells #[.int .i64 12, .string KY] 132) = W9 := ⟨_, rfl⟩
        rw [hW9] at HF9 HB9 HK9 HX9
        have c1 : W9.cell? ⟨wr.heap.size, 1, none⟩ = some (.string KY) := by rw [← hW9]; exact cellAt (heap_alloc_new wr _) (i := 1) rfl
        have HT := hideB (gb_text gt_filter HF9.out.drew KY (by omega) (by have := HB9.out.size; simp; omega))
        have HW9 := hideB hW9
        have HY9 : Hid (W9.heap[wr.heap.size]? = some (.cells #[.int .i64 12, .string KY] 132 (0, 0))) := by rw [Hid, ← hW9]; exact heap_alloc_new wr _
        have z9 := HF9.out.lt
        clear hKY hW9
        go_wp2_with fail
        try rw [HW9.out]
        go_region_held3 (fun w' => w'.cell? ⟨wr.heap.size, 1, none⟩ = some (.string KY))
          (first | exact cellAt (box_kept k5 HY9.out (by omega) (by decide)) (i := 1) rfl | exact c1)
          (first
            | (go_at_call 92; refine HT.out.mono ?_; rintro e w5 ⟨rfl, f5, b5, k5⟩))
        rw [HEQ.out] at f5
        have HF5 : Hid (GF B b F (D (1 + 1)) w5) := by rw [Hid, HD.out, if_pos (by omega)]; exact f5
        have HB5 := hideB (HB9.out.trans ((Below.drew (Below.refl _ _)).trans b5))
        have HK5 := hideB (HK9.out.trans (show Beside b W9 w5 from k5))
        have HX5 := hideB (box_kept k5 HX9.out (by omega) (by decide))
        clear f5 b5 k5 c1
        go_wp2_with fail
        first
          | exact ⟨⟨1 + 1, by omega, by go_num, HF5.out, HB5.out, HK5.out, HX5.out⟩, by simp [intOf]⟩
          | (go_roundw
             case rel => exact ⟨1 + 1, by omega, by go_num, HF5.out, HB5.out, HK5.out, HX5.out⟩
             case measure => simp [intOf])
      · obtain ⟨kk, sg, hix, hkk⟩ := wix_any HJ.out hlt
        rw [wkF_ne hlt] at hkk
        have hk2 : (kk == 12) = false := by simp; omega
        have hk3 : ¬ kk = 12 := by omega
        have HF9 : Hid (GF B b F (D (m + 1)) (wr.alloc (.cells #[.int .i64 kk, .string sg] 132))) := by
          have := HF.out
          rw [HD.out] at this
          rw [Hid, HD.out]
          by_cases g : 1 < m
          · rw [if_pos g] at this; rw [if_pos (by omega)]; exact this.alloc _
          · rw [if_neg g] at this; rw [if_neg (by omega)]; exact this.alloc _
        have HB9 := hideB (HB.out.alloc (by omega) (.cells #[.int .i64 kk, .string sg] 132))
        have HK9 := hideB (HKS.out.trans (Beside.alloc b wr (.cells #[.int .i64 kk, .string sg] 132)))
        have HX9 : Hid ((wr.alloc (.cells #[.int .i64 kk, .string sg] 132)).heap[w.heap.size]? = some (.cells #[.int .i64 12, .string nm, .int .i64 pl, .slice aC MC cC, .slice aK MK cK, .slice aI M cI] 51 (0, 0))) := (Below.heap_alloc _ _ _ hle).trans HXR.out
        clear hkk
        go_wp2_with fail
        first
          | exact ⟨⟨m + 1, by omega, by go_num, HF9.out, HB9.out, HK9.out, HX9.out⟩, by simp [intOf]; omega⟩
          | (go_roundw
             case rel => exact ⟨m + 1, by omega, by go_num, HF9.out, HB9.out, HK9.out, HX9.out⟩
             case measure => simp [intOf]; omega)

set_option maxRecDepth 100000 in
set_option maxHeartbeats 6400000 in
theorem ww_k13 {B b : Nat} {F : Value} {fs : List FN} {nm : ByteArray} {pl : Int} {aC aK aI : Option Addr} {MC cC MK cK M cI : Nat} (l : List UInt8) (w : World) (hg : GF B b F l w) (hp : FwP B F fs w) (hlen : (l ++ [110, 111, 116]).length ≤ 100000000) :
    Calls Tryz.prog 58 #[.pointer (some ⟨b, 0, none⟩), .agg #[.int .i64 13, .string nm, .int .i64 pl, .slice aC MC cC, .slice aK MK cK, .slice aI M cI]] w fun e w' => e = .returned (.tuple #[]) ∧ GF B b F (l ++ [110, 111, 116]) w' ∧ Below B w w' ∧ Beside b w w' := by
  have z0 := hp.hB
  have hbl := hg.lt
  obtain ⟨W1, hW1⟩ : ∃ W1, w.alloc (.cells #[.int .i64 13, .string nm, .int .i64 pl, .slice aC MC cC, .slice aK MK cK, .slice aI M cI] 51) = W1 := ⟨_, rfl⟩
  have HW1 := hideB hW1
  have HX1 : Hid (W1.heap[w.heap.size]? = some (.cells #[.int .i64 13, .string nm, .int .i64 pl, .slice aC MC cC, .slice aK MK cK, .slice aI M cI] 51 (0, 0))) := by rw [Hid, ← hW1]; exact heap_alloc_new w _
  have HF1 : Hid (GF B b F l W1) := by rw [Hid, ← hW1]; exact hg.alloc _
  have HB1 : Hid (Below B w W1) := by rw [Hid, ← hW1]; exact (Below.refl _ _).alloc z0 _
  have HK1 : Hid (Beside b w W1) := by rw [Hid, ← hW1]; exact Beside.alloc _ _ _
  have HP := hideB hp
  have hl0 := hlen
  simp only [List.length_append, List.length_cons, List.length_nil, len_is] at hl0
  obtain ⟨D, hD⟩ : ∃ D : Nat → List UInt8, ∀ m, D m = if 2 < m then l ++ [110, 111, 116] else l := ⟨_, fun _ => rfl⟩
  have HD := hideB hD
  clear hg hp hW1 hlen hD
  go_enter Tryz.func58, Tryz.ntmps58
  go_upto_region 21 with fail
  try rw [HW1.out]
  refine wp_region_lit ?_
  refine wpList_load_mid rfl 133 (.global 1) rfl 1 0 rfl wordC _ (HP.out.wd _ HB1.out) w_und rfl w_inf ?_
  obtain ⟨J, hJ⟩ : ∃ J, wordC.toArray = J := ⟨_, rfl⟩
  rw [hJ]
  have HJ := hideB hJ
  clear hJ
  go_wp2_with fail
  go_loopw [5, 84] (fun _ i wr => ∃ m : Nat, m ≤ 4 ∧ i = .int .i64 m ∧ GF B b F (D m) wr ∧ Below B w wr ∧ Beside b w wr ∧ wr.heap[w.heap.size]? = some (.cells #[.int .i64 13, .string nm, .int .i64 pl, .slice aC MC cC, .slice aK MK cK, .slice aI M cI] 51 (0, 0))) (fun _ i _ => 4 - (intOf i).toNat)
  case atStart => exact ⟨0, by omega, rfl, by rw [HD.out, if_neg (by omega)]; exact HF1.out, HB1.out, HK1.out, HX1.out⟩
  case round =>
    obtain ⟨m, hm, rfl, hf, hb, hks, hx⟩ := hrel
    have HF := hideB hf
    have HB := hideB hb
    have HKS := hideB hks
    have HXR := hideB hx
    have zr := hb.size
    have hblr := hf.lt
    have x0 : wr.cell? ⟨w.heap.size, 0, none⟩ = some (.int .i64 13) := cellAt hx (i := 0) rfl
    have hxl := lt_heap hx
    clear hf hb hks hx
    rcases (show m = 4 ∨ m < 4 by omega) with rfl | hlt
    · go_wp2_with fail
      go_end0
      exact ⟨rfl, by have := HF.out; rw [HD.out, if_pos (by omega)] at this; exact this, HB.out, HKS.out⟩
    · have hlt' : (m : Int) < 4 := by omega
      have hne : ¬ w.heap.size = wr.heap.size := by omega
      have hle : w.heap.size < wr.heap.size := by omega
      by_cases hmx : m = 2
      · subst hmx
        have hix := wix2
        rw [HJ.out] at hix
        have HF9 : Hid (GF B b F l (wr.alloc (.cells #[.int .i64 13, .string (txt [110, 111, 116])] 132))) := by have := HF.out; rw [HD.out, if_neg (by omega)] at this; exact this.alloc _
        have HB9 := hideB (HB.out.alloc (by omega) (.cells #[.int .i64 13, .string (txt [110, 111, 116])] 132))
        have HK9 := hideB (HKS.out.trans (Beside.alloc b wr (.cells #[.int .i64 13, .string (txt [110, 111, 116])] 132)))
        have HX9 : Hid ((wr.alloc (.cells #[.int .i64 13, .string (txt [110, 111, 116])] 132)).heap[w.heap.size]? = some (.cells #[.int .i64 13, .string nm, .int .i64 pl, .slice aC MC cC, .slice aK MK cK, .slice aI M cI] 51 (0, 0))) := (Below.heap_alloc _ _ _ hle).trans HXR.out
        obtain ⟨KY, hKY⟩ : ∃ KY : ByteArray, txt [110, 111, 116] = KY := ⟨_, rfl⟩
        have HEQ : Hid (l ++ KY.data.toList = l ++ [110, 111, 116]) := by rw [Hid, ← hKY]; rfl
        have hkz : KY.size = 3 := by rw [← hKY]; rfl
        rw [hKY] at hix HF9 HB9 HK9 HX9
        obtain ⟨W9, hW9⟩ : ∃ W9, wr.alloc (.cells #[.int .i64 13, .string KY] 132) = W9 := ⟨_, rfl⟩
        rw [hW9] at HF9 HB9 HK9 HX9
        have c1 : W9.cell? ⟨wr.heap.size, 1, none⟩ = some (.string KY) := by rw [← hW9]; exact cellAt (heap_alloc_new wr _) (i := 1) rfl
        have HT := hideB (gb_text gt_filter HF9.out.drew KY (by omega) (by have := HB9.out.size; simp; omega))
        have HW9 := hideB hW9
        have HY9 : Hid (W9.heap[wr.heap.size]? = some (.cells #[.int .i64 13, .string KY] 132 (0, 0))) := by rw [Hid, ← hW9]; exact heap_alloc_new wr _
        have z9 := HF9.out.lt
        clear hKY hW9
        go_wp2_with fail
        try rw [HW9.out]
        go_region_held3 (fun w' => w'.cell? ⟨wr.heap.size, 1, none⟩ = some (.string KY))
          (first | exact cellAt (box_kept k5 HY9.out (by omega) (by decide)) (i := 1) rfl | exact c1)
          (first
            | (go_at_call 92; refine HT.out.mono ?_; rintro e w5 ⟨rfl, f5, b5, k5⟩))
        rw [HEQ.out] at f5
        have HF5 : Hid (GF B b F (D (2 + 1)) w5) := by rw [Hid, HD.out, if_pos (by omega)]; exact f5
        have HB5 := hideB (HB9.out.trans ((Below.drew (Below.refl _ _)).trans b5))
        have HK5 := hideB (HK9.out.trans (show Beside b W9 w5 from k5))
        have HX5 := hideB (box_kept k5 HX9.out (by omega) (by decide))
        clear f5 b5 k5 c1
        go_wp2_with fail
        first
          | exact ⟨⟨2 + 1, by omega, by go_num, HF5.out, HB5.out, HK5.out, HX5.out⟩, by simp [intOf]⟩
          | (go_roundw
             case rel => exact ⟨2 + 1, by omega, by go_num, HF5.out, HB5.out, HK5.out, HX5.out⟩
             case measure => simp [intOf])
      · obtain ⟨kk, sg, hix, hkk⟩ := wix_any HJ.out hlt
        rw [wkF_ne hlt] at hkk
        have hk2 : (kk == 13) = false := by simp; omega
        have hk3 : ¬ kk = 13 := by omega
        have HF9 : Hid (GF B b F (D (m + 1)) (wr.alloc (.cells #[.int .i64 kk, .string sg] 132))) := by
          have := HF.out
          rw [HD.out] at this
          rw [Hid, HD.out]
          by_cases g : 2 < m
          · rw [if_pos g] at this; rw [if_pos (by omega)]; exact this.alloc _
          · rw [if_neg g] at this; rw [if_neg (by omega)]; exact this.alloc _
        have HB9 := hideB (HB.out.alloc (by omega) (.cells #[.int .i64 kk, .string sg] 132))
        have HK9 := hideB (HKS.out.trans (Beside.alloc b wr (.cells #[.int .i64 kk, .string sg] 132)))
        have HX9 : Hid ((wr.alloc (.cells #[.int .i64 kk, .string sg] 132)).heap[w.heap.size]? = some (.cells #[.int .i64 13, .string nm, .int .i64 pl, .slice aC MC cC, .slice aK MK cK, .slice aI M cI] 51 (0, 0))) := (Below.heap_alloc _ _ _ hle).trans HXR.out
        clear hkk
        go_wp2_with fail
        first
          | exact ⟨⟨m + 1, by omega, by go_num, HF9.out, HB9.out, HK9.out, HX9.out⟩, by simp [intOf]; omega⟩
          | (go_roundw
             case rel => exact ⟨m + 1, by omega, by go_num, HF9.out, HB9.out, HK9.out, HX9.out⟩
             case measure => simp [intOf]; omega)

set_option maxRecDepth 100000 in
set_option maxHeartbeats 6400000 in
theorem ww_k14 {B b : Nat} {F : Value} {fs : List FN} {nm : ByteArray} {pl : Int} {aC aK aI : Option Addr} {MC cC MK cK M cI : Nat} (l : List UInt8) (w : World) (hg : GF B b F l w) (hp : FwP B F fs w) (hlen : (l ++ [101, 109, 112, 116, 121]).length ≤ 100000000) :
    Calls Tryz.prog 58 #[.pointer (some ⟨b, 0, none⟩), .agg #[.int .i64 14, .string nm, .int .i64 pl, .slice aC MC cC, .slice aK MK cK, .slice aI M cI]] w fun e w' => e = .returned (.tuple #[]) ∧ GF B b F (l ++ [101, 109, 112, 116, 121]) w' ∧ Below B w w' ∧ Beside b w w' := by
  have z0 := hp.hB
  have hbl := hg.lt
  obtain ⟨W1, hW1⟩ : ∃ W1, w.alloc (.cells #[.int .i64 14, .string nm, .int .i64 pl, .slice aC MC cC, .slice aK MK cK, .slice aI M cI] 51) = W1 := ⟨_, rfl⟩
  have HW1 := hideB hW1
  have HX1 : Hid (W1.heap[w.heap.size]? = some (.cells #[.int .i64 14, .string nm, .int .i64 pl, .slice aC MC cC, .slice aK MK cK, .slice aI M cI] 51 (0, 0))) := by rw [Hid, ← hW1]; exact heap_alloc_new w _
  have HF1 : Hid (GF B b F l W1) := by rw [Hid, ← hW1]; exact hg.alloc _
  have HB1 : Hid (Below B w W1) := by rw [Hid, ← hW1]; exact (Below.refl _ _).alloc z0 _
  have HK1 : Hid (Beside b w W1) := by rw [Hid, ← hW1]; exact Beside.alloc _ _ _
  have HP := hideB hp
  have hl0 := hlen
  simp only [List.length_append, List.length_cons, List.length_nil, len_is] at hl0
  obtain ⟨D, hD⟩ : ∃ D : Nat → List UInt8, ∀ m, D m = if 3 < m then l ++ [101, 109, 112, 116, 121] else l := ⟨_, fun _ => rfl⟩
  have HD := hideB hD
  clear hg hp hW1 hlen hD
  go_enter Tryz.func58, Tryz.ntmps58
  go_upto_region 21 with fail
  try rw [HW1.out]
  refine wp_region_lit ?_
  refine wpList_load_mid rfl 133 (.global 1) rfl 1 0 rfl wordC _ (HP.out.wd _ HB1.out) w_und rfl w_inf ?_
  obtain ⟨J, hJ⟩ : ∃ J, wordC.toArray = J := ⟨_, rfl⟩
  rw [hJ]
  have HJ := hideB hJ
  clear hJ
  go_wp2_with fail
  go_loopw [5, 84] (fun _ i wr => ∃ m : Nat, m ≤ 4 ∧ i = .int .i64 m ∧ GF B b F (D m) wr ∧ Below B w wr ∧ Beside b w wr ∧ wr.heap[w.heap.size]? = some (.cells #[.int .i64 14, .string nm, .int .i64 pl, .slice aC MC cC, .slice aK MK cK, .slice aI M cI] 51 (0, 0))) (fun _ i _ => 4 - (intOf i).toNat)
  case atStart => exact ⟨0, by omega, rfl, by rw [HD.out, if_neg (by omega)]; exact HF1.out, HB1.out, HK1.out, HX1.out⟩
  case round =>
    obtain ⟨m, hm, rfl, hf, hb, hks, hx⟩ := hrel
    have HF := hideB hf
    have HB := hideB hb
    have HKS := hideB hks
    have HXR := hideB hx
    have zr := hb.size
    have hblr := hf.lt
    have x0 : wr.cell? ⟨w.heap.size, 0, none⟩ = some (.int .i64 14) := cellAt hx (i := 0) rfl
    have hxl := lt_heap hx
    clear hf hb hks hx
    rcases (show m = 4 ∨ m < 4 by omega) with rfl | hlt
    · go_wp2_with fail
      go_end0
      exact ⟨rfl, by have := HF.out; rw [HD.out, if_pos (by omega)] at this; exact this, HB.out, HKS.out⟩
    · have hlt' : (m : Int) < 4 := by omega
      have hne : ¬ w.heap.size = wr.heap.size := by omega
      have hle : w.heap.size < wr.heap.size := by omega
      by_cases hmx : m = 3
      · subst hmx
        have hix := wix3
        rw [HJ.out] at hix
        have HF9 : Hid (GF B b F l (wr.alloc (.cells #[.int .i64 14, .string (txt [101, 109, 112, 116, 121])] 132))) := by have := HF.out; rw [HD.out, if_neg (by omega)] at this; exact this.alloc _
        have HB9 := hideB (HB.out.alloc (by omega) (.cells #[.int .i64 14, .string (txt [101, 109, 112, 116, 121])] 132))
        have HK9 := hideB (HKS.out.trans (Beside.alloc b wr (.cells #[.int .i64 14, .string (txt [101, 109, 112, 116, 121])] 132)))
        have HX9 : Hid ((wr.alloc (.cells #[.int .i64 14, .string (txt [101, 109, 112, 116, 121])] 132)).heap[w.heap.size]? = some (.cells #[.int .i64 14, .string nm, .int .i64 pl, .slice aC MC cC, .slice aK MK cK, .slice aI M cI] 51 (0, 0))) := (Below.heap_alloc _ _ _ hle).trans HXR.out
        obtain ⟨KY, hKY⟩ : ∃ KY : ByteArray, txt [101, 109, 112, 116, 121] = KY := ⟨_, rfl⟩
        have HEQ : Hid (l ++ KY.data.toList = l ++ [101, 109, 112, 116, 121]) := by rw [Hid, ← hKY]; rfl
        have hkz : KY.size = 5 := by rw [← hKY]; rfl
        rw [hKY] at hix HF9 HB9 HK9 HX9
        obtain ⟨W9, hW9⟩ : ∃ W9, wr.alloc (.cells #[.int .i64 14, .string KY] 132) = W9 := ⟨_, rfl⟩
        rw [hW9] at HF9 HB9 HK9 HX9
        have c1 : W9.cell? ⟨wr.heap.size, 1, none⟩ = some (.string KY) := by rw [← hW9]; exact cellAt (heap_alloc_new wr _) (i := 1) rfl
        have HT := hideB (gb_text gt_filter HF9.out.drew KY (by omega) (by have := HB9.out.size; simp; omega))
        have HW9 := hideB hW9
        have HY9 : Hid (W9.heap[wr.heap.size]? = some (.cells #[.int .i64 14, .string KY] 132 (0, 0))) := by rw [Hid, ← hW9]; exact heap_alloc_new wr _
        have z9 := HF9.out.lt
        clear hKY hW9
        go_wp2_with fail
        try rw [HW9.out]
        go_region_held3 (fun w' => w'.cell? ⟨wr.heap.size, 1, none⟩ = some (.string KY))
          (first | exact cellAt (box_kept k5 HY9.out (by omega) (by decide)) (i := 1) rfl | exact c1)
          (first
            | (go_at_call 92; refine HT.out.mono ?_; rintro e w5 ⟨rfl, f5, b5, k5⟩))
        rw [HEQ.out] at f5
        have HF5 : Hid (GF B b F (D (3 + 1)) w5) := by rw [Hid, HD.out, if_pos (by omega)]; exact f5
        have HB5 := hideB (HB9.out.trans ((Below.drew (Below.refl _ _)).trans b5))
        have HK5 := hideB (HK9.out.trans (show Beside b W9 w5 from k5))
        have HX5 := hideB (box_kept k5 HX9.out (by omega) (by decide))
        clear f5 b5 k5 c1
        go_wp2_with fail
        first
          | exact ⟨⟨3 + 1, by omega, by go_num, HF5.out, HB5.out, HK5.out, HX5.out⟩, by simp [intOf]⟩
          | (go_roundw
             case rel => exact ⟨3 + 1, by omega, by go_num, HF5.out, HB5.out, HK5.out, HX5.out⟩
             case measure => simp [intOf])
      · obtain ⟨kk, sg, hix, hkk⟩ := wix_any HJ.out hlt
        rw [wkF_ne hlt] at hkk
        have hk2 : (kk == 14) = false := by simp; omega
        have hk3 : ¬ kk = 14 := by omega
        have HF9 : Hid (GF B b F (D (m + 1)) (wr.alloc (.cells #[.int .i64 kk, .string sg] 132))) := by
          have := HF.out
          rw [HD.out] at this
          rw [Hid, HD.out]
          by_cases g : 3 < m
          · rw [if_pos g] at this; rw [if_pos (by omega)]; exact this.alloc _
          · rw [if_neg g] at this; rw [if_neg (by omega)]; exact this.alloc _
        have HB9 := hideB (HB.out.alloc (by omega) (.cells #[.int .i64 kk, .string sg] 132))
        have HK9 := hideB (HKS.out.trans (Beside.alloc b wr (.cells #[.int .i64 kk, .string sg] 132)))
        have HX9 : Hid ((wr.alloc (.cells #[.int .i64 kk, .string sg] 132)).heap[w.heap.size]? = some (.cells #[.int .i64 14, .string nm, .int .i64 pl, .slice aC MC cC, .slice aK MK cK, .slice aI M cI] 51 (0, 0))) := (Below.heap_alloc _ _ _ hle).trans HXR.out
        clear hkk
        go_wp2_with fail
        first
          | exact ⟨⟨m + 1, by omega, by go_num, HF9.out, HB9.out, HK9.out, HX9.out⟩, by simp [intOf]; omega⟩
          | (go_roundw
             case rel => exact ⟨m + 1, by omega, by go_num, HF9.out, HB9.out, HK9.out, HX9.out⟩
             case measure => simp [intOf]; omega)
end Go.Proofs.YtehihemfepbmfaaGreatDoor
