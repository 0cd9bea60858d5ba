/-
  The program's filterWriter: writeWhole at single kinds.
-/
import Derived.Test.YtehihemfepbmfaaGreatDoorIFm
namespace Go.Proofs.YtehihemfepbmfaaGreatDoor
open Go.RowKit
set_option linter.unusedSimpArgs false
set_option linter.unusedVariables false

def wkF (i : Nat) : Int := [11, 12, 13, 14].getD i 0
theorem w_und : Tryz.prog.underlying 133 = some (.array 4 132) := by kernel_rfl
theorem w_inf : (Tryz.prog.info? 133).map (·.size) = some wordC.length := by kernel_rfl
theorem wix0 (W : World) : (Instr.index 133 (.agg wordC.toArray) (.int .i64 0)).run Tryz.prog W = .ok (.agg #[.int .i64 11, .string (txt [108, 101, 110, 103, 116, 104])]) W := by kernel_rfl
theorem wix1 (W : World) : (Instr.index 133 (.agg wordC.toArray) (.int .i64 1)).run Tryz.prog W = .ok (.agg #[.int .i64 12, .string (txt [107, 101, 121, 115])]) W := by kernel_rfl
theorem wix2 (W : World) : (Instr.index 133 (.agg wordC.toArray) (.int .i64 2)).run Tryz.prog W = .ok (.agg #[.int .i64 13, .string (txt [110, 111, 116])]) W := by kernel_rfl
theorem wix3 (W : World) : (Instr.index 133 (.agg wordC.toArray) (.int .i64 3)).run Tryz.prog W = .ok (.agg #[.int .i64 14, .string (txt [101, 109, 112, 116, 121])]) W := by kernel_rfl
theorem wix_any {J : Array Value} (hJ : wordC.toArray = J) {m : Nat} (hm : m < 4) : ∃ kk sg, (∀ W, (Instr.index 133 (.agg J) (.int .i64 (m : Int))).run Tryz.prog W = .ok (.agg #[.int .i64 kk, .string sg]) W) ∧ kk = wkF m := by
  rw [← hJ]
  rcases (show m = 0 ∨ m = 1 ∨ m = 2 ∨ m = 3 by omega) with rfl | rfl | rfl | rfl
  · exact ⟨_, _, wix0, rfl⟩
  · exact ⟨_, _, wix1, rfl⟩
  · exact ⟨_, _, wix2, rfl⟩
  · exact ⟨_, _, wix3, rfl⟩
theorem wkF_in {m : Nat} (hm : m < 4) : 11 ≤ wkF m ∧ wkF m ≤ 14 := by
  rcases (show m = 0 ∨ m = 1 ∨ m = 2 ∨ m = 3 by omega) with rfl | rfl | rfl | rfl <;> decide

set_option maxRecDepth 100000 in
set_option maxHeartbeats 6400000 in
theorem ww_k4 {B b : Nat} {F : Value} {fs : List FN} {nm : ByteArray} {pl : Int} {aC aK aI : Option Addr} {MC cC MK cK M cI : Nat} (l : List UInt8) (w : World) (hg : GF B b F l w) (hp : FwP B F fs w) (hlen : (l ++ [46, 91, 93]).length ≤ 100000000) :
    Calls Tryz.prog 58 #[.pointer (some ⟨b, 0, none⟩), .agg #[.int .i64 4, .string nm, .int .i64 pl, .slice aC MC cC, .slice aK MK cK, .slice aI M cI]] w fun e w' => e = .returned (.tuple #[]) ∧ GF B b F (l ++ [46, 91, 93]) w' ∧ Below B w w' ∧ Beside b w w' := by
  have z0 := hp.hB
  have hbl := hg.lt
  obtain ⟨W1, hW1⟩ : ∃ W1, w.alloc (.cells #[.int .i64 4, .string nm, .int .i64 pl, .slice aC MC cC, .slice aK MK cK, .slice aI M cI] 51) = W1 := ⟨_, rfl⟩
  have HW1 := hideB hW1
  have HX : Hid (W1.heap[w.heap.size]? = some (.cells #[.int .i64 4, .string nm, .int .i64 pl, .slice aC MC cC, .slice aK MK cK, .slice aI M cI] 51 (0, 0))) := by rw [Hid, ← hW1]; exact heap_alloc_new w _
  have HG : Hid (GF B b F l W1) := by rw [Hid, ← hW1]; exact hg.alloc _
  have HBX : Hid (Below B w W1) := by rw [Hid, ← hW1]; exact (Below.refl _ _).alloc z0 _
  have HKX : Hid (Beside b w W1) := by rw [Hid, ← hW1]; exact Beside.alloc _ _ _
  have HP := hideB hp
  have z1 : B ≤ W1.heap.size := Nat.le_trans z0 HBX.out.size
  have hl0 := hlen
  simp only [List.length_append, List.length_cons, List.length_nil, len_is] at hl0
  have HLEN := hideB hlen
  clear hg hp hW1 hlen
  go_enter Tryz.func58, Tryz.ntmps58
  go_wp2_with fail
  rw [HW1.out]
  refine (gb_text gt_filter HG.out ⟨#[46, 91, 93]⟩ (by show l.length + 3 ≤ _; omega) z1).mono ?_
  rintro e w1 ⟨rfl, f1, b1, k1⟩
  have HF1 := hideB f1
  have HB1 := hideB (HBX.out.trans b1)
  have HK1 := hideB (HKX.out.trans k1)
  have HX1 := hideB (box_kept k1 HX.out (by omega) (by decide))
  clear f1 b1 k1
  go_upto_region 21 with fail
  refine wp_region_lit ?_
  refine wpList_load_mid rfl 133 (.global 1) rfl 1 0 rfl wordC _ (HP.out.wd _ HB1.out) w_und rfl w_inf ?_
  obtain ⟨J, hJ⟩ : ∃ J, wordC.toArray = J := ⟨_, rfl⟩
  rw [hJ]
  have HJ := hideB hJ
  clear hJ
  go_wp2_with fail
  go_loopw [5, 84] (fun _ i wr => ∃ m : Nat, m ≤ 4 ∧ i = .int .i64 m ∧ Below w1.heap.size w1 wr) (fun _ i _ => 4 - (intOf i).toNat)
  case atStart => exact ⟨0, by omega, rfl, Below.refl _ _⟩
  case round =>
    obtain ⟨m, hm, rfl, hbr⟩ := hrel
    have HBR := hideB hbr
    have zr := hbr.size
    have x0 : wr.cell? ⟨w.heap.size, 0, none⟩ = some (.int .i64 4) := (below_cell hbr (lt_heap HX1.out)).trans (cellAt HX1.out (i := 0) rfl)
    have hx := lt_heap HX1.out
    clear hbr
    rcases (show m = 4 ∨ m < 4 by omega) with rfl | hlt
    · go_wp2_with fail
      go_end0
      exact ⟨rfl, HF1.out.keep HBR.out, HB1.out.trans (HBR.out.mono (by have := HF1.out.lt; have := HB1.out.size; omega)), HK1.out.trans (Beside.below HBR.out)⟩
    · obtain ⟨kk, sg, hix, hkk⟩ := wix_any HJ.out hlt
      have hin := wkF_in hlt
      rw [← hkk] at hin
      have hk2 : (kk == 4) = false := by simp; omega
      have hk3 : ¬ kk = 4 := by omega
      have hlt' : (m : Int) < 4 := by omega
      have hne : ¬ w.heap.size = wr.heap.size := by omega
      have hle : w.heap.size < wr.heap.size := by omega
      have HB9 := hideB (HBR.out.alloc zr (.cells #[.int .i64 kk, .string sg] 132))
      clear hkk hin
      go_wp2_with fail
      first
        | exact ⟨⟨m + 1, by omega, by go_num, HB9.out⟩, by simp [intOf]; omega⟩
        | (go_roundw
           case rel => exact ⟨m + 1, by omega, by go_num, HB9.out⟩
           case measure => simp [intOf]; omega)

set_option maxRecDepth 100000 in
set_option maxHeartbeats 6400000 in
theorem ww_k10 {B b : Nat} {F : Value} {fs : List FN} {nm : ByteArray} {pl : Int} {aC aK aI : Option Addr} {MC cC MK cK M cI : Nat} {kids : List Int} {q0 : Nat} {R0 : List UInt8} (hq0 : intAt kids 0 = q0) (hr0 : FwR B b F fs q0 1 R0) (hM : M = 1) (l : List UInt8) (w : World) (hk : KidsAt B w aI M kids) (hg : GF B b F l w) (hp : FwP B F fs w) (hlen : (l ++ ([115, 101, 108, 101, 99, 116, 40] ++ R0 ++ [41])).length ≤ 100000000) :
    Calls Tryz.prog 58 #[.pointer (some ⟨b, 0, none⟩), .agg #[.int .i64 10, .string nm, .int .i64 pl, .slice aC MC cC, .slice aK MK cK, .slice aI M cI]] w fun e w' => e = .returned (.tuple #[]) ∧ GF B b F (l ++ ([115, 101, 108, 101, 99, 116, 40] ++ R0 ++ [41])) w' ∧ Below B w w' ∧ Beside b w w' := by
  have z0 := hp.hB
  have hbl := hg.lt
  obtain ⟨W1, hW1⟩ : ∃ W1, w.alloc (.cells #[.int .i64 10, .string nm, .int .i64 pl, .slice aC MC cC, .slice aK MK cK, .slice aI M cI] 51) = W1 := ⟨_, rfl⟩
  have HW1 := hideB hW1
  have HX : Hid (W1.heap[w.heap.size]? = some (.cells #[.int .i64 10, .string nm, .int .i64 pl, .slice aC MC cC, .slice aK MK cK, .slice aI M cI] 51 (0, 0))) := by rw [Hid, ← hW1]; exact heap_alloc_new w _
  have HG : Hid (GF B b F l W1) := by rw [Hid, ← hW1]; exact hg.alloc _
  have HBX : Hid (Below B w W1) := by rw [Hid, ← hW1]; exact (Below.refl _ _).alloc z0 _
  have HKX : Hid (Beside b w W1) := by rw [Hid, ← hW1]; exact Beside.alloc _ _ _
  have HP := hideB hp
  have z1 : B ≤ W1.heap.size := Nat.le_trans z0 HBX.out.size
  have hl0 := hlen
  simp only [List.length_append, List.length_cons, List.length_nil, len_is] at hl0
  have HLEN := hideB hlen
  obtain ⟨_, hk⟩ := hk
  subst hM
  obtain ⟨bi, oi, rfl, hbi, hc⟩ := hk (by omega)
  have c0 := hc 0 (by omega)
  rw [hq0, Nat.add_zero] at c0
  have HC0 := hideB c0
  have HR0 := hideB hr0
  have hbz : bi < w.heap.size := by omega
  have hbn : ¬ bi = w.heap.size := by omega
  clear hk hc hr0 hq0
  clear hg hp hW1 hlen
  go_enter Tryz.func58, Tryz.ntmps58
  go_wp2_with fail
  rw [HW1.out]
  have HE : Hid (l ++ ([115, 101, 108, 101, 99, 116, 40] ++ R0 ++ [41]) = l ++ (⟨#[115, 101, 108, 101, 99, 116, 40]⟩ : ByteArray).data.toList ++ R0 ++ (⟨#[41]⟩ : ByteArray).data.toList) := by rw [Hid]; simp
  refine (writeAround_any HR0.out ⟨#[115, 101, 108, 101, 99, 116, 40]⟩ ⟨#[41]⟩ l W1 HG.out (HP.out.next HBX.out) (by rw [← HE.out]; exact HLEN.out)).mono ?_
  rintro e w1 ⟨rfl, f1, b1, k1⟩
  rw [← HE.out] at f1
  have HF1 := hideB f1
  have HB1 := hideB (HBX.out.trans b1)
  have HK1 := hideB (HKX.out.trans k1)
  have HX1 := hideB (box_kept k1 HX.out (by omega) (by decide))
  clear f1 b1 k1
  go_upto_region 21 with fail
  refine wp_region_lit ?_
  refine wpList_load_mid rfl 133 (.global 1) rfl 1 0 rfl wordC _ (HP.out.wd _ HB1.out) w_und rfl w_inf ?_
  obtain ⟨J, hJ⟩ : ∃ J, wordC.toArray = J := ⟨_, rfl⟩
  rw [hJ]
  have HJ := hideB hJ
  clear hJ
  go_wp2_with fail
  go_loopw [5, 84] (fun _ i wr => ∃ m : Nat, m ≤ 4 ∧ i = .int .i64 m ∧ Below w1.heap.size w1 wr) (fun _ i _ => 4 - (intOf i).toNat)
  case atStart => exact ⟨0, by omega, rfl, Below.refl _ _⟩
  case round =>
    obtain ⟨m, hm, rfl, hbr⟩ := hrel
    have HBR := hideB hbr
    have zr := hbr.size
    have x0 : wr.cell? ⟨w.heap.size, 0, none⟩ = some (.int .i64 10) := (below_cell hbr (lt_heap HX1.out)).trans (cellAt HX1.out (i := 0) rfl)
    have hx := lt_heap HX1.out
    clear hbr
    rcases (show m = 4 ∨ m < 4 by omega) with rfl | hlt
    · go_wp2_with fail
      go_end0
      exact ⟨rfl, HF1.out.keep HBR.out, HB1.out.trans (HBR.out.mono (by have := HF1.out.lt; have := HB1.out.size; omega)), HK1.out.trans (Beside.below HBR.out)⟩
    · obtain ⟨kk, sg, hix, hkk⟩ := wix_any HJ.out hlt
      have hin := wkF_in hlt
      rw [← hkk] at hin
      have hk2 : (kk == 10) = false := by simp; omega
      have hk3 : ¬ kk = 10 := by omega
      have hlt' : (m : Int) < 4 := by omega
      have hne : ¬ w.heap.size = wr.heap.size := by omega
      have hle : w.heap.size < wr.heap.size := by omega
      have HB9 := hideB (HBR.out.alloc zr (.cells #[.int .i64 kk, .string sg] 132))
      clear hkk hin
      go_wp2_with fail
      first
        | exact ⟨⟨m + 1, by omega, by go_num, HB9.out⟩, by simp [intOf]; omega⟩
        | (go_roundw
           case rel => exact ⟨m + 1, by omega, by go_num, HB9.out⟩
           case measure => simp [intOf]; omega)

set_option maxRecDepth 100000 in
set_option maxHeartbeats 6400000 in
theorem ww_k22 {B b : Nat} {F : Value} {fs : List FN} {nm : ByteArray} {pl : Int} {aC aK aI : Option Addr} {MC cC MK cK M cI : Nat} {kids : List Int} {q0 : Nat} {R0 : List UInt8} (hq0 : intAt kids 0 = q0) (hr0 : FwR B b F fs q0 1 R0) {q1 : Nat} {R1 : List UInt8} (hq1 : intAt kids 1 = q1) (hr1 : FwR B b F fs q1 1 R1) {q2 : Nat} {R2 : List UInt8} (hq2 : intAt kids 2 = q2) (hr2 : FwR B b F fs q2 1 R2) (hM : M = 3) (l : List UInt8) (w : World) (hk : KidsAt B w aI M kids) (hg : GF B b F l w) (hp : FwP B F fs w) (hlen : (l ++ ([105, 102, 32] ++ R0 ++ [32, 116, 104, 101, 110, 32] ++ R1 ++ [32, 101, 108, 115, 101, 32] ++ R2 ++ [32, 101, 110, 100])).length ≤ 100000000) :
    Calls Tryz.prog 58 #[.pointer (some ⟨b, 0, none⟩), .agg #[.int .i64 22, .string nm, .int .i64 pl, .slice aC MC cC, .slice aK MK cK, .slice aI M cI]] w fun e w' => e = .returned (.tuple #[]) ∧ GF B b F (l ++ ([105, 102, 32] ++ R0 ++ [32, 116, 104, 101, 110, 32] ++ R1 ++ [32, 101, 108, 115, 101, 32] ++ R2 ++ [32, 101, 110, 100])) w' ∧ Below B w w' ∧ Beside b w w' := by
  have z0 := hp.hB
  have hbl := hg.lt
  obtain ⟨W1, hW1⟩ : ∃ W1, w.alloc (.cells #[.int .i64 22, .string nm, .int .i64 pl, .slice aC MC cC, .slice aK MK cK, .slice aI M cI] 51) = W1 := ⟨_, rfl⟩
  have HW1 := hideB hW1
  have HX : Hid (W1.heap[w.heap.size]? = some (.cells #[.int .i64 22, .string nm, .int .i64 pl, .slice aC MC cC, .slice aK MK cK, .slice aI M cI] 51 (0, 0))) := by rw [Hid, ← hW1]; exact heap_alloc_new w _
  have HG : Hid (GF B b F l W1) := by rw [Hid, ← hW1]; exact hg.alloc _
  have HBX : Hid (Below B w W1) := by rw [Hid, ← hW1]; exact (Below.refl _ _).alloc z0 _
  have HKX : Hid (Beside b w W1) := by rw [Hid, ← hW1]; exact Beside.alloc _ _ _
  have HP := hideB hp
  have z1 : B ≤ W1.heap.size := Nat.le_trans z0 HBX.out.size
  have hl0 := hlen
  simp only [List.length_append, List.length_cons, List.length_nil, len_is] at hl0
  have HLEN := hideB hlen
  obtain ⟨_, hk⟩ := hk
  subst hM
  obtain ⟨bi, oi, rfl, hbi, hc⟩ := hk (by omega)
  have c0 := hc 0 (by omega)
  rw [hq0, Nat.add_zero] at c0
  have HC0 := hideB c0
  have HR0 := hideB hr0
  have c1 := hc 1 (by omega)
  rw [hq1] at c1
  have HC1 := hideB c1
  have HR1 := hideB hr1
  have c2 := hc 2 (by omega)
  rw [hq2] at c2
  have HC2 := hideB c2
  have HR2 := hideB hr2
  have hbz : bi < w.heap.size := by omega
  have hbn : ¬ bi = w.heap.size := by omega
  clear hk hc hr0 hq0 hr1 hq1 c1 hr2 hq2 c2
  clear hg hp hW1 hlen
  go_enter Tryz.func58, Tryz.ntmps58
  go_wp2_with fail
  rw [HW1.out]
  have HL3 := HLEN.out
  simp only [List.length_append, List.length_cons, List.length_nil, len_is] at HL3
  refine (writeAround_any HR0.out ⟨#[105, 102, 32]⟩ ⟨#[]⟩ l W1 HG.out (HP.out.next HBX.out) (by simp only [List.length_append, List.length_cons, List.length_nil]; omega)).mono ?_
  rintro e w3 ⟨rfl, f3, b3, k3⟩
  have HF3 := hideB f3
  have HB3 := hideB (HBX.out.trans b3)
  have HK3 := hideB (HKX.out.trans k3)
  have HX3 := hideB (box_kept k3 HX.out (by omega) (by decide))
  have x5 : w3.cell? ⟨w.heap.size, 5, none⟩ = some (.slice (some ⟨bi, oi, none⟩) 3 cI) := cellAt HX3.out (i := 5) rfl
  have d1 := (below_cell HB3.out hbi).trans HC1.out
  have hb3 := HF3.out.lt
  have hz3 := lt_heap HX3.out
  clear f3 b3 k3 c0
  go_wp2_with fail
  refine (writeAround_any HR1.out ⟨#[32, 116, 104, 101, 110, 32]⟩ ⟨#[]⟩ _ w3 HF3.out (HP.out.next HB3.out) (by simp only [List.length_append, List.length_cons, List.length_nil]; omega)).mono ?_
  rintro e w4 ⟨rfl, f4, b4, k4⟩
  have HF4 := hideB f4
  have HB4 := hideB (HB3.out.trans b4)
  have HK4 := hideB (HK3.out.trans k4)
  have HX4 := hideB (box_kept k4 HX3.out (by omega) (by decide))
  have y5 : w4.cell? ⟨w.heap.size, 5, none⟩ = some (.slice (some ⟨bi, oi, none⟩) 3 cI) := cellAt HX4.out (i := 5) rfl
  have d2 := (below_cell HB4.out hbi).trans HC2.out
  have hb4 := HF4.out.lt
  have hz4 := lt_heap HX4.out
  clear f4 b4 k4 x5 d1
  go_wp2_with fail
  refine (writeAround_any HR2.out ⟨#[32, 101, 108, 115, 101, 32]⟩ ⟨#[32, 101, 110, 100]⟩ _ w4 HF4.out (HP.out.next HB4.out) (by simp only [List.length_append, List.length_cons, List.length_nil]; omega)).mono ?_
  rintro e w1 ⟨rfl, f1, b1, k1⟩
  have HF1 : Hid (GF B b F (l ++ ([105, 102, 32] ++ R0 ++ [32, 116, 104, 101, 110, 32] ++ R1 ++ [32, 101, 108, 115, 101, 32] ++ R2 ++ [32, 101, 110, 100])) w1) := Eq.mp (congrArg (fun z => GF B b F z w1) (by simp)) f1
  have HB1 := hideB (HB4.out.trans b1)
  have HK1 := hideB (HK4.out.trans k1)
  have HX1 := hideB (box_kept k1 HX4.out (by omega) (by decide))
  clear f1 b1 k1 y5 d2
  go_upto_region 21 with fail
  refine wp_region_lit ?_
  refine wpList_load_mid rfl 133 (.global 1) rfl 1 0 rfl wordC _ (HP.out.wd _ HB1.out) w_und rfl w_inf ?_
  obtain ⟨J, hJ⟩ : ∃ J, wordC.toArray = J := ⟨_, rfl⟩
  rw [hJ]
  have HJ := hideB hJ
  clear hJ
  go_wp2_with fail
  go_loopw [5, 84] (fun _ i wr => ∃ m : Nat, m ≤ 4 ∧ i = .int .i64 m ∧ Below w1.heap.size w1 wr) (fun _ i _ => 4 - (intOf i).toNat)
  case atStart => exact ⟨0, by omega, rfl, Below.refl _ _⟩
  case round =>
    obtain ⟨m, hm, rfl, hbr⟩ := hrel
    have HBR := hideB hbr
    have zr := hbr.size
    have x0 : wr.cell? ⟨w.heap.size, 0, none⟩ = some (.int .i64 22) := (below_cell hbr (lt_heap HX1.out)).trans (cellAt HX1.out (i := 0) rfl)
    have hx := lt_heap HX1.out
    clear hbr
    rcases (show m = 4 ∨ m < 4 by omega) with rfl | hlt
    · go_wp2_with fail
      go_end0
      exact ⟨rfl, HF1.out.keep HBR.out, HB1.out.trans (HBR.out.mono (by have := HF1.out.lt; have := HB1.out.size; omega)), HK1.out.trans (Beside.below HBR.out)⟩
    · obtain ⟨kk, sg, hix, hkk⟩ := wix_any HJ.out hlt
      have hin := wkF_in hlt
      rw [← hkk] at hin
      have hk2 : (kk == 22) = false := by simp; omega
      have hk3 : ¬ kk = 22 := by omega
      have hlt' : (m : Int) < 4 := by omega
      have hne : ¬ w.heap.size = wr.heap.size := by omega
      have hle : w.heap.size < wr.heap.size := by omega
      have HB9 := hideB (HBR.out.alloc zr (.cells #[.int .i64 kk, .string sg] 132))
      clear hkk hin
      go_wp2_with fail
      first
        | exact ⟨⟨m + 1, by omega, by go_num, HB9.out⟩, by simp [intOf]; omega⟩
        | (go_roundw
           case rel => exact ⟨m + 1, by omega, by go_num, HB9.out⟩
           case measure => simp [intOf]; omega)

set_option maxRecDepth 100000 in
set_option maxHeartbeats 6400000 in
theorem ww_k1 {B b : Nat} {F : Value} {fs : List FN} {nm : ByteArray} {pl : Int} {aC aK aI : Option Addr} {MC cC MK cK M cI : Nat} (hnm : nm.size ≤ 60) (l : List UInt8) (w : World) (hg : GF B b F l w) (hp : FwP B F fs w) (hlen : (l ++ ([46] ++ nm.data.toList)).length ≤ 100000000) :
    Calls Tryz.prog 58 #[.pointer (some ⟨b, 0, none⟩), .agg #[.int .i64 1, .string nm, .int .i64 pl, .slice aC MC cC, .slice aK MK cK, .slice aI M cI]] w fun e w' => e = .returned (.tuple #[]) ∧ GF B b F (l ++ ([46] ++ nm.data.toList)) w' ∧ Below B w w' ∧ Beside b w w' := by
  have z0 := hp.hB
  have hbl := hg.lt
  obtain ⟨W1, hW1⟩ : ∃ W1, w.alloc (.cells #[.int .i64 1, .string nm, .int .i64 pl, .slice aC MC cC, .slice aK MK cK, .slice aI M cI] 51) = W1 := ⟨_, rfl⟩
  have HW1 := hideB hW1
  have HX : Hid (W1.heap[w.heap.size]? = some (.cells #[.int .i64 1, .string nm, .int .i64 pl, .slice aC MC cC, .slice aK MK cK, .slice aI M cI] 51 (0, 0))) := by rw [Hid, ← hW1]; exact heap_alloc_new w _
  have HG : Hid (GF B b F l W1) := by rw [Hid, ← hW1]; exact hg.alloc _
  have HBX : Hid (Below B w W1) := by rw [Hid, ← hW1]; exact (Below.refl _ _).alloc z0 _
  have HKX : Hid (Beside b w W1) := by rw [Hid, ← hW1]; exact Beside.alloc _ _ _
  have HP := hideB hp
  have z1 : B ≤ W1.heap.size := Nat.le_trans z0 HBX.out.size
  have hl0 := hlen
  simp only [List.length_append, List.length_cons, List.length_nil, len_is] at hl0
  have HLEN := hideB hlen
  obtain ⟨KY, hKY⟩ : ∃ KY : ByteArray, (⟨#[46]⟩ : ByteArray) ++ nm = KY := ⟨_, rfl⟩
  have HEQ : Hid (l ++ KY.data.toList = l ++ ([46] ++ nm.data.toList)) := by rw [Hid, ← hKY]; simp
  have hkz : l.length + KY.size ≤ 1000000000 := by
    have : KY.size = 1 + nm.size := by rw [← hKY, ByteArray.size_append]; rfl
    omega
  have g1 : ¬ 9223372036854775807 < 1 + nm.size := by omega
  have x1 : W1.cell? ⟨w.heap.size, 1, none⟩ = some (.string nm) := cellAt HX.out (i := 1) rfl
  have HT := hideB (gb_text gt_filter HG.out.drew KY hkz (by simp; omega))
  clear hg hp hW1 hlen
  go_enter Tryz.func58, Tryz.ntmps58
  go_wp2_with fail
  rw [HW1.out]
  go_region_held3 (fun w' => w'.cell? ⟨w.heap.size, 1, none⟩ = some (.string nm))
    (first | exact cellAt (box_kept k1 HX.out (by omega) (by decide)) (i := 1) rfl | exact x1)
    (first
      | (go_at_call 92; refine HT.out.mono ?_; rintro e w1 ⟨rfl, f1, b1, k1⟩))
  have HF1 : Hid (GF B b F (l ++ ([46] ++ nm.data.toList)) w1) := by rw [Hid, ← HEQ.out]; exact f1
  have HB1 := hideB (HBX.out.trans ((Below.drew (Below.refl _ _)).trans b1))
  have HK1 := hideB (HKX.out.trans (show Beside b W1 w1 from k1))
  have HX1 := hideB (box_kept k1 HX.out (by omega) (by decide))
  clear f1 b1 k1 x1
  go_upto_region 21 with fail
  refine wp_region_lit ?_
  refine wpList_load_mid rfl 133 (.global 1) rfl 1 0 rfl wordC _ (HP.out.wd _ HB1.out) w_und rfl w_inf ?_
  obtain ⟨J, hJ⟩ : ∃ J, wordC.toArray = J := ⟨_, rfl⟩
  rw [hJ]
  have HJ := hideB hJ
  clear hJ
  go_wp2_with fail
  go_loopw [5, 84] (fun _ i wr => ∃ m : Nat, m ≤ 4 ∧ i = .int .i64 m ∧ Below w1.heap.size w1 wr) (fun _ i _ => 4 - (intOf i).toNat)
  case atStart => exact ⟨0, by omega, rfl, Below.refl _ _⟩
  case round =>
    obtain ⟨m, hm, rfl, hbr⟩ := hrel
    have HBR := hideB hbr
    have zr := hbr.size
    have x0 : wr.cell? ⟨w.heap.size, 0, none⟩ = some (.int .i64 1) := (below_cell hbr (lt_heap HX1.out)).trans (cellAt HX1.out (i := 0) rfl)
    have hx := lt_heap HX1.out
    clear hbr
    rcases (show m = 4 ∨ m < 4 by omega) with rfl | hlt
    · go_wp2_with fail
      go_end0
      exact ⟨rfl, HF1.out.keep HBR.out, HB1.out.trans (HBR.out.mono (by have := HF1.out.lt; have := HB1.out.size; omega)), HK1.out.trans (Beside.below HBR.out)⟩
    · obtain ⟨kk, sg, hix, hkk⟩ := wix_any HJ.out hlt
      have hin := wkF_in hlt
      rw [← hkk] at hin
      have hk2 : (kk == 1) = false := by simp; omega
      have hk3 : ¬ kk = 1 := by omega
      have hlt' : (m : Int) < 4 := by omega
      have hne : ¬ w.heap.size = wr.heap.size := by omega
      have hle : w.heap.size < wr.heap.size := by omega
      have HB9 := hideB (HBR.out.alloc zr (.cells #[.int .i64 kk, .string sg] 132))
      clear hkk hin
      go_wp2_with fail
      first
        | exact ⟨⟨m + 1, by omega, by go_num, HB9.out⟩, by simp [intOf]; omega⟩
        | (go_roundw
           case rel => exact ⟨m + 1, by omega, by go_num, HB9.out⟩
           case measure => simp [intOf]; omega)

set_option maxRecDepth 100000 in
set_option maxHeartbeats 6400000 in
theorem ww_k2 {B b : Nat} {F : Value} {fs : List FN} {nm : ByteArray} {pl : Int} {aC aK aI : Option Addr} {MC cC MK cK M cI : Nat} (hnm : nm.size ≤ 60) (l : List UInt8) (w : World) (hg : GF B b F l w) (hp : FwP B F fs w) (hlen : (l ++ ([46] ++ nm.data.toList)).length ≤ 100000000) :
    Calls Tryz.prog 58 #[.pointer (some ⟨b, 0, none⟩), .agg #[.int .i64 2, .string nm, .int .i64 pl, .slice aC MC cC, .slice aK MK cK, .slice aI M cI]] w fun e w' => e = .returned (.tuple #[]) ∧ GF B b F (l ++ ([46] ++ nm.data.toList)) w' ∧ Below B w w' ∧ Beside b w w' := by
  have z0 := hp.hB
  have hbl := hg.lt
  obtain ⟨W1, hW1⟩ : ∃ W1, w.alloc (.cells #[.int .i64 2, .string nm, .int .i64 pl, .slice aC MC cC, .slice aK MK cK, .slice aI M cI] 51) = W1 := ⟨_, rfl⟩
  have HW1 := hideB hW1
  have HX : Hid (W1.heap[w.heap.size]? = some (.cells #[.int .i64 2, .string nm, .int .i64 pl, .slice aC MC cC, .slice aK MK cK, .slice aI M cI] 51 (0, 0))) := by rw [Hid, ← hW1]; exact heap_alloc_new w _
  have HG : Hid (GF B b F l W1) := by rw [Hid, ← hW1]; exact hg.alloc _
  have HBX : Hid (Below B w W1) := by rw [Hid, ← hW1]; exact (Below.refl _ _).alloc z0 _
  have HKX : Hid (Beside b w W1) := by rw [Hid, ← hW1]; exact Beside.alloc _ _ _
  have HP := hideB hp
  have z1 : B ≤ W1.heap.size := Nat.le_trans z0 HBX.out.size
  have hl0 := hlen
  simp only [List.length_append, List.length_cons, List.length_nil, len_is] at hl0
  have HLEN := hideB hlen
  obtain ⟨KY, hKY⟩ : ∃ KY : ByteArray, (⟨#[46]⟩ : ByteArray) ++ nm = KY := ⟨_, rfl⟩
  have HEQ : Hid (l ++ KY.data.toList = l ++ ([46] ++ nm.data.toList)) := by rw [Hid, ← hKY]; simp
  have hkz : l.length + KY.size ≤ 1000000000 := by
    have : KY.size = 1 + nm.size := by rw [← hKY, ByteArray.size_append]; rfl
    omega
  have g1 : ¬ 9223372036854775807 < 1 + nm.size := by omega
  have x1 : W1.cell? ⟨w.heap.size, 1, none⟩ = some (.string nm) := cellAt HX.out (i := 1) rfl
  have HT := hideB (gb_text gt_filter HG.out.drew KY hkz (by simp; omega))
  clear hg hp hW1 hlen
  go_enter Tryz.func58, Tryz.ntmps58
  go_wp2_with fail
  rw [HW1.out]
  go_region_held3 (fun w' => w'.cell? ⟨w.heap.size, 1, none⟩ = some (.string nm))
    (first | exact cellAt (box_kept k1 HX.out (by omega) (by decide)) (i := 1) rfl | exact x1)
    (first
      | (go_at_call 92; refine HT.out.mono ?_; rintro e w1 ⟨rfl, f1, b1, k1⟩))
  have HF1 : Hid (GF B b F (l ++ ([46] ++ nm.data.toList)) w1) := by rw [Hid, ← HEQ.out]; exact f1
  have HB1 := hideB (HBX.out.trans ((Below.drew (Below.refl _ _)).trans b1))
  have HK1 := hideB (HKX.out.trans (show Beside b W1 w1 from k1))
  have HX1 := hideB (box_kept k1 HX.out (by omega) (by decide))
  clear f1 b1 k1 x1
  go_upto_region 21 with fail
  refine wp_region_lit ?_
  refine wpList_load_mid rfl 133 (.global 1) rfl 1 0 rfl wordC _ (HP.out.wd _ HB1.out) w_und rfl w_inf ?_
  obtain ⟨J, hJ⟩ : ∃ J, wordC.toArray = J := ⟨_, rfl⟩
  rw [hJ]
  have HJ := hideB hJ
  clear hJ
  go_wp2_with fail
  go_loopw [5, 84] (fun _ i wr => ∃ m : Nat, m ≤ 4 ∧ i = .int .i64 m ∧ Below w1.heap.size w1 wr) (fun _ i _ => 4 - (intOf i).toNat)
  case atStart => exact ⟨0, by omega, rfl, Below.refl _ _⟩
  case round =>
    obtain ⟨m, hm, rfl, hbr⟩ := hrel
    have HBR := hideB hbr
    have zr := hbr.size
    have x0 : wr.cell? ⟨w.heap.size, 0, none⟩ = some (.int .i64 2) := (below_cell hbr (lt_heap HX1.out)).trans (cellAt HX1.out (i := 0) rfl)
    have hx := lt_heap HX1.out
    clear hbr
    rcases (show m = 4 ∨ m < 4 by omega) with rfl | hlt
    · go_wp2_with fail
      go_end0
      exact ⟨rfl, HF1.out.keep HBR.out, HB1.out.trans (HBR.out.mono (by have := HF1.out.lt; have := HB1.out.size; omega)), HK1.out.trans (Beside.below HBR.out)⟩
    · obtain ⟨kk, sg, hix, hkk⟩ := wix_any HJ.out hlt
      have hin := wkF_in hlt
      rw [← hkk] at hin
      have hk2 : (kk == 2) = false := by simp; omega
      have hk3 : ¬ kk = 2 := by omega
      have hlt' : (m : Int) < 4 := by omega
      have hne : ¬ w.heap.size = wr.heap.size := by omega
      have hle : w.heap.size < wr.heap.size := by omega
      have HB9 := hideB (HBR.out.alloc zr (.cells #[.int .i64 kk, .string sg] 132))
      clear hkk hin
      go_wp2_with fail
      first
        | exact ⟨⟨m + 1, by omega, by go_num, HB9.out⟩, by simp [intOf]; omega⟩
        | (go_roundw
           case rel => exact ⟨m + 1, by omega, by go_num, HB9.out⟩
           case measure => simp [intOf]; omega)
end Go.Proofs.YtehihemfepbmfaaGreatDoor
