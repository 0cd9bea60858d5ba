/-
  The program's filterWriter: writeWhole at lists and maps.
-/
import Derived.Test.YtehihemfepbmfaaGreatDoorIFy
namespace Go.Proofs.YtehihemfepbmfaaGreatDoor
open Go.RowKit
set_option linter.unusedSimpArgs false
set_option linter.unusedVariables false

set_option maxRecDepth 100000 in
set_option maxHeartbeats 6400000 in
theorem ww_k8 {B b : Nat} {F : Value} {fs : List FN} {nm : ByteArray} {pl : Int} {aC aK aI : Option Addr} {MC cC MK cK M cI : Nat} {kids : List Int} {R0 : List UInt8} (hM : M ≤ 1) (hR : 0 < M → ∃ q : Nat, intAt kids 0 = q ∧ FwR B b F fs q 1 R0) (l : List UInt8) (w : World) (hk : KidsAt B w aI M kids) (hg : GF B b F l w) (hp : FwP B F fs w) (hlen : (l ++ ([91] ++ (if M = 0 then [] else R0) ++ [93])).length ≤ 100000000) :
    Calls Tryz.prog 58 #[.pointer (some ⟨b, 0, none⟩), .agg #[.int .i64 8, .string nm, .int .i64 pl, .slice aC MC cC, .slice aK MK cK, .slice aI M cI]] w fun e w' => e = .returned (.tuple #[]) ∧ GF B b F (l ++ ([91] ++ (if M = 0 then [] else R0) ++ [93])) w' ∧ Below B w w' ∧ Beside b w w' := by
  have z0 := hp.hB
  have hbl := hg.lt
  obtain ⟨W1, hW1⟩ : ∃ W1, w.alloc (.cells #[.int .i64 8, .string nm, .int .i64 pl, .slice aC MC cC, .slice aK MK cK, .slice aI M cI] 51) = W1 := ⟨_, rfl⟩
  have HW1 := hideB hW1
  have HX : Hid (W1.heap[w.heap.size]? = some (.cells #[.int .i64 8, .string nm, .int .i64 pl, .slice aC MC cC, .slice aK MK cK, .slice aI M cI] 51 (0, 0))) := by rw [Hid, ← hW1]; exact heap_alloc_new w _
  have HG : Hid (GF B b F l W1) := by rw [Hid, ← hW1]; exact hg.alloc _
  have HBX : Hid (Below B w W1) := by rw [Hid, ← hW1]; exact (Below.refl _ _).alloc z0 _
  have HKX : Hid (Beside b w W1) := by rw [Hid, ← hW1]; exact Beside.alloc _ _ _
  have HP := hideB hp
  have z1 : B ≤ W1.heap.size := Nat.le_trans z0 HBX.out.size
  have hl0 := hlen
  simp only [List.length_append, List.length_cons, List.length_nil, len_is] at hl0
  have HLEN := hideB hlen
  have hk1 : KidsAt B W1 aI M kids := ⟨hk.1, fun h0 => by
    obtain ⟨bi, oi, e, hbi, hc⟩ := hk.2 h0
    exact ⟨bi, oi, e, hbi, fun i hi => (below_cell HBX.out hbi).trans (hc i hi)⟩⟩
  have HT := hideB (writeList_any (cap := cI) hM hR l W1 hk1 HG.out (HP.out.next HBX.out) hlen)
  obtain ⟨SS, hSS⟩ : ∃ SS, ([91] ++ (if M = 0 then [] else R0) ++ [93]) = SS := ⟨_, rfl⟩
  rw [hSS] at HT HLEN ⊢
  clear hk hk1 hR hl0 hSS
  clear hg hp hW1 hlen
  go_enter Tryz.func58, Tryz.ntmps58
  go_wp2_with fail
  rw [HW1.out]
  refine HT.out.mono ?_
  rintro e w1 ⟨rfl, f1, b1, k1⟩
  have HF1 := hideB f1
  have HB1 := hideB (HBX.out.trans b1)
  have HK1 := hideB (HKX.out.trans k1)
  have HX1 := hideB (box_kept k1 HX.out (by omega) (by decide))
  clear f1 b1 k1
  go_upto_region 21 with fail
  refine wp_region_lit ?_
  refine wpList_load_mid rfl 133 (.global 1) rfl 1 0 rfl wordC _ (HP.out.wd _ HB1.out) w_und rfl w_inf ?_
  obtain ⟨J, hJ⟩ : ∃ J, wordC.toArray = J := ⟨_, rfl⟩
  rw [hJ]
  have HJ := hideB hJ
  clear hJ
  go_wp2_with fail
  go_loopw [5, 84] (fun _ i wr => ∃ m : Nat, m ≤ 4 ∧ i = .int .i64 m ∧ Below w1.heap.size w1 wr) (fun _ i _ => 4 - (intOf i).toNat)
  case atStart => exact ⟨0, by omega, rfl, Below.refl _ _⟩
  case round =>
    obtain ⟨m, hm, rfl, hbr⟩ := hrel
    have HBR := hideB hbr
    have zr := hbr.size
    have x0 : wr.cell? ⟨w.heap.size, 0, none⟩ = some (.int .i64 8) := (below_cell hbr (lt_heap HX1.out)).trans (cellAt HX1.out (i := 0) rfl)
    have hx := lt_heap HX1.out
    clear hbr
    rcases (show m = 4 ∨ m < 4 by omega) with rfl | hlt
    · go_wp2_with fail
      go_end0
      exact ⟨rfl, HF1.out.keep HBR.out, HB1.out.trans (HBR.out.mono (by have := HF1.out.lt; have := HB1.out.size; omega)), HK1.out.trans (Beside.below HBR.out)⟩
    · obtain ⟨kk, sg, hix, hkk⟩ := wix_any HJ.out hlt
      have hin := wkF_in hlt
      rw [← hkk] at hin
      have hk2 : (kk == 8) = false := by simp; omega
      have hk3 : ¬ kk = 8 := by omega
      have hlt' : (m : Int) < 4 := by omega
      have hne : ¬ w.heap.size = wr.heap.size := by omega
      have hle : w.heap.size < wr.heap.size := by omega
      have HB9 := hideB (HBR.out.alloc zr (.cells #[.int .i64 kk, .string sg] 132))
      clear hkk hin
      go_wp2_with fail
      first
        | exact ⟨⟨m + 1, by omega, by go_num, HB9.out⟩, by simp [intOf]; omega⟩
        | (go_roundw
           case rel => exact ⟨m + 1, by omega, by go_num, HB9.out⟩
           case measure => simp [intOf]; omega)

set_option maxRecDepth 100000 in
set_option maxHeartbeats 6400000 in
theorem ww_k9 {B b : Nat} {F : Value} {fs : List FN} {nm : ByteArray} {pl : Int} {aC aK aI : Option Addr} {MC cC cK M cI : Nat} {names : List ByteArray} {kids : List Int} {R : Int → Int → List UInt8} (hM5 : M ≤ 5) (hN : ∀ j, j < M → (keyAt names j).size ≤ 60) (hR : ∀ j, j < M → ∃ q : Nat, intAt kids j = q ∧ FwR B b F fs q 3 (R (intAt kids j) 3)) (l : List UInt8) (w : World) (hk : KidsAt B w aI M kids) (hn : 0 < M → ∃ b o, aK = some ⟨b, o, none⟩ ∧ b < B ∧ ∀ i, i < M → w.cell? ⟨b, o + i, none⟩ = some (.string (keyAt names i))) (hg : GF B b F l w) (hp : FwP B F fs w) (hlen : (l ++ ([123] ++ rowF R names kids M ++ [125])).length ≤ 100000000) :
    Calls Tryz.prog 58 #[.pointer (some ⟨b, 0, none⟩), .agg #[.int .i64 9, .string nm, .int .i64 pl, .slice aC MC cC, .slice aK M cK, .slice aI M cI]] w fun e w' => e = .returned (.tuple #[]) ∧ GF B b F (l ++ ([123] ++ rowF R names kids M ++ [125])) w' ∧ Below B w w' ∧ Beside b w w' := by
  have z0 := hp.hB
  have hbl := hg.lt
  obtain ⟨W1, hW1⟩ : ∃ W1, w.alloc (.cells #[.int .i64 9, .string nm, .int .i64 pl, .slice aC MC cC, .slice aK M cK, .slice aI M cI] 51) = W1 := ⟨_, rfl⟩
  have HW1 := hideB hW1
  have HX : Hid (W1.heap[w.heap.size]? = some (.cells #[.int .i64 9, .string nm, .int .i64 pl, .slice aC MC cC, .slice aK M cK, .slice aI M cI] 51 (0, 0))) := by rw [Hid, ← hW1]; exact heap_alloc_new w _
  have HG : Hid (GF B b F l W1) := by rw [Hid, ← hW1]; exact hg.alloc _
  have HBX : Hid (Below B w W1) := by rw [Hid, ← hW1]; exact (Below.refl _ _).alloc z0 _
  have HKX : Hid (Beside b w W1) := by rw [Hid, ← hW1]; exact Beside.alloc _ _ _
  have HP := hideB hp
  have z1 : B ≤ W1.heap.size := Nat.le_trans z0 HBX.out.size
  have hl0 := hlen
  simp only [List.length_append, List.length_cons, List.length_nil, len_is] at hl0
  have HLEN := hideB hlen
  have hk1 : KidsAt B W1 aI M kids := ⟨hk.1, fun h0 => by
    obtain ⟨bi, oi, e, hbi, hc⟩ := hk.2 h0
    exact ⟨bi, oi, e, hbi, fun i hi => (below_cell HBX.out hbi).trans (hc i hi)⟩⟩
  have hn1 : 0 < M → ∃ b o, aK = some ⟨b, o, none⟩ ∧ b < B ∧ ∀ i, i < M → W1.cell? ⟨b, o + i, none⟩ = some (.string (keyAt names i)) := fun h0 => by
    obtain ⟨bi, oi, e, hbi, hc⟩ := hn h0
    exact ⟨bi, oi, e, hbi, fun i hi => (below_cell HBX.out hbi).trans (hc i hi)⟩
  have HE : Hid (l ++ ([123] ++ rowF R names kids M ++ [125]) = l ++ [123] ++ rowF R names kids M ++ [125]) := by rw [Hid]; simp
  have HT := hideB (writeMap_any (cK := cK) (cI := cI) (kk := 9) (pl := pl) (nm := nm) (aC := aC) (MC := MC) (cC := cC) hM5 hN hR l W1 hk1 hn1 HG.out (HP.out.next HBX.out) (by rw [← HE.out]; exact hlen))
  obtain ⟨SS, hSS⟩ : ∃ SS, ([123] ++ rowF R names kids M ++ [125]) = SS := ⟨_, rfl⟩
  rw [← HE.out, hSS] at HT
  rw [hSS] at HLEN ⊢
  clear hk hk1 hn hn1 hN hR hl0 hSS HE
  clear hg hp hW1 hlen
  go_enter Tryz.func58, Tryz.ntmps58
  go_wp2_with fail
  rw [HW1.out]
  refine HT.out.mono ?_
  rintro e w1 ⟨rfl, f1, b1, k1⟩
  have HF1 := hideB f1
  have HB1 := hideB (HBX.out.trans b1)
  have HK1 := hideB (HKX.out.trans k1)
  have HX1 := hideB (box_kept k1 HX.out (by omega) (by decide))
  clear f1 b1 k1
  go_upto_region 21 with fail
  refine wp_region_lit ?_
  refine wpList_load_mid rfl 133 (.global 1) rfl 1 0 rfl wordC _ (HP.out.wd _ HB1.out) w_und rfl w_inf ?_
  obtain ⟨J, hJ⟩ : ∃ J, wordC.toArray = J := ⟨_, rfl⟩
  rw [hJ]
  have HJ := hideB hJ
  clear hJ
  go_wp2_with fail
  go_loopw [5, 84] (fun _ i wr => ∃ m : Nat, m ≤ 4 ∧ i = .int .i64 m ∧ Below w1.heap.size w1 wr) (fun _ i _ => 4 - (intOf i).toNat)
  case atStart => exact ⟨0, by omega, rfl, Below.refl _ _⟩
  case round =>
    obtain ⟨m, hm, rfl, hbr⟩ := hrel
    have HBR := hideB hbr
    have zr := hbr.size
    have x0 : wr.cell? ⟨w.heap.size, 0, none⟩ = some (.int .i64 9) := (below_cell hbr (lt_heap HX1.out)).trans (cellAt HX1.out (i := 0) rfl)
    have hx := lt_heap HX1.out
    clear hbr
    rcases (show m = 4 ∨ m < 4 by omega) with rfl | hlt
    · go_wp2_with fail
      go_end0
      exact ⟨rfl, HF1.out.keep HBR.out, HB1.out.trans (HBR.out.mono (by have := HF1.out.lt; have := HB1.out.size; omega)), HK1.out.trans (Beside.below HBR.out)⟩
    · obtain ⟨kk, sg, hix, hkk⟩ := wix_any HJ.out hlt
      have hin := wkF_in hlt
      rw [← hkk] at hin
      have hk2 : (kk == 9) = false := by simp; omega
      have hk3 : ¬ kk = 9 := by omega
      have hlt' : (m : Int) < 4 := by omega
      have hne : ¬ w.heap.size = wr.heap.size := by omega
      have hle : w.heap.size < wr.heap.size := by omega
      have HB9 := hideB (HBR.out.alloc zr (.cells #[.int .i64 kk, .string sg] 132))
      clear hkk hin
      go_wp2_with fail
      first
        | exact ⟨⟨m + 1, by omega, by go_num, HB9.out⟩, by simp [intOf]; omega⟩
        | (go_roundw
           case rel => exact ⟨m + 1, by omega, by go_num, HB9.out⟩
           case measure => simp [intOf]; omega)
end Go.Proofs.YtehihemfepbmfaaGreatDoor

/-
  The program's filterWriter: writeWhole at places.
-/
namespace Go.Proofs.YtehihemfepbmfaaGreatDoor
open Go.RowKit
set_option linter.unusedSimpArgs false
set_option linter.unusedVariables false

set_option maxRecDepth 100000 in
set_option maxHeartbeats 6400000 in
theorem ww_k3 {B b : Nat} {F : Value} {fs : List FN} {nm : ByteArray} {pl : Int} {aC aK aI : Option Addr} {MC cC MK cK M cI : Nat} (hp0 : -80 ≤ pl) (hp1 : pl ≤ 80) (l : List UInt8) (w : World) (hg : GF B b F l w) (hp : FwP B F fs w) (hlen : (l ++ ([46, 91] ++ Lib.itoa pl ++ [93])).length ≤ 100000000) :
    Calls Tryz.prog 58 #[.pointer (some ⟨b, 0, none⟩), .agg #[.int .i64 3, .string nm, .int .i64 pl, .slice aC MC cC, .slice aK MK cK, .slice aI M cI]] w fun e w' => e = .returned (.tuple #[]) ∧ GF B b F (l ++ ([46, 91] ++ Lib.itoa pl ++ [93])) w' ∧ Below B w w' ∧ Beside b w w' := by
  have z0 := hp.hB
  have hbl := hg.lt
  obtain ⟨W1, hW1⟩ : ∃ W1, w.alloc (.cells #[.int .i64 3, .string nm, .int .i64 pl, .slice aC MC cC, .slice aK MK cK, .slice aI M cI] 51) = W1 := ⟨_, rfl⟩
  have HW1 := hideB hW1
  have HX : Hid (W1.heap[w.heap.size]? = some (.cells #[.int .i64 3, .string nm, .int .i64 pl, .slice aC MC cC, .slice aK MK cK, .slice aI M cI] 51 (0, 0))) := by rw [Hid, ← hW1]; exact heap_alloc_new w _
  have HG : Hid (GF B b F l W1) := by rw [Hid, ← hW1]; exact hg.alloc _
  have HBX : Hid (Below B w W1) := by rw [Hid, ← hW1]; exact (Below.refl _ _).alloc z0 _
  have HKX : Hid (Beside b w W1) := by rw [Hid, ← hW1]; exact Beside.alloc _ _ _
  have HP := hideB hp
  have z1 : B ≤ W1.heap.size := Nat.le_trans z0 HBX.out.size
  have hl0 := hlen
  simp only [List.length_append, List.length_cons, List.length_nil, len_is] at hl0
  have HLEN := hideB hlen
  have hil := Lib.itoa_length_le pl (by omega) (by omega)
  have CI := hideB (fun w h => formatInt_any pl (by omega) (by omega) w h)
  obtain ⟨D, hD⟩ : ∃ D, Lib.itoa pl = D := ⟨_, rfl⟩
  rw [hD] at CI hil hl0 HLEN ⊢
  clear hD
  obtain ⟨KY, hKY⟩ : ∃ KY : ByteArray, (⟨#[46, 91]⟩ : ByteArray) ++ ⟨D.toArray⟩ ++ ⟨#[93]⟩ = KY := ⟨_, rfl⟩
  have HEQ : Hid (l ++ KY.data.toList = l ++ ([46, 91] ++ D ++ [93])) := by rw [Hid, ← hKY]; simp
  have hkz : l.length + KY.size ≤ 1000000000 := by
    have : KY.size = D.length + 3 := by rw [← hKY, ByteArray.size_append, ByteArray.size_append]; show 2 + D.toArray.size + 1 = _; simp; omega
    omega
  have hds : (⟨D.toArray⟩ : ByteArray).size ≤ 30 := by show D.toArray.size ≤ 30; simp; omega
  have g1 : ¬ 9223372036854775807 < 2 + (⟨D.toArray⟩ : ByteArray).size := by omega
  have g2 : ¬ 9223372036854775807 < 2 + (⟨D.toArray⟩ : ByteArray).size + 1 := by omega
  have g3 : ¬ 9223372036854775807 < 2 + D.length := by omega
  have g4 : ¬ 9223372036854775807 < 2 + D.length + 1 := by omega
  have x2 : W1.cell? ⟨w.heap.size, 2, none⟩ = some (.int .i64 pl) := cellAt HX.out (i := 2) rfl
  have HTAB := hideB HP.out.tab
  clear hg hp hW1 hlen
  go_enter Tryz.func58, Tryz.ntmps58
  go_wp2_with fail
  rw [HW1.out]
  go_region_held3 (fun w' => w'.cell? ⟨w.heap.size, 2, none⟩ = some (.int .i64 pl))
    (first | exact cellAt (box_kept k1 HX9 (by omega) (by decide)) (i := 2) rfl | exact cellAt HX9 (i := 2) rfl | exact x2)
    (first
      | (go_at_call 92; refine (gb_text gt_filter HF9 KY hkz (by omega)).mono ?_; rintro e w1 ⟨rfl, f1, b1, k1⟩)
      | (go_at_call 93; refine (CI.out _ (HTAB.out _ (Below.drew HBX.out))).mono ?_; rintro e w9 ⟨rfl, b9⟩; have HX9 := (b9.block _ (lt_heap HX.out)).trans HX.out; have HF9 := HG.out.drew.keep b9; have z9 : W1.heap.size ≤ w9.heap.size := b9.size))
  have HF1 : Hid (GF B b F (l ++ ([46, 91] ++ D ++ [93])) w1) := by rw [Hid, ← HEQ.out]; exact f1
  have HB1 := hideB (HBX.out.trans (((Below.drew (Below.refl _ _)).trans (b9.mono z1)).trans b1))
  have HK1 := hideB (HKX.out.trans ((show Beside b W1 w9 from (Beside.below b9 : Beside b W1.drew w9)).trans k1))
  have HX1 := hideB (box_kept k1 HX9 (by omega) (by decide))
  clear f1 b1 k1 x2 b9 HX9 HF9 z9
  go_upto_region 21 with fail
  refine wp_region_lit ?_
  refine wpList_load_mid rfl 133 (.global 1) rfl 1 0 rfl wordC _ (HP.out.wd _ HB1.out) w_und rfl w_inf ?_
  obtain ⟨J, hJ⟩ : ∃ J, wordC.toArray = J := ⟨_, rfl⟩
  rw [hJ]
  have HJ := hideB hJ
  clear hJ
  go_wp2_with fail
  go_loopw [5, 84] (fun _ i wr => ∃ m : Nat, m ≤ 4 ∧ i = .int .i64 m ∧ Below w1.heap.size w1 wr) (fun _ i _ => 4 - (intOf i).toNat)
  case atStart => exact ⟨0, by omega, rfl, Below.refl _ _⟩
  case round =>
    obtain ⟨m, hm, rfl, hbr⟩ := hrel
    have HBR := hideB hbr
    have zr := hbr.size
    have x0 : wr.cell? ⟨w.heap.size, 0, none⟩ = some (.int .i64 3) := (below_cell hbr (lt_heap HX1.out)).trans (cellAt HX1.out (i := 0) rfl)
    have hx := lt_heap HX1.out
    clear hbr
    rcases (show m = 4 ∨ m < 4 by omega) with rfl | hlt
    · go_wp2_with fail
      go_end0
      exact ⟨rfl, HF1.out.keep HBR.out, HB1.out.trans (HBR.out.mono (by have := HF1.out.lt; have := HB1.out.size; omega)), HK1.out.trans (Beside.below HBR.out)⟩
    · obtain ⟨kk, sg, hix, hkk⟩ := wix_any HJ.out hlt
      have hin := wkF_in hlt
      rw [← hkk] at hin
      have hk2 : (kk == 3) = false := by simp; omega
      have hk3 : ¬ kk = 3 := by omega
      have hlt' : (m : Int) < 4 := by omega
      have hne : ¬ w.heap.size = wr.heap.size := by omega
      have hle : w.heap.size < wr.heap.size := by omega
      have HB9 := hideB (HBR.out.alloc zr (.cells #[.int .i64 kk, .string sg] 132))
      clear hkk hin
      go_wp2_with fail
      first
        | exact ⟨⟨m + 1, by omega, by go_num, HB9.out⟩, by simp [intOf]; omega⟩
        | (go_roundw
           case rel => exact ⟨m + 1, by omega, by go_num, HB9.out⟩
           case measure => simp [intOf]; omega)
end Go.Proofs.YtehihemfepbmfaaGreatDoor

/-
  The program's filterWriter: writeWhole at constants.
-/
namespace Go.Proofs.YtehihemfepbmfaaGreatDoor
open Go.RowKit
set_option linter.unusedSimpArgs false
set_option linter.unusedVariables false

theorem jsonV_cst {c : List VN} (h : cstB c = true) : jsonV false c = cstT c := by
  unfold cstB at h
  simp only [Bool.and_eq_true, decide_eq_true_eq] at h
  obtain ⟨⟨⟨h1, h2⟩, _⟩, _⟩ := h
  rw [jsonV_yes h2, h1, cstT]
  simp

set_option maxRecDepth 100000 in
set_option maxHeartbeats 6400000 in
theorem ww_k5 {B b : Nat} {F : Value} {fs : List FN} {nm : ByteArray} {pl : Int} {aC aK aI : Option Addr} {MC cC MK cK M cI : Nat} {cst : List VN} (hok : cstB cst = true) (l : List UInt8) (w : World) (hcs : NodesAt B w (.slice aC MC cC) cst) (hg : GF B b F l w) (hp : FwP B F fs w) (hlen : (l ++ (cstT cst)).length ≤ 100000000) :
    Calls Tryz.prog 58 #[.pointer (some ⟨b, 0, none⟩), .agg #[.int .i64 5, .string nm, .int .i64 pl, .slice aC MC cC, .slice aK MK cK, .slice aI M cI]] w fun e w' => e = .returned (.tuple #[]) ∧ GF B b F (l ++ (cstT cst)) w' ∧ Below B w w' ∧ Beside b w w' := by
  have z0 := hp.hB
  have hbl := hg.lt
  obtain ⟨W1, hW1⟩ : ∃ W1, w.alloc (.cells #[.int .i64 5, .string nm, .int .i64 pl, .slice aC MC cC, .slice aK MK cK, .slice aI M cI] 51) = W1 := ⟨_, rfl⟩
  have HW1 := hideB hW1
  have HX : Hid (W1.heap[w.heap.size]? = some (.cells #[.int .i64 5, .string nm, .int .i64 pl, .slice aC MC cC, .slice aK MK cK, .slice aI M cI] 51 (0, 0))) := by rw [Hid, ← hW1]; exact heap_alloc_new w _
  have HG : Hid (GF B b F l W1) := by rw [Hid, ← hW1]; exact hg.alloc _
  have HBX : Hid (Below B w W1) := by rw [Hid, ← hW1]; exact (Below.refl _ _).alloc z0 _
  have HKX : Hid (Beside b w W1) := by rw [Hid, ← hW1]; exact Beside.alloc _ _ _
  have HP := hideB hp
  have z1 : B ≤ W1.heap.size := Nat.le_trans z0 HBX.out.size
  have hl0 := hlen
  simp only [List.length_append, List.length_cons, List.length_nil, len_is] at hl0
  have HLEN := hideB hlen
  have HE5 := hideB (jsonV_cst hok)
  have hil := (cstT_len hok).2
  have HNA := hideB (hcs.below HBX.out)
  have CI : Hid (∀ W, Below B W1 W → Calls Tryz.prog 94 #[.slice aC MC cC] W fun e w' => e = .returned (.string (txt (cstT cst))) ∧ Below W.heap.size W w') := fun W hb => by
    rw [← HE5.out]
    exact implJson_any B _ cst W (HNA.out.below hb) (Nat.le_trans z1 hb.size) ((HP.out.tab.next (HBX.out.trans hb)).wide (Nat.le_trans z1 hb.size))
  obtain ⟨D, hD⟩ : ∃ D, cstT cst = D := ⟨_, rfl⟩
  rw [hD] at CI hil hl0 HLEN ⊢
  clear hD HE5 hok hcs
  obtain ⟨KY, hKY⟩ : ∃ KY : ByteArray, txt D = KY := ⟨_, rfl⟩
  rw [hKY] at CI
  have HEQ : Hid (l ++ KY.data.toList = l ++ D) := by rw [Hid, ← hKY]; simp [txt]
  have hkz : l.length + KY.size ≤ 1000000000 := by
    have : KY.size = D.length := by rw [← hKY]; show D.toArray.size = _; simp
    omega
  clear hKY
  have x3 : W1.cell? ⟨w.heap.size, 3, none⟩ = some (.slice aC MC cC) := cellAt HX.out (i := 3) rfl
  clear hg hp hW1 hlen
  go_enter Tryz.func58, Tryz.ntmps58
  go_wp2_with fail
  rw [HW1.out]
  go_region_held3 (fun w' => w'.cell? ⟨w.heap.size, 3, none⟩ = some (.slice aC MC cC))
    (first | exact cellAt (box_kept k1 HX9 (by omega) (by decide)) (i := 3) rfl | exact cellAt HX9 (i := 3) rfl | exact x3)
    (first
      | (go_at_call 92; refine (gb_text gt_filter HF9 KY hkz (by omega)).mono ?_; rintro e w1 ⟨rfl, f1, b1, k1⟩)
      | (go_at_call 94; refine (CI.out _ (Below.drew (Below.refl _ _))).mono ?_; rintro e w9 ⟨rfl, b9⟩; have HX9 := (b9.block _ (lt_heap HX.out)).trans HX.out; have HF9 := HG.out.drew.keep b9; have z9 : W1.heap.size ≤ w9.heap.size := b9.size))
  have HF1 : Hid (GF B b F (l ++ D) w1) := by rw [Hid, ← HEQ.out]; exact f1
  have HB1 := hideB (HBX.out.trans (((Below.drew (Below.refl _ _)).trans (b9.mono z1)).trans b1))
  have HK1 := hideB (HKX.out.trans ((show Beside b W1 w9 from (Beside.below b9 : Beside b W1.drew w9)).trans k1))
  have HX1 := hideB (box_kept k1 HX9 (by omega) (by decide))
  clear f1 b1 k1 x3 b9 HX9 HF9 z9
  go_upto_region 21 with fail
  refine wp_region_lit ?_
  refine wpList_load_mid rfl 133 (.global 1) rfl 1 0 rfl wordC _ (HP.out.wd _ HB1.out) w_und rfl w_inf ?_
  obtain ⟨J, hJ⟩ : ∃ J, wordC.toArray = J := ⟨_, rfl⟩
  rw [hJ]
  have HJ := hideB hJ
  clear hJ
  go_wp2_with fail
  go_loopw [5, 84] (fun _ i wr => ∃ m : Nat, m ≤ 4 ∧ i = .int .i64 m ∧ Below w1.heap.size w1 wr) (fun _ i _ => 4 - (intOf i).toNat)
  case atStart => exact ⟨0, by omega, rfl, Below.refl _ _⟩
  case round =>
    obtain ⟨m, hm, rfl, hbr⟩ := hrel
    have HBR := hideB hbr
    have zr := hbr.size
    have x0 : wr.cell? ⟨w.heap.size, 0, none⟩ = some (.int .i64 5) := (below_cell hbr (lt_heap HX1.out)).trans (cellAt HX1.out (i := 0) rfl)
    have hx := lt_heap HX1.out
    clear hbr
    rcases (show m = 4 ∨ m < 4 by omega) with rfl | hlt
    · go_wp2_with fail
      go_end0
      exact ⟨rfl, HF1.out.keep HBR.out, HB1.out.trans (HBR.out.mono (by have := HF1.out.lt; have := HB1.out.size; omega)), HK1.out.trans (Beside.below HBR.out)⟩
    · obtain ⟨kk, sg, hix, hkk⟩ := wix_any HJ.out hlt
      have hin := wkF_in hlt
      rw [← hkk] at hin
      have hk2 : (kk == 5) = false := by simp; omega
      have hk3 : ¬ kk = 5 := by omega
      have hlt' : (m : Int) < 4 := by omega
      have hne : ¬ w.heap.size = wr.heap.size := by omega
      have hle : w.heap.size < wr.heap.size := by omega
      have HB9 := hideB (HBR.out.alloc zr (.cells #[.int .i64 kk, .string sg] 132))
      clear hkk hin
      go_wp2_with fail
      first
        | exact ⟨⟨m + 1, by omega, by go_num, HB9.out⟩, by simp [intOf]; omega⟩
        | (go_roundw
           case rel => exact ⟨m + 1, by omega, by go_num, HB9.out⟩
           case measure => simp [intOf]; omega)
end Go.Proofs.YtehihemfepbmfaaGreatDoor
