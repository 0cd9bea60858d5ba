/-
  The program's cborReader.readNumber: a number in bytes of its own.
-/
import Derived.Test.YtokhindolimchaaGreatOrC
namespace Go.Proofs.YtokhindolimchaaGreat
open Go.RowKit
set_option linter.unusedSimpArgs false
set_option linter.unusedVariables false

theorem size_byte1 : (Tryz.prog.info? 5).map (·.size) = some 1 := by kernel_rfl
theorem copy_eight {w : World} {g p k : Nat} {L : List UInt8} (hg : w.heap[g]? = some (.cells #[.int .u8 0, .int .u8 0, .int .u8 0, .int .u8 0, .int .u8 0, .int .u8 0, .int .u8 0, .int .u8 0] 135 (0, 0))) (hp : p + 2 ^ k ≤ L.length) (hk : k < 4 := by omega) :
    (Builtin.copy_ #[22, 9] 3 #[.slice (some ⟨g, 8 - 2 ^ k, none⟩) (2 ^ k) (2 ^ k), .string (cutT L p (2 ^ k))]).run Tryz.prog w = .ok (.int .i64 ((2 ^ k : Nat) : Int)) (w.setRow g (eightC (arrE L p (2 ^ k)))) := by
  have hsz := cutT_size hp
  have hb : (cutT L p (2 ^ k)).data.toList = (List.range (2 ^ k)).map fun i => L.getD (p + i) 0 := by unfold cutT; rw [bytes_txt, cut_list hp]
  have hk' : k = 0 ∨ k = 1 ∨ k = 2 ∨ k = 3 := by omega
  have h8 : 2 ^ k ≤ 8 := by rcases hk' with rfl | rfl | rfl | rfl <;> decide
  rw [Lib.run_copy_row_string (P := Tryz.prog) w 22 9 3 5 g (8 - 2 ^ k) (2 ^ k) (2 ^ k) (cutT L p (2 ^ k)) _ 135 Tryz.underlying22 size_byte1 hg (by omega) (by rw [hsz]; show 8 - 2 ^ k + 2 ^ k ≤ 8; omega), hsz, hb]
  rcases hk' with rfl | rfl | rfl | rfl <;> (simp [goInt, eightC, arrE, byAt, Lib.byteCells, List.range_succ])


set_option maxRecDepth 100000 in
set_option maxHeartbeats 6400000 in
theorem number_yes {rb p : Nat} {s : ByteArray} {w : World} (h : BrAt w rb s p) (hs : s.size ≤ 4000) (k : Nat) (hk : k < 4) (hp : p + 2 ^ k ≤ s.size) :
    Calls Tryz.prog 56 #[.pointer (some ⟨rb, 0, none⟩), .int .u8 ((24 + k : Nat) : Int)] w fun e w' => ((e = .returned (.int .i64 (bigN s.data.toList p (2 ^ k))) ∧ bigN s.data.toList p (2 ^ k) ≤ 1000000000000000 ∧ BrAt w' rb s (p + 2 ^ k)) ∨ (e = gup ∧ 1000000000000000 < bigN s.data.toList p (2 ^ k))) ∧ But rb w w' := by
  have HB := hideB (fun o => (h.below (((Below.refl w.heap.size w).alloc (Nat.le_refl _) o).drew)))
  have HT := hideB (fun o => But.of_below (rb := rb) (((Below.refl w.heap.size w).alloc (Nat.le_refl _) o).drew))
  have hrb := h.lt
  have HA : Hid (∀ C w1, But rb (w.alloc (.cells C 135)).drew w1 → w1.heap[w.heap.size]? = some (.cells C 135 (0, 0))) := fun C w1 hb => by
    rw [hb.block w.heap.size (by show w.heap.size < (w.alloc _).heap.size; simp) (by omega)]
    exact heap_alloc_new w _
  have HAFT : Hid (∀ (w1 : World) (a : Nat → Nat), BrAt w1 rb s (p + 2 ^ k) → But rb w w1 → w1.heap[w.heap.size]? = some (.cells #[.int .u8 0, .int .u8 0, .int .u8 0, .int .u8 0, .int .u8 0, .int .u8 0, .int .u8 0, .int .u8 0] 135 (0, 0)) →
      BrAt (w1.setRow w.heap.size (eightC a)) rb s (p + 2 ^ k) ∧ But rb w (w1.setRow w.heap.size (eightC a)) ∧ ∀ j, j < 8 → (w1.setRow w.heap.size (eightC a)).cell? ⟨w.heap.size, j, none⟩ = some (.int .u8 (a j))) := fun w1 a h1 h2 h3 => by
    have hne : rb ≠ w.heap.size := by omega
    refine ⟨h1.keep (setRow_other w1 w.heap.size rb _ hne) (by simp), ⟨h2.os, h2.tape, h2.output, by simpa using h2.size, fun c hc hn => (setRow_other w1 w.heap.size c _ (by omega)).trans (h2.block c hc hn)⟩, fun j hj => ?_⟩
    rw [cell_setRow_same w1 w.heap.size j _ _ _ _ h3]
    rcases (show j = 0 ∨ j = 1 ∨ j = 2 ∨ j = 3 ∨ j = 4 ∨ j = 5 ∨ j = 6 ∨ j = 7 by omega) with rfl | rfl | rfl | rfl | rfl | rfl | rfl | rfl <;> rfl
  clear h
  rcases (show k = 0 ∨ k = 1 ∨ k = 2 ∨ k = 3 by omega) with rfl | rfl | rfl | rfl
  · have hsl : ∀ g w, (Instr.sliceAt 135 (.pointer (some ⟨g, 0, none⟩)) (some (.int .i64 (IntKind.i64.wrap 7))) none none).run Tryz.prog w = .ok (.slice (some ⟨g, 7, none⟩) 1 1) w := fun g w => slice_eight g 7 (by omega) w
    go_enter Tryz.func56, Tryz.ntmps56
    go_wp2_with fail
    refine wp_region_any (by kernel_rfl) ?_
    change wpAny _ _ _ _ _ _ _ (World.drew _)
    refine wpAny_take (i := 0) (v := .int .i64 1) rfl (by kernel_rfl) (by kernel_rfl) (by kernel_rfl) (fun _ _ _ h => h) (Or.inl ⟨by kernel_rfl, fun w => ?_⟩) ?_
    · go_simp
    refine wpAny_take (i := 1) (v := .int .i64 (IntKind.i64.wrap 7)) rfl (by kernel_rfl) (by kernel_rfl) (by kernel_rfl) (fun _ _ _ h => h) (Or.inl ⟨by kernel_rfl, fun w => ?_⟩) ?_
    · go_simp
    refine wpAny_take (i := 2) (v := .slice (some ⟨w.heap.size, 7, none⟩) 1 1) rfl (by kernel_rfl) (by kernel_rfl) (by kernel_rfl) (fun _ _ _ h => h) (Or.inl ⟨by kernel_rfl, fun w => ?_⟩) ?_
    · go_simp
    refine wpAny_take (i := 3) (v := .pointer (some ⟨rb, 0, none⟩)) rfl (by kernel_rfl) (by kernel_rfl) (by kernel_rfl) (fun _ _ _ h => h) (Or.inl ⟨by kernel_rfl, fun w => ?_⟩) ?_
    · go_simp
    refine wpAny_take (i := 4) (v := .pointer (some ⟨rb, 0, none⟩)) rfl (by kernel_rfl) (by kernel_rfl) (by kernel_rfl) (fun _ _ _ h => h) (Or.inl ⟨by kernel_rfl, fun w => ?_⟩) ?_
    · go_simp
    refine wpAny_take (i := 5) (v := .pointer (some ⟨rb, 0, none⟩)) rfl (by kernel_rfl) (by kernel_rfl) (by kernel_rfl) (fun _ _ _ h => h) (Or.inl ⟨by kernel_rfl, fun w => ?_⟩) ?_
    · go_simp
    refine wpAny_take (i := 6) (v := .int .i64 1) rfl (by kernel_rfl) (by kernel_rfl) (by kernel_rfl) (fun _ _ _ h => h) (Or.inl ⟨by kernel_rfl, fun w => ?_⟩) ?_
    · go_simp
    refine wpAny_ready (rs := [7]) (by kernel_rfl) (by simp) ?_
    refine AllReady.cons rfl (fun K hK => ?_) AllReady.nil
    refine step_call2p (by kernel_rfl) 57 (.tmp 29) (.tmp 30) 41 2 (by kernel_rfl) (.pointer (some ⟨rb, 0, none⟩)) (.int .i64 ((1 : Nat) : Int)) (by kernel_rfl) (by kernel_rfl) (call_take _ _) (take_yes (HB.out _) (by simpa using hp) (by omega)) ?_
    rintro e w1 ⟨rfl, hbr1, b1⟩
    have hg1 := HA.out _ w1 b1
    have hcp := copy_eight (w := w1) (g := w.heap.size) (L := s.data.toList) (p := p) (k := 0) hg1 (by rw [len_is]; simpa using hp)
    refine .inl ⟨_, rfl, ?_⟩
    refine hK _ _ ?_
    clear hK K
    refine wpAny_ready (rs := [8]) (by kernel_rfl) (by simp) ?_
    refine AllReady.cons rfl (fun K hK => ?_) AllReady.nil
    go_simp
    refine hK _ _ ?_
    clear hK K
    refine wpAny_done (by kernel_rfl) ?_ _
    have HX := hideB (HAFT.out w1 (arrE s.data.toList p 1) hbr1 ((HT.out _).trans b1) hg1)
    obtain ⟨W2, hW2⟩ : ∃ W2, w1.setRow w.heap.size (eightC (arrE s.data.toList p 1)) = W2 := ⟨_, rfl⟩
    rw [hW2] at HX ⊢
    have HV := hideB (valE_big s.data.toList p 1 (by omega))
    have HAL := hideB (arrE_lt s.data.toList p 1)
    generalize arrE s.data.toList p 1 = a at HX HV HAL ⊢
    clear hW2 hcp hg1 hbr1 b1
    have d0 := HX.out.2.2 0 (by omega)
    have d1 := HX.out.2.2 1 (by omega)
    have d2 := HX.out.2.2 2 (by omega)
    have d3 := HX.out.2.2 3 (by omega)
    have d4 := HX.out.2.2 4 (by omega)
    have d5 := HX.out.2.2 5 (by omega)
    have d6 := HX.out.2.2 6 (by omega)
    have d7 := HX.out.2.2 7 (by omega)
    go_wp2_with fail
    go_loop [8, 10, 34] (fun n _ i => ∃ j : Nat, j ≤ 8 ∧ i = .int .i64 j ∧ n = .int .u64 (valE a j)) (fun _ _ i => 8 - (intOf i).toNat)
    case atStart => exact ⟨0, by omega, rfl, rfl⟩
    case round =>
      obtain ⟨j, hj, rfl, rfl⟩ := hrel
      clear d0 d1 d2 d3 d4 d5 d6 d7
      by_cases hlt : j < 8
      · have hlt' : (j : Int) < 8 := by omega
        have hix := index_eight a hlt
        have hvl := valE_lt HAL.out j
        have hv8 : valE a j < 72057594037927936 := Nat.lt_of_lt_of_le hvl (Nat.pow_le_pow_right (by omega) (show j ≤ 7 by omega))
        have ha := HAL.out j
        have HNX : Hid (valE a (j + 1) = 256 * valE a j + a j) := rfl
        obtain ⟨vj, hvj⟩ : ∃ v, valE a j = v := ⟨_, rfl⟩
        rw [hvj] at hv8 HNX ⊢
        obtain ⟨aj, haj⟩ : ∃ v, a j = v := ⟨_, rfl⟩
        rw [haj] at ha HNX hix
        have HOR := hideB (or_byte hv8 ha)
        clear hvl hvj haj
        go_wp2_with fail
        exact ⟨⟨j + 1, by omega, by go_num, by rw [HOR.out, HNX.out]⟩, by simp [intOf]; omega⟩
      · obtain rfl : j = 8 := by omega
        rw [HV.out]
        have HVV := HV
        by_cases hbig : bigN s.data.toList p (1) ≤ 1000000000000000
        · go_wp2_with fail
          refine (within_yes _ _ hbig).mono ?_
          rintro e w9 ⟨rfl, rfl⟩
          go_wp2_with fail
          go_ret
          exact ⟨.inl ⟨rfl, hbig, HX.out.1⟩, HX.out.2.1⟩
        · go_wp2_with fail
          refine (within_no _ _ (by omega)).mono ?_
          rintro e w9 ⟨rfl, rfl⟩
          unfold gup
          go_wp2_with fail
          exact ⟨rfl, .inr ⟨rfl, Nat.lt_of_not_le hbig⟩, HX.out.2.1⟩
  · have hsl : ∀ g w, (Instr.sliceAt 135 (.pointer (some ⟨g, 0, none⟩)) (some (.int .i64 (IntKind.i64.wrap 6))) none none).run Tryz.prog w = .ok (.slice (some ⟨g, 6, none⟩) 2 2) w := fun g w => slice_eight g 6 (by omega) w
    go_enter Tryz.func56, Tryz.ntmps56
    go_wp2_with fail
    refine wp_region_any (by kernel_rfl) ?_
    change wpAny _ _ _ _ _ _ _ (World.drew _)
    refine wpAny_take (i := 0) (v := .int .i64 2) rfl (by kernel_rfl) (by kernel_rfl) (by kernel_rfl) (fun _ _ _ h => h) (Or.inl ⟨by kernel_rfl, fun w => ?_⟩) ?_
    · go_simp
    refine wpAny_take (i := 1) (v := .int .i64 (IntKind.i64.wrap 6)) rfl (by kernel_rfl) (by kernel_rfl) (by kernel_rfl) (fun _ _ _ h => h) (Or.inl ⟨by kernel_rfl, fun w => ?_⟩) ?_
    · go_simp
    refine wpAny_take (i := 2) (v := .slice (some ⟨w.heap.size, 6, none⟩) 2 2) rfl (by kernel_rfl) (by kernel_rfl) (by kernel_rfl) (fun _ _ _ h => h) (Or.inl ⟨by kernel_rfl, fun w => ?_⟩) ?_
    · go_simp
    refine wpAny_take (i := 3) (v := .pointer (some ⟨rb, 0, none⟩)) rfl (by kernel_rfl) (by kernel_rfl) (by kernel_rfl) (fun _ _ _ h => h) (Or.inl ⟨by kernel_rfl, fun w => ?_⟩) ?_
    · go_simp
    refine wpAny_take (i := 4) (v := .pointer (some ⟨rb, 0, none⟩)) rfl (by kernel_rfl) (by kernel_rfl) (by kernel_rfl) (fun _ _ _ h => h) (Or.inl ⟨by kernel_rfl, fun w => ?_⟩) ?_
    · go_simp
    refine wpAny_take (i := 5) (v := .pointer (some ⟨rb, 0, none⟩)) rfl (by kernel_rfl) (by kernel_rfl) (by kernel_rfl) (fun _ _ _ h => h) (Or.inl ⟨by kernel_rfl, fun w => ?_⟩) ?_
    · go_simp
    refine wpAny_take (i := 6) (v := .int .i64 2) rfl (by kernel_rfl) (by kernel_rfl) (by kernel_rfl) (fun _ _ _ h => h) (Or.inl ⟨by kernel_rfl, fun w => ?_⟩) ?_
    · go_simp
    refine wpAny_ready (rs := [7]) (by kernel_rfl) (by simp) ?_
    refine AllReady.cons rfl (fun K hK => ?_) AllReady.nil
    refine step_call2p (by kernel_rfl) 57 (.tmp 29) (.tmp 30) 41 2 (by kernel_rfl) (.pointer (some ⟨rb, 0, none⟩)) (.int .i64 ((2 : Nat) : Int)) (by kernel_rfl) (by kernel_rfl) (call_take _ _) (take_yes (HB.out _) (by simpa using hp) (by omega)) ?_
    rintro e w1 ⟨rfl, hbr1, b1⟩
    have hg1 := HA.out _ w1 b1
    have hcp := copy_eight (w := w1) (g := w.heap.size) (L := s.data.toList) (p := p) (k := 1) hg1 (by rw [len_is]; simpa using hp)
    refine .inl ⟨_, rfl, ?_⟩
    refine hK _ _ ?_
    clear hK K
    refine wpAny_ready (rs := [8]) (by kernel_rfl) (by simp) ?_
    refine AllReady.cons rfl (fun K hK => ?_) AllReady.nil
    go_simp
    refine hK _ _ ?_
    clear hK K
    refine wpAny_done (by kernel_rfl) ?_ _
    have HX := hideB (HAFT.out w1 (arrE s.data.toList p 2) hbr1 ((HT.out _).trans b1) hg1)
    obtain ⟨W2, hW2⟩ : ∃ W2, w1.setRow w.heap.size (eightC (arrE s.data.toList p 2)) = W2 := ⟨_, rfl⟩
    rw [hW2] at HX ⊢
    have HV := hideB (valE_big s.data.toList p 2 (by omega))
    have HAL := hideB (arrE_lt s.data.toList p 2)
    generalize arrE s.data.toList p 2 = a at HX HV HAL ⊢
    clear hW2 hcp hg1 hbr1 b1
    have d0 := HX.out.2.2 0 (by omega)
    have d1 := HX.out.2.2 1 (by omega)
    have d2 := HX.out.2.2 2 (by omega)
    have d3 := HX.out.2.2 3 (by omega)
    have d4 := HX.out.2.2 4 (by omega)
    have d5 := HX.out.2.2 5 (by omega)
    have d6 := HX.out.2.2 6 (by omega)
    have d7 := HX.out.2.2 7 (by omega)
    go_wp2_with fail
    go_loop [8, 10, 34] (fun n _ i => ∃ j : Nat, j ≤ 8 ∧ i = .int .i64 j ∧ n = .int .u64 (valE a j)) (fun _ _ i => 8 - (intOf i).toNat)
    case atStart => exact ⟨0, by omega, rfl, rfl⟩
    case round =>
      obtain ⟨j, hj, rfl, rfl⟩ := hrel
      clear d0 d1 d2 d3 d4 d5 d6 d7
      by_cases hlt : j < 8
      · have hlt' : (j : Int) < 8 := by omega
        have hix := index_eight a hlt
        have hvl := valE_lt HAL.out j
        have hv8 : valE a j < 72057594037927936 := Nat.lt_of_lt_of_le hvl (Nat.pow_le_pow_right (by omega) (show j ≤ 7 by omega))
        have ha := HAL.out j
        have HNX : Hid (valE a (j + 1) = 256 * valE a j + a j) := rfl
        obtain ⟨vj, hvj⟩ : ∃ v, valE a j = v := ⟨_, rfl⟩
        rw [hvj] at hv8 HNX ⊢
        obtain ⟨aj, haj⟩ : ∃ v, a j = v := ⟨_, rfl⟩
        rw [haj] at ha HNX hix
        have HOR := hideB (or_byte hv8 ha)
        clear hvl hvj haj
        go_wp2_with fail
        exact ⟨⟨j + 1, by omega, by go_num, by rw [HOR.out, HNX.out]⟩, by simp [intOf]; omega⟩
      · obtain rfl : j = 8 := by omega
        rw [HV.out]
        have HVV := HV
        by_cases hbig : bigN s.data.toList p (2) ≤ 1000000000000000
        · go_wp2_with fail
          refine (within_yes _ _ hbig).mono ?_
          rintro e w9 ⟨rfl, rfl⟩
          go_wp2_with fail
          go_ret
          exact ⟨.inl ⟨rfl, hbig, HX.out.1⟩, HX.out.2.1⟩
        · go_wp2_with fail
          refine (within_no _ _ (by omega)).mono ?_
          rintro e w9 ⟨rfl, rfl⟩
          unfold gup
          go_wp2_with fail
          exact ⟨rfl, .inr ⟨rfl, Nat.lt_of_not_le hbig⟩, HX.out.2.1⟩
  · have hsl : ∀ g w, (Instr.sliceAt 135 (.pointer (some ⟨g, 0, none⟩)) (some (.int .i64 (IntKind.i64.wrap 4))) none none).run Tryz.prog w = .ok (.slice (some ⟨g, 4, none⟩) 4 4) w := fun g w => slice_eight g 4 (by omega) w
    go_enter Tryz.func56, Tryz.ntmps56
    go_wp2_with fail
    refine wp_region_any (by kernel_rfl) ?_
    change wpAny _ _ _ _ _ _ _ (World.drew _)
    refine wpAny_take (i := 0) (v := .int .i64 4) rfl (by kernel_rfl) (by kernel_rfl) (by kernel_rfl) (fun _ _ _ h => h) (Or.inl ⟨by kernel_rfl, fun w => ?_⟩) ?_
    · go_simp
    refine wpAny_take (i := 1) (v := .int .i64 (IntKind.i64.wrap 4)) rfl (by kernel_rfl) (by kernel_rfl) (by kernel_rfl) (fun _ _ _ h => h) (Or.inl ⟨by kernel_rfl, fun w => ?_⟩) ?_
    · go_simp
    refine wpAny_take (i := 2) (v := .slice (some ⟨w.heap.size, 4, none⟩) 4 4) rfl (by kernel_rfl) (by kernel_rfl) (by kernel_rfl) (fun _ _ _ h => h) (Or.inl ⟨by kernel_rfl, fun w => ?_⟩) ?_
    · go_simp
    refine wpAny_take (i := 3) (v := .pointer (some ⟨rb, 0, none⟩)) rfl (by kernel_rfl) (by kernel_rfl) (by kernel_rfl) (fun _ _ _ h => h) (Or.inl ⟨by kernel_rfl, fun w => ?_⟩) ?_
    · go_simp
    refine wpAny_take (i := 4) (v := .pointer (some ⟨rb, 0, none⟩)) rfl (by kernel_rfl) (by kernel_rfl) (by kernel_rfl) (fun _ _ _ h => h) (Or.inl ⟨by kernel_rfl, fun w => ?_⟩) ?_
    · go_simp
    refine wpAny_take (i := 5) (v := .pointer (some ⟨rb, 0, none⟩)) rfl (by kernel_rfl) (by kernel_rfl) (by kernel_rfl) (fun _ _ _ h => h) (Or.inl ⟨by kernel_rfl, fun w => ?_⟩) ?_
    · go_simp
    refine wpAny_take (i := 6) (v := .int .i64 4) rfl (by kernel_rfl) (by kernel_rfl) (by kernel_rfl) (fun _ _ _ h => h) (Or.inl ⟨by kernel_rfl, fun w => ?_⟩) ?_
    · go_simp
    refine wpAny_ready (rs := [7]) (by kernel_rfl) (by simp) ?_
    refine AllReady.cons rfl (fun K hK => ?_) AllReady.nil
    refine step_call2p (by kernel_rfl) 57 (.tmp 29) (.tmp 30) 41 2 (by kernel_rfl) (.pointer (some ⟨rb, 0, none⟩)) (.int .i64 ((4 : Nat) : Int)) (by kernel_rfl) (by kernel_rfl) (call_take _ _) (take_yes (HB.out _) (by simpa using hp) (by omega)) ?_
    rintro e w1 ⟨rfl, hbr1, b1⟩
    have hg1 := HA.out _ w1 b1
    have hcp := copy_eight (w := w1) (g := w.heap.size) (L := s.data.toList) (p := p) (k := 2) hg1 (by rw [len_is]; simpa using hp)
    refine .inl ⟨_, rfl, ?_⟩
    refine hK _ _ ?_
    clear hK K
    refine wpAny_ready (rs := [8]) (by kernel_rfl) (by simp) ?_
    refine AllReady.cons rfl (fun K hK => ?_) AllReady.nil
    go_simp
    refine hK _ _ ?_
    clear hK K
    refine wpAny_done (by kernel_rfl) ?_ _
    have HX := hideB (HAFT.out w1 (arrE s.data.toList p 4) hbr1 ((HT.out _).trans b1) hg1)
    obtain ⟨W2, hW2⟩ : ∃ W2, w1.setRow w.heap.size (eightC (arrE s.data.toList p 4)) = W2 := ⟨_, rfl⟩
    rw [hW2] at HX ⊢
    have HV := hideB (valE_big s.data.toList p 4 (by omega))
    have HAL := hideB (arrE_lt s.data.toList p 4)
    generalize arrE s.data.toList p 4 = a at HX HV HAL ⊢
    clear hW2 hcp hg1 hbr1 b1
    have d0 := HX.out.2.2 0 (by omega)
    have d1 := HX.out.2.2 1 (by omega)
    have d2 := HX.out.2.2 2 (by omega)
    have d3 := HX.out.2.2 3 (by omega)
    have d4 := HX.out.2.2 4 (by omega)
    have d5 := HX.out.2.2 5 (by omega)
    have d6 := HX.out.2.2 6 (by omega)
    have d7 := HX.out.2.2 7 (by omega)
    go_wp2_with fail
    go_loop [8, 10, 34] (fun n _ i => ∃ j : Nat, j ≤ 8 ∧ i = .int .i64 j ∧ n = .int .u64 (valE a j)) (fun _ _ i => 8 - (intOf i).toNat)
    case atStart => exact ⟨0, by omega, rfl, rfl⟩
    case round =>
      obtain ⟨j, hj, rfl, rfl⟩ := hrel
      clear d0 d1 d2 d3 d4 d5 d6 d7
      by_cases hlt : j < 8
      · have hlt' : (j : Int) < 8 := by omega
        have hix := index_eight a hlt
        have hvl := valE_lt HAL.out j
        have hv8 : valE a j < 72057594037927936 := Nat.lt_of_lt_of_le hvl (Nat.pow_le_pow_right (by omega) (show j ≤ 7 by omega))
        have ha := HAL.out j
        have HNX : Hid (valE a (j + 1) = 256 * valE a j + a j) := rfl
        obtain ⟨vj, hvj⟩ : ∃ v, valE a j = v := ⟨_, rfl⟩
        rw [hvj] at hv8 HNX ⊢
        obtain ⟨aj, haj⟩ : ∃ v, a j = v := ⟨_, rfl⟩
        rw [haj] at ha HNX hix
        have HOR := hideB (or_byte hv8 ha)
        clear hvl hvj haj
        go_wp2_with fail
        exact ⟨⟨j + 1, by omega, by go_num, by rw [HOR.out, HNX.out]⟩, by simp [intOf]; omega⟩
      · obtain rfl : j = 8 := by omega
        rw [HV.out]
        have HVV := HV
        by_cases hbig : bigN s.data.toList p (4) ≤ 1000000000000000
        · go_wp2_with fail
          refine (within_yes _ _ hbig).mono ?_
          rintro e w9 ⟨rfl, rfl⟩
          go_wp2_with fail
          go_ret
          exact ⟨.inl ⟨rfl, hbig, HX.out.1⟩, HX.out.2.1⟩
        · go_wp2_with fail
          refine (within_no _ _ (by omega)).mono ?_
          rintro e w9 ⟨rfl, rfl⟩
          unfold gup
          go_wp2_with fail
          exact ⟨rfl, .inr ⟨rfl, Nat.lt_of_not_le hbig⟩, HX.out.2.1⟩
  · have hsl : ∀ g w, (Instr.sliceAt 135 (.pointer (some ⟨g, 0, none⟩)) (some (.int .i64 (IntKind.i64.wrap 0))) none none).run Tryz.prog w = .ok (.slice (some ⟨g, 0, none⟩) 8 8) w := fun g w => slice_eight g 0 (by omega) w
    go_enter Tryz.func56, Tryz.ntmps56
    go_wp2_with fail
    refine wp_region_any (by kernel_rfl) ?_
    change wpAny _ _ _ _ _ _ _ (World.drew _)
    refine wpAny_take (i := 0) (v := .int .i64 8) rfl (by kernel_rfl) (by kernel_rfl) (by kernel_rfl) (fun _ _ _ h => h) (Or.inl ⟨by kernel_rfl, fun w => ?_⟩) ?_
    · go_simp
    refine wpAny_take (i := 1) (v := .int .i64 (IntKind.i64.wrap 0)) rfl (by kernel_rfl) (by kernel_rfl) (by kernel_rfl) (fun _ _ _ h => h) (Or.inl ⟨by kernel_rfl, fun w => ?_⟩) ?_
    · go_simp
    refine wpAny_take (i := 2) (v := .slice (some ⟨w.heap.size, 0, none⟩) 8 8) rfl (by kernel_rfl) (by kernel_rfl) (by kernel_rfl) (fun _ _ _ h => h) (Or.inl ⟨by kernel_rfl, fun w => ?_⟩) ?_
    · go_simp
    refine wpAny_take (i := 3) (v := .pointer (some ⟨rb, 0, none⟩)) rfl (by kernel_rfl) (by kernel_rfl) (by kernel_rfl) (fun _ _ _ h => h) (Or.inl ⟨by kernel_rfl, fun w => ?_⟩) ?_
    · go_simp
    refine wpAny_take (i := 4) (v := .pointer (some ⟨rb, 0, none⟩)) rfl (by kernel_rfl) (by kernel_rfl) (by kernel_rfl) (fun _ _ _ h => h) (Or.inl ⟨by kernel_rfl, fun w => ?_⟩) ?_
    · go_simp
    refine wpAny_take (i := 5) (v := .pointer (some ⟨rb, 0, none⟩)) rfl (by kernel_rfl) (by kernel_rfl) (by kernel_rfl) (fun _ _ _ h => h) (Or.inl ⟨by kernel_rfl, fun w => ?_⟩) ?_
    · go_simp
    refine wpAny_take (i := 6) (v := .int .i64 8) rfl (by kernel_rfl) (by kernel_rfl) (by kernel_rfl) (fun _ _ _ h => h) (Or.inl ⟨by kernel_rfl, fun w => ?_⟩) ?_
    · go_simp
    refine wpAny_ready (rs := [7]) (by kernel_rfl) (by simp) ?_
    refine AllReady.cons rfl (fun K hK => ?_) AllReady.nil
    refine step_call2p (by kernel_rfl) 57 (.tmp 29) (.tmp 30) 41 2 (by kernel_rfl) (.pointer (some ⟨rb, 0, none⟩)) (.int .i64 ((8 : Nat) : Int)) (by kernel_rfl) (by kernel_rfl) (call_take _ _) (take_yes (HB.out _) (by simpa using hp) (by omega)) ?_
    rintro e w1 ⟨rfl, hbr1, b1⟩
    have hg1 := HA.out _ w1 b1
    have hcp := copy_eight (w := w1) (g := w.heap.size) (L := s.data.toList) (p := p) (k := 3) hg1 (by rw [len_is]; simpa using hp)
    refine .inl ⟨_, rfl, ?_⟩
    refine hK _ _ ?_
    clear hK K
    refine wpAny_ready (rs := [8]) (by kernel_rfl) (by simp) ?_
    refine AllReady.cons rfl (fun K hK => ?_) AllReady.nil
    go_simp
    refine hK _ _ ?_
    clear hK K
    refine wpAny_done (by kernel_rfl) ?_ _
    have HX := hideB (HAFT.out w1 (arrE s.data.toList p 8) hbr1 ((HT.out _).trans b1) hg1)
    obtain ⟨W2, hW2⟩ : ∃ W2, w1.setRow w.heap.size (eightC (arrE s.data.toList p 8)) = W2 := ⟨_, rfl⟩
    rw [hW2] at HX ⊢
    have HV := hideB (valE_big s.data.toList p 8 (by omega))
    have HAL := hideB (arrE_lt s.data.toList p 8)
    generalize arrE s.data.toList p 8 = a at HX HV HAL ⊢
    clear hW2 hcp hg1 hbr1 b1
    have d0 := HX.out.2.2 0 (by omega)
    have d1 := HX.out.2.2 1 (by omega)
    have d2 := HX.out.2.2 2 (by omega)
    have d3 := HX.out.2.2 3 (by omega)
    have d4 := HX.out.2.2 4 (by omega)
    have d5 := HX.out.2.2 5 (by omega)
    have d6 := HX.out.2.2 6 (by omega)
    have d7 := HX.out.2.2 7 (by omega)
    go_wp2_with fail
    go_loop [8, 10, 34] (fun n _ i => ∃ j : Nat, j ≤ 8 ∧ i = .int .i64 j ∧ n = .int .u64 (valE a j)) (fun _ _ i => 8 - (intOf i).toNat)
    case atStart => exact ⟨0, by omega, rfl, rfl⟩
    case round =>
      obtain ⟨j, hj, rfl, rfl⟩ := hrel
      clear d0 d1 d2 d3 d4 d5 d6 d7
      by_cases hlt : j < 8
      · have hlt' : (j : Int) < 8 := by omega
        have hix := index_eight a hlt
        have hvl := valE_lt HAL.out j
        have hv8 : valE a j < 72057594037927936 := Nat.lt_of_lt_of_le hvl (Nat.pow_le_pow_right (by omega) (show j ≤ 7 by omega))
        have ha := HAL.out j
        have HNX : Hid (valE a (j + 1) = 256 * valE a j + a j) := rfl
        obtain ⟨vj, hvj⟩ : ∃ v, valE a j = v := ⟨_, rfl⟩
        rw [hvj] at hv8 HNX ⊢
        obtain ⟨aj, haj⟩ : ∃ v, a j = v := ⟨_, rfl⟩
        rw [haj] at ha HNX hix
        have HOR := hideB (or_byte hv8 ha)
        clear hvl hvj haj
        go_wp2_with fail
        exact ⟨⟨j + 1, by omega, by go_num, by rw [HOR.out, HNX.out]⟩, by simp [intOf]; omega⟩
      · obtain rfl : j = 8 := by omega
        rw [HV.out]
        have HVV := HV
        by_cases hbig : bigN s.data.toList p (8) ≤ 1000000000000000
        · go_wp2_with fail
          refine (within_yes _ _ hbig).mono ?_
          rintro e w9 ⟨rfl, rfl⟩
          go_wp2_with fail
          go_ret
          exact ⟨.inl ⟨rfl, hbig, HX.out.1⟩, HX.out.2.1⟩
        · go_wp2_with fail
          refine (within_no _ _ (by omega)).mono ?_
          rintro e w9 ⟨rfl, rfl⟩
          unfold gup
          go_wp2_with fail
          exact ⟨rfl, .inr ⟨rfl, Nat.lt_of_not_le hbig⟩, HX.out.2.1⟩
end Go.Proofs.YtokhindolimchaaGreat
