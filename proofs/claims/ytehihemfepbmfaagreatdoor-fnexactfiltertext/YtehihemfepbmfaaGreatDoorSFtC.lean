/-
  The specification's l7Text at kinds with two filters inside.
-/
import Derived.Test.YtehihemfepbmfaaGreatDoorSFtB
import Derived.Deep.RegionHeld3
namespace Go.Proofs.YtehihemfepbmfaaGreatDoor
open Go.RowKit Go.WideShapes
set_option linter.unusedSimpArgs false
set_option linter.unusedVariables false


set_option maxRecDepth 100000 in
set_option maxHeartbeats 6400000 in
theorem sf_k6 (B : Nat) (x : FN) (f : Nat) (fs : List FN) (ih : SfAll B fs f) (hkd : x.kind = 6) : SfOne B x (bodyF (fTxt fs f) x) f fs := by
  intro w bv o N cap n kc kn ki least hfs hx hok hkids hS hl1 hl6
  obtain ⟨⟨c0, c1, c2, c3, c4, c5, hinn⟩, hbv, hB, hn, hN⟩ := hx
  have hLV := l7Level_any x.kind
  obtain ⟨f8, f9, fo, f2, f3, f5, fz, fzn⟩ := fit_kids hok
  have hnN : (n : Int) < (N : Int) := by omega
  obtain ⟨_, aC, cC, rfl, hcc⟩ := hinn.cst
  obtain ⟨_, hks, aK, cK, rfl, hkc⟩ := hinn.names
  obtain ⟨_, _, aI, cI, rfl, hic⟩ := hinn.kids
  obtain ⟨M, hM⟩ : ∃ M, x.kids.length = M := ⟨_, rfl⟩
  obtain ⟨MK, hMK⟩ : ∃ MK, x.names.length = MK := ⟨_, rfl⟩
  obtain ⟨MC, hMC⟩ : ∃ MC, x.cst.length = MC := ⟨_, rfl⟩
  have HMM := hideIt hM
  have HMK := hideIt hMK
  have HMC := hideIt hMC
  rw [hM] at c5 hic f8 f9 fo
  rw [hMK] at c4 hkc f9 fzn
  rw [hMC] at c3 hcc
  rw [hM] at hkids
  have HCC := hideIt hcc
  have HKC := hideIt hkc
  have HIC := hideIt hic
  clear hcc hkc hic hM hMK hMC hinn
  have HLV : Hid (∀ W, Calls Tryz.prog 61 #[.int .i64 6] W fun e w' => e = .returned (.int .i64 1) ∧ w' = W) := fun W => l7Level_any 6 W (by omega) (by omega)
  rw [hkd] at c0 ⊢
  rw [show levF 6 = 1 from rfl]
  have HB6 : Hid (bodyF (fTxt fs f) x = bodyF (fTxt fs f) x) := rfl
  have eM : M = 2 := by have := (fo (by omega) (by omega)).2.2; rw [hkd] at this; simp [kidsN] at this; omega
  subst eM
  have HIH : Hid (∀ (q : Nat) (l : Int) W, Below w.heap.size w W → q < f → q < fs.length → 1 ≤ l → l ≤ 6 → Calls Tryz.prog 25 #[.slice (some ⟨bv, o, none⟩) N cap, .int .i64 q, .int .i64 l] W fun e w' => e = .returned (.string (txt (fTxt fs f q l))) ∧ Below W.heap.size W w') := fun q l W hb h1 h2 h3 h4 => ih _ q l W (hfs.below (hb.mono hB)) (Nat.le_trans hB hb.size) h1 h2 h3 h4
  obtain ⟨bi, oi, rfl, hbi, hci⟩ := HIC.out (by omega)
  have hbz : bi < w.heap.size := by omega
  have hbn : ¬ bi = w.heap.size := by omega
  obtain ⟨q0, hq0, hf0, hs0, hz0⟩ := hkids 0 (by omega)
  have ci0 := hci 0 (by omega)
  rw [hq0] at ci0
  rw [Nat.add_zero] at ci0
  have HK0 := hideIt (fun W hb => HIH.out q0 2 W hb hf0 hs0 (by omega) (by omega))
  have hzk0 := hz0 2
  obtain ⟨r0, hr0⟩ : ∃ r, fTxt fs f q0 2 = r := ⟨_, rfl⟩
  obtain ⟨q1, hq1, hf1, hs1, hz1⟩ := hkids 1 (by omega)
  have ci1 := hci 1 (by omega)
  rw [hq1] at ci1
  have HK1 := hideIt (fun W hb => HIH.out q1 1 W hb hf1 hs1 (by omega) (by omega))
  have hzk1 := hz1 1
  obtain ⟨r1, hr1⟩ : ∃ r, fTxt fs f q1 1 = r := ⟨_, rfl⟩
  have HSB : Hid (bodyF (fTxt fs f) x = fTxt fs f (intAt x.kids 0) 2 ++ sgnF 6 ++ fTxt fs f (intAt x.kids 1) 1) := by rw [Hid, bodyF, hkd]; simp [lftF, rgtF]
  obtain ⟨S, hSS⟩ : ∃ S, bodyF (fTxt fs f) x = S := ⟨_, rfl⟩
  rw [hSS] at hS HSB ⊢
  clear hSS
  rw [hq0, hr0, hq1, hr1] at HSB
  rw [hr0] at HK0 hzk0
  rw [← txt_size] at hzk0
  clear hz0 hr0 hq0 hf0 hs0
  rw [hr1] at HK1 hzk1
  rw [← txt_size] at hzk1
  clear hz1 hr1 hq1 hf1 hs1
  have HSG : Hid (∀ W, Calls Tryz.prog 64 #[.int .i64 6] W fun e w' => e = .returned (.string (txt (sgnF 6))) ∧ w' = W) := fun W => l7Sign_any 6 W (by simp)
  have hzg : (txt (sgnF 6)).size ≤ 4 := by rw [txt_size]; exact sgnF_len _
  obtain ⟨sg, hsg⟩ : ∃ sg, sgnF 6 = sg := ⟨_, rfl⟩
  rw [hsg] at HSG hzg HSB
  clear hsg hci HIH ih
  clear f8 f9 fo f2 f3 f5 fz fzn hfs hkids hLV HB6 HCC HKC HIC
  have g1 : ¬ 9223372036854775807 < (txt r0).size + (txt sg).size := by omega
  have g2 : ¬ 9223372036854775807 < (txt r0).size + (txt sg).size + (txt r1).size := by omega
  obtain ⟨nm, hnm⟩ : ∃ nm, x.name = nm := ⟨_, rfl⟩
  obtain ⟨pl, hpl⟩ : ∃ pl, x.place = pl := ⟨_, rfl⟩
  rw [hnm] at c1
  rw [hpl] at c2
  clear hnm hpl
  obtain ⟨W1, hW1⟩ : ∃ W1, w.alloc (.cells #[.int .i64 6, .string nm, .int .i64 pl, .slice aC MC cC, .slice aK MK cK, .slice (some ⟨bi, oi, none⟩) 2 cI] 51) = W1 := ⟨_, rfl⟩
  have HBX : Hid (Below w.heap.size w W1) := by rw [Hid, ← hW1]; exact (Below.refl _ _).alloc (Nat.le_refl _) _
  have x0 : W1.cell? ⟨w.heap.size, 0, none⟩ = some (.int .i64 6) := by rw [← hW1]; simp
  have x5 : W1.cell? ⟨w.heap.size, 5, none⟩ = some (.slice (some ⟨bi, oi, none⟩) 2 cI) := by rw [← hW1]; simp
  have hzW : w.heap.size < W1.heap.size := by rw [← hW1]; simp
  have y0 := (below_cell HBX.out hbz).trans ci0
  have y1 := (below_cell HBX.out hbz).trans ci1
  have HW1 := hideIt hW1
  have HS : Hid (∀ Y, Below W1.heap.size W1 Y → (Y.cell? ⟨w.heap.size, 0, none⟩ = some (.int .i64 6) ∧ Y.cell? ⟨w.heap.size, 5, none⟩ = some (.slice (some ⟨bi, oi, none⟩) 2 cI) ∧ Y.cell? ⟨bi, oi, none⟩ = some (.int .i64 q0) ∧ Y.cell? ⟨bi, oi + 1, none⟩ = some (.int .i64 q1))) := fun Y hY => ⟨(below_cell hY hzW).trans x0, (below_cell hY hzW).trans x5, (below_cell hY (by omega)).trans y0, (below_cell hY (by omega)).trans y1⟩
  have HBQ : Hid (∀ Y, Below W1.heap.size W1 Y → Below w.heap.size w Y) := fun Y hY => HBX.out.trans (hY.mono (by omega))
  have HFIN : Hid (txt r0 ++ txt sg ++ txt r1 = txt S) := by rw [Hid, txt_app, txt_app, HSB.out]
  have hzS : (txt S).size ≤ 24600 := by rw [txt_size]; exact hS
  clear hW1
  go_enter Tryz.func25, Tryz.ntmps25
  go_wp2_with (go_at_call 61; refine (HLV.out _).mono ?_; rintro e w1 ⟨rfl, rfl⟩)
  go_wp2_with fail
  rw [HW1.out]
  go_region_held3 (fun w' => w'.cell? ⟨w.heap.size, 0, none⟩ = some (.int .i64 6) ∧ w'.cell? ⟨w.heap.size, 5, none⟩ = some (.slice (some ⟨bi, oi, none⟩) 2 cI) ∧ w'.cell? ⟨bi, oi, none⟩ = some (.int .i64 q0) ∧ w'.cell? ⟨bi, oi + 1, none⟩ = some (.int .i64 q1))
    (first | exact HS.out _ b4 | exact HS.out _ b3 | exact HS.out _ (Below.drew (Below.refl _ _)))
    (first
      | (go_at_call 64; refine (HSG.out _).mono ?_; rintro e w9 ⟨rfl, rfl⟩)
      | (go_at_call 25; refine (HK1.out _ (HBQ.out _ b3)).mono ?_; rintro e w4 ⟨rfl, hb4⟩; have b4 := b3.trans (hb4.mono b3.size))
      | (go_at_call 25; refine (HK0.out _ (HBQ.out _ (Below.drew (Below.refl W1.heap.size W1)))).mono ?_; rintro e w3 ⟨rfl, hb3⟩; have b3 := (Below.drew (Below.refl W1.heap.size W1)).trans hb3))
  all_goals (
    have HB5 := hideIt (HBQ.out _ b4)
    rw [HFIN.out]
    by_cases hll : (1 : Int) < least
    · go_wp2_with fail
      go_ret
      exact ⟨ret_str (txt_of (by simp [bytes_txt])), HB5.out⟩
    · go_wp2_with fail
      go_ret
      exact ⟨rfl, HB5.out⟩)

set_option maxRecDepth 100000 in
set_option maxHeartbeats 6400000 in
theorem sf_k21 (B : Nat) (x : FN) (f : Nat) (fs : List FN) (ih : SfAll B fs f) (hkd : x.kind = 21) : SfOne B x (bodyF (fTxt fs f) x) f fs := by
  intro w bv o N cap n kc kn ki least hfs hx hok hkids hS hl1 hl6
  obtain ⟨⟨c0, c1, c2, c3, c4, c5, hinn⟩, hbv, hB, hn, hN⟩ := hx
  have hLV := l7Level_any x.kind
  obtain ⟨f8, f9, fo, f2, f3, f5, fz, fzn⟩ := fit_kids hok
  have hnN : (n : Int) < (N : Int) := by omega
  obtain ⟨_, aC, cC, rfl, hcc⟩ := hinn.cst
  obtain ⟨_, hks, aK, cK, rfl, hkc⟩ := hinn.names
  obtain ⟨_, _, aI, cI, rfl, hic⟩ := hinn.kids
  obtain ⟨M, hM⟩ : ∃ M, x.kids.length = M := ⟨_, rfl⟩
  obtain ⟨MK, hMK⟩ : ∃ MK, x.names.length = MK := ⟨_, rfl⟩
  obtain ⟨MC, hMC⟩ : ∃ MC, x.cst.length = MC := ⟨_, rfl⟩
  have HMM := hideIt hM
  have HMK := hideIt hMK
  have HMC := hideIt hMC
  rw [hM] at c5 hic f8 f9 fo
  rw [hMK] at c4 hkc f9 fzn
  rw [hMC] at c3 hcc
  rw [hM] at hkids
  have HCC := hideIt hcc
  have HKC := hideIt hkc
  have HIC := hideIt hic
  clear hcc hkc hic hM hMK hMC hinn
  have HLV : Hid (∀ W, Calls Tryz.prog 61 #[.int .i64 21] W fun e w' => e = .returned (.int .i64 3) ∧ w' = W) := fun W => l7Level_any 21 W (by omega) (by omega)
  rw [hkd] at c0 ⊢
  rw [show levF 21 = 3 from rfl]
  have HB6 : Hid (bodyF (fTxt fs f) x = bodyF (fTxt fs f) x) := rfl
  have eM : M = 2 := by have := (fo (by omega) (by omega)).2.2; rw [hkd] at this; simp [kidsN] at this; omega
  subst eM
  have HIH : Hid (∀ (q : Nat) (l : Int) W, Below w.heap.size w W → q < f → q < fs.length → 1 ≤ l → l ≤ 6 → Calls Tryz.prog 25 #[.slice (some ⟨bv, o, none⟩) N cap, .int .i64 q, .int .i64 l] W fun e w' => e = .returned (.string (txt (fTxt fs f q l))) ∧ Below W.heap.size W w') := fun q l W hb h1 h2 h3 h4 => ih _ q l W (hfs.below (hb.mono hB)) (Nat.le_trans hB hb.size) h1 h2 h3 h4
  obtain ⟨bi, oi, rfl, hbi, hci⟩ := HIC.out (by omega)
  have hbz : bi < w.heap.size := by omega
  have hbn : ¬ bi = w.heap.size := by omega
  obtain ⟨q0, hq0, hf0, hs0, hz0⟩ := hkids 0 (by omega)
  have ci0 := hci 0 (by omega)
  rw [hq0] at ci0
  rw [Nat.add_zero] at ci0
  have HK0 := hideIt (fun W hb => HIH.out q0 4 W hb hf0 hs0 (by omega) (by omega))
  have hzk0 := hz0 4
  obtain ⟨r0, hr0⟩ : ∃ r, fTxt fs f q0 4 = r := ⟨_, rfl⟩
  obtain ⟨q1, hq1, hf1, hs1, hz1⟩ := hkids 1 (by omega)
  have ci1 := hci 1 (by omega)
  rw [hq1] at ci1
  have HK1 := hideIt (fun W hb => HIH.out q1 3 W hb hf1 hs1 (by omega) (by omega))
  have hzk1 := hz1 3
  obtain ⟨r1, hr1⟩ : ∃ r, fTxt fs f q1 3 = r := ⟨_, rfl⟩
  have HSB : Hid (bodyF (fTxt fs f) x = fTxt fs f (intAt x.kids 0) 4 ++ sgnF 21 ++ fTxt fs f (intAt x.kids 1) 3) := by rw [Hid, bodyF, hkd]; simp [lftF, rgtF]
  obtain ⟨S, hSS⟩ : ∃ S, bodyF (fTxt fs f) x = S := ⟨_, rfl⟩
  rw [hSS] at hS HSB ⊢
  clear hSS
  rw [hq0, hr0, hq1, hr1] at HSB
  rw [hr0] at HK0 hzk0
  rw [← txt_size] at hzk0
  clear hz0 hr0 hq0 hf0 hs0
  rw [hr1] at HK1 hzk1
  rw [← txt_size] at hzk1
  clear hz1 hr1 hq1 hf1 hs1
  have HSG : Hid (∀ W, Calls Tryz.prog 64 #[.int .i64 21] W fun e w' => e = .returned (.string (txt (sgnF 21))) ∧ w' = W) := fun W => l7Sign_any 21 W (by simp)
  have hzg : (txt (sgnF 21)).size ≤ 4 := by rw [txt_size]; exact sgnF_len _
  obtain ⟨sg, hsg⟩ : ∃ sg, sgnF 21 = sg := ⟨_, rfl⟩
  rw [hsg] at HSG hzg HSB
  clear hsg hci HIH ih
  clear f8 f9 fo f2 f3 f5 fz fzn hfs hkids hLV HB6 HCC HKC HIC
  have g1 : ¬ 9223372036854775807 < (txt r0).size + (txt sg).size := by omega
  have g2 : ¬ 9223372036854775807 < (txt r0).size + (txt sg).size + (txt r1).size := by omega
  obtain ⟨nm, hnm⟩ : ∃ nm, x.name = nm := ⟨_, rfl⟩
  obtain ⟨pl, hpl⟩ : ∃ pl, x.place = pl := ⟨_, rfl⟩
  rw [hnm] at c1
  rw [hpl] at c2
  clear hnm hpl
  obtain ⟨W1, hW1⟩ : ∃ W1, w.alloc (.cells #[.int .i64 21, .string nm, .int .i64 pl, .slice aC MC cC, .slice aK MK cK, .slice (some ⟨bi, oi, none⟩) 2 cI] 51) = W1 := ⟨_, rfl⟩
  have HBX : Hid (Below w.heap.size w W1) := by rw [Hid, ← hW1]; exact (Below.refl _ _).alloc (Nat.le_refl _) _
  have x0 : W1.cell? ⟨w.heap.size, 0, none⟩ = some (.int .i64 21) := by rw [← hW1]; simp
  have x5 : W1.cell? ⟨w.heap.size, 5, none⟩ = some (.slice (some ⟨bi, oi, none⟩) 2 cI) := by rw [← hW1]; simp
  have hzW : w.heap.size < W1.heap.size := by rw [← hW1]; simp
  have y0 := (below_cell HBX.out hbz).trans ci0
  have y1 := (below_cell HBX.out hbz).trans ci1
  have HW1 := hideIt hW1
  have HS : Hid (∀ Y, Below W1.heap.size W1 Y → (Y.cell? ⟨w.heap.size, 0, none⟩ = some (.int .i64 21) ∧ Y.cell? ⟨w.heap.size, 5, none⟩ = some (.slice (some ⟨bi, oi, none⟩) 2 cI) ∧ Y.cell? ⟨bi, oi, none⟩ = some (.int .i64 q0) ∧ Y.cell? ⟨bi, oi + 1, none⟩ = some (.int .i64 q1))) := fun Y hY => ⟨(below_cell hY hzW).trans x0, (below_cell hY hzW).trans x5, (below_cell hY (by omega)).trans y0, (below_cell hY (by omega)).trans y1⟩
  have HBQ : Hid (∀ Y, Below W1.heap.size W1 Y → Below w.heap.size w Y) := fun Y hY => HBX.out.trans (hY.mono (by omega))
  have HFIN : Hid (txt r0 ++ txt sg ++ txt r1 = txt S) := by rw [Hid, txt_app, txt_app, HSB.out]
  have hzS : (txt S).size ≤ 24600 := by rw [txt_size]; exact hS
  clear hW1
  go_enter Tryz.func25, Tryz.ntmps25
  go_wp2_with (go_at_call 61; refine (HLV.out _).mono ?_; rintro e w1 ⟨rfl, rfl⟩)
  go_wp2_with fail
  rw [HW1.out]
  go_region_held3 (fun w' => w'.cell? ⟨w.heap.size, 0, none⟩ = some (.int .i64 21) ∧ w'.cell? ⟨w.heap.size, 5, none⟩ = some (.slice (some ⟨bi, oi, none⟩) 2 cI) ∧ w'.cell? ⟨bi, oi, none⟩ = some (.int .i64 q0) ∧ w'.cell? ⟨bi, oi + 1, none⟩ = some (.int .i64 q1))
    (first | exact HS.out _ b4 | exact HS.out _ b3 | exact HS.out _ (Below.drew (Below.refl _ _)))
    (first
      | (go_at_call 64; refine (HSG.out _).mono ?_; rintro e w9 ⟨rfl, rfl⟩)
      | (go_at_call 25; refine (HK1.out _ (HBQ.out _ b3)).mono ?_; rintro e w4 ⟨rfl, hb4⟩; have b4 := b3.trans (hb4.mono b3.size))
      | (go_at_call 25; refine (HK0.out _ (HBQ.out _ (Below.drew (Below.refl W1.heap.size W1)))).mono ?_; rintro e w3 ⟨rfl, hb3⟩; have b3 := (Below.drew (Below.refl W1.heap.size W1)).trans hb3))
  all_goals (
    have HB5 := hideIt (HBQ.out _ b4)
    rw [HFIN.out]
    by_cases hll : (3 : Int) < least
    · go_wp2_with fail
      go_ret
      exact ⟨ret_str (txt_of (by simp [bytes_txt])), HB5.out⟩
    · go_wp2_with fail
      go_ret
      exact ⟨rfl, HB5.out⟩)

set_option maxRecDepth 100000 in
set_option maxHeartbeats 6400000 in
theorem sf_k7 (B : Nat) (x : FN) (f : Nat) (fs : List FN) (ih : SfAll B fs f) (hkd : x.kind = 7) : SfOne B x (bodyF (fTxt fs f) x) f fs := by
  intro w bv o N cap n kc kn ki least hfs hx hok hkids hS hl1 hl6
  obtain ⟨⟨c0, c1, c2, c3, c4, c5, hinn⟩, hbv, hB, hn, hN⟩ := hx
  have hLV := l7Level_any x.kind
  obtain ⟨f8, f9, fo, f2, f3, f5, fz, fzn⟩ := fit_kids hok
  have hnN : (n : Int) < (N : Int) := by omega
  obtain ⟨_, aC, cC, rfl, hcc⟩ := hinn.cst
  obtain ⟨_, hks, aK, cK, rfl, hkc⟩ := hinn.names
  obtain ⟨_, _, aI, cI, rfl, hic⟩ := hinn.kids
  obtain ⟨M, hM⟩ : ∃ M, x.kids.length = M := ⟨_, rfl⟩
  obtain ⟨MK, hMK⟩ : ∃ MK, x.names.length = MK := ⟨_, rfl⟩
  obtain ⟨MC, hMC⟩ : ∃ MC, x.cst.length = MC := ⟨_, rfl⟩
  have HMM := hideIt hM
  have HMK := hideIt hMK
  have HMC := hideIt hMC
  rw [hM] at c5 hic f8 f9 fo
  rw [hMK] at c4 hkc f9 fzn
  rw [hMC] at c3 hcc
  rw [hM] at hkids
  have HCC := hideIt hcc
  have HKC := hideIt hkc
  have HIC := hideIt hic
  clear hcc hkc hic hM hMK hMC hinn
  have HLV : Hid (∀ W, Calls Tryz.prog 61 #[.int .i64 7] W fun e w' => e = .returned (.int .i64 2) ∧ w' = W) := fun W => l7Level_any 7 W (by omega) (by omega)
  rw [hkd] at c0 ⊢
  rw [show levF 7 = 2 from rfl]
  have HB6 : Hid (bodyF (fTxt fs f) x = bodyF (fTxt fs f) x) := rfl
  have eM : M = 2 := by have := (fo (by omega) (by omega)).2.2; rw [hkd] at this; simp [kidsN] at this; omega
  subst eM
  have HIH : Hid (∀ (q : Nat) (l : Int) W, Below w.heap.size w W → q < f → q < fs.length → 1 ≤ l → l ≤ 6 → Calls Tryz.prog 25 #[.slice (some ⟨bv, o, none⟩) N cap, .int .i64 q, .int .i64 l] W fun e w' => e = .returned (.string (txt (fTxt fs f q l))) ∧ Below W.heap.size W w') := fun q l W hb h1 h2 h3 h4 => ih _ q l W (hfs.below (hb.mono hB)) (Nat.le_trans hB hb.size) h1 h2 h3 h4
  obtain ⟨bi, oi, rfl, hbi, hci⟩ := HIC.out (by omega)
  have hbz : bi < w.heap.size := by omega
  have hbn : ¬ bi = w.heap.size := by omega
  obtain ⟨q0, hq0, hf0, hs0, hz0⟩ := hkids 0 (by omega)
  have ci0 := hci 0 (by omega)
  rw [hq0] at ci0
  rw [Nat.add_zero] at ci0
  have HK0 := hideIt (fun W hb => HIH.out q0 2 W hb hf0 hs0 (by omega) (by omega))
  have hzk0 := hz0 2
  obtain ⟨r0, hr0⟩ : ∃ r, fTxt fs f q0 2 = r := ⟨_, rfl⟩
  obtain ⟨q1, hq1, hf1, hs1, hz1⟩ := hkids 1 (by omega)
  have ci1 := hci 1 (by omega)
  rw [hq1] at ci1
  have HK1 := hideIt (fun W hb => HIH.out q1 3 W hb hf1 hs1 (by omega) (by omega))
  have hzk1 := hz1 3
  obtain ⟨r1, hr1⟩ : ∃ r, fTxt fs f q1 3 = r := ⟨_, rfl⟩
  have HSB : Hid (bodyF (fTxt fs f) x = fTxt fs f (intAt x.kids 0) 2 ++ sgnF 7 ++ fTxt fs f (intAt x.kids 1) 3) := by rw [Hid, bodyF, hkd]; simp [lftF, rgtF]
  obtain ⟨S, hSS⟩ : ∃ S, bodyF (fTxt fs f) x = S := ⟨_, rfl⟩
  rw [hSS] at hS HSB ⊢
  clear hSS
  rw [hq0, hr0, hq1, hr1] at HSB
  rw [hr0] at HK0 hzk0
  rw [← txt_size] at hzk0
  clear hz0 hr0 hq0 hf0 hs0
  rw [hr1] at HK1 hzk1
  rw [← txt_size] at hzk1
  clear hz1 hr1 hq1 hf1 hs1
  have HSG : Hid (∀ W, Calls Tryz.prog 64 #[.int .i64 7] W fun e w' => e = .returned (.string (txt (sgnF 7))) ∧ w' = W) := fun W => l7Sign_any 7 W (by simp)
  have hzg : (txt (sgnF 7)).size ≤ 4 := by rw [txt_size]; exact sgnF_len _
  obtain ⟨sg, hsg⟩ : ∃ sg, sgnF 7 = sg := ⟨_, rfl⟩
  rw [hsg] at HSG hzg HSB
  clear hsg hci HIH ih
  clear f8 f9 fo f2 f3 f5 fz fzn hfs hkids hLV HB6 HCC HKC HIC
  have g1 : ¬ 9223372036854775807 < (txt r0).size + (txt sg).size := by omega
  have g2 : ¬ 9223372036854775807 < (txt r0).size + (txt sg).size + (txt r1).size := by omega
  obtain ⟨nm, hnm⟩ : ∃ nm, x.name = nm := ⟨_, rfl⟩
  obtain ⟨pl, hpl⟩ : ∃ pl, x.place = pl := ⟨_, rfl⟩
  rw [hnm] at c1
  rw [hpl] at c2
  clear hnm hpl
  obtain ⟨W1, hW1⟩ : ∃ W1, w.alloc (.cells #[.int .i64 7, .string nm, .int .i64 pl, .slice aC MC cC, .slice aK MK cK, .slice (some ⟨bi, oi, none⟩) 2 cI] 51) = W1 := ⟨_, rfl⟩
  have HBX : Hid (Below w.heap.size w W1) := by rw [Hid, ← hW1]; exact (Below.refl _ _).alloc (Nat.le_refl _) _
  have x0 : W1.cell? ⟨w.heap.size, 0, none⟩ = some (.int .i64 7) := by rw [← hW1]; simp
  have x5 : W1.cell? ⟨w.heap.size, 5, none⟩ = some (.slice (some ⟨bi, oi, none⟩) 2 cI) := by rw [← hW1]; simp
  have hzW : w.heap.size < W1.heap.size := by rw [← hW1]; simp
  have y0 := (below_cell HBX.out hbz).trans ci0
  have y1 := (below_cell HBX.out hbz).trans ci1
  have HW1 := hideIt hW1
  have HS : Hid (∀ Y, Below W1.heap.size W1 Y → (Y.cell? ⟨w.heap.size, 0, none⟩ = some (.int .i64 7) ∧ Y.cell? ⟨w.heap.size, 5, none⟩ = some (.slice (some ⟨bi, oi, none⟩) 2 cI) ∧ Y.cell? ⟨bi, oi, none⟩ = some (.int .i64 q0) ∧ Y.cell? ⟨bi, oi + 1, none⟩ = some (.int .i64 q1))) := fun Y hY => ⟨(below_cell hY hzW).trans x0, (below_cell hY hzW).trans x5, (below_cell hY (by omega)).trans y0, (below_cell hY (by omega)).trans y1⟩
  have HBQ : Hid (∀ Y, Below W1.heap.size W1 Y → Below w.heap.size w Y) := fun Y hY => HBX.out.trans (hY.mono (by omega))
  have HFIN : Hid (txt r0 ++ txt sg ++ txt r1 = txt S) := by rw [Hid, txt_app, txt_app, HSB.out]
  have hzS : (txt S).size ≤ 24600 := by rw [txt_size]; exact hS
  clear hW1
  go_enter Tryz.func25, Tryz.ntmps25
  go_wp2_with (go_at_call 61; refine (HLV.out _).mono ?_; rintro e w1 ⟨rfl, rfl⟩)
  go_wp2_with fail
  rw [HW1.out]
  go_region_held3 (fun w' => w'.cell? ⟨w.heap.size, 0, none⟩ = some (.int .i64 7) ∧ w'.cell? ⟨w.heap.size, 5, none⟩ = some (.slice (some ⟨bi, oi, none⟩) 2 cI) ∧ w'.cell? ⟨bi, oi, none⟩ = some (.int .i64 q0) ∧ w'.cell? ⟨bi, oi + 1, none⟩ = some (.int .i64 q1))
    (first | exact HS.out _ b4 | exact HS.out _ b3 | exact HS.out _ (Below.drew (Below.refl _ _)))
    (first
      | (go_at_call 64; refine (HSG.out _).mono ?_; rintro e w9 ⟨rfl, rfl⟩)
      | (go_at_call 25; refine (HK1.out _ (HBQ.out _ b3)).mono ?_; rintro e w4 ⟨rfl, hb4⟩; have b4 := b3.trans (hb4.mono b3.size))
      | (go_at_call 25; refine (HK0.out _ (HBQ.out _ (Below.drew (Below.refl W1.heap.size W1)))).mono ?_; rintro e w3 ⟨rfl, hb3⟩; have b3 := (Below.drew (Below.refl W1.heap.size W1)).trans hb3))
  all_goals (
    have HB5 := hideIt (HBQ.out _ b4)
    rw [HFIN.out]
    by_cases hll : (2 : Int) < least
    · go_wp2_with fail
      go_ret
      exact ⟨ret_str (txt_of (by simp [bytes_txt])), HB5.out⟩
    · go_wp2_with fail
      go_ret
      exact ⟨rfl, HB5.out⟩)
end Go.Proofs.YtehihemfepbmfaaGreatDoor
