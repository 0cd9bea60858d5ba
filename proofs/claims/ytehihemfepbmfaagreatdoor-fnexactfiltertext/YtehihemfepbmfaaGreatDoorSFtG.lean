/-
  The specification's l7Text at kinds with many filters inside.
-/
import Derived.Test.YtehihemfepbmfaaGreatDoorSFtB
import Derived.Deep.RegionHeld3
namespace Go.Proofs.YtehihemfepbmfaaGreatDoor
open Go.RowKit Go.WideShapes
set_option linter.unusedSimpArgs false
set_option linter.unusedVariables false


set_option maxRecDepth 100000 in
set_option maxHeartbeats 6400000 in
theorem sf_k22 (B : Nat) (x : FN) (f : Nat) (fs : List FN) (ih : SfAll B fs f) (hkd : x.kind = 22) : SfOne B x (bodyF (fTxt fs f) x) f fs := by
  intro w bv o N cap n kc kn ki least hfs hx hok hkids hS hl1 hl6
  obtain ⟨⟨c0, c1, c2, c3, c4, c5, hinn⟩, hbv, hB, hn, hN⟩ := hx
  have hLV := l7Level_any x.kind
  obtain ⟨f8, f9, fo, f2, f3, f5, fz, fzn⟩ := fit_kids hok
  have hnN : (n : Int) < (N : Int) := by omega
  obtain ⟨_, aC, cC, rfl, hcc⟩ := hinn.cst
  obtain ⟨_, hks, aK, cK, rfl, hkc⟩ := hinn.names
  obtain ⟨_, _, aI, cI, rfl, hic⟩ := hinn.kids
  obtain ⟨M, hM⟩ : ∃ M, x.kids.length = M := ⟨_, rfl⟩
  obtain ⟨MK, hMK⟩ : ∃ MK, x.names.length = MK := ⟨_, rfl⟩
  obtain ⟨MC, hMC⟩ : ∃ MC, x.cst.length = MC := ⟨_, rfl⟩
  have HMM := hideIt hM
  have HMK := hideIt hMK
  have HMC := hideIt hMC
  rw [hM] at c5 hic f8 f9 fo
  rw [hMK] at c4 hkc f9 fzn
  rw [hMC] at c3 hcc
  rw [hM] at hkids
  have HCC := hideIt hcc
  have HKC := hideIt hkc
  have HIC := hideIt hic
  clear hcc hkc hic hM hMK hMC hinn
  have HLV : Hid (∀ W, Calls Tryz.prog 61 #[.int .i64 22] W fun e w' => e = .returned (.int .i64 7) ∧ w' = W) := fun W => l7Level_any 22 W (by omega) (by omega)
  rw [hkd] at c0 ⊢
  rw [show levF 22 = 7 from rfl]
  have HB6 : Hid (bodyF (fTxt fs f) x = bodyF (fTxt fs f) x) := rfl
  have eM : M = 3 := by have := (fo (by omega) (by omega)).2.2; rw [hkd] at this; simp [kidsN] at this; omega
  subst eM
  have HIH : Hid (∀ (q : Nat) (l : Int) W, Below w.heap.size w W → q < f → q < fs.length → 1 ≤ l → l ≤ 6 → Calls Tryz.prog 25 #[.slice (some ⟨bv, o, none⟩) N cap, .int .i64 q, .int .i64 l] W fun e w' => e = .returned (.string (txt (fTxt fs f q l))) ∧ Below W.heap.size W w') := fun q l W hb h1 h2 h3 h4 => ih _ q l W (hfs.below (hb.mono hB)) (Nat.le_trans hB hb.size) h1 h2 h3 h4
  obtain ⟨bi, oi, rfl, hbi, hci⟩ := HIC.out (by omega)
  have hbz : bi < w.heap.size := by omega
  have hbn : ¬ bi = w.heap.size := by omega
  obtain ⟨q0, hq0, hf0, hs0, hz0⟩ := hkids 0 (by omega)
  have ci0 := hci 0 (by omega)
  rw [hq0] at ci0
  rw [Nat.add_zero] at ci0
  have HK0 := hideIt (fun W hb => HIH.out q0 1 W hb hf0 hs0 (by omega) (by omega))
  have hzk0 := hz0 1
  obtain ⟨r0, hr0⟩ : ∃ r, fTxt fs f q0 1 = r := ⟨_, rfl⟩
  obtain ⟨q1, hq1, hf1, hs1, hz1⟩ := hkids 1 (by omega)
  have ci1 := hci 1 (by omega)
  rw [hq1] at ci1
  have HK1 := hideIt (fun W hb => HIH.out q1 1 W hb hf1 hs1 (by omega) (by omega))
  have hzk1 := hz1 1
  obtain ⟨r1, hr1⟩ : ∃ r, fTxt fs f q1 1 = r := ⟨_, rfl⟩
  obtain ⟨q2, hq2, hf2, hs2, hz2⟩ := hkids 2 (by omega)
  have ci2 := hci 2 (by omega)
  rw [hq2] at ci2
  have HK2 := hideIt (fun W hb => HIH.out q2 1 W hb hf2 hs2 (by omega) (by omega))
  have hzk2 := hz2 1
  obtain ⟨r2, hr2⟩ : ∃ r, fTxt fs f q2 1 = r := ⟨_, rfl⟩
  have HSB : Hid (bodyF (fTxt fs f) x = [105, 102, 32] ++ fTxt fs f (intAt x.kids 0) 1 ++ [32, 116, 104, 101, 110, 32] ++ fTxt fs f (intAt x.kids 1) 1 ++ [32, 101, 108, 115, 101, 32] ++ fTxt fs f (intAt x.kids 2) 1 ++ [32, 101, 110, 100]) := by rw [Hid, bodyF, hkd]; simp
  obtain ⟨S, hSS⟩ : ∃ S, bodyF (fTxt fs f) x = S := ⟨_, rfl⟩
  rw [hSS] at hS HSB ⊢
  clear hSS
  rw [hq0, hr0, hq1, hr1, hq2, hr2] at HSB
  rw [hr0] at HK0 hzk0
  rw [← txt_size] at hzk0
  clear hz0 hr0 hq0 hf0 hs0
  rw [hr1] at HK1 hzk1
  rw [← txt_size] at hzk1
  clear hz1 hr1 hq1 hf1 hs1
  rw [hr2] at HK2 hzk2
  rw [← txt_size] at hzk2
  clear hz2 hr2 hq2 hf2 hs2
  clear hci HIH ih
  clear f8 f9 fo f2 f3 f5 fz fzn hfs hkids hLV HB6 HCC HKC HIC
  have g0 : ¬ 9223372036854775807 < 3 + (txt r0).size := by omega
  have g1 : ¬ 9223372036854775807 < 3 + (txt r0).size + 6 := by omega
  have g2 : ¬ 9223372036854775807 < 3 + (txt r0).size + 6 + (txt r1).size := by omega
  have g3 : ¬ 9223372036854775807 < 3 + (txt r0).size + 6 + (txt r1).size + 6 := by omega
  have g4 : ¬ 9223372036854775807 < 3 + (txt r0).size + 6 + (txt r1).size + 6 + (txt r2).size := by omega
  have g5 : ¬ 9223372036854775807 < 3 + (txt r0).size + 6 + (txt r1).size + 6 + (txt r2).size + 4 := by omega
  obtain ⟨nm, hnm⟩ : ∃ nm, x.name = nm := ⟨_, rfl⟩
  obtain ⟨pl, hpl⟩ : ∃ pl, x.place = pl := ⟨_, rfl⟩
  rw [hnm] at c1
  rw [hpl] at c2
  clear hnm hpl
  obtain ⟨W1, hW1⟩ : ∃ W1, w.alloc (.cells #[.int .i64 22, .string nm, .int .i64 pl, .slice aC MC cC, .slice aK MK cK, .slice (some ⟨bi, oi, none⟩) 3 cI] 51) = W1 := ⟨_, rfl⟩
  have HBX : Hid (Below w.heap.size w W1) := by rw [Hid, ← hW1]; exact (Below.refl _ _).alloc (Nat.le_refl _) _
  have x5 : W1.cell? ⟨w.heap.size, 5, none⟩ = some (.slice (some ⟨bi, oi, none⟩) 3 cI) := by rw [← hW1]; simp
  have hzW : w.heap.size < W1.heap.size := by rw [← hW1]; simp
  have y0 := (below_cell HBX.out hbz).trans ci0
  have y1 := (below_cell HBX.out hbz).trans ci1
  have y2 := (below_cell HBX.out hbz).trans ci2
  have HW1 := hideIt hW1
  have HS : Hid (∀ Y, Below W1.heap.size W1 Y → (Y.cell? ⟨w.heap.size, 5, none⟩ = some (.slice (some ⟨bi, oi, none⟩) 3 cI) ∧ Y.cell? ⟨bi, oi, none⟩ = some (.int .i64 q0) ∧ Y.cell? ⟨bi, oi + 1, none⟩ = some (.int .i64 q1) ∧ Y.cell? ⟨bi, oi + 2, none⟩ = some (.int .i64 q2))) := fun Y hY => ⟨(below_cell hY hzW).trans x5, (below_cell hY (by omega)).trans y0, (below_cell hY (by omega)).trans y1, (below_cell hY (by omega)).trans y2⟩
  have HBQ : Hid (∀ Y, Below W1.heap.size W1 Y → Below w.heap.size w Y) := fun Y hY => HBX.out.trans (hY.mono (by omega))
  clear hW1
  have hll : ¬ (7 : Int) < least := by omega
  rw [if_neg hll]
  go_enter Tryz.func25, Tryz.ntmps25
  go_wp2_with (go_at_call 61; refine (HLV.out _).mono ?_; rintro e w1 ⟨rfl, rfl⟩)
  go_wp2_with fail
  rw [HW1.out]
  go_region_held3 (fun w' => w'.cell? ⟨w.heap.size, 5, none⟩ = some (.slice (some ⟨bi, oi, none⟩) 3 cI) ∧ w'.cell? ⟨bi, oi, none⟩ = some (.int .i64 q0) ∧ w'.cell? ⟨bi, oi + 1, none⟩ = some (.int .i64 q1) ∧ w'.cell? ⟨bi, oi + 2, none⟩ = some (.int .i64 q2))
    (first | exact HS.out _ b5 | exact HS.out _ b4 | exact HS.out _ b3 | exact HS.out _ (Below.drew (Below.refl _ _)))
    (first
      | (go_at_call 25; refine (HK2.out _ (HBQ.out _ b4)).mono ?_; rintro e w5 ⟨rfl, hb5⟩; have b5 := b4.trans (hb5.mono b4.size))
      | (go_at_call 25; refine (HK1.out _ (HBQ.out _ b3)).mono ?_; rintro e w4 ⟨rfl, hb4⟩; have b4 := b3.trans (hb4.mono b3.size))
      | (go_at_call 25; refine (HK0.out _ (HBQ.out _ (Below.drew (Below.refl W1.heap.size W1)))).mono ?_; rintro e w3 ⟨rfl, hb3⟩; have b3 := (Below.drew (Below.refl W1.heap.size W1)).trans hb3))
  all_goals (
    have HB5 := hideIt (HBQ.out _ b5)
    go_wp2_with fail
    go_ret
    exact ⟨ret_str (txt_of (by rw [HSB.out]; simp [bytes_txt])), HB5.out⟩)
theorem rowF_eq (R : Int → Int → List UInt8) (names : List ByteArray) (kids : List Int) (k : Nat) : [123] ++ rowF R names kids (k + 1) = [123] ++ rowF R names kids k ++ sepF k ++ (keyAt names k).data.toList ++ [58, 32] ++ R (intAt kids k) 3 := by
  rw [rowF]; simp only [List.append_assoc]

set_option maxRecDepth 100000 in
set_option maxHeartbeats 6400000 in
theorem sf_k9 (B : Nat) (x : FN) (f : Nat) (fs : List FN) (ih : SfAll B fs f) (hkd : x.kind = 9) : SfOne B x (bodyF (fTxt fs f) x) f fs := by
  intro w bv o N cap n kc kn ki least hfs hx hok hkids hS hl1 hl6
  obtain ⟨⟨c0, c1, c2, c3, c4, c5, hinn⟩, hbv, hB, hn, hN⟩ := hx
  have hLV := l7Level_any x.kind
  obtain ⟨f8, f9, fo, f2, f3, f5, fz, fzn⟩ := fit_kids hok
  have hnN : (n : Int) < (N : Int) := by omega
  obtain ⟨_, aC, cC, rfl, hcc⟩ := hinn.cst
  obtain ⟨_, hks, aK, cK, rfl, hkc⟩ := hinn.names
  obtain ⟨_, _, aI, cI, rfl, hic⟩ := hinn.kids
  obtain ⟨M, hM⟩ : ∃ M, x.kids.length = M := ⟨_, rfl⟩
  obtain ⟨MK, hMK⟩ : ∃ MK, x.names.length = MK := ⟨_, rfl⟩
  obtain ⟨MC, hMC⟩ : ∃ MC, x.cst.length = MC := ⟨_, rfl⟩
  have HMM := hideIt hM
  have HMK := hideIt hMK
  have HMC := hideIt hMC
  rw [hM] at c5 hic f8 f9 fo
  rw [hMK] at c4 hkc f9 fzn
  rw [hMC] at c3 hcc
  rw [hM] at hkids
  have HCC := hideIt hcc
  have HKC := hideIt hkc
  have HIC := hideIt hic
  clear hcc hkc hic hM hMK hMC hinn
  have HLV : Hid (∀ W, Calls Tryz.prog 61 #[.int .i64 9] W fun e w' => e = .returned (.int .i64 7) ∧ w' = W) := fun W => l7Level_any 9 W (by omega) (by omega)
  rw [hkd] at c0 ⊢
  rw [show levF 9 = 7 from rfl]
  have HB6 : Hid (bodyF (fTxt fs f) x = bodyF (fTxt fs f) x) := rfl
  obtain ⟨eM, hM5, hnz⟩ := f9 hkd
  subst eM
  have HIH : Hid (∀ (q : Nat) (l : Int) W, Below w.heap.size w W → q < f → q < fs.length → 1 ≤ l → l ≤ 6 → Calls Tryz.prog 25 #[.slice (some ⟨bv, o, none⟩) N cap, .int .i64 q, .int .i64 l] W fun e w' => e = .returned (.string (txt (fTxt fs f q l))) ∧ Below W.heap.size W w') := fun q l W hb h1 h2 h3 h4 => ih _ q l W (hfs.below (hb.mono hB)) (Nat.le_trans hB hb.size) h1 h2 h3 h4
  have HSB : Hid (bodyF (fTxt fs f) x = [123] ++ rowF (fTxt fs f) x.names x.kids x.kids.length ++ [125]) := by rw [Hid, bodyF, hkd]; simp
  obtain ⟨S, hSS⟩ : ∃ S, bodyF (fTxt fs f) x = S := ⟨_, rfl⟩
  rw [hSS] at hS HSB ⊢
  clear hSS
  rw [HMM.out] at HSB
  have HNZ : Hid (∀ j, j < M → (keyAt x.names j).size ≤ 60) := fun j hj => hnz j hj
  have HLM : Hid (∀ k, k ≤ M → ([123] ++ rowF (fTxt fs f) x.names x.kids k).length ≤ 24600) := fun k hk => by
    have h2 := rowF_mono (fTxt fs f) x.names x.kids hk
    have h3 := hS
    rw [HSB.out] at h3
    simp only [List.length_append, List.length_cons, List.length_nil] at h3 ⊢
    omega
  have HKIDS := hideIt hkids
  clear hnz
  clear f8 f9 fo f2 f3 f5 fz fzn hfs hkids hLV HB6 HCC
  obtain ⟨nm, hnm⟩ : ∃ nm, x.name = nm := ⟨_, rfl⟩
  obtain ⟨pl, hpl⟩ : ∃ pl, x.place = pl := ⟨_, rfl⟩
  rw [hnm] at c1
  rw [hpl] at c2
  clear hnm hpl hks ih
  obtain ⟨W1, hW1⟩ : ∃ W1, w.alloc (.cells #[.int .i64 9, .string nm, .int .i64 pl, .slice aC MC cC, .slice aK M cK, .slice aI M cI] 51) = W1 := ⟨_, rfl⟩
  have HBX : Hid (Below w.heap.size w W1) := by rw [Hid, ← hW1]; exact (Below.refl _ _).alloc (Nat.le_refl _) _
  have HX4 : Hid (W1.cell? ⟨w.heap.size, 4, none⟩ = some (.slice aK M cK)) := by rw [Hid, ← hW1]; simp
  have HX5 : Hid (W1.cell? ⟨w.heap.size, 5, none⟩ = some (.slice aI M cI)) := by rw [Hid, ← hW1]; simp
  have HZX : Hid (W1.heap.size = w.heap.size + 1) := by rw [Hid, ← hW1]; simp
  have HW1 := hideIt hW1
  clear hW1
  have hll : ¬ (7 : Int) < least := by omega
  rw [if_neg hll]
  go_enter Tryz.func25, Tryz.ntmps25
  go_wp2_with (go_at_call 61; refine (HLV.out _).mono ?_; rintro e w1 ⟨rfl, rfl⟩)
  go_wp2_with fail
  rw [HW1.out]
  go_loopw [9, 10] (fun s i wr => ∃ k : Nat, k ≤ M ∧ i = .int .i64 k ∧ s = .string (txt ([123] ++ rowF (fTxt fs f) x.names x.kids k)) ∧ Below (w.heap.size + 1) W1 wr) (fun _ i _ => M - (intOf i).toNat)
  case atStart => exact ⟨0, Nat.zero_le _, rfl, rfl, Below.refl _ _⟩
  case round =>
    obtain ⟨k, hk, rfl, rfl, hbr⟩ := hrel
    have HBR := hideIt hbr
    have HBW := hideIt (HBX.out.trans (hbr.mono (by omega)))
    have zr : w.heap.size + 1 ≤ wr.heap.size := by have := hbr.size; rw [HZX.out] at this; exact this
    have x4 := (below_cell hbr (show w.heap.size < w.heap.size + 1 by omega)).trans HX4.out
    have x5 := (below_cell hbr (show w.heap.size < w.heap.size + 1 by omega)).trans HX5.out
    have hlm := HLM.out k hk
    have HPJ := hideIt (rowF_eq (fTxt fs f) x.names x.kids k)
    obtain ⟨D, hD⟩ : ∃ D, [123] ++ rowF (fTxt fs f) x.names x.kids k = D := ⟨_, rfl⟩
    rw [hD] at hlm HPJ ⊢
    have HO := hideIt hD
    have hzo : (txt D).size ≤ 24600 := by rw [txt_size]; exact hlm
    clear hD hbr
    by_cases hlt : k < M
    · have hlt' : (k : Int) < (M : Int) := by omega
      obtain ⟨bi, oi, eai, hbi, hci⟩ := HIC.out (by omega)
      obtain ⟨bk, ok, eak, hbk, hck⟩ := HKC.out (by omega)
      obtain ⟨q, hq, hf, hs, hz⟩ := HKIDS.out k hlt
      have ci := (below_cell (HBW.out.mono hB) hbi).trans (hci k hlt)
      have ck := (below_cell (HBW.out.mono hB) hbk).trans (hck k hlt)
      rw [hq] at ci HPJ
      have HIHQ := hideIt (fun W hb => HIH.out q 3 W hb hf hs (by omega) (by omega))
      have hzq := hz 3
      rw [← txt_size] at hzq
      have hzk := HNZ.out k hlt
      obtain ⟨ky, hky⟩ : ∃ ky, keyAt x.names k = ky := ⟨_, rfl⟩
      rw [hky] at ck hzk HPJ
      obtain ⟨r, hr⟩ : ∃ r, fTxt fs f q 3 = r := ⟨_, rfl⟩
      rw [hr] at HPJ hzq HIHQ
      clear hci hck hq hr hky hf hs hz
      subst eai eak
      have HS : Hid (∀ Y, Below wr.heap.size wr Y → (Y.cell? ⟨w.heap.size, 4, none⟩ = some (.slice (some ⟨bk, ok, none⟩) M cK) ∧ Y.cell? ⟨w.heap.size, 5, none⟩ = some (.slice (some ⟨bi, oi, none⟩) M cI) ∧ Y.cell? ⟨bk, ok + k, none⟩ = some (.string ky) ∧ Y.cell? ⟨bi, oi + k, none⟩ = some (.int .i64 q))) := fun Y hY => ⟨(below_cell hY (by omega)).trans x4, (below_cell hY (by omega)).trans x5, (below_cell hY (by omega)).trans ck, (below_cell hY (by omega)).trans ci⟩
      have HBQ : Hid (∀ Y, Below wr.heap.size wr Y → Below w.heap.size w Y) := fun Y hY => HBW.out.trans (hY.mono (by omega))
      obtain ⟨E, hE⟩ : ∃ E, D ++ sepF k = E := ⟨_, rfl⟩
      have hzE : (txt E).size ≤ 24602 := by rw [txt_size, ← hE, List.length_append]; have := sepF_len k; rw [txt_size] at hzo; omega
      have HE : Hid (E = D ++ (if k = 0 then [] else [44, 32])) := by rw [Hid, ← hE]; rfl
      rw [hE] at HPJ
      clear hE
      have g1 : ¬ 9223372036854775807 < (txt E).size + ky.size := by omega
      have g2 : ¬ 9223372036854775807 < (txt E).size + ky.size + 2 := by omega
      have g3 : ¬ 9223372036854775807 < (txt E).size + ky.size + 2 + (txt r).size := by omega
      have HV6 : Hid (Value.string (txt E ++ ky ++ ⟨#[58, 32]⟩ ++ txt r) = .string (txt ([123] ++ rowF (fTxt fs f) x.names x.kids (k + 1)))) := by
        rw [Hid, HPJ.out]
        exact str_txt (txt_of (by simp [bytes_txt]))
      rcases Nat.eq_zero_or_pos k with hk0 | hk0
      · have hk0' : ¬ (0 : Int) < (k : Int) := by omega
        have eE : E = D := by rw [HE.out, if_pos hk0, List.append_nil]
        subst eE
        have HK0 := hideIt hk0
        clear hk0
        go_wp2_with fail
        go_region_held3 (fun w' => w'.cell? ⟨w.heap.size, 4, none⟩ = some (.slice (some ⟨bk, ok, none⟩) M cK) ∧ w'.cell? ⟨w.heap.size, 5, none⟩ = some (.slice (some ⟨bi, oi, none⟩) M cI) ∧ w'.cell? ⟨bk, ok + k, none⟩ = some (.string ky) ∧ w'.cell? ⟨bi, oi + k, none⟩ = some (.int .i64 q))
          (first | exact HS.out _ b3 | exact HS.out _ (Below.drew (Below.refl _ _)))
          (first
            | (go_at_call 25; refine (HIHQ.out _ (HBQ.out _ (Below.drew (Below.refl wr.heap.size wr)))).mono ?_; rintro e w3 ⟨rfl, hb3⟩; have b3 := (Below.drew (Below.refl wr.heap.size wr)).trans hb3))
        all_goals (
          have HB5 := hideIt (HBR.out.trans (b3.mono (by omega)))
          go_wp2_with fail
          first
            | exact ⟨⟨k + 1, by omega, by go_num, HV6.out, HB5.out⟩, by simp [intOf]; omega⟩
            | (go_roundw
               case rel => exact ⟨k + 1, by omega, by go_num, HV6.out, HB5.out⟩
               case measure => simp [intOf]; omega))
      · have hk0' : (0 : Int) < (k : Int) := by omega
        have eE : txt D ++ ⟨#[44, 32]⟩ = txt E := by rw [HE.out, if_neg (by omega)]; exact txt_of (by simp [bytes_txt])
        go_wp2_with fail
        try rw [eE]
        go_region_held3 (fun w' => w'.cell? ⟨w.heap.size, 4, none⟩ = some (.slice (some ⟨bk, ok, none⟩) M cK) ∧ w'.cell? ⟨w.heap.size, 5, none⟩ = some (.slice (some ⟨bi, oi, none⟩) M cI) ∧ w'.cell? ⟨bk, ok + k, none⟩ = some (.string ky) ∧ w'.cell? ⟨bi, oi + k, none⟩ = some (.int .i64 q))
          (first | exact HS.out _ b3 | exact HS.out _ (Below.drew (Below.refl _ _)))
          (first
            | (go_at_call 25; refine (HIHQ.out _ (HBQ.out _ (Below.drew (Below.refl wr.heap.size wr)))).mono ?_; rintro e w3 ⟨rfl, hb3⟩; have b3 := (Below.drew (Below.refl wr.heap.size wr)).trans hb3))
        all_goals (
          have HB5 := hideIt (HBR.out.trans (b3.mono (by omega)))
          go_wp2_with fail
          first
            | exact ⟨⟨k + 1, by omega, by go_num, HV6.out, HB5.out⟩, by simp [intOf]; omega⟩
            | (go_roundw
               case rel => exact ⟨k + 1, by omega, by go_num, HV6.out, HB5.out⟩
               case measure => simp [intOf]; omega))
    · obtain rfl : k = M := by omega
      go_wp2_with fail
      go_ret
      exact ⟨ret_str (txt_of (by rw [HSB.out, HO.out]; simp [bytes_txt])), HBW.out⟩
end Go.Proofs.YtehihemfepbmfaaGreatDoor
