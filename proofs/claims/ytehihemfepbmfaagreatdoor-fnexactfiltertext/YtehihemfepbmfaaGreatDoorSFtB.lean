/-
  The specification's l7Text at kinds with at most one filter inside.
-/
import Derived.Test.YtehihemfepbmfaaGreatDoorSFtA
namespace Go.Proofs.YtehihemfepbmfaaGreatDoor
open Go.RowKit Go.WideShapes
set_option linter.unusedSimpArgs false
set_option linter.unusedVariables false


set_option maxRecDepth 100000 in
set_option maxHeartbeats 6400000 in
theorem sf_k2 (B : Nat) (x : FN) (f : Nat) (fs : List FN) (hkd : x.kind = 2) : SfOne B x (bodyF (fTxt fs f) x) f fs := by
  intro w bv o N cap n kc kn ki least hfs hx hok hkids hS hl1 hl6
  obtain ⟨⟨c0, c1, c2, c3, c4, c5, hinn⟩, hbv, hB, hn, hN⟩ := hx
  have hLV := l7Level_any x.kind
  obtain ⟨f8, f9, fo, f2, f3, f5, fz, fzn⟩ := fit_kids hok
  have hnN : (n : Int) < (N : Int) := by omega
  obtain ⟨_, aC, cC, rfl, hcc⟩ := hinn.cst
  obtain ⟨_, hks, aK, cK, rfl, hkc⟩ := hinn.names
  obtain ⟨_, _, aI, cI, rfl, hic⟩ := hinn.kids
  obtain ⟨M, hM⟩ : ∃ M, x.kids.length = M := ⟨_, rfl⟩
  obtain ⟨MK, hMK⟩ : ∃ MK, x.names.length = MK := ⟨_, rfl⟩
  obtain ⟨MC, hMC⟩ : ∃ MC, x.cst.length = MC := ⟨_, rfl⟩
  have HMM := hideIt hM
  have HMK := hideIt hMK
  have HMC := hideIt hMC
  rw [hM] at c5 hic f8 f9 fo
  rw [hMK] at c4 hkc f9 fzn
  rw [hMC] at c3 hcc
  rw [hM] at hkids
  have HCC := hideIt hcc
  have HKC := hideIt hkc
  have HIC := hideIt hic
  clear hcc hkc hic hM hMK hMC hinn
  have HLV : Hid (∀ W, Calls Tryz.prog 61 #[.int .i64 2] W fun e w' => e = .returned (.int .i64 7) ∧ w' = W) := fun W => l7Level_any 2 W (by omega) (by omega)
  rw [hkd] at c0 ⊢
  rw [show levF 2 = 7 from rfl]
  have HB6 : Hid (bodyF (fTxt fs f) x = bodyF (fTxt fs f) x) := rfl
  have hsz : x.name.size ≤ 60 := by have := f2 hkd; unfold nameB at this; simp only [Bool.and_eq_true, decide_eq_true_eq] at this; exact this.1.1.2
  clear f8 f9 fo f2 f3 f5 fz fzn hfs hkids hLV HB6 HCC HKC HIC
  have HSB : Hid (bodyF (fTxt fs f) x = 46 :: x.name.data.toList) := by rw [Hid, bodyF, hkd]; simp
  obtain ⟨S, hSS⟩ : ∃ S, bodyF (fTxt fs f) x = S := ⟨_, rfl⟩
  rw [hSS] at hS HSB ⊢
  clear hSS
  have hll : ¬ (7 : Int) < least := by omega
  rw [if_neg hll]
  go_enter Tryz.func25, Tryz.ntmps25
  go_wp2_with (go_at_call 61; refine (HLV.out _).mono ?_; rintro e w1 ⟨rfl, rfl⟩)
  go_wp2_with fail
  go_ret
  exact ⟨ret_str (txt_of (by rw [HSB.out]; simp)), (Below.refl _ _).alloc (Nat.le_refl _) _⟩

set_option maxRecDepth 100000 in
set_option maxHeartbeats 6400000 in
theorem sf_k3 (B : Nat) (x : FN) (f : Nat) (fs : List FN) (hkd : x.kind = 3) : SfOne B x (bodyF (fTxt fs f) x) f fs := by
  intro w bv o N cap n kc kn ki least hfs hx hok hkids hS hl1 hl6
  obtain ⟨⟨c0, c1, c2, c3, c4, c5, hinn⟩, hbv, hB, hn, hN⟩ := hx
  have hLV := l7Level_any x.kind
  obtain ⟨f8, f9, fo, f2, f3, f5, fz, fzn⟩ := fit_kids hok
  have hnN : (n : Int) < (N : Int) := by omega
  obtain ⟨_, aC, cC, rfl, hcc⟩ := hinn.cst
  obtain ⟨_, hks, aK, cK, rfl, hkc⟩ := hinn.names
  obtain ⟨_, _, aI, cI, rfl, hic⟩ := hinn.kids
  obtain ⟨M, hM⟩ : ∃ M, x.kids.length = M := ⟨_, rfl⟩
  obtain ⟨MK, hMK⟩ : ∃ MK, x.names.length = MK := ⟨_, rfl⟩
  obtain ⟨MC, hMC⟩ : ∃ MC, x.cst.length = MC := ⟨_, rfl⟩
  have HMM := hideIt hM
  have HMK := hideIt hMK
  have HMC := hideIt hMC
  rw [hM] at c5 hic f8 f9 fo
  rw [hMK] at c4 hkc f9 fzn
  rw [hMC] at c3 hcc
  rw [hM] at hkids
  have HCC := hideIt hcc
  have HKC := hideIt hkc
  have HIC := hideIt hic
  clear hcc hkc hic hM hMK hMC hinn
  have HLV : Hid (∀ W, Calls Tryz.prog 61 #[.int .i64 3] W fun e w' => e = .returned (.int .i64 7) ∧ w' = W) := fun W => l7Level_any 3 W (by omega) (by omega)
  rw [hkd] at c0 ⊢
  rw [show levF 3 = 7 from rfl]
  have HB6 : Hid (bodyF (fTxt fs f) x = bodyF (fTxt fs f) x) := rfl
  have hpl := f3 hkd
  have HDEC : Hid (∀ W, Calls Tryz.prog 62 #[.int .i64 x.place] W fun e w' => e = .returned (.string (txt (Lib.itoa x.place))) ∧ Below W.heap.size W w') := fun W => l1Dec_any x.place W (by omega) (by omega)
  have hil := Lib.itoa_length_le x.place (by omega) (by omega)
  have hsz : (txt (Lib.itoa x.place)).size ≤ 60 := by rw [txt_size]; omega
  clear f8 f9 fo f2 f3 f5 fz fzn hfs hkids hLV HB6 HCC HKC HIC
  have HSB : Hid (bodyF (fTxt fs f) x = [46, 91] ++ Lib.itoa x.place ++ [93]) := by rw [Hid, bodyF, hkd]; simp
  obtain ⟨S, hSS⟩ : ∃ S, bodyF (fTxt fs f) x = S := ⟨_, rfl⟩
  rw [hSS] at hS HSB ⊢
  clear hSS
  obtain ⟨D, hD⟩ : ∃ D, Lib.itoa x.place = D := ⟨_, rfl⟩
  rw [hD] at HDEC HSB hsz
  clear hD hil
  have hll : ¬ (7 : Int) < least := by omega
  rw [if_neg hll]
  go_enter Tryz.func25, Tryz.ntmps25
  go_wp2_with (go_at_call 61; refine (HLV.out _).mono ?_; rintro e w1 ⟨rfl, rfl⟩)
  go_wp2_with (go_at_call 62; refine (HDEC.out _).mono ?_; rintro e w2 ⟨rfl, hb2⟩)
  have HB2 := hideIt (((Below.refl _ _).alloc (Nat.le_refl _) _).trans (hb2.mono (by simp)))
  clear hb2
  go_wp2_with fail
  go_ret
  exact ⟨ret_str (txt_of (by rw [HSB.out]; simp [bytes_txt])), HB2.out⟩

set_option maxRecDepth 100000 in
set_option maxHeartbeats 6400000 in
theorem sf_k5 (B : Nat) (x : FN) (f : Nat) (fs : List FN) (hkd : x.kind = 5) : SfOne B x (bodyF (fTxt fs f) x) f fs := by
  intro w bv o N cap n kc kn ki least hfs hx hok hkids hS hl1 hl6
  obtain ⟨⟨c0, c1, c2, c3, c4, c5, hinn⟩, hbv, hB, hn, hN⟩ := hx
  have hLV := l7Level_any x.kind
  obtain ⟨f8, f9, fo, f2, f3, f5, fz, fzn⟩ := fit_kids hok
  have hnN : (n : Int) < (N : Int) := by omega
  obtain ⟨_, aC, cC, rfl, hcc⟩ := hinn.cst
  obtain ⟨_, hks, aK, cK, rfl, hkc⟩ := hinn.names
  obtain ⟨_, _, aI, cI, rfl, hic⟩ := hinn.kids
  obtain ⟨M, hM⟩ : ∃ M, x.kids.length = M := ⟨_, rfl⟩
  obtain ⟨MK, hMK⟩ : ∃ MK, x.names.length = MK := ⟨_, rfl⟩
  obtain ⟨MC, hMC⟩ : ∃ MC, x.cst.length = MC := ⟨_, rfl⟩
  have HMM := hideIt hM
  have HMK := hideIt hMK
  have HMC := hideIt hMC
  rw [hM] at c5 hic f8 f9 fo
  rw [hMK] at c4 hkc f9 fzn
  rw [hMC] at c3 hcc
  rw [hM] at hkids
  have HCC := hideIt hcc
  have HKC := hideIt hkc
  have HIC := hideIt hic
  clear hcc hkc hic hM hMK hMC hinn
  have HLV : Hid (∀ W, Calls Tryz.prog 61 #[.int .i64 5] W fun e w' => e = .returned (.int .i64 7) ∧ w' = W) := fun W => l7Level_any 5 W (by omega) (by omega)
  rw [hkd] at c0 ⊢
  rw [show levF 5 = 7 from rfl]
  have HB6 : Hid (bodyF (fTxt fs f) x = bodyF (fTxt fs f) x) := rfl
  have hcs := f5 hkd
  unfold cstB at hcs
  simp only [Bool.and_eq_true, decide_eq_true_eq] at hcs
  obtain ⟨⟨⟨e1, e2⟩, e3⟩, e4⟩ := hcs
  have eMC : MC = 1 := HMC.out.symm.trans e1
  subst eMC
  obtain ⟨bc, oc, rfl, hbc, hnd⟩ := HCC.out (by omega)
  obtain ⟨ka, kk, hnd⟩ := hnd 0 (by omega)
  have d0 := hnd.c0
  have d1 := hnd.c1
  have d2 := hnd.c2
  have d3 := hnd.c3
  have d4 := hnd.c4
  rw [show oc + 0 * 5 = oc by omega] at d0 d1 d2 d3 d4
  obtain ⟨_, _, aA, cA, eA, _⟩ := hnd.inn.keys
  obtain ⟨_, _, aD, cD, eD, _⟩ := hnd.inn.kids
  have HSC := hideIt (fun W => l2Scalar_any 0 0 false (nodeAt x.cst 0).kind (nodeAt x.cst 0).n (nodeAt x.cst 0).s ka kk (nodeAt x.cst 0).keys ((nodeAt x.cst 0).kids.map fun k => treeOf x.cst 0 k.toNat) W (by
    rcases node_says e2 (show 0 < x.cst.length by omega) with k | ⟨k, q1, q2⟩ | ⟨k, q1, q2⟩ | ⟨k, q1⟩ | k | ⟨k, q1, q2⟩
    · exact .inl k
    · exact .inr (.inl ⟨k, q1, q2⟩)
    · exact .inr (.inr (.inl ⟨k, q1, q2⟩))
    · exact .inr (.inr (.inr ⟨k, q1⟩))
    · exact absurd k e3
    · exact absurd k e4))
  have HCT : Hid (jsonT false (0 + 1) 0 (.mk (nodeAt x.cst 0).kind (nodeAt x.cst 0).n (nodeAt x.cst 0).s (nodeAt x.cst 0).keys ((nodeAt x.cst 0).kids.map fun k => treeOf x.cst 0 k.toNat)) = cstT x.cst) := rfl
  rw [HCT.out] at HSC
  clear hnd e1 e2 e3 e4
  clear f8 f9 fo f2 f3 f5 fz fzn hfs hkids hLV HB6 HCC HKC HIC
  have HSB : Hid (bodyF (fTxt fs f) x = cstT x.cst) := by rw [Hid, bodyF, hkd]; simp
  obtain ⟨S, hSS⟩ : ∃ S, bodyF (fTxt fs f) x = S := ⟨_, rfl⟩
  rw [hSS] at hS HSB ⊢
  clear hSS
  rw [← HSB.out] at HSC
  subst eA eD
  obtain ⟨kd, hkd2⟩ : ∃ kd, (nodeAt x.cst 0).kind = kd := ⟨_, rfl⟩
  obtain ⟨nn, hnn⟩ : ∃ nn, (nodeAt x.cst 0).n = nn := ⟨_, rfl⟩
  obtain ⟨ss, hss⟩ : ∃ ss, (nodeAt x.cst 0).s = ss := ⟨_, rfl⟩
  rw [hkd2, hnn, hss] at HSC
  rw [hkd2] at d0
  rw [hnn] at d1
  rw [hss] at d2
  clear hkd2 hnn hss HCT
  obtain ⟨ML, hML⟩ : ∃ ML, (nodeAt x.cst 0).keys.length = ML := ⟨_, rfl⟩
  obtain ⟨MJ, hMJ⟩ : ∃ MJ, (nodeAt x.cst 0).kids.length = MJ := ⟨_, rfl⟩
  rw [hML] at d3 HSC
  rw [hMJ] at d4 HSC
  clear hML hMJ
  have hbz : bc < w.heap.size := by omega
  have hbn : ¬ bc = w.heap.size := by omega
  have hll : ¬ (7 : Int) < least := by omega
  rw [if_neg hll]
  go_enter Tryz.func25, Tryz.ntmps25
  go_wp2_with (go_at_call 61; refine (HLV.out _).mono ?_; rintro e w1 ⟨rfl, rfl⟩)
  go_wp2_with (go_at_call 63; refine (HSC.out _).mono ?_; rintro e w2 ⟨rfl, hb2⟩)
  have HB2 := hideIt (((Below.refl _ _).alloc (Nat.le_refl _) _).trans (hb2.mono (by simp)))
  clear hb2
  go_wp2_with fail
  go_ret
  exact ⟨rfl, HB2.out⟩

set_option maxRecDepth 100000 in
set_option maxHeartbeats 6400000 in
theorem sf_k10 (B : Nat) (x : FN) (f : Nat) (fs : List FN) (ih : SfAll B fs f) (hkd : x.kind = 10) : SfOne B x (bodyF (fTxt fs f) x) f fs := by
  intro w bv o N cap n kc kn ki least hfs hx hok hkids hS hl1 hl6
  obtain ⟨⟨c0, c1, c2, c3, c4, c5, hinn⟩, hbv, hB, hn, hN⟩ := hx
  have hLV := l7Level_any x.kind
  obtain ⟨f8, f9, fo, f2, f3, f5, fz, fzn⟩ := fit_kids hok
  have hnN : (n : Int) < (N : Int) := by omega
  obtain ⟨_, aC, cC, rfl, hcc⟩ := hinn.cst
  obtain ⟨_, hks, aK, cK, rfl, hkc⟩ := hinn.names
  obtain ⟨_, _, aI, cI, rfl, hic⟩ := hinn.kids
  obtain ⟨M, hM⟩ : ∃ M, x.kids.length = M := ⟨_, rfl⟩
  obtain ⟨MK, hMK⟩ : ∃ MK, x.names.length = MK := ⟨_, rfl⟩
  obtain ⟨MC, hMC⟩ : ∃ MC, x.cst.length = MC := ⟨_, rfl⟩
  have HMM := hideIt hM
  have HMK := hideIt hMK
  have HMC := hideIt hMC
  rw [hM] at c5 hic f8 f9 fo
  rw [hMK] at c4 hkc f9 fzn
  rw [hMC] at c3 hcc
  rw [hM] at hkids
  have HCC := hideIt hcc
  have HKC := hideIt hkc
  have HIC := hideIt hic
  clear hcc hkc hic hM hMK hMC hinn
  have HLV : Hid (∀ W, Calls Tryz.prog 61 #[.int .i64 10] W fun e w' => e = .returned (.int .i64 7) ∧ w' = W) := fun W => l7Level_any 10 W (by omega) (by omega)
  rw [hkd] at c0 ⊢
  rw [show levF 10 = 7 from rfl]
  have HB6 : Hid (bodyF (fTxt fs f) x = bodyF (fTxt fs f) x) := rfl
  have eM : M = 1 := by have := (fo (by omega) (by omega)).2.2; rw [hkd] at this; simp [kidsN] at this; omega
  subst eM
  have HIH : Hid (∀ (q : Nat) (l : Int) W, Below w.heap.size w W → q < f → q < fs.length → 1 ≤ l → l ≤ 6 → Calls Tryz.prog 25 #[.slice (some ⟨bv, o, none⟩) N cap, .int .i64 q, .int .i64 l] W fun e w' => e = .returned (.string (txt (fTxt fs f q l))) ∧ Below W.heap.size W w') := fun q l W hb h1 h2 h3 h4 => ih _ q l W (hfs.below (hb.mono hB)) (Nat.le_trans hB hb.size) h1 h2 h3 h4
  obtain ⟨bi, oi, rfl, hbi, hci⟩ := HIC.out (by omega)
  have hbz : bi < w.heap.size := by omega
  have hbn : ¬ bi = w.heap.size := by omega
  obtain ⟨q0, hq0, hf0, hs0, hz0⟩ := hkids 0 (by omega)
  have ci0 := hci 0 (by omega)
  rw [hq0] at ci0
  rw [Nat.add_zero] at ci0
  have HK0 := hideIt (fun W hb => HIH.out q0 1 W hb hf0 hs0 (by omega) (by omega))
  have hzk0 := hz0 1
  obtain ⟨r0, hr0⟩ : ∃ r, fTxt fs f q0 1 = r := ⟨_, rfl⟩
  have HSB : Hid (bodyF (fTxt fs f) x = [115, 101, 108, 101, 99, 116, 40] ++ fTxt fs f (intAt x.kids 0) 1 ++ [41]) := by rw [Hid, bodyF, hkd]; simp
  obtain ⟨S, hSS⟩ : ∃ S, bodyF (fTxt fs f) x = S := ⟨_, rfl⟩
  rw [hSS] at hS HSB ⊢
  clear hSS
  rw [hq0, hr0] at HSB
  rw [hr0] at HK0 hzk0
  rw [← txt_size] at hzk0
  clear hz0 hr0 hq0 hf0 hs0
  clear hci HIH ih
  clear f8 f9 fo f2 f3 f5 fz fzn hfs hkids hLV HB6 HCC HKC HIC
  have hll : ¬ (7 : Int) < least := by omega
  rw [if_neg hll]
  go_enter Tryz.func25, Tryz.ntmps25
  go_wp2_with (go_at_call 61; refine (HLV.out _).mono ?_; rintro e w1 ⟨rfl, rfl⟩)
  go_wp2_with (go_at_call 25; refine (HK0.out _ ((Below.refl _ _).alloc (Nat.le_refl _) _)).mono ?_; rintro e w2 ⟨rfl, hb2⟩)
  have HB2 := hideIt (((Below.refl _ _).alloc (Nat.le_refl _) _).trans (hb2.mono (by simp)))
  clear hb2
  go_wp2_with fail
  go_ret
  exact ⟨ret_str (txt_of (by rw [HSB.out]; simp [bytes_txt])), HB2.out⟩

set_option maxRecDepth 100000 in
set_option maxHeartbeats 6400000 in
theorem sf_k8 (B : Nat) (x : FN) (f : Nat) (fs : List FN) (ih : SfAll B fs f) (hkd : x.kind = 8) : SfOne B x (bodyF (fTxt fs f) x) f fs := by
  intro w bv o N cap n kc kn ki least hfs hx hok hkids hS hl1 hl6
  obtain ⟨⟨c0, c1, c2, c3, c4, c5, hinn⟩, hbv, hB, hn, hN⟩ := hx
  have hLV := l7Level_any x.kind
  obtain ⟨f8, f9, fo, f2, f3, f5, fz, fzn⟩ := fit_kids hok
  have hnN : (n : Int) < (N : Int) := by omega
  obtain ⟨_, aC, cC, rfl, hcc⟩ := hinn.cst
  obtain ⟨_, hks, aK, cK, rfl, hkc⟩ := hinn.names
  obtain ⟨_, _, aI, cI, rfl, hic⟩ := hinn.kids
  obtain ⟨M, hM⟩ : ∃ M, x.kids.length = M := ⟨_, rfl⟩
  obtain ⟨MK, hMK⟩ : ∃ MK, x.names.length = MK := ⟨_, rfl⟩
  obtain ⟨MC, hMC⟩ : ∃ MC, x.cst.length = MC := ⟨_, rfl⟩
  have HMM := hideIt hM
  have HMK := hideIt hMK
  have HMC := hideIt hMC
  rw [hM] at c5 hic f8 f9 fo
  rw [hMK] at c4 hkc f9 fzn
  rw [hMC] at c3 hcc
  rw [hM] at hkids
  have HCC := hideIt hcc
  have HKC := hideIt hkc
  have HIC := hideIt hic
  clear hcc hkc hic hM hMK hMC hinn
  have HLV : Hid (∀ W, Calls Tryz.prog 61 #[.int .i64 8] W fun e w' => e = .returned (.int .i64 7) ∧ w' = W) := fun W => l7Level_any 8 W (by omega) (by omega)
  rw [hkd] at c0 ⊢
  rw [show levF 8 = 7 from rfl]
  have HB6 : Hid (bodyF (fTxt fs f) x = bodyF (fTxt fs f) x) := rfl
  have eM : M ≤ 1 := f8 hkd
  have HIH : Hid (∀ (q : Nat) (l : Int) W, Below w.heap.size w W → q < f → q < fs.length → 1 ≤ l → l ≤ 6 → Calls Tryz.prog 25 #[.slice (some ⟨bv, o, none⟩) N cap, .int .i64 q, .int .i64 l] W fun e w' => e = .returned (.string (txt (fTxt fs f q l))) ∧ Below W.heap.size W w') := fun q l W hb h1 h2 h3 h4 => ih _ q l W (hfs.below (hb.mono hB)) (Nat.le_trans hB hb.size) h1 h2 h3 h4
  rcases (show M = 0 ∨ M = 1 by omega) with rfl | rfl
  · have HSB : Hid (bodyF (fTxt fs f) x = [91, 93]) := by rw [Hid, bodyF, hkd]; simp [HMM.out]
    obtain ⟨S, hSS⟩ : ∃ S, bodyF (fTxt fs f) x = S := ⟨_, rfl⟩
    rw [hSS] at hS HSB ⊢
    clear hSS
    clear f8 f9 fo f2 f3 f5 fz fzn hfs hkids hLV HB6 HCC HKC HIC
    have hll : ¬ (7 : Int) < least := by omega
    rw [if_neg hll]
    go_enter Tryz.func25, Tryz.ntmps25
    go_wp2_with (go_at_call 61; refine (HLV.out _).mono ?_; rintro e w1 ⟨rfl, rfl⟩)
    go_wp2_with fail
    go_ret
    exact ⟨ret_str (txt_of (by rw [HSB.out]; simp)), (Below.refl _ _).alloc (Nat.le_refl _) _⟩
  obtain ⟨bi, oi, rfl, hbi, hci⟩ := HIC.out (by omega)
  have hbz : bi < w.heap.size := by omega
  have hbn : ¬ bi = w.heap.size := by omega
  obtain ⟨q0, hq0, hf0, hs0, hz0⟩ := hkids 0 (by omega)
  have ci0 := hci 0 (by omega)
  rw [hq0] at ci0
  rw [Nat.add_zero] at ci0
  have HK0 := hideIt (fun W hb => HIH.out q0 1 W hb hf0 hs0 (by omega) (by omega))
  have hzk0 := hz0 1
  obtain ⟨r0, hr0⟩ : ∃ r, fTxt fs f q0 1 = r := ⟨_, rfl⟩
  have HSB : Hid (bodyF (fTxt fs f) x = [91] ++ fTxt fs f (intAt x.kids 0) 1 ++ [93]) := by rw [Hid, bodyF, hkd]; simp [HMM.out]
  obtain ⟨S, hSS⟩ : ∃ S, bodyF (fTxt fs f) x = S := ⟨_, rfl⟩
  rw [hSS] at hS HSB ⊢
  clear hSS
  rw [hq0, hr0] at HSB
  rw [hr0] at HK0 hzk0
  rw [← txt_size] at hzk0
  clear hz0 hr0 hq0 hf0 hs0
  clear hci HIH ih
  clear f8 f9 fo f2 f3 f5 fz fzn hfs hkids hLV HB6 HCC HKC HIC
  have hll : ¬ (7 : Int) < least := by omega
  rw [if_neg hll]
  go_enter Tryz.func25, Tryz.ntmps25
  go_wp2_with (go_at_call 61; refine (HLV.out _).mono ?_; rintro e w1 ⟨rfl, rfl⟩)
  go_wp2_with (go_at_call 25; refine (HK0.out _ ((Below.refl _ _).alloc (Nat.le_refl _) _)).mono ?_; rintro e w2 ⟨rfl, hb2⟩)
  have HB2 := hideIt (((Below.refl _ _).alloc (Nat.le_refl _) _).trans (hb2.mono (by simp)))
  clear hb2
  go_wp2_with fail
  go_ret
  exact ⟨ret_str (txt_of (by rw [HSB.out]; simp [bytes_txt])), HB2.out⟩

set_option maxRecDepth 100000 in
set_option maxHeartbeats 6400000 in
theorem sf_k23 (B : Nat) (x : FN) (f : Nat) (fs : List FN) (ih : SfAll B fs f) (hkd : x.kind = 23) : SfOne B x (bodyF (fTxt fs f) x) f fs := by
  intro w bv o N cap n kc kn ki least hfs hx hok hkids hS hl1 hl6
  obtain ⟨⟨c0, c1, c2, c3, c4, c5, hinn⟩, hbv, hB, hn, hN⟩ := hx
  have hLV := l7Level_any x.kind
  obtain ⟨f8, f9, fo, f2, f3, f5, fz, fzn⟩ := fit_kids hok
  have hnN : (n : Int) < (N : Int) := by omega
  obtain ⟨_, aC, cC, rfl, hcc⟩ := hinn.cst
  obtain ⟨_, hks, aK, cK, rfl, hkc⟩ := hinn.names
  obtain ⟨_, _, aI, cI, rfl, hic⟩ := hinn.kids
  obtain ⟨M, hM⟩ : ∃ M, x.kids.length = M := ⟨_, rfl⟩
  obtain ⟨MK, hMK⟩ : ∃ MK, x.names.length = MK := ⟨_, rfl⟩
  obtain ⟨MC, hMC⟩ : ∃ MC, x.cst.length = MC := ⟨_, rfl⟩
  have HMM := hideIt hM
  have HMK := hideIt hMK
  have HMC := hideIt hMC
  rw [hM] at c5 hic f8 f9 fo
  rw [hMK] at c4 hkc f9 fzn
  rw [hMC] at c3 hcc
  rw [hM] at hkids
  have HCC := hideIt hcc
  have HKC := hideIt hkc
  have HIC := hideIt hic
  clear hcc hkc hic hM hMK hMC hinn
  have HLV : Hid (∀ W, Calls Tryz.prog 61 #[.int .i64 23] W fun e w' => e = .returned (.int .i64 6) ∧ w' = W) := fun W => l7Level_any 23 W (by omega) (by omega)
  rw [hkd] at c0 ⊢
  rw [show levF 23 = 6 from rfl]
  have HB6 : Hid (bodyF (fTxt fs f) x = bodyF (fTxt fs f) x) := rfl
  have eM : M = 1 := by have := (fo (by omega) (by omega)).2.2; rw [hkd] at this; simp [kidsN] at this; omega
  subst eM
  have HIH : Hid (∀ (q : Nat) (l : Int) W, Below w.heap.size w W → q < f → q < fs.length → 1 ≤ l → l ≤ 6 → Calls Tryz.prog 25 #[.slice (some ⟨bv, o, none⟩) N cap, .int .i64 q, .int .i64 l] W fun e w' => e = .returned (.string (txt (fTxt fs f q l))) ∧ Below W.heap.size W w') := fun q l W hb h1 h2 h3 h4 => ih _ q l W (hfs.below (hb.mono hB)) (Nat.le_trans hB hb.size) h1 h2 h3 h4
  obtain ⟨bi, oi, rfl, hbi, hci⟩ := HIC.out (by omega)
  have hbz : bi < w.heap.size := by omega
  have hbn : ¬ bi = w.heap.size := by omega
  obtain ⟨q0, hq0, hf0, hs0, hz0⟩ := hkids 0 (by omega)
  have ci0 := hci 0 (by omega)
  rw [hq0] at ci0
  rw [Nat.add_zero] at ci0
  have HK0 := hideIt (fun W hb => HIH.out q0 6 W hb hf0 hs0 (by omega) (by omega))
  have hzk0 := hz0 6
  obtain ⟨r0, hr0⟩ : ∃ r, fTxt fs f q0 6 = r := ⟨_, rfl⟩
  have HSB : Hid (bodyF (fTxt fs f) x = fTxt fs f (intAt x.kids 0) 6 ++ [63]) := by rw [Hid, bodyF, hkd]; simp
  obtain ⟨S, hSS⟩ : ∃ S, bodyF (fTxt fs f) x = S := ⟨_, rfl⟩
  rw [hSS] at hS HSB ⊢
  clear hSS
  rw [hq0, hr0] at HSB
  rw [hr0] at HK0 hzk0
  rw [← txt_size] at hzk0
  clear hz0 hr0 hq0 hf0 hs0
  clear hci HIH ih
  clear f8 f9 fo f2 f3 f5 fz fzn hfs hkids hLV HB6 HCC HKC HIC
  have hll : ¬ (6 : Int) < least := by omega
  rw [if_neg hll]
  go_enter Tryz.func25, Tryz.ntmps25
  go_wp2_with (go_at_call 61; refine (HLV.out _).mono ?_; rintro e w1 ⟨rfl, rfl⟩)
  go_wp2_with (go_at_call 25; refine (HK0.out _ ((Below.refl _ _).alloc (Nat.le_refl _) _)).mono ?_; rintro e w2 ⟨rfl, hb2⟩)
  have HB2 := hideIt (((Below.refl _ _).alloc (Nat.le_refl _) _).trans (hb2.mono (by simp)))
  clear hb2
  go_wp2_with fail
  go_ret
  exact ⟨ret_str (txt_of (by rw [HSB.out]; simp [bytes_txt])), HB2.out⟩
end Go.Proofs.YtehihemfepbmfaaGreatDoor
