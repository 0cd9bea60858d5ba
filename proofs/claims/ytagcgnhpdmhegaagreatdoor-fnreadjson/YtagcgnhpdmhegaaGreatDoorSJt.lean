/-
  The specification's l2Text: JSON's bytes of a node.
-/
import Derived.Test.YtagcgnhpdmhegaaGreatDoorSJs
namespace Go.Proofs.YtagcgnhpdmhegaaGreatDoor
open Go.RowKit Go.WideShapes
set_option linter.unusedSimpArgs false
set_option linter.unusedVariables false
def commaJ2 (k : Nat) : List UInt8 := if k = 0 then [] else [44]
theorem partsJ_cons (c : UInt8) (F : VT → List UInt8) (lines named : Bool) (deep : Nat) (keys : List ByteArray) (kids : List VT) (k : Nat) :
    c :: partsJ F lines named deep keys kids (k + 1) = (c :: partsJ F lines named deep keys kids k) ++ commaJ2 k ++ lineJ lines (deep + 1) ++ (if named = true then keyJ lines (keyAt keys k) else []) ++ F (kidT kids k) := rfl
theorem rep_two (d : Nat) : List.replicate (2 * (d + 1)) (32 : UInt8) = List.replicate (2 * d) 32 ++ [32, 32] := by
  rw [show 2 * (d + 1) = 2 * d + 2 by omega, ← List.replicate_append_replicate]; rfl
theorem lenMapJ {α β : Type} (g : α → β) (l : List α) : (l.map g).length = l.length := List.length_map ..

set_option maxRecDepth 100000 in
set_option maxHeartbeats 6400000 in
theorem l2Text_any (B : Nat) (vs : List VN) (hok : okB vs = true) (lines : Bool) : ∀ f, SjAll B vs lines f := by
  intro f
  induction f with
  | zero => intro v i deep w _ _ hi; omega
  | succ f ih =>
    intro v i deep w h hB hif hi hdi
    have HV := hideIt h
    have h80 : vs.length ≤ 80 := (okB_parts hok).1.2
    obtain ⟨hl, a, cap, rfl, hcv⟩ := h
    obtain ⟨bv, ov, rfl, hbv, hcv'⟩ := hcv (by omega)
    obtain ⟨ka, ki, hnd⟩ := hcv' i hi
    have c0 := hnd.c0
    have c1 := hnd.c1
    have c2 := hnd.c2
    have c3 := hnd.c3
    have c4 := hnd.c4
    obtain ⟨_, hks, aK, cK, eK, hkc⟩ := hnd.inn.keys
    obtain ⟨_, _, aI, cI, eI, hic⟩ := hnd.inn.kids
    have HKC := hideIt hkc
    have HIC := hideIt hic
    subst eK eI
    have HSAY := hideIt (node_says hok hi)
    have HKIN := hideIt (((okB_parts hok).2.1 i hi).2)
    have hkf := keys_few hok i hi
    have HTR : Hid (treeOf vs (f + 1) i = .mk (nodeAt vs i).kind (nodeAt vs i).n (nodeAt vs i).s (nodeAt vs i).keys ((nodeAt vs i).kids.map fun k => treeOf vs f k.toNat)) := rfl
    have HLE : Hid ((jsonT lines (f + 1) deep (treeOf vs (f + 1) i)).length ≤ 100000) := by
      have h1 := jsonT_le hok lines (f + 1) deep i 0 hi hif hdi
      have h2 := lay_part hok hif hi
      rw [h2.1] at h1
      have := h2.2
      rw [Hid]
      omega
    obtain ⟨M, hM⟩ : ∃ M, (nodeAt vs i).kids.length = M := ⟨_, rfl⟩
    obtain ⟨MK, hMK⟩ : ∃ MK, (nodeAt vs i).keys.length = MK := ⟨_, rfl⟩
    obtain ⟨kd, hkd⟩ : ∃ kd, (nodeAt vs i).kind = kd := ⟨_, rfl⟩
    obtain ⟨nn, hnn⟩ : ∃ nn, (nodeAt vs i).n = nn := ⟨_, rfl⟩
    obtain ⟨ss, hss⟩ : ∃ ss, (nodeAt vs i).s = ss := ⟨_, rfl⟩
    rw [HTR.out, hkd, hnn, hss] at HLE
    rw [HTR.out, hkd, hnn, hss]
    rw [hM] at c4 HIC hkf HSAY
    rw [hMK] at c3 HKC hkf HSAY
    rw [hkd] at c0 HSAY
    rw [hnn] at c1 HSAY
    rw [hss] at c2 HSAY
    obtain ⟨N, hN⟩ : ∃ N, vs.length = N := ⟨_, rfl⟩
    rw [hN] at hi h80 HV ⊢
    have hiN : (i : Int) < (N : Int) := by omega
    have hM80 : M ≤ 80 := hkf.2.1
    have HOK := hideIt hok
    have HMM := hideIt hM
    have HNN := hideIt hN
    have HMKK := hideIt hMK
    clear hcv hcv' hnd hkc hic hkf hM hMK hkd hnn hss hN hok HTR
    by_cases hleaf : kd < 5
    · have HSC := hideIt (l2Scalar_any f deep lines kd nn ss (.slice aK MK cK) (.slice aI M cI) (nodeAt vs i).keys ((nodeAt vs i).kids.map fun k => treeOf vs f k.toNat) · (by
        rcases HSAY.out with k | ⟨k, q1, q2⟩ | ⟨k, q1, q2⟩ | ⟨k, q1⟩ | k | ⟨k, q1, q2⟩
        · exact .inl k
        · exact .inr (.inl ⟨k, q1, q2⟩)
        · exact .inr (.inr (.inl ⟨k, q1, q2⟩))
        · exact .inr (.inr (.inr ⟨k, q1⟩))
        · omega
        · omega))
      have hk6 : ¬ kd = 6 := by omega
      have hk6' : (kd == 6) = false := by simpa using hk6
      go_enter Tryz.func24, Tryz.ntmps24
      go_wp2_with fail
      refine (HSC.out _).mono ?_
      rintro e w1 ⟨rfl, hb1⟩
      have HB := hideIt (((Below.refl _ _).alloc (Nat.le_refl _) _).trans (hb1.mono (by simp)))
      clear hb1
      go_wp2_with fail
      go_ret
      exact ⟨rfl, HB.out⟩
    obtain ⟨named, hnm, hkey⟩ : ∃ named : Bool, kd = kdJ named ∧ (named = true → MK = M ∧ ∀ j, j < MK → (keyAt (nodeAt vs i).keys j).size ≤ 60) := by
      rcases HSAY.out with k | ⟨k, q1, q2⟩ | ⟨k, q1, q2⟩ | ⟨k, q1⟩ | k | ⟨k, q1, q2⟩
      · omega
      · omega
      · omega
      · omega
      · exact ⟨false, k, fun h => by cases h⟩
      · exact ⟨true, k, fun _ => ⟨q1, q2⟩⟩
    subst hnm
    have HKEY := hideIt hkey
    clear hkey HSAY hleaf
    have HE := hideIt (jsonT_row lines named f deep nn ss (nodeAt vs i).keys ((nodeAt vs i).kids.map fun k => treeOf vs f k.toNat))
    rw [HE.out] at HLE ⊢
    clear HE
    obtain ⟨T, hT⟩ : ∃ T, ((nodeAt vs i).kids.map fun k => treeOf vs f k.toNat) = T := ⟨_, rfl⟩
    have HTT : Hid (∀ k, k < M → kidT T k = treeOf vs f (intAt (nodeAt vs i).kids k).toNat) := fun k hk => by rw [← hT, kidT_map (by rw [HMM.out]; exact hk)]
    have HTL : Hid (T.length = M) := by rw [Hid, ← hT, lenMapJ, HMM.out]
    rw [hT] at HLE ⊢
    clear hT
    obtain ⟨KS, hKS⟩ : ∃ KS, (nodeAt vs i).keys = KS := ⟨_, rfl⟩
    rw [hKS] at HLE HKEY HKC ⊢
    have HKS := hideIt hKS
    clear hKS
    have HWJ : Hid (wholeJ (jsonT lines f (deep + 1)) lines named deep KS T = if M = 0 then [] else partsJ (jsonT lines f (deep + 1)) lines named deep KS T M ++ lineJ lines deep) := by rw [Hid, wholeJ, HTL.out]
    have hmg : (marg deep).size ≤ 200 := by rw [marg_size]; omega
    have hmn := marg_next deep
    obtain ⟨mg, hmg2⟩ : ∃ mg, marg deep = mg := ⟨_, rfl⟩
    obtain ⟨mg1, hmg3⟩ : ∃ mg1, marg (deep + 1) = mg1 := ⟨_, rfl⟩
    have HL1 : Hid (∀ o : List UInt8, txt o ++ ⟨#[10]⟩ ++ mg = txt (o ++ lineJ true deep)) := fun o => by rw [← hmg2]; exact line_txt o deep
    have HL2 : Hid (∀ o : List UInt8, txt o ++ ⟨#[10]⟩ ++ mg ++ ⟨#[32, 32]⟩ = txt (o ++ lineJ true (deep + 1))) := fun o => by rw [← hmg2]; exact line_txt2 o deep
    have HM1 := hideIt hmg3
    have HML : Hid (mg.data.toList = List.replicate (2 * deep) 32) := by rw [Hid, ← hmg2]; exact bytes_txt _
    rw [hmg2, hmg3] at hmn
    rw [hmg2] at hmg ⊢
    clear hmg2 hmg3
    by_cases h0 : M = 0
    · subst h0
      rw [HWJ.out, if_pos rfl]
      clear HWJ HLE
      cases named
      · go_enter Tryz.func24, Tryz.ntmps24
        go_wp2_with fail
        go_ret
        exact ⟨rfl, (Below.refl _ _).alloc (Nat.le_refl _) _⟩
      · go_enter Tryz.func24, Tryz.ntmps24
        go_wp2_with fail
        go_ret
        exact ⟨rfl, (Below.refl _ _).alloc (Nat.le_refl _) _⟩
    rw [HWJ.out, if_neg h0] at HLE ⊢
    clear HWJ
    have hne : ((M : Int) == 0) = false := by simp; omega
    have hne2 : ¬ (M : Int) = 0 := by omega
    have HLM : Hid (∀ k, k ≤ M → (opJ named :: partsJ (jsonT lines f (deep + 1)) lines named deep KS T k).length ≤ 100000) := fun k hk => by
      have h1 := HLE.out
      have h2 := partsJ_mono (jsonT lines f (deep + 1)) lines named deep KS T hk
      simp only [List.length_append, List.length_cons] at h1 ⊢
      omega
    obtain ⟨W1, hW1⟩ : ∃ W1, w.alloc (.cells #[.int .i64 (kdJ named), .int .i64 nn, .string ss, .slice aK MK cK, .slice aI M cI] 55) = W1 := ⟨_, rfl⟩
    have HX0 : Hid (W1.cell? ⟨w.heap.size, 0, none⟩ = some (.int .i64 (kdJ named))) := by rw [Hid, ← hW1]; simp
    have HX3 : Hid (W1.cell? ⟨w.heap.size, 3, none⟩ = some (.slice aK MK cK)) := by rw [Hid, ← hW1]; simp
    have HX4 : Hid (W1.cell? ⟨w.heap.size, 4, none⟩ = some (.slice aI M cI)) := by rw [Hid, ← hW1]; simp
    have HBX : Hid (Below w.heap.size w W1) := by rw [Hid, ← hW1]; exact (Below.refl _ _).alloc (Nat.le_refl _) _
    have HZX : Hid (W1.heap.size = w.heap.size + 1) := by rw [Hid, ← hW1]; simp
    have HW1 := hideIt hW1
    clear hW1
    have HIH : Hid (∀ (q : Nat) W, Below w.heap.size w W → q < i → q < N → Calls Tryz.prog 24 #[.slice (some ⟨bv, ov, none⟩) N cap, .int .i64 q, .string (mg ++ ⟨#[32, 32]⟩), .bool lines] W fun e w' => e = .returned (.string (txt (jsonT lines f (deep + 1) (treeOf vs f q)))) ∧ Below W.heap.size W w') := fun q W hb hqi hq => by
      have := ih _ q (deep + 1) W (by have := HV.out.below (hb.mono hB); exact this) (Nat.le_trans hB hb.size) (by omega) (by rw [HNN.out]; omega) (by omega)
      rw [HM1.out, ← hmn] at this
      exact this
    have HQL : Hid (∀ q : Nat, q < i → q < N → (txt (jsonT lines f (deep + 1) (treeOf vs f q))).size ≤ 100000) := fun q hqi hq => by
      have h1 := jsonT_le HOK.out lines f (deep + 1) q 0 (by rw [HNN.out]; omega) (by omega) (by omega)
      have h2 := lay_part HOK.out (f := f) (m := q) (by omega) (by rw [HNN.out]; omega)
      rw [h2.1] at h1
      have := h2.2
      rw [txt_size]
      omega
    clear ih hmn
    cases named <;> cases lines
    · have ek : kdJ false = 5 := rfl
      rw [ek] at c0 HX0 HW1
      go_enter Tryz.func24, Tryz.ntmps24
      go_wp2_with fail
      rw [HW1.out]
      go_loopw [12, 13] (fun o i wr => ∃ k : Nat, k ≤ M ∧ i = .int .i64 k ∧ o = .string (txt (opJ false :: partsJ (jsonT false f (deep + 1)) false false deep KS T k)) ∧ Below (w.heap.size + 1) W1 wr) (fun _ i _ => M - (intOf i).toNat)
      case atStart => exact ⟨0, Nat.zero_le _, rfl, rfl, Below.refl _ _⟩
      case round =>
        obtain ⟨k, hk, rfl, rfl, hbr⟩ := hrel
        have HBR := hideIt hbr
        have HBW := hideIt (HBX.out.trans (hbr.mono (by omega)))
        have zr : w.heap.size + 1 ≤ wr.heap.size := by have := hbr.size; rw [HZX.out] at this; exact this
        have x0 := (below_cell hbr (show w.heap.size < w.heap.size + 1 by omega)).trans HX0.out
        have x3 := (below_cell hbr (show w.heap.size < w.heap.size + 1 by omega)).trans HX3.out
        have x4 := (below_cell hbr (show w.heap.size < w.heap.size + 1 by omega)).trans HX4.out
        have hlm := HLM.out k hk
        have HPJ := hideIt (partsJ_cons (opJ false) (jsonT false f (deep + 1)) false false deep KS T k)
        obtain ⟨o, ho⟩ : ∃ o, opJ false :: partsJ (jsonT false f (deep + 1)) false false deep KS T k = o := ⟨_, rfl⟩
        rw [ho] at hlm HPJ ⊢
        have HO := hideIt ho
        have hzo : (txt o).size ≤ 100000 := by rw [txt_size]; exact hlm
        clear ho hbr
        by_cases hlt : k < M
        · have hlt' : (k : Int) < (M : Int) := by omega
          obtain ⟨bi, oi, eai, hbi, hci⟩ := HIC.out (by omega)
          have hki := kidsIn_get HKIN.out (j := k) (by rw [HMM.out]; exact hlt)
          obtain ⟨q, hq⟩ : ∃ q : Nat, intAt (nodeAt vs i).kids k = (q : Int) := ⟨(intAt (nodeAt vs i).kids k).toNat, by omega⟩
          have ci := (below_cell (HBW.out.mono hB) hbi).trans (hci k hlt)
          have CI := hideIt (hci k hlt)
          rw [hq] at ci CI hki
          have HKT : Hid (kidT T k = treeOf vs f q) := by rw [Hid, HTT.out k hlt, hq, Int.toNat_natCast]
          have hzq := HQL.out q (by omega) (by omega)
          have HIHQ := hideIt (fun W hb => HIH.out q W hb (by omega) (by omega))
          rw [HKT.out] at HPJ
          obtain ⟨r, hr⟩ : ∃ r, jsonT false f (deep + 1) (treeOf vs f q) = r := ⟨_, rfl⟩
          rw [hr] at HPJ hzq HIHQ
          clear hci hq hr
          subst eai
          rcases Nat.eq_zero_or_pos k with hk0 | hk0
          · have hk0' : ¬ (0 : Int) < (k : Int) := by omega
            have HK0 := hideIt hk0
            clear hk0
            go_wp2_with fail
            refine (HIHQ.out _ HBW.out).mono ?_
            rintro e w3 ⟨rfl, hb3⟩
            have HB5 := hideIt (HBR.out.trans (hb3.mono zr))
            clear hb3
            go_wp2_with fail
            refine ⟨⟨k + 1, by omega, by go_num, ?_, HB5.out⟩, by simp [intOf]; omega⟩
            rw [HPJ.out]
            refine str_txt ?_
            simp only [app_txt, bytes_txt, HML.out]
            congr 1
            rw [show commaJ2 k = [] from if_pos HK0.out]
            simp [lineJ, rep_two]
          · have hk0' : (0 : Int) < (k : Int) := by omega
            have HK0 := hideIt hk0
            go_wp2_with fail
            refine (HIHQ.out _ HBW.out).mono ?_
            rintro e w3 ⟨rfl, hb3⟩
            have HB5 := hideIt (HBR.out.trans (hb3.mono zr))
            clear hb3
            go_wp2_with fail
            refine ⟨⟨k + 1, by omega, by go_num, ?_, HB5.out⟩, by simp [intOf]; omega⟩
            rw [HPJ.out]
            refine str_txt ?_
            simp only [app_txt, bytes_txt, HML.out]
            congr 1
            rw [show commaJ2 k = [44] from if_neg (by have := HK0.out; omega)]
            simp [lineJ, rep_two]
        · obtain rfl : k = M := by omega
          clear HKC HIC
          go_wp2_with fail
          go_ret
          refine ⟨?_, HBW.out⟩
          refine ret_str ?_
          simp only [app_txt, bytes_txt, HML.out]
          congr 1
          first | rw [← List.cons_append, ← List.cons_append, HO.out] | rw [← List.cons_append, HO.out] | rw [HO.out]
          simp [lineJ, endJ]
    · have ek : kdJ false = 5 := rfl
      rw [ek] at c0 HX0 HW1
      go_enter Tryz.func24, Tryz.ntmps24
      go_wp2_with fail
      rw [HW1.out]
      go_loopw [12, 13] (fun o i wr => ∃ k : Nat, k ≤ M ∧ i = .int .i64 k ∧ o = .string (txt (opJ false :: partsJ (jsonT true f (deep + 1)) true false deep KS T k)) ∧ Below (w.heap.size + 1) W1 wr) (fun _ i _ => M - (intOf i).toNat)
      case atStart => exact ⟨0, Nat.zero_le _, rfl, rfl, Below.refl _ _⟩
      case round =>
        obtain ⟨k, hk, rfl, rfl, hbr⟩ := hrel
        have HBR := hideIt hbr
        have HBW := hideIt (HBX.out.trans (hbr.mono (by omega)))
        have zr : w.heap.size + 1 ≤ wr.heap.size := by have := hbr.size; rw [HZX.out] at this; exact this
        have x0 := (below_cell hbr (show w.heap.size < w.heap.size + 1 by omega)).trans HX0.out
        have x3 := (below_cell hbr (show w.heap.size < w.heap.size + 1 by omega)).trans HX3.out
        have x4 := (below_cell hbr (show w.heap.size < w.heap.size + 1 by omega)).trans HX4.out
        have hlm := HLM.out k hk
        have HPJ := hideIt (partsJ_cons (opJ false) (jsonT true f (deep + 1)) true false deep KS T k)
        obtain ⟨o, ho⟩ : ∃ o, opJ false :: partsJ (jsonT true f (deep + 1)) true false deep KS T k = o := ⟨_, rfl⟩
        rw [ho] at hlm HPJ ⊢
        have HO := hideIt ho
        have hzo : (txt o).size ≤ 100000 := by rw [txt_size]; exact hlm
        clear ho hbr
        by_cases hlt : k < M
        · have hlt' : (k : Int) < (M : Int) := by omega
          obtain ⟨bi, oi, eai, hbi, hci⟩ := HIC.out (by omega)
          have hki := kidsIn_get HKIN.out (j := k) (by rw [HMM.out]; exact hlt)
          obtain ⟨q, hq⟩ : ∃ q : Nat, intAt (nodeAt vs i).kids k = (q : Int) := ⟨(intAt (nodeAt vs i).kids k).toNat, by omega⟩
          have ci := (below_cell (HBW.out.mono hB) hbi).trans (hci k hlt)
          have CI := hideIt (hci k hlt)
          rw [hq] at ci CI hki
          have HKT : Hid (kidT T k = treeOf vs f q) := by rw [Hid, HTT.out k hlt, hq, Int.toNat_natCast]
          have hzq := HQL.out q (by omega) (by omega)
          have HIHQ := hideIt (fun W hb => HIH.out q W hb (by omega) (by omega))
          rw [HKT.out] at HPJ
          obtain ⟨r, hr⟩ : ∃ r, jsonT true f (deep + 1) (treeOf vs f q) = r := ⟨_, rfl⟩
          rw [hr] at HPJ hzq HIHQ
          clear hci hq hr
          subst eai
          rcases Nat.eq_zero_or_pos k with hk0 | hk0
          · have hk0' : ¬ (0 : Int) < (k : Int) := by omega
            have HK0 := hideIt hk0
            clear hk0
            go_wp2_with fail
            refine (HIHQ.out _ HBW.out).mono ?_
            rintro e w3 ⟨rfl, hb3⟩
            have HB5 := hideIt (HBR.out.trans (hb3.mono zr))
            clear hb3
            go_wp2_with fail
            refine ⟨⟨k + 1, by omega, by go_num, ?_, HB5.out⟩, by simp [intOf]; omega⟩
            rw [HPJ.out]
            refine str_txt ?_
            simp only [app_txt, bytes_txt, HML.out]
            congr 1
            rw [show commaJ2 k = [] from if_pos HK0.out]
            simp [lineJ, rep_two]
          · have hk0' : (0 : Int) < (k : Int) := by omega
            have HK0 := hideIt hk0
            go_wp2_with fail
            refine (HIHQ.out _ HBW.out).mono ?_
            rintro e w3 ⟨rfl, hb3⟩
            have HB5 := hideIt (HBR.out.trans (hb3.mono zr))
            clear hb3
            go_wp2_with fail
            refine ⟨⟨k + 1, by omega, by go_num, ?_, HB5.out⟩, by simp [intOf]; omega⟩
            rw [HPJ.out]
            refine str_txt ?_
            simp only [app_txt, bytes_txt, HML.out]
            congr 1
            rw [show commaJ2 k = [44] from if_neg (by have := HK0.out; omega)]
            simp [lineJ, rep_two]
        · obtain rfl : k = M := by omega
          clear HKC HIC
          go_wp2_with fail
          go_ret
          refine ⟨?_, HBW.out⟩
          refine ret_str ?_
          simp only [app_txt, bytes_txt, HML.out]
          congr 1
          first | rw [← List.cons_append, ← List.cons_append, HO.out] | rw [← List.cons_append, HO.out] | rw [HO.out]
          simp [lineJ, endJ]
    · have ek : kdJ true = 6 := rfl
      rw [ek] at c0 HX0 HW1
      go_enter Tryz.func24, Tryz.ntmps24
      go_wp2_with fail
      rw [HW1.out]
      go_loopw [12, 13] (fun o i wr => ∃ k : Nat, k ≤ M ∧ i = .int .i64 k ∧ o = .string (txt (opJ true :: partsJ (jsonT false f (deep + 1)) false true deep KS T k)) ∧ Below (w.heap.size + 1) W1 wr) (fun _ i _ => M - (intOf i).toNat)
      case atStart => exact ⟨0, Nat.zero_le _, rfl, rfl, Below.refl _ _⟩
      case round =>
        obtain ⟨k, hk, rfl, rfl, hbr⟩ := hrel
        have HBR := hideIt hbr
        have HBW := hideIt (HBX.out.trans (hbr.mono (by omega)))
        have zr : w.heap.size + 1 ≤ wr.heap.size := by have := hbr.size; rw [HZX.out] at this; exact this
        have x0 := (below_cell hbr (show w.heap.size < w.heap.size + 1 by omega)).trans HX0.out
        have x3 := (below_cell hbr (show w.heap.size < w.heap.size + 1 by omega)).trans HX3.out
        have x4 := (below_cell hbr (show w.heap.size < w.heap.size + 1 by omega)).trans HX4.out
        have hlm := HLM.out k hk
        have HPJ := hideIt (partsJ_cons (opJ true) (jsonT false f (deep + 1)) false true deep KS T k)
        obtain ⟨o, ho⟩ : ∃ o, opJ true :: partsJ (jsonT false f (deep + 1)) false true deep KS T k = o := ⟨_, rfl⟩
        rw [ho] at hlm HPJ ⊢
        have HO := hideIt ho
        have hzo : (txt o).size ≤ 100000 := by rw [txt_size]; exact hlm
        clear ho hbr
        by_cases hlt : k < M
        · have hlt' : (k : Int) < (M : Int) := by omega
          obtain ⟨bi, oi, eai, hbi, hci⟩ := HIC.out (by omega)
          have hki := kidsIn_get HKIN.out (j := k) (by rw [HMM.out]; exact hlt)
          obtain ⟨q, hq⟩ : ∃ q : Nat, intAt (nodeAt vs i).kids k = (q : Int) := ⟨(intAt (nodeAt vs i).kids k).toNat, by omega⟩
          have ci := (below_cell (HBW.out.mono hB) hbi).trans (hci k hlt)
          have CI := hideIt (hci k hlt)
          rw [hq] at ci CI hki
          have HKT : Hid (kidT T k = treeOf vs f q) := by rw [Hid, HTT.out k hlt, hq, Int.toNat_natCast]
          have hzq := HQL.out q (by omega) (by omega)
          have HIHQ := hideIt (fun W hb => HIH.out q W hb (by omega) (by omega))
          rw [HKT.out] at HPJ
          obtain ⟨r, hr⟩ : ∃ r, jsonT false f (deep + 1) (treeOf vs f q) = r := ⟨_, rfl⟩
          rw [hr] at HPJ hzq HIHQ
          clear hci hq hr
          subst eai
          obtain ⟨hMKM, hksz⟩ := HKEY.out (by simp)
          obtain ⟨bk, ok, eak, hbk, hkk⟩ := HKC.out (by omega)
          have ck := (below_cell (HBW.out.mono hB) hbk).trans (hkk k (by omega))
          have hky := hksz k (by omega)
          have hkK : (k : Int) < (MK : Int) := by omega
          obtain ⟨ky, hk9⟩ : ∃ ky, keyAt KS k = ky := ⟨_, rfl⟩
          rw [hk9] at ck hky HPJ
          have HSQ := hideIt (fun W => sQuo_any ky W (by omega))
          have hql := (quoT_len ky).2
          have HKJ : Hid (keyJ false ky = quoT ky ++ 58 :: (if false = true then [32] else [])) := rfl
          obtain ⟨Q, hQ⟩ : ∃ Q, quoT ky = Q := ⟨_, rfl⟩
          rw [hQ] at HSQ hql HKJ
          have hzk : (txt Q).size ≤ 362 := by rw [txt_size]; omega
          have HMKM := hideIt hMKM
          clear hk9 hQ hkk hksz hMKM
          subst eak
          rcases Nat.eq_zero_or_pos k with hk0 | hk0
          · have hk0' : ¬ (0 : Int) < (k : Int) := by omega
            have HK0 := hideIt hk0
            clear hk0
            go_wp2_with fail
            refine (HSQ.out _).mono ?_
            rintro e w2 ⟨rfl, hb2⟩
            have HB2 := hideIt (HBR.out.trans (hb2.mono zr))
            have HBW2 := hideIt (HBW.out.trans (hb2.mono (by omega)))
            have z2 := hb2.size
            have y4 := (below_cell HB2.out (show w.heap.size < w.heap.size + 1 by omega)).trans HX4.out
            have di := (below_cell (HBW2.out.mono hB) hbi).trans CI.out
            clear hb2 x0 x3 x4 ci ck
            go_wp2_with fail
            refine (HIHQ.out _ HBW2.out).mono ?_
            rintro e w3 ⟨rfl, hb3⟩
            have HB5 := hideIt (HB2.out.trans (hb3.mono (by omega)))
            clear hb3
            go_wp2_with fail
            refine ⟨⟨k + 1, by omega, by go_num, ?_, HB5.out⟩, by simp [intOf]; omega⟩
            rw [HPJ.out, HKJ.out]
            refine str_txt ?_
            simp only [app_txt, bytes_txt, HML.out]
            congr 1
            rw [show commaJ2 k = [] from if_pos HK0.out]
            simp [lineJ, rep_two]
          · have hk0' : (0 : Int) < (k : Int) := by omega
            have HK0 := hideIt hk0
            go_wp2_with fail
            refine (HSQ.out _).mono ?_
            rintro e w2 ⟨rfl, hb2⟩
            have HB2 := hideIt (HBR.out.trans (hb2.mono zr))
            have HBW2 := hideIt (HBW.out.trans (hb2.mono (by omega)))
            have z2 := hb2.size
            have y4 := (below_cell HB2.out (show w.heap.size < w.heap.size + 1 by omega)).trans HX4.out
            have di := (below_cell (HBW2.out.mono hB) hbi).trans CI.out
            clear hb2 x0 x3 x4 ci ck
            go_wp2_with fail
            refine (HIHQ.out _ HBW2.out).mono ?_
            rintro e w3 ⟨rfl, hb3⟩
            have HB5 := hideIt (HB2.out.trans (hb3.mono (by omega)))
            clear hb3
            go_wp2_with fail
            refine ⟨⟨k + 1, by omega, by go_num, ?_, HB5.out⟩, by simp [intOf]; omega⟩
            rw [HPJ.out, HKJ.out]
            refine str_txt ?_
            simp only [app_txt, bytes_txt, HML.out]
            congr 1
            rw [show commaJ2 k = [44] from if_neg (by have := HK0.out; omega)]
            simp [lineJ, rep_two]
        · obtain rfl : k = M := by omega
          clear HKC HIC
          go_wp2_with fail
          go_ret
          refine ⟨?_, HBW.out⟩
          refine ret_str ?_
          simp only [app_txt, bytes_txt, HML.out]
          congr 1
          first | rw [← List.cons_append, ← List.cons_append, HO.out] | rw [← List.cons_append, HO.out] | rw [HO.out]
          simp [lineJ, endJ]
    · have ek : kdJ true = 6 := rfl
      rw [ek] at c0 HX0 HW1
      go_enter Tryz.func24, Tryz.ntmps24
      go_wp2_with fail
      rw [HW1.out]
      go_loopw [12, 13] (fun o i wr => ∃ k : Nat, k ≤ M ∧ i = .int .i64 k ∧ o = .string (txt (opJ true :: partsJ (jsonT true f (deep + 1)) true true deep KS T k)) ∧ Below (w.heap.size + 1) W1 wr) (fun _ i _ => M - (intOf i).toNat)
      case atStart => exact ⟨0, Nat.zero_le _, rfl, rfl, Below.refl _ _⟩
      case round =>
        obtain ⟨k, hk, rfl, rfl, hbr⟩ := hrel
        have HBR := hideIt hbr
        have HBW := hideIt (HBX.out.trans (hbr.mono (by omega)))
        have zr : w.heap.size + 1 ≤ wr.heap.size := by have := hbr.size; rw [HZX.out] at this; exact this
        have x0 := (below_cell hbr (show w.heap.size < w.heap.size + 1 by omega)).trans HX0.out
        have x3 := (below_cell hbr (show w.heap.size < w.heap.size + 1 by omega)).trans HX3.out
        have x4 := (below_cell hbr (show w.heap.size < w.heap.size + 1 by omega)).trans HX4.out
        have hlm := HLM.out k hk
        have HPJ := hideIt (partsJ_cons (opJ true) (jsonT true f (deep + 1)) true true deep KS T k)
        obtain ⟨o, ho⟩ : ∃ o, opJ true :: partsJ (jsonT true f (deep + 1)) true true deep KS T k = o := ⟨_, rfl⟩
        rw [ho] at hlm HPJ ⊢
        have HO := hideIt ho
        have hzo : (txt o).size ≤ 100000 := by rw [txt_size]; exact hlm
        clear ho hbr
        by_cases hlt : k < M
        · have hlt' : (k : Int) < (M : Int) := by omega
          obtain ⟨bi, oi, eai, hbi, hci⟩ := HIC.out (by omega)
          have hki := kidsIn_get HKIN.out (j := k) (by rw [HMM.out]; exact hlt)
          obtain ⟨q, hq⟩ : ∃ q : Nat, intAt (nodeAt vs i).kids k = (q : Int) := ⟨(intAt (nodeAt vs i).kids k).toNat, by omega⟩
          have ci := (below_cell (HBW.out.mono hB) hbi).trans (hci k hlt)
          have CI := hideIt (hci k hlt)
          rw [hq] at ci CI hki
          have HKT : Hid (kidT T k = treeOf vs f q) := by rw [Hid, HTT.out k hlt, hq, Int.toNat_natCast]
          have hzq := HQL.out q (by omega) (by omega)
          have HIHQ := hideIt (fun W hb => HIH.out q W hb (by omega) (by omega))
          rw [HKT.out] at HPJ
          obtain ⟨r, hr⟩ : ∃ r, jsonT true f (deep + 1) (treeOf vs f q) = r := ⟨_, rfl⟩
          rw [hr] at HPJ hzq HIHQ
          clear hci hq hr
          subst eai
          obtain ⟨hMKM, hksz⟩ := HKEY.out (by simp)
          obtain ⟨bk, ok, eak, hbk, hkk⟩ := HKC.out (by omega)
          have ck := (below_cell (HBW.out.mono hB) hbk).trans (hkk k (by omega))
          have hky := hksz k (by omega)
          have hkK : (k : Int) < (MK : Int) := by omega
          obtain ⟨ky, hk9⟩ : ∃ ky, keyAt KS k = ky := ⟨_, rfl⟩
          rw [hk9] at ck hky HPJ
          have HSQ := hideIt (fun W => sQuo_any ky W (by omega))
          have hql := (quoT_len ky).2
          have HKJ : Hid (keyJ true ky = quoT ky ++ 58 :: (if true = true then [32] else [])) := rfl
          obtain ⟨Q, hQ⟩ : ∃ Q, quoT ky = Q := ⟨_, rfl⟩
          rw [hQ] at HSQ hql HKJ
          have hzk : (txt Q).size ≤ 362 := by rw [txt_size]; omega
          have HMKM := hideIt hMKM
          clear hk9 hQ hkk hksz hMKM
          subst eak
          rcases Nat.eq_zero_or_pos k with hk0 | hk0
          · have hk0' : ¬ (0 : Int) < (k : Int) := by omega
            have HK0 := hideIt hk0
            clear hk0
            go_wp2_with fail
            refine (HSQ.out _).mono ?_
            rintro e w2 ⟨rfl, hb2⟩
            have HB2 := hideIt (HBR.out.trans (hb2.mono zr))
            have HBW2 := hideIt (HBW.out.trans (hb2.mono (by omega)))
            have z2 := hb2.size
            have y4 := (below_cell HB2.out (show w.heap.size < w.heap.size + 1 by omega)).trans HX4.out
            have di := (below_cell (HBW2.out.mono hB) hbi).trans CI.out
            clear hb2 x0 x3 x4 ci ck
            go_wp2_with fail
            refine (HIHQ.out _ HBW2.out).mono ?_
            rintro e w3 ⟨rfl, hb3⟩
            have HB5 := hideIt (HB2.out.trans (hb3.mono (by omega)))
            clear hb3
            go_wp2_with fail
            refine ⟨⟨k + 1, by omega, by go_num, ?_, HB5.out⟩, by simp [intOf]; omega⟩
            rw [HPJ.out, HKJ.out]
            refine str_txt ?_
            simp only [app_txt, bytes_txt, HML.out]
            congr 1
            rw [show commaJ2 k = [] from if_pos HK0.out]
            simp [lineJ, rep_two]
          · have hk0' : (0 : Int) < (k : Int) := by omega
            have HK0 := hideIt hk0
            go_wp2_with fail
            refine (HSQ.out _).mono ?_
            rintro e w2 ⟨rfl, hb2⟩
            have HB2 := hideIt (HBR.out.trans (hb2.mono zr))
            have HBW2 := hideIt (HBW.out.trans (hb2.mono (by omega)))
            have z2 := hb2.size
            have y4 := (below_cell HB2.out (show w.heap.size < w.heap.size + 1 by omega)).trans HX4.out
            have di := (below_cell (HBW2.out.mono hB) hbi).trans CI.out
            clear hb2 x0 x3 x4 ci ck
            go_wp2_with fail
            refine (HIHQ.out _ HBW2.out).mono ?_
            rintro e w3 ⟨rfl, hb3⟩
            have HB5 := hideIt (HB2.out.trans (hb3.mono (by omega)))
            clear hb3
            go_wp2_with fail
            refine ⟨⟨k + 1, by omega, by go_num, ?_, HB5.out⟩, by simp [intOf]; omega⟩
            rw [HPJ.out, HKJ.out]
            refine str_txt ?_
            simp only [app_txt, bytes_txt, HML.out]
            congr 1
            rw [show commaJ2 k = [44] from if_neg (by have := HK0.out; omega)]
            simp [lineJ, rep_two]
        · obtain rfl : k = M := by omega
          clear HKC HIC
          go_wp2_with fail
          go_ret
          refine ⟨?_, HBW.out⟩
          refine ret_str ?_
          simp only [app_txt, bytes_txt, HML.out]
          congr 1
          first | rw [← List.cons_append, ← List.cons_append, HO.out] | rw [← List.cons_append, HO.out] | rw [HO.out]
          simp [lineJ, endJ]
end Go.Proofs.YtagcgnhpdmhegaaGreatDoor
