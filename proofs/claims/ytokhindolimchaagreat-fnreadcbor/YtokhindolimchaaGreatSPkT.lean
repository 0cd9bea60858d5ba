/-
  The specification's l4Text: the bytes of a node.
-/
import Derived.Test.YtokhindolimchaaGreatCbT
import Derived.Test.YtokhindolimchaaGreatSPkW
import Derived.Test.YtokhindolimchaaGreatStb
namespace Go.Proofs.YtokhindolimchaaGreat
open Go.RowKit Go.WideShapes
set_option linter.unusedSimpArgs false
set_option linter.unusedVariables false

def PkAll (B : Nat) (vs : List VN) (f : Nat) : Prop := ∀ (v : Value) (i : Nat) (w : World), NodesAt B w v vs → B ≤ w.heap.size → i < f → i < vs.length →
  Calls Tryz.prog 81 #[v, .int .i64 i] w fun e w' => e = .returned (.string (txt (packT f (treeOf vs f i)))) ∧ Below w.heap.size w w'
theorem lenMap {α β : Type} (l : List α) (g : α → β) : (l.map g).length = l.length := List.length_map ..

set_option maxRecDepth 100000 in
set_option maxHeartbeats 6400000 in
theorem l4Text_any (B : Nat) (vs : List VN) (hok : okB vs = true) : ∀ f, PkAll B vs f := by
  intro f
  induction f with
  | zero => intro v i w _ _ hi; omega
  | succ f ih =>
    intro v i w h hB hif hi
    have HV := hideIt h
    have h80 : vs.length ≤ 80 := (okB_parts hok).1.2
    obtain ⟨hl, a, cap, rfl, hcv⟩ := h
    obtain ⟨bv, ov, rfl, hbv, hcv'⟩ := hcv (by omega)
    obtain ⟨ka, ki, hnd⟩ := hcv' i hi
    have c0 := hnd.c0
    have c1 := hnd.c1
    have c2 := hnd.c2
    have c3 := hnd.c3
    have c4 := hnd.c4
    obtain ⟨_, hks, aK, cK, eK, hkc⟩ := hnd.inn.keys
    obtain ⟨_, _, aI, cI, eI, hic⟩ := hnd.inn.kids
    have HKC := hideIt hkc
    have HIC := hideIt hic
    subst eK eI
    have HSAY := hideIt (node_says hok hi)
    have HKIN := hideIt (((okB_parts hok).2.1 i hi).2)
    have hkf := keys_few hok i hi
    have HLF := hideIt (packT_leaf f (kind := (nodeAt vs i).kind) (n := (nodeAt vs i).n) (s := (nodeAt vs i).s) (keys := (nodeAt vs i).keys) (kids := (nodeAt vs i).kids.map fun k => treeOf vs f k.toNat))
    have HTR : Hid (treeOf vs (f + 1) i = .mk (nodeAt vs i).kind (nodeAt vs i).n (nodeAt vs i).s (nodeAt vs i).keys ((nodeAt vs i).kids.map fun k => treeOf vs f k.toNat)) := rfl
    have HLE := hideIt (packT_le hok (f + 1) i 0 hi hif)
    obtain ⟨M, hM⟩ : ∃ M, (nodeAt vs i).kids.length = M := ⟨_, rfl⟩
    obtain ⟨MK, hMK⟩ : ∃ MK, (nodeAt vs i).keys.length = MK := ⟨_, rfl⟩
    obtain ⟨kd, hkd⟩ : ∃ kd, (nodeAt vs i).kind = kd := ⟨_, rfl⟩
    obtain ⟨nn, hnn⟩ : ∃ nn, (nodeAt vs i).n = nn := ⟨_, rfl⟩
    obtain ⟨ss, hss⟩ : ∃ ss, (nodeAt vs i).s = ss := ⟨_, rfl⟩
    rw [hM] at c4 HIC hkf HSAY
    rw [hMK] at c3 HKC hkf HSAY
    rw [hkd] at c0 HSAY HLF
    rw [hnn] at c1 HSAY HLF
    rw [hss] at c2 HSAY HLF
    obtain ⟨N, hN⟩ : ∃ N, vs.length = N := ⟨_, rfl⟩
    rw [hN] at hi h80 HV ⊢
    have hiN : (i : Int) < (N : Int) := by omega
    have hM80 : M ≤ 80 := hkf.2.1
    rw [HTR.out]
    have HKD := hideIt hkd
    have HOK := hideIt hok
    have HMM := hideIt hM
    have HNN := hideIt hN
    have HMKK := hideIt hMK
    rw [hkd, hnn, hss]
    have H16K := hideIt (packT_16k hok (f := f + 1) (by rw [hN]; exact hi) hif)
    have HNS : Hid ((nodeAt vs i).n = nn ∧ (nodeAt vs i).s = ss) := ⟨hnn, hss⟩
    clear hcv hcv' hnd hkc hic hkf hM hMK hkd hnn hss hN hok
    have hc := one_byteT
    rcases HSAY.out with k | ⟨k, q1, q2⟩ | ⟨k, q1, q2⟩ | ⟨k, q1⟩ | k | ⟨k, q1, q2⟩
    · have HE := hideIt (HLF.out.1 k)
      subst k
      go_enter Tryz.func81, Tryz.ntmps81
      go_wp2_with fail
      go_ret
      exact ⟨by rw [HE.out]; rfl, (Below.refl _ _).alloc (Nat.le_refl _) _⟩
    · have HE := hideIt (HLF.out.2.1 k)
      subst k
      have hc1 := one_int1 (n := 194 + nn) (by omega) (by omega) w
      go_enter Tryz.func81, Tryz.ntmps81
      go_wp2_with fail
      go_ret
      exact ⟨by rw [HE.out]; rfl, ((Below.refl _ _).alloc (Nat.le_refl _) _).alloc (by simp) _⟩
    · have HE := hideIt (HLF.out.2.2.1 k)
      subst k
      go_enter Tryz.func81, Tryz.ntmps81
      go_wp2_with (go_at_call 105; refine (l4Int_any _ _ (by omega) (by omega)).mono ?_; rintro e w1 ⟨rfl, hb1⟩)
      go_ret
      exact ⟨by rw [HE.out]; rfl, ((Below.refl _ _).alloc (Nat.le_refl _) _).trans (hb1.mono (by simp))⟩
    · have HE := hideIt (HLF.out.2.2.2.1 k)
      subst k
      go_enter Tryz.func81, Tryz.ntmps81
      go_wp2_with (go_at_call 106; refine (l4Word_any _ _ (by omega)).mono ?_; rintro e w1 ⟨rfl, hb1⟩)
      go_ret
      exact ⟨by rw [HE.out]; rfl, ((Below.refl _ _).alloc (Nat.le_refl _) _).trans (hb1.mono (by simp))⟩
    · have HE := hideIt (HLF.out.2.2.2.2.1 k)
      rw [lenMap, HMM.out] at HE
      have H16 := hideIt (show (packT (f + 1) (.mk kd nn ss (nodeAt vs i).keys ((nodeAt vs i).kids.map fun k => treeOf vs f k.toNat))).length ≤ 16000 by have := H16K.out; rw [HTR.out, HKD.out, HNS.out.1, HNS.out.2] at this; exact this)
      rw [HE.out] at H16 ⊢
      subst k
      obtain ⟨KS, hKS⟩ : ∃ KS, (nodeAt vs i).keys = KS := ⟨_, rfl⟩
      obtain ⟨T, hT⟩ : ∃ T, ((nodeAt vs i).kids.map fun k => treeOf vs f k.toNat) = T := ⟨_, rfl⟩
      have HKS := hideIt hKS
      have HTT : Hid (∀ k, k < M → kidT T k = treeOf vs f (intAt (nodeAt vs i).kids k).toNat) := fun k hk => by rw [← hT, kidT_map (by rw [HMM.out]; exact hk)]
      rw [hKS, hT] at H16 ⊢
      clear hKS hT
      have HLM : Hid (∀ k, k ≤ M → (packC 144 220 M ++ packL (packT f) false KS T k).length ≤ 16000) := fun k hk => by
        have h1 := H16.out
        have h2 := packL_mono (packT f) false KS T hk
        rw [List.length_append] at h1 ⊢
        omega
      have hz1 : ∀ x, (txt [x]).size = 1 := fun x => txt_size [x]
      have hzb : (txt (bigB (M : Int) 2)).size = 2 := by rw [txt_size, bigB_len]
      have hbx : Below (w.heap.size + 1) (w.alloc (.cells #[.int .i64 5, .int .i64 nn, .string ss, .slice aK MK cK, .slice aI M cI] 52)) (w.alloc (.cells #[.int .i64 5, .int .i64 nn, .string ss, .slice aK MK cK, .slice aI M cI] 52)) := Below.refl _ _
      have x0 : (w.alloc (.cells #[.int .i64 5, .int .i64 nn, .string ss, .slice aK MK cK, .slice aI M cI] 52)).cell? ⟨w.heap.size, 0, none⟩ = some (.int .i64 5) := by simp
      have x3 : (w.alloc (.cells #[.int .i64 5, .int .i64 nn, .string ss, .slice aK MK cK, .slice aI M cI] 52)).cell? ⟨w.heap.size, 3, none⟩ = some (.slice aK MK cK) := by simp
      have x4 : (w.alloc (.cells #[.int .i64 5, .int .i64 nn, .string ss, .slice aK MK cK, .slice aI M cI] 52)).cell? ⟨w.heap.size, 4, none⟩ = some (.slice aI M cI) := by simp
      have HX : Hid (x0 = x0 ∧ True) := ⟨rfl, trivial⟩
      have HBX : Hid (Below w.heap.size w (w.alloc (.cells #[.int .i64 5, .int .i64 nn, .string ss, .slice aK MK cK, .slice aI M cI] 52))) := (Below.refl _ _).alloc (Nat.le_refl _) _
      have hzx : (w.alloc (.cells #[.int .i64 5, .int .i64 nn, .string ss, .slice aK MK cK, .slice aI M cI] 52)).heap.size = w.heap.size + 1 := by simp
      obtain ⟨W1, hW1⟩ : ∃ W1, w.alloc (.cells #[.int .i64 5, .int .i64 nn, .string ss, .slice aK MK cK, .slice aI M cI] 52) = W1 := ⟨_, rfl⟩
      have HW1 := hideIt hW1
      rw [hW1] at x0 x3 x4 HBX hzx
      clear hW1 hbx HX
      have HX0 := hideIt x0
      have HX3 := hideIt x3
      have HX4 := hideIt x4
      have HZX := hideIt hzx
      clear x0 x3 x4 hzx
      go_enter Tryz.func81, Tryz.ntmps81
      go_wp2_with fail
      rw [HW1.out]
      refine (l3Big_any _ 2 _ (by omega) (by omega) (by omega)).mono ?_
      rintro e w1 ⟨rfl, hb1⟩
      have HB1 : Hid (Below (w.heap.size + 1) W1 w1) := hb1.mono (Nat.le_of_eq HZX.out.symm)
      have zz1 : w.heap.size + 1 ≤ w1.heap.size := by have := hb1.size; rw [HZX.out] at this; exact this
      clear hb1
      by_cases hM16 : M < 16
      all_goals (
        have HPC : Hid (packC 144 220 M = if M < 16 then [byI (144 + (M : Int))] else 220 :: bigB M 2) := rfl
        first
          | (have hc1 := one_int (n := 144 + (M : Int)) (by omega) (by omega) w1
             rw [if_pos hM16] at HPC)
          | rw [if_neg hM16] at HPC
        first
          | (have hm' : (M : Int) < 16 := by omega)
          | (have hm' : ¬ (M : Int) < 16 := by omega)
        clear hM16
        go_wp2_with fail
        go_loopw [9, 10] (fun o i wr => ∃ k : Nat, k ≤ M ∧ i = .int .i64 k ∧ o = .string (txt (packC 144 220 M ++ packL (packT f) false KS T k)) ∧ Below (w.heap.size + 1) W1 wr) (fun _ i _ => M - (intOf i).toNat)
        case atStart =>
          refine ⟨0, Nat.zero_le _, rfl, ?_, ?_⟩
          · rw [packL, List.append_nil, HPC.out]; (try exact str_txt (txt_pre _ _))
          · first | exact HB1.out | exact HB1.out.alloc zz1 _
        case round =>
          obtain ⟨k, hk, rfl, rfl, hbr⟩ := hrel
          have HBR := hideIt hbr
          have HBW := hideIt (HBX.out.trans (hbr.mono (by omega)))
          have zr : w.heap.size + 1 ≤ wr.heap.size := by have := hbr.size; rw [HZX.out] at this; exact this
          have x0 := (below_cell hbr (show w.heap.size < w.heap.size + 1 by omega)).trans HX0.out
          have x3 := (below_cell hbr (show w.heap.size < w.heap.size + 1 by omega)).trans HX3.out
          have x4 := (below_cell hbr (show w.heap.size < w.heap.size + 1 by omega)).trans HX4.out
          have hlm := HLM.out k hk
          obtain ⟨o, ho⟩ : ∃ o, packC 144 220 M ++ packL (packT f) false KS T k = o := ⟨_, rfl⟩
          rw [ho] at hlm ⊢
          have HO := hideIt ho
          have hzo : (txt o).size ≤ 16000 := by rw [txt_size]; exact hlm
          clear ho hbr
          by_cases hlt : k < M
          case pos =>
            have hlt' : (k : Int) < (M : Int) := by omega
            obtain ⟨bi, oi, eai, hbi, hci⟩ := HIC.out (by omega)
            have hki := kidsIn_get HKIN.out (j := k) (by rw [HMM.out]; exact hlt)
            obtain ⟨q, hq⟩ : ∃ q : Nat, intAt (nodeAt vs i).kids k = (q : Int) := ⟨(intAt (nodeAt vs i).kids k).toNat, by omega⟩
            have CI := hideIt (hci k hlt)
            have ci := (below_cell (HBW.out.mono hB) hbi).trans (hci k hlt)
            rw [hq] at ci CI hki
            have HKT : Hid (kidT T k = treeOf vs f q) := by rw [Hid, HTT.out k hlt, hq, Int.toNat_natCast]
            have HIHG : Hid (∀ W, Below w.heap.size w W → Calls Tryz.prog 81 #[.slice (some ⟨bv, ov, none⟩) N cap, .int .i64 q] W fun e w' => e = .returned (.string (txt (packT f (treeOf vs f q)))) ∧ Below W.heap.size W w') := fun W hb => ih _ q W (by have := HV.out.below (hb.mono hB); exact this) (Nat.le_trans hB hb.size) (by omega) (by rw [HNN.out]; omega)
            have HIH := hideIt (HIHG.out wr HBW.out)
            have h16q := packT_16k HOK.out (f := f) (i := q) (by rw [HNN.out]; omega) (by omega)
            have hzq : (txt (packT f (treeOf vs f q))).size ≤ 16000 := by rw [txt_size]; exact h16q
            clear h16q hci hq
            subst eai
            go_wp2_with fail
            refine HIH.out.mono ?_
            rintro e w2 ⟨rfl, hb2⟩
            have HB2 := hideIt (HBR.out.trans (hb2.mono (by omega)))
            clear hb2
            go_wp2_with fail
            have HV5 : Hid (Value.string (txt o ++ txt (packT f (treeOf vs f q))) = .string (txt (packC 144 220 M ++ packL (packT f) false KS T (k + 1)))) := by
              rw [Hid, packL, HKT.out, if_neg (by decide), List.append_nil, ← List.append_assoc, HO.out]
              exact str_txt (txt_app _ _)
            first
              | exact ⟨⟨k + 1, by omega, by go_num, HV5.out, HB2.out⟩, by simp [intOf]; omega⟩
              | (go_roundw
                 case rel => exact ⟨k + 1, by omega, by go_num, HV5.out, HB2.out⟩
                 case measure => simp [intOf]; omega)
          case neg =>
            obtain rfl : k = M := by omega
            go_wp2_with fail
            go_ret
            exact ⟨by rw [HO.out]; rfl, HBW.out⟩)
    · have q1' := q1.symm
      subst q1'
      have HE := hideIt (HLF.out.2.2.2.2.2 k)
      rw [lenMap, HMM.out] at HE
      have H16 := hideIt (show (packT (f + 1) (.mk kd nn ss (nodeAt vs i).keys ((nodeAt vs i).kids.map fun k => treeOf vs f k.toNat))).length ≤ 16000 by have := H16K.out; rw [HTR.out, HKD.out, HNS.out.1, HNS.out.2] at this; exact this)
      rw [HE.out] at H16 ⊢
      subst k
      obtain ⟨KS, hKS⟩ : ∃ KS, (nodeAt vs i).keys = KS := ⟨_, rfl⟩
      obtain ⟨T, hT⟩ : ∃ T, ((nodeAt vs i).kids.map fun k => treeOf vs f k.toNat) = T := ⟨_, rfl⟩
      have HKS := hideIt hKS
      have HTT : Hid (∀ k, k < M → kidT T k = treeOf vs f (intAt (nodeAt vs i).kids k).toNat) := fun k hk => by rw [← hT, kidT_map (by rw [HMM.out]; exact hk)]
      rw [hKS, hT] at H16 ⊢
      clear hKS hT
      have HLM : Hid (∀ k, k ≤ M → (packC 128 222 M ++ packL (packT f) true KS T k).length ≤ 16000) := fun k hk => by
        have h1 := H16.out
        have h2 := packL_mono (packT f) true KS T hk
        rw [List.length_append] at h1 ⊢
        omega
      have hz1 : ∀ x, (txt [x]).size = 1 := fun x => txt_size [x]
      have hzb : (txt (bigB (M : Int) 2)).size = 2 := by rw [txt_size, bigB_len]
      have hbx : Below (w.heap.size + 1) (w.alloc (.cells #[.int .i64 6, .int .i64 nn, .string ss, .slice aK M cK, .slice aI M cI] 52)) (w.alloc (.cells #[.int .i64 6, .int .i64 nn, .string ss, .slice aK M cK, .slice aI M cI] 52)) := Below.refl _ _
      have x0 : (w.alloc (.cells #[.int .i64 6, .int .i64 nn, .string ss, .slice aK M cK, .slice aI M cI] 52)).cell? ⟨w.heap.size, 0, none⟩ = some (.int .i64 6) := by simp
      have x3 : (w.alloc (.cells #[.int .i64 6, .int .i64 nn, .string ss, .slice aK M cK, .slice aI M cI] 52)).cell? ⟨w.heap.size, 3, none⟩ = some (.slice aK M cK) := by simp
      have x4 : (w.alloc (.cells #[.int .i64 6, .int .i64 nn, .string ss, .slice aK M cK, .slice aI M cI] 52)).cell? ⟨w.heap.size, 4, none⟩ = some (.slice aI M cI) := by simp
      have HX : Hid (x0 = x0 ∧ True) := ⟨rfl, trivial⟩
      have HBX : Hid (Below w.heap.size w (w.alloc (.cells #[.int .i64 6, .int .i64 nn, .string ss, .slice aK M cK, .slice aI M cI] 52))) := (Below.refl _ _).alloc (Nat.le_refl _) _
      have hzx : (w.alloc (.cells #[.int .i64 6, .int .i64 nn, .string ss, .slice aK M cK, .slice aI M cI] 52)).heap.size = w.heap.size + 1 := by simp
      obtain ⟨W1, hW1⟩ : ∃ W1, w.alloc (.cells #[.int .i64 6, .int .i64 nn, .string ss, .slice aK M cK, .slice aI M cI] 52) = W1 := ⟨_, rfl⟩
      have HW1 := hideIt hW1
      rw [hW1] at x0 x3 x4 HBX hzx
      clear hW1 hbx HX
      have HX0 := hideIt x0
      have HX3 := hideIt x3
      have HX4 := hideIt x4
      have HZX := hideIt hzx
      clear x0 x3 x4 hzx
      go_enter Tryz.func81, Tryz.ntmps81
      go_wp2_with fail
      rw [HW1.out]
      refine (l3Big_any _ 2 _ (by omega) (by omega) (by omega)).mono ?_
      rintro e w1 ⟨rfl, hb1⟩
      have HB1 : Hid (Below (w.heap.size + 1) W1 w1) := hb1.mono (Nat.le_of_eq HZX.out.symm)
      have zz1 : w.heap.size + 1 ≤ w1.heap.size := by have := hb1.size; rw [HZX.out] at this; exact this
      clear hb1
      by_cases hM16 : M < 16
      all_goals (
        have HPC : Hid (packC 128 222 M = if M < 16 then [byI (128 + (M : Int))] else 222 :: bigB M 2) := rfl
        first
          | (have hc1 := one_int (n := 128 + (M : Int)) (by omega) (by omega) w1
             rw [if_pos hM16] at HPC)
          | rw [if_neg hM16] at HPC
        first
          | (have hm' : (M : Int) < 16 := by omega)
          | (have hm' : ¬ (M : Int) < 16 := by omega)
        clear hM16
        go_wp2_with fail
        go_loopw [9, 10] (fun o i wr => ∃ k : Nat, k ≤ M ∧ i = .int .i64 k ∧ o = .string (txt (packC 128 222 M ++ packL (packT f) true KS T k)) ∧ Below (w.heap.size + 1) W1 wr) (fun _ i _ => M - (intOf i).toNat)
        case atStart =>
          refine ⟨0, Nat.zero_le _, rfl, ?_, ?_⟩
          · rw [packL, List.append_nil, HPC.out]; (try exact str_txt (txt_pre _ _))
          · first | exact HB1.out | exact HB1.out.alloc zz1 _
        case round =>
          obtain ⟨k, hk, rfl, rfl, hbr⟩ := hrel
          have HBR := hideIt hbr
          have HBW := hideIt (HBX.out.trans (hbr.mono (by omega)))
          have zr : w.heap.size + 1 ≤ wr.heap.size := by have := hbr.size; rw [HZX.out] at this; exact this
          have x0 := (below_cell hbr (show w.heap.size < w.heap.size + 1 by omega)).trans HX0.out
          have x3 := (below_cell hbr (show w.heap.size < w.heap.size + 1 by omega)).trans HX3.out
          have x4 := (below_cell hbr (show w.heap.size < w.heap.size + 1 by omega)).trans HX4.out
          have hlm := HLM.out k hk
          obtain ⟨o, ho⟩ : ∃ o, packC 128 222 M ++ packL (packT f) true KS T k = o := ⟨_, rfl⟩
          rw [ho] at hlm ⊢
          have HO := hideIt ho
          have hzo : (txt o).size ≤ 16000 := by rw [txt_size]; exact hlm
          clear ho hbr
          by_cases hlt : k < M
          case pos =>
            have hlt' : (k : Int) < (M : Int) := by omega
            obtain ⟨bi, oi, eai, hbi, hci⟩ := HIC.out (by omega)
            have hki := kidsIn_get HKIN.out (j := k) (by rw [HMM.out]; exact hlt)
            obtain ⟨q, hq⟩ : ∃ q : Nat, intAt (nodeAt vs i).kids k = (q : Int) := ⟨(intAt (nodeAt vs i).kids k).toNat, by omega⟩
            have CI := hideIt (hci k hlt)
            have ci := (below_cell (HBW.out.mono hB) hbi).trans (hci k hlt)
            rw [hq] at ci CI hki
            have HKT : Hid (kidT T k = treeOf vs f q) := by rw [Hid, HTT.out k hlt, hq, Int.toNat_natCast]
            have HIHG : Hid (∀ W, Below w.heap.size w W → Calls Tryz.prog 81 #[.slice (some ⟨bv, ov, none⟩) N cap, .int .i64 q] W fun e w' => e = .returned (.string (txt (packT f (treeOf vs f q)))) ∧ Below W.heap.size W w') := fun W hb => ih _ q W (by have := HV.out.below (hb.mono hB); exact this) (Nat.le_trans hB hb.size) (by omega) (by rw [HNN.out]; omega)
            have HIH := hideIt (HIHG.out wr HBW.out)
            have h16q := packT_16k HOK.out (f := f) (i := q) (by rw [HNN.out]; omega) (by omega)
            have hzq : (txt (packT f (treeOf vs f q))).size ≤ 16000 := by rw [txt_size]; exact h16q
            clear h16q hci hq
            subst eai
            obtain ⟨bk, ok, eak, hbk, hck⟩ := HKC.out (by omega)
            have ck := (below_cell (HBW.out.mono hB) hbk).trans (hck k (by omega))
            have hksz := q2 k (by omega)
            rw [HKS.out] at ck hksz
            obtain ⟨ky, hky⟩ : ∃ ky, keyAt KS k = ky := ⟨_, rfl⟩
            have HKY := hideIt hky
            rw [hky] at ck hksz
            have hzw : (txt (packW ky)).size ≤ 62 := by rw [txt_size]; have := (packW_len ky).2; omega
            have hkM : (k : Int) < (M : Int) := by omega
            subst eak
            clear hck hky
            go_wp2_with (go_at_call 106; refine (l4Word_any _ _ (by omega)).mono ?_; rintro e w2 ⟨rfl, hb2⟩; have HB2 := hideIt (HBR.out.trans (hb2.mono (by omega))); have z2 := hb2.size; have HBW2 := hideIt (HBX.out.trans (HB2.out.mono (by omega))); have y4 := (below_cell HB2.out (show w.heap.size < w.heap.size + 1 by omega)).trans HX4.out; have ci2 := (below_cell (HBW2.out.mono hB) hbi).trans (CI.out); have HIH2 := hideIt (HIHG.out w2 HBW2.out); clear hb2)
            refine HIH2.out.mono ?_
            rintro e w3 ⟨rfl, hb3⟩
            have HB3 := hideIt (HB2.out.trans (hb3.mono (by omega)))
            clear hb3
            go_wp2_with fail
            have HV6 : Hid (Value.string (txt o ++ txt (packW ky) ++ txt (packT f (treeOf vs f q))) = .string (txt (packC 128 222 M ++ packL (packT f) true KS T (k + 1)))) := by
              rw [Hid, packL, HKT.out, if_pos rfl, HKY.out, ← List.append_assoc, ← List.append_assoc, HO.out]
              exact str_txt (by rw [txt_app, txt_app])
            first
              | exact ⟨⟨k + 1, by omega, by go_num, HV6.out, HB3.out⟩, by simp [intOf]; omega⟩
              | (go_roundw
                 case rel => exact ⟨k + 1, by omega, by go_num, HV6.out, HB3.out⟩
                 case measure => simp [intOf]; omega)
          case neg =>
            obtain rfl : k = M := by omega
            go_wp2_with fail
            go_ret
            exact ⟨by rw [HO.out]; rfl, HBW.out⟩)
end Go.Proofs.YtokhindolimchaaGreat
