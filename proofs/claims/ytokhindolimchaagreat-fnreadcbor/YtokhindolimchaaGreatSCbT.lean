/-
  The specification's l3Text: the bytes of a node.
-/
import Derived.Test.YtokhindolimchaaGreatCbT
import Derived.Test.YtokhindolimchaaGreatSHe
import Derived.Test.YtokhindolimchaaGreatSPkT
import Derived.Deep.RegionHeld3
namespace Go.Proofs.YtokhindolimchaaGreat
open Go.RowKit Go.WideShapes
set_option linter.unusedSimpArgs false
set_option linter.unusedVariables false

theorem ofLen_succ (l : List ByteArray) (j S : Nat) : ofLen l (j + 1) S = ofLen l j S ++ (if (keyAt l j).size = S then [j] else []) := by
  unfold ofLen
  rw [List.range_succ, List.filter_append]
  congr 1
  by_cases h : (keyAt l j).size = S
  · simp [h]
  · simp [h]
theorem ofLen_pre (l : List ByteArray) {j M : Nat} (S : Nat) (h : j ≤ M) : ofLen l j S <+: ofLen l M S := by
  induction M with
  | zero => obtain rfl : j = 0 := by omega
            exact List.prefix_rfl
  | succ M ih =>
    by_cases e : j = M + 1
    · subst e; exact List.prefix_rfl
    · rw [ofLen_succ]; exact (ih (by omega)).trans (List.prefix_append _ _)
theorem byLen_pre (l : List ByteArray) (M : Nat) {S S' : Nat} (h : S ≤ S') : byLen l M S <+: byLen l M S' := by
  induction S' with
  | zero => obtain rfl : S = 0 := by omega
            exact List.prefix_rfl
  | succ S' ih =>
    by_cases e : S = S' + 1
    · subst e; exact List.prefix_rfl
    · rw [byLen]; exact (ih (by omega)).trans (List.prefix_append _ _)
theorem entC_pre (F : VT → List UInt8) (keys : List ByteArray) (kids : List VT) {a b : List Nat} (h : a <+: b) : (entC F keys kids a).length ≤ (entC F keys kids b).length := by
  obtain ⟨t, rfl⟩ := h
  rw [entC_app, List.length_append]; omega
theorem both_pre (l : List ByteArray) (M : Nat) {S j : Nat} (h : S ≤ 60) (hj : j ≤ M) : byLen l M S ++ ofLen l j S <+: byLen l M 61 := by
  have h1 : byLen l M S ++ ofLen l j S <+: byLen l M (S + 1) := by
    rw [byLen]
    exact (List.prefix_append_right_inj _).2 (ofLen_pre l S hj)
  exact h1.trans (byLen_pre l M (by omega))
theorem call_head (u v : Value) : ∀ w, (callFunc 94 #[u, v]).run Tryz.prog w = .ok (.enter 94 #[u, v]) w := fun w => by kernel_rfl
theorem call_text3 (u v : Value) : ∀ w, (callFunc 66 #[u, v]).run Tryz.prog w = .ok (.enter 66 #[u, v]) w := fun w => by kernel_rfl

def CbAll (B : Nat) (vs : List VN) (f : Nat) : Prop := ∀ (v : Value) (i : Nat) (w : World), NodesAt B w v vs → B ≤ w.heap.size → i < f → i < vs.length →
  Calls Tryz.prog 66 #[v, .int .i64 i] w fun e w' => e = .returned (.string (txt (cborT f (treeOf vs f i)))) ∧ Below w.heap.size w w'

set_option maxRecDepth 100000 in
set_option maxHeartbeats 6400000 in
theorem l3Text_any (B : Nat) (vs : List VN) (hok : okB vs = true) : ∀ f, CbAll B vs f := by
  intro f
  induction f with
  | zero => intro v i w _ _ hi; omega
  | succ f ih =>
    intro v i w h hB hif hi
    have HV := hideIt h
    have h80 : vs.length ≤ 80 := (okB_parts hok).1.2
    obtain ⟨hl, a, cap, rfl, hcv⟩ := h
    obtain ⟨bv, ov, rfl, hbv, hcv'⟩ := hcv (by omega)
    obtain ⟨ka, ki, hnd⟩ := hcv' i hi
    have c0 := hnd.c0
    have c1 := hnd.c1
    have c2 := hnd.c2
    have c3 := hnd.c3
    have c4 := hnd.c4
    obtain ⟨_, hks, aK, cK, eK, hkc⟩ := hnd.inn.keys
    obtain ⟨_, _, aI, cI, eI, hic⟩ := hnd.inn.kids
    have HKC := hideIt hkc
    have HIC := hideIt hic
    subst eK eI
    have HSAY := hideIt (node_says hok hi)
    have HKIN := hideIt (((okB_parts hok).2.1 i hi).2)
    have hkf := keys_few hok i hi
    have HLF := hideIt (cborT_leaf f (kind := (nodeAt vs i).kind) (n := (nodeAt vs i).n) (s := (nodeAt vs i).s) (keys := (nodeAt vs i).keys) (kids := (nodeAt vs i).kids.map fun k => treeOf vs f k.toNat))
    have HTR : Hid (treeOf vs (f + 1) i = .mk (nodeAt vs i).kind (nodeAt vs i).n (nodeAt vs i).s (nodeAt vs i).keys ((nodeAt vs i).kids.map fun k => treeOf vs f k.toNat)) := rfl
    have HLE := hideIt (cborT_le hok (f + 1) i 0 hi hif)
    obtain ⟨M, hM⟩ : ∃ M, (nodeAt vs i).kids.length = M := ⟨_, rfl⟩
    obtain ⟨MK, hMK⟩ : ∃ MK, (nodeAt vs i).keys.length = MK := ⟨_, rfl⟩
    obtain ⟨kd, hkd⟩ : ∃ kd, (nodeAt vs i).kind = kd := ⟨_, rfl⟩
    obtain ⟨nn, hnn⟩ : ∃ nn, (nodeAt vs i).n = nn := ⟨_, rfl⟩
    obtain ⟨ss, hss⟩ : ∃ ss, (nodeAt vs i).s = ss := ⟨_, rfl⟩
    rw [hM] at c4 HIC hkf HSAY
    rw [hMK] at c3 HKC hkf HSAY
    rw [hkd] at c0 HSAY HLF
    rw [hnn] at c1 HSAY HLF
    rw [hss] at c2 HSAY HLF
    obtain ⟨N, hN⟩ : ∃ N, vs.length = N := ⟨_, rfl⟩
    rw [hN] at hi h80 HV ⊢
    have hiN : (i : Int) < (N : Int) := by omega
    have hM80 : M ≤ 80 := hkf.2.1
    rw [HTR.out]
    have HKD := hideIt hkd
    have HOK := hideIt hok
    have HMM := hideIt hM
    have HNN := hideIt hN
    have HMKK := hideIt hMK
    rw [hkd, hnn, hss]
    have H16K := hideIt (cborT_16k hok (f := f + 1) (by rw [hN]; exact hi) hif)
    have HNS : Hid ((nodeAt vs i).n = nn ∧ (nodeAt vs i).s = ss) := ⟨hnn, hss⟩
    clear hcv hcv' hnd hkc hic hkf hM hMK hkd hnn hss hN hok
    have hc := one_byteT
    rcases HSAY.out with k | ⟨k, q1, q2⟩ | ⟨k, q1, q2⟩ | ⟨k, q1⟩ | k | ⟨k, q1, q2⟩
    · have HE := hideIt (HLF.out.1 k)
      subst k
      go_enter Tryz.func66, Tryz.ntmps66
      go_wp2_with fail
      go_ret
      exact ⟨by rw [HE.out]; rfl, (Below.refl _ _).alloc (Nat.le_refl _) _⟩
    · have HE := hideIt (HLF.out.2.1 k)
      subst k
      have hc1 := one_int1 (n := 244 + nn) (by omega) (by omega) w
      go_enter Tryz.func66, Tryz.ntmps66
      go_wp2_with fail
      go_ret
      exact ⟨by rw [HE.out]; rfl, ((Below.refl _ _).alloc (Nat.le_refl _) _).alloc (by simp) _⟩
    · have HE := hideIt (HLF.out.2.2.1 k)
      subst k
      by_cases a : nn < 0
      · have HN := hideIt (show cborN nn = headC 1 (-1 - nn) by unfold cborN; rw [if_pos a])
        go_enter Tryz.func66, Tryz.ntmps66
        go_wp2_with (go_at_call 94; refine (l3Head_any 1 (-1 - nn) _ (by omega) (by omega) (by omega)).mono ?_; rintro e w1 ⟨rfl, hb1⟩)
        go_ret
        exact ⟨by rw [HE.out, HN.out]; rfl, ((Below.refl _ _).alloc (Nat.le_refl _) _).trans (hb1.mono (by simp))⟩
      · have HN := hideIt (show cborN nn = headC 0 nn by unfold cborN; rw [if_neg a])
        go_enter Tryz.func66, Tryz.ntmps66
        go_wp2_with (go_at_call 94; refine (l3Head_any 0 nn _ (by omega) (by omega) (by omega)).mono ?_; rintro e w1 ⟨rfl, hb1⟩)
        go_ret
        exact ⟨by rw [HE.out, HN.out]; rfl, ((Below.refl _ _).alloc (Nat.le_refl _) _).trans (hb1.mono (by simp))⟩
    · have HE := hideIt (HLF.out.2.2.2.1 k)
      subst k
      have hzh : (txt (headC 3 (ss.size : Int))).size ≤ 9 := by rw [txt_size]; exact (headC_len _ _).2
      have hcat : ¬ 9223372036854775807 < (txt (headC 3 (ss.size : Int))).size + ss.size := by omega
      go_enter Tryz.func66, Tryz.ntmps66
      go_wp2_with fail
      go_region_law (refine step_call2 (by rfl) 94 _ _ _ _ (by rfl) (.int .i64 3) (.int .i64 ss.size) (by rfl) (by rfl) (call_head _ _) (l3Head_any 3 _ _ (by omega) (by omega) (by omega)) ?_; rintro e w1 ⟨rfl, hb1⟩; have y2 : w1.cell? ⟨w.heap.size, 2, none⟩ = some (.string ss) := (below_cell hb1 (by simp)).trans (by simp); refine ⟨_, rfl, ?_⟩)
      all_goals (
        go_wp2_with fail
        go_ret
        refine ⟨by rw [HE.out]; exact ret_str (app_txt _ _), ?_⟩
        exact (((Below.refl _ _).alloc (Nat.le_refl _) _).drew).trans (hb1.mono (by simp)))
    · have HE := hideIt (HLF.out.2.2.2.2.1 k)
      rw [lenMap, HMM.out] at HE
      have H16 := hideIt (show (cborT (f + 1) (.mk kd nn ss (nodeAt vs i).keys ((nodeAt vs i).kids.map fun k => treeOf vs f k.toNat))).length ≤ 16000 by have := H16K.out; rw [HTR.out, HKD.out, HNS.out.1, HNS.out.2] at this; exact this)
      rw [HE.out] at H16 ⊢
      subst k
      obtain ⟨T, hT⟩ : ∃ T, ((nodeAt vs i).kids.map fun k => treeOf vs f k.toNat) = T := ⟨_, rfl⟩
      have HTT : Hid (∀ k, k < M → kidT T k = treeOf vs f (intAt (nodeAt vs i).kids k).toNat) := fun k hk => by rw [← hT, kidT_map (by rw [HMM.out]; exact hk)]
      rw [hT] at H16 ⊢
      clear hT
      have HLM : Hid (∀ k, k ≤ M → (headC 4 M ++ cborL (cborT f) T k).length ≤ 16000) := fun k hk => by
        have h1 := H16.out
        have h2 := cborL_mono (cborT f) T hk
        rw [List.length_append] at h1 ⊢
        omega
      have hz1 : ∀ x, (txt [x]).size = 1 := fun x => txt_size [x]
      have hzh : (txt (headC 4 (M : Int))).size ≤ 9 := by rw [txt_size]; exact (headC_len _ _).2
      have hbx : Below (w.heap.size + 1) (w.alloc (.cells #[.int .i64 5, .int .i64 nn, .string ss, .slice aK MK cK, .slice aI M cI] 52)) (w.alloc (.cells #[.int .i64 5, .int .i64 nn, .string ss, .slice aK MK cK, .slice aI M cI] 52)) := Below.refl _ _
      have x0 : (w.alloc (.cells #[.int .i64 5, .int .i64 nn, .string ss, .slice aK MK cK, .slice aI M cI] 52)).cell? ⟨w.heap.size, 0, none⟩ = some (.int .i64 5) := by simp
      have x3 : (w.alloc (.cells #[.int .i64 5, .int .i64 nn, .string ss, .slice aK MK cK, .slice aI M cI] 52)).cell? ⟨w.heap.size, 3, none⟩ = some (.slice aK MK cK) := by simp
      have x4 : (w.alloc (.cells #[.int .i64 5, .int .i64 nn, .string ss, .slice aK MK cK, .slice aI M cI] 52)).cell? ⟨w.heap.size, 4, none⟩ = some (.slice aI M cI) := by simp
      have HX : Hid (x0 = x0 ∧ True) := ⟨rfl, trivial⟩
      have HBX : Hid (Below w.heap.size w (w.alloc (.cells #[.int .i64 5, .int .i64 nn, .string ss, .slice aK MK cK, .slice aI M cI] 52))) := (Below.refl _ _).alloc (Nat.le_refl _) _
      have hzx : (w.alloc (.cells #[.int .i64 5, .int .i64 nn, .string ss, .slice aK MK cK, .slice aI M cI] 52)).heap.size = w.heap.size + 1 := by simp
      obtain ⟨W1, hW1⟩ : ∃ W1, w.alloc (.cells #[.int .i64 5, .int .i64 nn, .string ss, .slice aK MK cK, .slice aI M cI] 52) = W1 := ⟨_, rfl⟩
      have HW1 := hideIt hW1
      rw [hW1] at x0 x3 x4 HBX hzx
      clear hW1 hbx HX
      have HX0 := hideIt x0
      have HX3 := hideIt x3
      have HX4 := hideIt x4
      have HZX := hideIt hzx
      clear x0 x3 x4 hzx
      go_enter Tryz.func66, Tryz.ntmps66
      go_wp2_with fail
      rw [HW1.out]
      refine (l3Head_any 4 (M : Int) _ (by omega) (by omega) (by omega)).mono ?_
      rintro e w1 ⟨rfl, hb1⟩
      have HB1 : Hid (Below (w.heap.size + 1) W1 w1) := hb1.mono (Nat.le_of_eq HZX.out.symm)
      have zz1 : w.heap.size + 1 ≤ w1.heap.size := by have := hb1.size; rw [HZX.out] at this; exact this
      clear hb1
      go_wp2_with fail
      go_loopw [6, 7] (fun o i wr => ∃ k : Nat, k ≤ M ∧ i = .int .i64 k ∧ o = .string (txt (headC 4 M ++ cborL (cborT f) T k)) ∧ Below (w.heap.size + 1) W1 wr) (fun _ i _ => M - (intOf i).toNat)
      case atStart => exact ⟨0, Nat.zero_le _, rfl, by rw [cborL, List.append_nil], HB1.out⟩
      case round =>
        obtain ⟨k, hk, rfl, rfl, hbr⟩ := hrel
        have HBR := hideIt hbr
        have HBW := hideIt (HBX.out.trans (hbr.mono (by omega)))
        have zr : w.heap.size + 1 ≤ wr.heap.size := by have := hbr.size; rw [HZX.out] at this; exact this
        have x0 := (below_cell hbr (show w.heap.size < w.heap.size + 1 by omega)).trans HX0.out
        have x3 := (below_cell hbr (show w.heap.size < w.heap.size + 1 by omega)).trans HX3.out
        have x4 := (below_cell hbr (show w.heap.size < w.heap.size + 1 by omega)).trans HX4.out
        have hlm := HLM.out k hk
        obtain ⟨o, ho⟩ : ∃ o, headC 4 M ++ cborL (cborT f) T k = o := ⟨_, rfl⟩
        rw [ho] at hlm ⊢
        have HO := hideIt ho
        have hzo : (txt o).size ≤ 16000 := by rw [txt_size]; exact hlm
        clear ho hbr
        by_cases hlt : k < M
        case pos =>
          have hlt' : (k : Int) < (M : Int) := by omega
          obtain ⟨bi, oi, eai, hbi, hci⟩ := HIC.out (by omega)
          have hki := kidsIn_get HKIN.out (j := k) (by rw [HMM.out]; exact hlt)
          obtain ⟨q, hq⟩ : ∃ q : Nat, intAt (nodeAt vs i).kids k = (q : Int) := ⟨(intAt (nodeAt vs i).kids k).toNat, by omega⟩
          have CI := hideIt (hci k hlt)
          have ci := (below_cell (HBW.out.mono hB) hbi).trans (hci k hlt)
          rw [hq] at ci CI hki
          have HKT : Hid (kidT T k = treeOf vs f q) := by rw [Hid, HTT.out k hlt, hq, Int.toNat_natCast]
          have HIHG : Hid (∀ W, Below w.heap.size w W → Calls Tryz.prog 66 #[.slice (some ⟨bv, ov, none⟩) N cap, .int .i64 q] W fun e w' => e = .returned (.string (txt (cborT f (treeOf vs f q)))) ∧ Below W.heap.size W w') := fun W hb => ih _ q W (by have := HV.out.below (hb.mono hB); exact this) (Nat.le_trans hB hb.size) (by omega) (by rw [HNN.out]; omega)
          have HIH := hideIt (HIHG.out wr HBW.out)
          have h16q := cborT_16k HOK.out (f := f) (i := q) (by rw [HNN.out]; omega) (by omega)
          have hzq : (txt (cborT f (treeOf vs f q))).size ≤ 16000 := by rw [txt_size]; exact h16q
          clear h16q hci hq
          subst eai
          go_wp2_with fail
          refine HIH.out.mono ?_
          rintro e w2 ⟨rfl, hb2⟩
          have HB2 := hideIt (HBR.out.trans (hb2.mono (by omega)))
          clear hb2
          go_wp2_with fail
          have HV5 : Hid (Value.string (txt o ++ txt (cborT f (treeOf vs f q))) = .string (txt (headC 4 M ++ cborL (cborT f) T (k + 1)))) := by
            rw [Hid, cborL, HKT.out, ← List.append_assoc, HO.out]
            exact str_txt (txt_app _ _)
          first
            | exact ⟨⟨k + 1, by omega, by go_num, HV5.out, HB2.out⟩, by simp [intOf]; omega⟩
            | (go_roundw
               case rel => exact ⟨k + 1, by omega, by go_num, HV5.out, HB2.out⟩
               case measure => simp [intOf]; omega)
        case neg =>
          obtain rfl : k = M := by omega
          go_wp2_with fail
          go_ret
          exact ⟨by rw [HO.out]; rfl, HBW.out⟩
    · have q1' := q1.symm
      subst q1'
      have HE := hideIt (HLF.out.2.2.2.2.2 k)
      rw [lenMap, HMM.out] at HE
      have H16 := hideIt (show (cborT (f + 1) (.mk kd nn ss (nodeAt vs i).keys ((nodeAt vs i).kids.map fun k => treeOf vs f k.toNat))).length ≤ 16000 by have := H16K.out; rw [HTR.out, HKD.out, HNS.out.1, HNS.out.2] at this; exact this)
      rw [HE.out] at H16 ⊢
      subst k
      obtain ⟨KS, hKS⟩ : ∃ KS, (nodeAt vs i).keys = KS := ⟨_, rfl⟩
      obtain ⟨T, hT⟩ : ∃ T, ((nodeAt vs i).kids.map fun k => treeOf vs f k.toNat) = T := ⟨_, rfl⟩
      have HKS := hideIt hKS
      have HTT : Hid (∀ k, k < M → kidT T k = treeOf vs f (intAt (nodeAt vs i).kids k).toNat) := fun k hk => by rw [← hT, kidT_map (by rw [HMM.out]; exact hk)]
      rw [hKS, hT] at H16 ⊢
      clear hKS hT
      have HLM : Hid (∀ S j, S ≤ 60 → j ≤ M → (headC 5 M ++ entC (cborT f) KS T (byLen KS M S ++ ofLen KS j S)).length ≤ 16000) := fun S j hS hj => by
        have h1 := H16.out
        have h2 := entC_pre (cborT f) KS T (both_pre KS M hS hj)
        rw [List.length_append] at h1 ⊢
        omega
      have hz1 : ∀ x, (txt [x]).size = 1 := fun x => txt_size [x]
      have hzh : (txt (headC 5 (M : Int))).size ≤ 9 := by rw [txt_size]; exact (headC_len _ _).2
      have hbx : Below (w.heap.size + 1) (w.alloc (.cells #[.int .i64 6, .int .i64 nn, .string ss, .slice aK M cK, .slice aI M cI] 52)) (w.alloc (.cells #[.int .i64 6, .int .i64 nn, .string ss, .slice aK M cK, .slice aI M cI] 52)) := Below.refl _ _
      have x0 : (w.alloc (.cells #[.int .i64 6, .int .i64 nn, .string ss, .slice aK M cK, .slice aI M cI] 52)).cell? ⟨w.heap.size, 0, none⟩ = some (.int .i64 6) := by simp
      have x3 : (w.alloc (.cells #[.int .i64 6, .int .i64 nn, .string ss, .slice aK M cK, .slice aI M cI] 52)).cell? ⟨w.heap.size, 3, none⟩ = some (.slice aK M cK) := by simp
      have x4 : (w.alloc (.cells #[.int .i64 6, .int .i64 nn, .string ss, .slice aK M cK, .slice aI M cI] 52)).cell? ⟨w.heap.size, 4, none⟩ = some (.slice aI M cI) := by simp
      have HX : Hid (x0 = x0 ∧ True) := ⟨rfl, trivial⟩
      have HBX : Hid (Below w.heap.size w (w.alloc (.cells #[.int .i64 6, .int .i64 nn, .string ss, .slice aK M cK, .slice aI M cI] 52))) := (Below.refl _ _).alloc (Nat.le_refl _) _
      have hzx : (w.alloc (.cells #[.int .i64 6, .int .i64 nn, .string ss, .slice aK M cK, .slice aI M cI] 52)).heap.size = w.heap.size + 1 := by simp
      obtain ⟨W1, hW1⟩ : ∃ W1, w.alloc (.cells #[.int .i64 6, .int .i64 nn, .string ss, .slice aK M cK, .slice aI M cI] 52) = W1 := ⟨_, rfl⟩
      have HW1 := hideIt hW1
      rw [hW1] at x0 x3 x4 HBX hzx
      clear hW1 hbx HX
      have HX0 := hideIt x0
      have HX3 := hideIt x3
      have HX4 := hideIt x4
      have HZX := hideIt hzx
      clear x0 x3 x4 hzx
      go_enter Tryz.func66, Tryz.ntmps66
      go_wp2_with fail
      rw [HW1.out]
      refine (l3Head_any 5 (M : Int) _ (by omega) (by omega) (by omega)).mono ?_
      rintro e w1 ⟨rfl, hb1⟩
      have HB1 : Hid (Below (w.heap.size + 1) W1 w1) := hb1.mono (Nat.le_of_eq HZX.out.symm)
      have zz1 : w.heap.size + 1 ≤ w1.heap.size := by have := hb1.size; rw [HZX.out] at this; exact this
      clear hb1
      go_wp2_with fail
      go_loopw [8, 9, 10] (fun o i _ wr => ∃ S : Nat, S ≤ 61 ∧ i = .int .i64 S ∧ o = .string (txt (headC 5 M ++ entC (cborT f) KS T (byLen KS M S))) ∧ Below (w.heap.size + 1) W1 wr) (fun _ i _ _ => 61 - (intOf i).toNat)
      case atStart => exact ⟨0, Nat.zero_le _, rfl, by rw [byLen, entC, List.flatMap_nil, List.append_nil], HB1.out⟩
      case round =>
        obtain ⟨S, hS, rfl, rfl, hbr0⟩ := hrel
        have HBR0 := hideIt hbr0
        clear hbr0
        by_cases hS60 : S ≤ 60
        case neg =>
          obtain rfl : S = 61 := by omega
          have HBW := hideIt (HBX.out.trans (HBR0.out.mono (by omega)))
          go_wp2_with fail
          go_ret
          exact ⟨rfl, HBW.out⟩
        case pos =>
          have hS60' : (S : Int) ≤ 60 := by omega
          obtain ⟨W0, hW0⟩ : ∃ W0, W0 = wr := ⟨_, rfl⟩
          subst hW0
          go_wp2_with fail
          go_loopw [8, 10] (fun o i wr => ∃ k : Nat, k ≤ M ∧ i = .int .i64 k ∧ o = .string (txt (headC 5 M ++ entC (cborT f) KS T (byLen KS M S ++ ofLen KS k S))) ∧ Below (w.heap.size + 1) W1 wr) (fun _ i _ => M - (intOf i).toNat)
          case atStart => exact ⟨0, Nat.zero_le _, rfl, by rw [show ofLen KS 0 S = [] from rfl, List.append_nil], HBR0.out⟩
          case round =>
            obtain ⟨k, hk, rfl, rfl, hbr⟩ := hrel
            have HBR := hideIt hbr
            have HBW := hideIt (HBX.out.trans (hbr.mono (by omega)))
            have zr : w.heap.size + 1 ≤ wr.heap.size := by have := hbr.size; rw [HZX.out] at this; exact this
            have x3 := (below_cell hbr (show w.heap.size < w.heap.size + 1 by omega)).trans HX3.out
            have x4 := (below_cell hbr (show w.heap.size < w.heap.size + 1 by omega)).trans HX4.out
            have hlm := HLM.out S k hS60 hk
            obtain ⟨o, ho⟩ : ∃ o, headC 5 M ++ entC (cborT f) KS T (byLen KS M S ++ ofLen KS k S) = o := ⟨_, rfl⟩
            rw [ho] at hlm ⊢
            have HO := hideIt ho
            have hzo : (txt o).size ≤ 16000 := by rw [txt_size]; exact hlm
            clear ho hbr
            by_cases hlt : k < M
            case neg =>
              obtain rfl : k = M := by omega
              go_wp2_with fail
              exact ⟨⟨S + 1, by omega, by go_num, by rw [byLen, HO.out], HBR.out⟩, by simp [intOf]; omega⟩
            case pos =>
              have hlt' : (k : Int) < (M : Int) := by omega
              obtain ⟨bk, ok, eak, hbk, hck⟩ := HKC.out (by omega)
              have CK := hideIt (hck k (by omega))
              have ck := (below_cell (HBW.out.mono hB) hbk).trans (hck k (by omega))
              have hksz := q2 k (by omega)
              rw [HKS.out] at ck hksz CK
              obtain ⟨ky, hky⟩ : ∃ ky, keyAt KS k = ky := ⟨_, rfl⟩
              have HKY := hideIt hky
              rw [hky] at ck hksz CK
              subst eak
              clear hck hky
              by_cases hsz : ky.size = S
              case neg =>
                have hsz' : ¬ (ky.size : Int) = (S : Int) := by omega
                have HNX : Hid (ofLen KS (k + 1) S = ofLen KS k S) := by rw [Hid, ofLen_succ, HKY.out, if_neg hsz, List.append_nil]
                go_wp2_with fail
                exact ⟨⟨k + 1, by omega, by go_num, by rw [HNX.out, HO.out], HBR.out⟩, by simp [intOf]; omega⟩
              case pos =>
                have hsz' : (ky.size : Int) = (S : Int) := by omega
                have HSZ := hideIt hsz
                obtain ⟨bi, oi, eai, hbi, hci⟩ := HIC.out (by omega)
                have hki := kidsIn_get HKIN.out (j := k) (by rw [HMM.out]; exact hlt)
                obtain ⟨q, hq⟩ : ∃ q : Nat, intAt (nodeAt vs i).kids k = (q : Int) := ⟨(intAt (nodeAt vs i).kids k).toNat, by omega⟩
                have CI := hideIt (hci k hlt)
                have ci := (below_cell (HBW.out.mono hB) hbi).trans (hci k hlt)
                rw [hq] at ci CI hki
                have HKT : Hid (kidT T k = treeOf vs f q) := by rw [Hid, HTT.out k hlt, hq, Int.toNat_natCast]
                have HIHG : Hid (∀ W, Below w.heap.size w W → Calls Tryz.prog 66 #[.slice (some ⟨bv, ov, none⟩) N cap, .int .i64 q] W fun e w' => e = .returned (.string (txt (cborT f (treeOf vs f q)))) ∧ Below W.heap.size W w') := fun W hb => ih _ q W (by have := HV.out.below (hb.mono hB); exact this) (Nat.le_trans hB hb.size) (by omega) (by rw [HNN.out]; omega)
                have h16q := cborT_16k HOK.out (f := f) (i := q) (by rw [HNN.out]; omega) (by omega)
                have hzq : (txt (cborT f (treeOf vs f q))).size ≤ 16000 := by rw [txt_size]; exact h16q
                have hz3 : (txt (headC 3 (S : Int))).size ≤ 9 := by rw [txt_size]; exact (headC_len _ _).2
                clear h16q hci hq hsz
                subst eai
                obtain ⟨tq, htq⟩ : ∃ tq, cborT f (treeOf vs f q) = tq := ⟨_, rfl⟩
                obtain ⟨th, hth⟩ : ∃ th, headC 3 (S : Int) = th := ⟨_, rfl⟩
                have HTH := hideIt hth
                have HTQ := hideIt htq
                have HHD := hideIt (fun W => l3Head_any 3 (S : Int) W (by omega) (by omega) (by omega))
                rw [htq] at hzq HIHG
                rw [hth] at hz3 HHD
                have HV6 : Hid (Value.string (txt o ++ txt th ++ ky ++ txt tq) = .string (txt (headC 5 M ++ entC (cborT f) KS T (byLen KS M S ++ ofLen KS (k + 1) S)))) := by
                  rw [Hid, ofLen_succ, HKY.out, if_pos HSZ.out, ← List.append_assoc, entC_app, entC_one, HKT.out, HKY.out, htq, ← List.append_assoc, HO.out, cborW, HSZ.out, hth]
                  exact str_txt (by rw [txt_app, app_txt, txt_app]; simp only [List.append_assoc])
                clear htq hth
                have g1 : ¬ 9223372036854775807 < (txt o).size + (txt th).size := by omega
                have g2 : ¬ 9223372036854775807 < (txt o).size + (txt th).size + ky.size := by omega
                have g3 : ¬ 9223372036854775807 < (txt o).size + (txt th).size + ky.size + (txt tq).size := by omega
                go_wp2_with fail
                have HS : Hid (∀ Y, Below wr.heap.size wr Y → (Y.cell? ⟨w.heap.size, 3, none⟩ = some (.slice (some ⟨bk, ok, none⟩) M cK) ∧ Y.cell? ⟨w.heap.size, 4, none⟩ = some (.slice (some ⟨bi, oi, none⟩) M cI) ∧ Y.cell? ⟨bk, ok + k, none⟩ = some (.string ky) ∧ Y.cell? ⟨bi, oi + k, none⟩ = some (.int .i64 q))) := fun Y hY => ⟨(below_cell hY (by omega)).trans x3, (below_cell hY (by omega)).trans x4, (below_cell hY (by omega)).trans ck, (below_cell hY (by omega)).trans ci⟩
                have HBQ : Hid (∀ Y, Below wr.heap.size wr Y → Below w.heap.size w Y) := fun Y hY => HBW.out.trans (hY.mono (by omega))
                have hzw : wr.heap.size = wr.heap.size := rfl
                go_region_held3 (fun w' => w'.cell? ⟨w.heap.size, 3, none⟩ = some (.slice (some ⟨bk, ok, none⟩) M cK) ∧ w'.cell? ⟨w.heap.size, 4, none⟩ = some (.slice (some ⟨bi, oi, none⟩) M cI) ∧ w'.cell? ⟨bk, ok + k, none⟩ = some (.string ky) ∧ w'.cell? ⟨bi, oi + k, none⟩ = some (.int .i64 q))
                  (first | exact HS.out _ (Below.drew (Below.refl _ _)) | exact HS.out _ b3 | exact HS.out _ b4)
                  (first
                    | (go_at_call 94; refine (HHD.out _).mono ?_; rintro e w3 ⟨rfl, hb3⟩; first | (have b3 := (Below.drew (Below.refl wr.heap.size wr)).trans hb3) | (have b3 := b4.trans (hb3.mono b4.size)))
                    | (go_at_call 66; first | (refine (HIHG.out _ (HBQ.out _ (Below.drew (Below.refl wr.heap.size wr)))).mono ?_) | (refine (HIHG.out _ (HBQ.out _ b3)).mono ?_); rintro e w4 ⟨rfl, hb4⟩; first | (have b4 := (Below.drew (Below.refl wr.heap.size wr)).trans hb4) | (have b4 := b3.trans (hb4.mono b3.size))))
                all_goals (
                  have HB5 := hideIt (HBR.out.trans (b4.mono (by omega)))
                  go_wp2_with fail
                  first
                    | exact ⟨⟨k + 1, by omega, by go_num, HV6.out, HB5.out⟩, by simp [intOf]; omega⟩
                    | (go_roundw
                       case rel => exact ⟨k + 1, by omega, by go_num, HV6.out, HB5.out⟩
                       case measure => simp [intOf]; omega))
end Go.Proofs.YtokhindolimchaaGreat
