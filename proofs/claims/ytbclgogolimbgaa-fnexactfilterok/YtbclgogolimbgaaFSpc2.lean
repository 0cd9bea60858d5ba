/-
  The specification's check of one node of a filter: it answers as fnodeB.
-/
import Derived.Test.YtbclgogolimbgaaFSpc1
namespace Go.Proofs.Ytbclgogolimbgaa
open Go.RowKit
set_option linter.unusedSimpArgs false
set_option linter.unusedVariables false

/-! ### Plain -/
theorem kidsN_ge {k : Int} (h8 : k ≠ 8) (h9 : k ≠ 9) : 0 ≤ kidsN k := by
  unfold kidsN
  split
  · omega
  · split
    · omega
    · split
      · omega
      · split <;> omega

theorem fn_out {x : FN} (h : inB x.kind 1 23 = false) : fnodeB x = false := by
  have hf : fitF x = false := by
    unfold inB at h
    unfold fitF
    rw [if_neg, if_neg]
    · rw [h, Bool.false_and]
    · rintro e; rw [e] at h; revert h; decide
    · rintro e; rw [e] at h; revert h; decide
  rw [fnodeB, hf, Bool.and_false]

theorem fn_unfit {x : FN} (h : fitF x = false) : fnodeB x = false := by rw [fnodeB, h, Bool.and_false]
theorem fn_names {x : FN} (h9 : x.kind ≠ 9) (h : 0 < x.names.length) : fnodeB x = false := by
  have : zeroF x = false := by unfold zeroF; simp [h9, h]
  rw [fnodeB, this, Bool.false_and, Bool.false_and]

theorem cst4 {v : List VN} (h1 : v.length = 1) (hok : okB v = true) : (decide ((nodeAt v 0).kind ≠ 5) && decide ((nodeAt v 0).kind ≠ 6)) = decide ((nodeAt v 0).kind ≤ 4) := by
  have hn : nodeB (nodeAt v 0) = true := by
    unfold okB at hok
    simp only [Bool.and_eq_true, List.all_eq_true, List.mem_range] at hok
    exact (hok.1.2 0 (by omega)).1
  unfold nodeB at hn
  rw [Bool.and_eq_true] at hn
  have hk : (nodeAt v 0).kind = 1 ∨ (nodeAt v 0).kind = 5 ∨ (nodeAt v 0).kind = 2 ∨ (nodeAt v 0).kind = 3 ∨ (nodeAt v 0).kind = 4 ∨ (nodeAt v 0).kind = 6 := by
    have := hn.2
    unfold namedB at this
    split at this
    · rename_i h; rcases h with h | h <;> simp [h]
    · split at this
      · rename_i h; simp [h]
      · split at this
        · rename_i h; simp [h]
        · split at this
          · rename_i h; simp [h]
          · split at this
            · rename_i h; simp [h]
            · cases this
  rcases hk with h | h | h | h | h | h <;> rw [h] <;> decide

theorem fn_5 {x : FN} (h5 : x.kind = 5) (hf : fitF x = true) (hnm : x.names.length = 0) : fnodeB x = (decide (x.name.toList = []) && decide (x.place = 0) && cstB x.cst) := by
  rw [fnodeB, hf, Bool.and_true]
  unfold zeroF ownF
  simp [h5, hnm]

theorem fn_rest {x : FN} (h5 : x.kind ≠ 5) (h9 : x.kind ≠ 9) (hf : fitF x = true) (hnm : x.names.length = 0) :
    fnodeB x = ((if x.kind = 2 then nameB x.name else decide (x.name.toList = [])) && (decide (x.cst.length = 0) && (if x.kind = 3 then inB x.place (-80) 80 else decide (x.place = 0)))) := by
  rw [fnodeB, hf, Bool.and_true]
  unfold zeroF ownF inB
  by_cases h2 : x.kind = 2
  · simp [h2, hnm, Bool.and_comm, Bool.and_left_comm]
    cases x.cst <;> simp
  · by_cases h3 : x.kind = 3
    · simp [h3, hnm, Bool.and_assoc]
      cases x.cst <;> simp
    · simp [h2, h3, h5, h9, hnm, Bool.and_comm, Bool.and_left_comm]
      cases x.cst <;> simp

theorem fit_8 {x : FN} (h : x.kind = 8) : fitF x = decide (x.kids.length ≤ 1) := by unfold fitF; rw [if_pos h]
theorem fit_9 {x : FN} (h : x.kind = 9) : fitF x = decide (x.kids.length = x.names.length) := by unfold fitF; rw [if_neg (by omega), if_pos h]
theorem fit_n {x : FN} (h8 : x.kind ≠ 8) (h9 : x.kind ≠ 9) (hin : inB x.kind 1 23 = true) : fitF x = decide ((x.kids.length : Int) = kidsN x.kind) := by
  unfold fitF inB at *
  rw [if_neg h8, if_neg h9, hin, Bool.true_and]

theorem fn_9 {x : FN} (h9 : x.kind = 9) : fnodeB x = (decide (x.name.toList = []) && (decide (x.place = 0) && (decide (x.cst.length = 0) && (namesB x.names && decide (x.kids.length = x.names.length))))) := by
  rw [fnodeB, fit_9 h9]
  unfold zeroF ownF
  simp [h9, Bool.and_assoc]
  cases x.cst <;> simp

/-! ### A node of a kind other than 9 -/
set_option maxRecDepth 100000 in
set_option maxHeartbeats 6400000 in
theorem l7NodeOk_a (B : Nat) (x : FN) (kc kn ki : Value) (w : World) (h : FNodeIn B w x kc kn ki) (hB : B ≤ w.heap.size) (h9 : x.kind ≠ 9) :
    Calls Try.prog 66 #[.agg #[.int .i64 x.kind, .string x.name, .int .i64 x.place, kc, kn, ki]] w fun e w' => e = .returned (.bool (fnodeB x)) ∧ Below w.heap.size w w' := by
  have hsz := h.size
  have HC := hideIt h.cst
  obtain ⟨hcl, a0, c0, e0, hcc⟩ := h.cst
  obtain ⟨hnl, _, a1, c1, e1, _⟩ := h.names
  obtain ⟨hkl, _, a2, c2, e2, _⟩ := h.kids
  subst e0 e1 e2
  have HCC := hideIt hcc
  clear h hcc
  obtain ⟨W1, hW1⟩ : ∃ W1, W1 = w.alloc (.cells #[.int .i64 x.kind, .string x.name, .int .i64 x.place, .slice a0 x.cst.length c0, .slice a1 x.names.length c1, .slice a2 x.kids.length c2] 104) := ⟨_, rfl⟩
  have d0 : W1.cell? ⟨w.heap.size, 0, none⟩ = some (.int .i64 x.kind) := by rw [hW1]; simp
  have d1 : W1.cell? ⟨w.heap.size, 1, none⟩ = some (.string x.name) := by rw [hW1]; simp
  have d2 : W1.cell? ⟨w.heap.size, 2, none⟩ = some (.int .i64 x.place) := by rw [hW1]; simp
  have d3 : W1.cell? ⟨w.heap.size, 3, none⟩ = some (.slice a0 x.cst.length c0) := by rw [hW1]; simp
  have d4 : W1.cell? ⟨w.heap.size, 4, none⟩ = some (.slice a1 x.names.length c1) := by rw [hW1]; simp
  have d5 : W1.cell? ⟨w.heap.size, 5, none⟩ = some (.slice a2 x.kids.length c2) := by rw [hW1]; simp
  have HZ : Hid (W1.heap.size = w.heap.size + 1) := by rw [Hid, hW1]; simp
  have HBW : Hid (Below w.heap.size w W1) := by rw [Hid, hW1]; exact (Below.refl _ _).alloc (Nat.le_refl _) _
  have HW1 := hideIt hW1
  clear hW1
  have H9 := hideIt h9
  have q9 : (x.kind == 9) = false := by simp [h9]
  have q9' : (x.kind != 9) = true := by simp [h9]
  clear h9
  go_enter Try.func66, Try.ntmps66
  go_wp2_with fail
  rw [← HW1.out]
  refine (l7Kids_any _ _).mono ?_
  rintro e w1 ⟨rfl, hw1⟩
  subst hw1
  obtain ⟨M, hM⟩ : ∃ M, kidsN x.kind = M := ⟨_, rfl⟩
  rw [hM]
  have HM := hideIt hM
  clear hM
  go_wp2_with fail
  refine (l1In_any _ _ _ _).mono ?_
  rintro e w1 ⟨rfl, hw1⟩
  subst hw1
  cases hin : inB x.kind 1 23
  · have H := hideIt (fn_out hin)
    clear hin
    go_wp2_with fail
    go_ret
    exact ⟨ret_bool H.out.symm, HBW.out⟩
  have HIN := hideIt hin
  clear hin
  by_cases k8 : x.kind = 8
  case pos =>
    have q8 : (x.kind == 8) = true := by simp [k8]
    have hM : M = -1 := by rw [← HM.out, k8]; decide
    subst hM
    have HF := hideIt (fit_8 k8)
    have k5 : x.kind ≠ 5 := by omega
    have q5 : (x.kind == 5) = false := by simp [k5]
    have q2 : (x.kind == 2) = false := by rw [beq_eq_false_iff_ne]; omega
    have q2' : (x.kind != 2) = true := by rw [bne_iff_ne]; omega
    have q3 : (x.kind == 3) = false := by rw [beq_eq_false_iff_ne]; omega
    have HR : Hid (fitF x = true → x.names.length = 0 → fnodeB x = (decide (x.name.toList = []) && (decide (x.cst.length = 0) && decide (x.place = 0)))) := fun h1 h2 => by
      rw [fn_rest k5 H9.out h1 h2, if_neg (by omega), if_neg (by omega)]
    clear k8 k5
    by_cases hk : 1 < x.kids.length
    · have H : Hid (fnodeB x = false) := fn_unfit (by rw [HF.out]; simp; omega)
      have hk' : (1 : Int) < (x.kids.length : Int) := by omega
      go_wp2_with fail
      go_ret
      exact ⟨ret_bool H.out.symm, HBW.out⟩
    have hk' : ¬ (1 : Int) < (x.kids.length : Int) := by omega
    by_cases hn : 0 < x.names.length
    · have H := hideIt (fn_names H9.out hn)
      have hn' : (0 : Int) < (x.names.length : Int) := by omega
      go_wp2_with fail
      go_ret
      exact ⟨ret_bool H.out.symm, HBW.out⟩
    have hn' : ¬ (0 : Int) < (x.names.length : Int) := by omega
    have HV := hideIt (HR.out (by rw [HF.out]; simp; omega) (by omega))
    go_wp2_with fail
    go_loopw [4] (fun i wr => i = .int .i64 0 ∧ wr = w1) (fun _ _ => 0)
    case atStart => exact ⟨rfl, rfl⟩
    case round =>
      obtain ⟨rfl, rfl⟩ := hrel
      by_cases e1 : x.name.toList = []
      case neg =>
        have p1 : (x.name.toList != []) = true := by simp [e1]
        have p1' : (x.name.toList == []) = false := by simp [e1]
        have H : Hid (fnodeB x = false) := by rw [Hid, HV.out]; simp [e1]
        clear e1
        go_wp2_with fail
        go_ret
        exact ⟨ret_bool H.out.symm, HBW.out⟩
      case pos =>
      have p1 : (x.name.toList != []) = false := by simp [e1]
      have p1' : (x.name.toList == []) = true := by simp [e1]
      have E1 := hideIt e1
      clear e1
      by_cases e2 : x.cst.length = 0
      case neg =>
        have p2 : ((x.cst.length : Int) == 0) = false := by rw [beq_eq_false_iff_ne]; omega
        have H : Hid (fnodeB x = false) := by rw [Hid, HV.out]; simp [e2]
        clear e2
        go_wp2_with fail
        go_ret
        exact ⟨ret_bool H.out.symm, HBW.out⟩
      case pos =>
      have p2 : ((x.cst.length : Int) == 0) = true := by rw [beq_iff_eq]; omega
      by_cases e3 : x.place = 0
      case neg =>
        have p3 : (x.place == 0) = false := by simp [e3]
        have H : Hid (fnodeB x = false) := by rw [Hid, HV.out]; simp [e3]
        clear e2 e3
        go_wp2_with fail
        go_ret
        exact ⟨ret_bool H.out.symm, HBW.out⟩
      case pos =>
      have p3 : (x.place == 0) = true := by simp [e3]
      have H : Hid (fnodeB x = true) := by rw [Hid, HV.out]; simp [E1.out, e2, e3]
      clear e2 e3
      go_wp2_with fail
      go_ret
      exact ⟨ret_bool H.out.symm, HBW.out⟩
  case neg =>
  have q8 : (x.kind == 8) = false := by simp [k8]
  have hM0 : 0 ≤ M := by rw [← HM.out]; exact kidsN_ge k8 H9.out
  have HF : Hid (fitF x = decide ((x.kids.length : Int) = M)) := by rw [Hid, ← HM.out]; exact fit_n k8 H9.out HIN.out
  clear k8
  by_cases hk : (x.kids.length : Int) = M
  case neg =>
    have hk' : ((x.kids.length : Int) != M) = true := by rw [bne_iff_ne]; exact hk
    have H : Hid (fnodeB x = false) := fn_unfit (by rw [HF.out]; simp [hk])
    clear hk
    go_wp2_with fail
    go_ret
    exact ⟨ret_bool H.out.symm, HBW.out⟩
  case pos =>
  have HFT : Hid (fitF x = true) := by rw [Hid, HF.out]; simp [hk]
  have hk' : ((x.kids.length : Int) != M) = false := by rw [hk]; simp
  have HKM := hideIt hk
  clear hk
  by_cases hn : 0 < x.names.length
  · have H := hideIt (fn_names H9.out hn)
    have hn' : (0 : Int) < (x.names.length : Int) := by omega
    go_wp2_with fail
    go_ret
    exact ⟨ret_bool H.out.symm, HBW.out⟩
  have hn' : ¬ (0 : Int) < (x.names.length : Int) := by omega
  have hn0 : x.names.length = 0 := by omega
  have HN0 := hideIt hn0
  clear hn hn0
  go_wp2_with fail
  go_loopw [4] (fun i wr => i = .int .i64 0 ∧ wr = w1) (fun _ _ => 0)
  case atStart => exact ⟨rfl, rfl⟩
  case round =>
    obtain ⟨rfl, rfl⟩ := hrel
    by_cases k5 : x.kind = 5
    case pos =>
      have q5 : (x.kind == 5) = true := by simp [k5]
      have HV := hideIt (fn_5 k5 HFT.out HN0.out)
      clear k5
      by_cases e1 : x.name.toList = []
      case neg =>
        have p1' : (x.name.toList == []) = false := by simp [e1]
        have H : Hid (fnodeB x = false) := by rw [Hid, HV.out]; simp [e1]
        clear e1
        go_wp2_with fail
        go_ret
        exact ⟨ret_bool H.out.symm, HBW.out⟩
      case pos =>
      have p1' : (x.name.toList == []) = true := by simp [e1]
      have E1 := hideIt e1
      clear e1
      by_cases e3 : x.place = 0
      case neg =>
        have p3 : (x.place == 0) = false := by simp [e3]
        have H : Hid (fnodeB x = false) := by rw [Hid, HV.out]; simp [e3]
        clear e3
        go_wp2_with fail
        go_ret
        exact ⟨ret_bool H.out.symm, HBW.out⟩
      case pos =>
      have p3 : (x.place == 0) = true := by simp [e3]
      have E3 := hideIt e3
      clear e3
      have HV2 : Hid (fnodeB x = cstB x.cst) := by rw [Hid, HV.out]; simp [E1.out, E3.out]
      by_cases e4 : x.cst.length = 1
      case neg =>
        have p4 : ((x.cst.length : Int) == 1) = false := by rw [beq_eq_false_iff_ne]; omega
        have H : Hid (fnodeB x = false) := by rw [Hid, HV2.out]; simp [cstB, e4]
        clear e4
        go_wp2_with fail
        go_ret
        exact ⟨ret_bool H.out.symm, HBW.out⟩
      case pos =>
      have p4 : ((x.cst.length : Int) == 1) = true := by rw [beq_iff_eq]; omega
      have hp : 0 < x.cst.length := by omega
      have E4 := hideIt e4
      clear e4
      obtain ⟨b, o, rfl, hbB, hc⟩ := HCC.out hp
      obtain ⟨ka, kii, hnd⟩ := hc 0 hp
      have g0 := (below_cell HBW.out (show b < w.heap.size by omega)).trans hnd.c0
      rw [Nat.zero_mul, Nat.add_zero] at g0
      clear hc hnd
      have HND := hideIt (HC.out.below (HBW.out.mono hB))
      have hzz : B ≤ wr.heap.size := by rw [HZ.out]; omega
      have HG0 := hideIt g0
      have HD3 := hideIt d3
      clear g0
      go_wp2_with fail
      refine (specOk_any B _ x.cst wr HND.out hzz).mono ?_
      rintro e w2 ⟨rfl, hb2⟩
      have HB2 := hideIt hb2
      have j3 := (below_cell hb2 (show w.heap.size < wr.heap.size by rw [HZ.out]; omega)).trans HD3.out
      have g1 := (below_cell hb2 (show b < wr.heap.size by rw [HZ.out]; omega)).trans HG0.out
      have HBX : Hid (Below w.heap.size w w2) := HBW.out.trans (hb2.mono (by rw [HZ.out]; omega))
      clear hb2 d0 d1 d2 d3 d4 d5
      cases hok : okB x.cst
      · have H : Hid (fnodeB x = false) := by rw [Hid, HV2.out]; simp [cstB, hok]
        clear hok
        go_wp2_with fail
        go_ret
        exact ⟨ret_bool H.out.symm, HBX.out⟩
      · have HV3 : Hid (fnodeB x = decide ((nodeAt x.cst 0).kind ≤ 4)) := by
          rw [Hid, HV2.out, ← cst4 E4.out hok]
          simp [cstB, hok, E4.out]
        clear hok
        go_wp2_with fail
        go_ret
        exact ⟨ret_bool HV3.out.symm, HBX.out⟩
    case neg =>
    have q5 : (x.kind == 5) = false := by simp [k5]
    have HV := hideIt (fn_rest k5 H9.out HFT.out HN0.out)
    clear k5
    by_cases k2 : x.kind = 2
    case pos =>
      have q2 : (x.kind == 2) = true := by simp [k2]
      have q2' : (x.kind != 2) = false := by simp [k2]
      have q3 : (x.kind == 3) = false := by rw [beq_eq_false_iff_ne]; omega
      have HV2 : Hid (fnodeB x = (nameB x.name && (decide (x.cst.length = 0) && decide (x.place = 0)))) := by rw [Hid, HV.out, if_pos k2, if_neg (by omega)]
      clear k2
      go_wp2_with fail
      refine (l7Name_any _ _ hsz).mono ?_
      rintro e w2 ⟨rfl, hw2⟩
      subst hw2
      cases hnm : nameB x.name
      · have H : Hid (fnodeB x = false) := by rw [Hid, HV2.out, hnm, Bool.false_and]
        clear hnm
        go_wp2_with fail
        go_ret
        exact ⟨ret_bool H.out.symm, HBW.out⟩
      have HV3 : Hid (fnodeB x = (decide (x.cst.length = 0) && decide (x.place = 0))) := by rw [Hid, HV2.out, hnm, Bool.true_and]
      clear hnm
      by_cases e2 : x.cst.length = 0
      case neg =>
        have p2 : ((x.cst.length : Int) == 0) = false := by rw [beq_eq_false_iff_ne]; omega
        have H : Hid (fnodeB x = false) := by rw [Hid, HV3.out]; simp [e2]
        clear e2
        go_wp2_with fail
        go_ret
        exact ⟨ret_bool H.out.symm, HBW.out⟩
      case pos =>
      have p2 : ((x.cst.length : Int) == 0) = true := by rw [beq_iff_eq]; omega
      by_cases e3 : x.place = 0
      case neg =>
        have p3 : (x.place == 0) = false := by simp [e3]
        have H : Hid (fnodeB x = false) := by rw [Hid, HV3.out]; simp [e3]
        clear e2 e3
        go_wp2_with fail
        go_ret
        exact ⟨ret_bool H.out.symm, HBW.out⟩
      case pos =>
      have p3 : (x.place == 0) = true := by simp [e3]
      have H : Hid (fnodeB x = true) := by rw [Hid, HV3.out]; simp [e2, e3]
      clear e2 e3
      go_wp2_with fail
      go_ret
      exact ⟨ret_bool H.out.symm, HBW.out⟩
    case neg =>
    have q2 : (x.kind == 2) = false := by simp [k2]
    have q2' : (x.kind != 2) = true := by simp [k2]
    have HV2 : Hid (fnodeB x = (decide (x.name.toList = []) && (decide (x.cst.length = 0) && (if x.kind = 3 then inB x.place (-80) 80 else decide (x.place = 0))))) := by rw [Hid, HV.out, if_neg k2]
    clear k2
    by_cases e1 : x.name.toList = []
    case neg =>
      have p1 : (x.name.toList != []) = true := by simp [e1]
      have p1' : (x.name.toList == []) = false := by simp [e1]
      have H : Hid (fnodeB x = false) := by rw [Hid, HV2.out]; simp [e1]
      clear e1
      go_wp2_with fail
      go_ret
      exact ⟨ret_bool H.out.symm, HBW.out⟩
    case pos =>
    have p1 : (x.name.toList != []) = false := by simp [e1]
    have p1' : (x.name.toList == []) = true := by simp [e1]
    have E1 := hideIt e1
    clear e1
    by_cases e2 : x.cst.length = 0
    case neg =>
      have p2 : ((x.cst.length : Int) == 0) = false := by rw [beq_eq_false_iff_ne]; omega
      have H : Hid (fnodeB x = false) := by rw [Hid, HV2.out]; simp [e2]
      clear e2
      go_wp2_with fail
      go_ret
      exact ⟨ret_bool H.out.symm, HBW.out⟩
    case pos =>
    have p2 : ((x.cst.length : Int) == 0) = true := by rw [beq_iff_eq]; omega
    have HV3 : Hid (fnodeB x = (if x.kind = 3 then inB x.place (-80) 80 else decide (x.place = 0))) := by rw [Hid, HV2.out]; simp [E1.out, e2]
    clear e2
    by_cases e3 : x.place = 0
    case pos =>
      have p3 : (x.place == 0) = true := by simp [e3]
      have H : Hid (fnodeB x = true) := by rw [Hid, HV3.out, e3]; split <;> decide
      clear e3
      go_wp2_with fail
      go_ret
      exact ⟨ret_bool H.out.symm, HBW.out⟩
    case neg =>
    have p3 : (x.place == 0) = false := by simp [e3]
    have E3 := hideIt e3
    clear e3
    by_cases k3 : x.kind = 3
    case neg =>
      have q3 : (x.kind == 3) = false := by simp [k3]
      have H : Hid (fnodeB x = false) := by rw [Hid, HV3.out, if_neg k3]; simp [E3.out]
      clear k3
      go_wp2_with fail
      go_ret
      exact ⟨ret_bool H.out.symm, HBW.out⟩
    case pos =>
    have q3 : (x.kind == 3) = true := by simp [k3]
    have HV4 : Hid (fnodeB x = inB x.place (-80) 80) := by rw [Hid, HV3.out, if_pos k3]
    clear k3
    go_wp2_with fail
    refine (l1In_any _ _ _ _).mono ?_
    rintro e w2 ⟨rfl, hw2⟩
    subst hw2
    go_wp2_with fail
    go_ret
    exact ⟨ret_bool HV4.out.symm, HBW.out⟩

/-! ### A map -/
set_option maxRecDepth 100000 in
set_option maxHeartbeats 6400000 in
theorem l7NodeOk_9 (B : Nat) (x : FN) (kc kn ki : Value) (w : World) (h : FNodeIn B w x kc kn ki) (hB : B ≤ w.heap.size) (h9 : x.kind = 9) :
    Calls Try.prog 66 #[.agg #[.int .i64 x.kind, .string x.name, .int .i64 x.place, kc, kn, ki]] w fun e w' => e = .returned (.bool (fnodeB x)) ∧ Below w.heap.size w w' := by
  have HV := hideIt (fn_9 h9)
  obtain ⟨hcl, a0, c0, e0, _⟩ := h.cst
  obtain ⟨hnl, hks, a1, c1, e1, hcell⟩ := h.names
  obtain ⟨hkl, _, a2, c2, e2, _⟩ := h.kids
  subst e0 e1 e2
  have HCC := hideIt hcell
  have HKS := hideIt hks
  clear h hcell hks
  obtain ⟨W1, hW1⟩ : ∃ W1, W1 = w.alloc (.cells #[.int .i64 x.kind, .string x.name, .int .i64 x.place, .slice a0 x.cst.length c0, .slice a1 x.names.length c1, .slice a2 x.kids.length c2] 104) := ⟨_, rfl⟩
  have d0 : W1.cell? ⟨w.heap.size, 0, none⟩ = some (.int .i64 x.kind) := by rw [hW1]; simp
  have d1 : W1.cell? ⟨w.heap.size, 1, none⟩ = some (.string x.name) := by rw [hW1]; simp
  have d2 : W1.cell? ⟨w.heap.size, 2, none⟩ = some (.int .i64 x.place) := by rw [hW1]; simp
  have d3 : W1.cell? ⟨w.heap.size, 3, none⟩ = some (.slice a0 x.cst.length c0) := by rw [hW1]; simp
  have d4 : W1.cell? ⟨w.heap.size, 4, none⟩ = some (.slice a1 x.names.length c1) := by rw [hW1]; simp
  have d5 : W1.cell? ⟨w.heap.size, 5, none⟩ = some (.slice a2 x.kids.length c2) := by rw [hW1]; simp
  have HZ : Hid (W1.heap.size = w.heap.size + 1) := by rw [Hid, hW1]; simp
  have HBW : Hid (Below w.heap.size w W1) := by rw [Hid, hW1]; exact (Below.refl _ _).alloc (Nat.le_refl _) _
  have HW1 := hideIt hW1
  clear hW1
  have HK := hideIt h9
  have q9 : (x.kind == 9) = true := by simp [h9]
  have q9' : (x.kind != 9) = false := by simp [h9]
  have q8 : (x.kind == 8) = false := by rw [beq_eq_false_iff_ne]; omega
  have q5 : (x.kind == 5) = false := by rw [beq_eq_false_iff_ne]; omega
  have q2 : (x.kind == 2) = false := by rw [beq_eq_false_iff_ne]; omega
  have q2' : (x.kind != 2) = true := by rw [bne_iff_ne]; omega
  have q3 : (x.kind == 3) = false := by rw [beq_eq_false_iff_ne]; omega
  clear h9
  go_enter Try.func66, Try.ntmps66
  go_wp2_with fail
  rw [← HW1.out]
  refine (l7Kids_any _ _).mono ?_
  rintro e w1 ⟨rfl, hw1⟩
  subst hw1
  have HM : Hid (kidsN x.kind = -1) := by rw [Hid, HK.out]; decide
  rw [HM.out]
  go_wp2_with fail
  refine (l1In_any _ _ _ _).mono ?_
  rintro e w1 ⟨rfl, hw1⟩
  subst hw1
  have HIN : Hid (inB x.kind 1 23 = true) := by rw [Hid, HK.out]; decide
  rw [HIN.out]
  by_cases hk : 5 < x.kids.length
  · have H : Hid (fnodeB x = false) := by
      rw [Hid, HV.out]
      by_cases e : x.kids.length = x.names.length
      · have : namesB x.names = false := by simp [namesB]; omega
        simp [this]
      · simp [e]
    have hk' : (5 : Int) < (x.kids.length : Int) := by omega
    go_wp2_with fail
    all_goals
      go_ret
      exact ⟨ret_bool H.out.symm, HBW.out⟩
  have hk' : ¬ (5 : Int) < (x.kids.length : Int) := by omega
  have HLE : Hid (fnodeB x = false ∨ x.kids.length = x.names.length) := by
    by_cases e : x.kids.length = x.names.length
    · exact Or.inr e
    · left; rw [HV.out]; simp [e]
  by_cases hn : 0 < x.names.length
  case neg =>
    have hn' : ¬ (0 : Int) < (x.names.length : Int) := by omega
    have HNR : Hid (nriseB x.names = true) := nriseB_true (fun j hj => absurd hj (by omega))
    go_wp2_with fail
    go_loopw [4] (fun i wr => i = .int .i64 0 ∧ wr = w1) (fun _ _ => 0)
    case atStart => exact ⟨rfl, rfl⟩
    case round =>
        obtain ⟨rfl, rfl⟩ := hrel
        have HBX := HBW
        by_cases e0 : x.names.length = x.kids.length
        case neg =>
          have p0 : ((x.names.length : Int) != (x.kids.length : Int)) = true := by rw [bne_iff_ne]; omega
          have H : Hid (fnodeB x = false) := by
            rcases HLE.out with e | e
            · exact e
            · exact absurd e.symm e0
          clear e0
          go_wp2_with fail
          go_ret
          exact ⟨ret_bool H.out.symm, HBX.out⟩
        case pos =>
        have p0 : ((x.names.length : Int) != (x.kids.length : Int)) = false := by rw [e0]; simp
        have HV2 : Hid (fnodeB x = (decide (x.name.toList = []) && (decide (x.place = 0) && decide (x.cst.length = 0)))) := by
          have h5 : x.names.length ≤ 5 := by omega
          rw [Hid, HV.out, namesB, HNR.out]
          simp [e0.symm, h5]
        clear e0
        by_cases e1 : x.name.toList = []
        case neg =>
          have p1 : (x.name.toList != []) = true := by simp [e1]
          have p1' : (x.name.toList == []) = false := by simp [e1]
          have H : Hid (fnodeB x = false) := by rw [Hid, HV2.out]; simp [e1]
          clear e1
          go_wp2_with fail
          go_ret
          exact ⟨ret_bool H.out.symm, HBX.out⟩
        case pos =>
        have p1 : (x.name.toList != []) = false := by simp [e1]
        have p1' : (x.name.toList == []) = true := by simp [e1]
        have E1 := hideIt e1
        clear e1
        by_cases e2 : x.cst.length = 0
        case neg =>
          have p2 : ((x.cst.length : Int) == 0) = false := by rw [beq_eq_false_iff_ne]; omega
          have H : Hid (fnodeB x = false) := by rw [Hid, HV2.out]; simp [e2]
          clear e2
          go_wp2_with fail
          go_ret
          exact ⟨ret_bool H.out.symm, HBX.out⟩
        case pos =>
        have p2 : ((x.cst.length : Int) == 0) = true := by rw [beq_iff_eq]; omega
        by_cases e3 : x.place = 0
        case neg =>
          have p3 : (x.place == 0) = false := by simp [e3]
          have H : Hid (fnodeB x = false) := by rw [Hid, HV2.out]; simp [e3]
          clear e2 e3
          go_wp2_with fail
          go_ret
          exact ⟨ret_bool H.out.symm, HBX.out⟩
        case pos =>
        have p3 : (x.place == 0) = true := by simp [e3]
        have H : Hid (fnodeB x = true) := by rw [Hid, HV2.out]; simp [E1.out, e2, e3]
        clear e2 e3
        go_wp2_with fail
        go_ret
        exact ⟨ret_bool H.out.symm, HBX.out⟩
  case pos =>
  have hn' : (0 : Int) < (x.names.length : Int) := by omega
  go_wp2_with fail
  clear hn hn'
  go_loopw [4] (fun i wr => ∃ k : Nat, k ≤ x.names.length ∧ i = .int .i64 k ∧ Hid (∀ j, j < k → nriseAt x.names j = true) ∧ Below (w.heap.size + 1) w1 wr) (fun i _ => x.names.length - (intOf i).toNat)
  case atStart => exact ⟨0, Nat.zero_le _, rfl, fun j hj => absurd hj (by omega), Below.refl _ _⟩
  case round =>
    obtain ⟨k, hkl2, rfl, HR, hbel⟩ := hrel
    have f0 := (below_cell (o := 0) hbel (Nat.lt_succ_self _)).trans d0
    have f1 := (below_cell (o := 1) hbel (Nat.lt_succ_self _)).trans d1
    have f2 := (below_cell (o := 2) hbel (Nat.lt_succ_self _)).trans d2
    have f3 := (below_cell (o := 3) hbel (Nat.lt_succ_self _)).trans d3
    have f4 := (below_cell (o := 4) hbel (Nat.lt_succ_self _)).trans d4
    have f5 := (below_cell (o := 5) hbel (Nat.lt_succ_self _)).trans d5
    have HBX : Hid (Below w.heap.size w wr) := HBW.out.trans (hbel.mono (by omega))
    by_cases hlt : k < x.names.length
    · obtain ⟨b, o, rfl, hbB, hc⟩ := HCC.out (by omega)
      have hck : wr.cell? ⟨b, o + k, none⟩ = some (.string (keyAt x.names k)) := (below_cell (o := o + k) HBX.out (by omega)).trans (hc k hlt)
      have hs := HKS.out k hlt
      have HFL : Hid (nriseAt x.names k = false → fnodeB x = false) := fun e => by
        rw [HV.out, namesB, nriseB_false hlt e]
        simp
      have HTR : Hid (nriseAt x.names k = true → ∀ j, j < k + 1 → nriseAt x.names j = true) := fun e j hj => by
        by_cases g : j = k
        · subst g; exact e
        · exact HR.out j (by omega)
      by_cases ht : nameB (keyAt x.names k) = true
      · by_cases h0 : k = 0
        · have HR2 := hideIt (HTR.out (by unfold nriseAt; rw [ht]; simp [h0]))
          have hd : decide ((0 : Int) < (k : Int)) = false := by simp; omega
          have hd2 : decide (0 < k) = false := by simp; omega
          have HX : Hid (k = 0) := h0
          clear hc h0
          go_wp2_with fail
          go_quiet ((go_at_call 94; exact Calls.quiet_of_same (l7Name_any _ _ hs)))
          go_wp2_with fail
          go_roundw
          case rel => exact ⟨k + 1, by omega, by go_num, HR2, below_drewN hbel nq⟩
          case measure => simp [intOf]; omega
        · have hpos : (0 : Int) < (k : Int) := by omega
          have hcm : wr.cell? ⟨b, o + (k - 1), none⟩ = some (.string (keyAt x.names (k - 1))) := (below_cell (o := o + (k - 1)) HBX.out (by omega)).trans (hc (k - 1) (by omega))
          have hd1 : decide ((0 : Int) < (k : Int)) = true := by simp; omega
          have hd2 : decide (0 < k) = true := by simp; omega
          have hd3 : 0 < k := by omega
          have pw : IntKind.i64.wrap ((k : Int) - 1) = (k : Int) - 1 := by rw [IntKind.wrap_i64]; omega
          have p0 : ((k : Int) - 1).toNat = k - 1 := by omega
          have p1 : 0 ≤ (k : Int) - 1 := by omega
          have p2 : (k : Int) - 1 < (x.names.length : Int) := by omega
          have p3 : (1 : Int) ≤ (k : Int) := by omega
          have p4 : 1 ≤ k := by omega
          have p5 : (k : Int) < (x.names.length : Int) + 1 := by omega
          have p6 : (k : Int) ≤ (x.names.length : Int) := by omega
          have p7 : k ≤ x.names.length := by omega
          have p8 : k < x.names.length + 1 := by omega
          by_cases hl : Op.bytesLess (keyAt x.names (k - 1)).toList (keyAt x.names k).toList = true
          · have HR2 := hideIt (HTR.out (by unfold nriseAt; rw [ht]; simp [lessB, hl]))
            clear hc
            go_wp2_with fail
            go_quiet ((go_at_call 94; exact Calls.quiet_of_same (l7Name_any _ _ hs)))
            go_wp2_with fail
            go_roundw
            case rel => exact ⟨k + 1, by omega, by go_num, HR2, below_drewN hbel nq⟩
            case measure => simp [intOf]; omega
          · have H := hideIt (HFL.out (by unfold nriseAt; rw [ht]; simp [lessB, hl]; omega))
            have hl' : Op.bytesLess (keyAt x.names (k - 1)).toList (keyAt x.names k).toList = false := by simpa using hl
            clear hc hl
            go_wp2_with fail
            go_quiet ((go_at_call 94; exact Calls.quiet_of_same (l7Name_any _ _ hs)))
            go_wp2_with fail
            go_ret
            exact ⟨ret_bool H.out.symm, below_drewN HBX.out nq⟩
      · have ht' : nameB (keyAt x.names k) = false := by simpa using ht
        have H := hideIt (HFL.out (by unfold nriseAt; rw [ht', Bool.false_and]))
        clear hc ht
        go_wp2_with fail
        go_quiet ((go_at_call 94; exact Calls.quiet_of_same (l7Name_any _ _ hs)))
        go_wp2_with fail
        go_ret
        exact ⟨ret_bool H.out.symm, below_drewN HBX.out nq⟩
    · obtain rfl : k = x.names.length := by omega
      have HNR := hideIt (nriseB_true HR.out)
      by_cases e0 : x.names.length = x.kids.length
      case neg =>
        have p0 : ((x.names.length : Int) != (x.kids.length : Int)) = true := by rw [bne_iff_ne]; omega
        have H : Hid (fnodeB x = false) := by
          rcases HLE.out with e | e
          · exact e
          · exact absurd e.symm e0
        clear e0
        go_wp2_with fail
        go_ret
        exact ⟨ret_bool H.out.symm, HBX.out⟩
      case pos =>
      have p0 : ((x.names.length : Int) != (x.kids.length : Int)) = false := by rw [e0]; simp
      have HV2 : Hid (fnodeB x = (decide (x.name.toList = []) && (decide (x.place = 0) && decide (x.cst.length = 0)))) := by
        have h5 : x.names.length ≤ 5 := by omega
        rw [Hid, HV.out, namesB, HNR.out]
        simp [e0.symm, h5]
      clear e0
      by_cases e1 : x.name.toList = []
      case neg =>
        have p1 : (x.name.toList != []) = true := by simp [e1]
        have p1' : (x.name.toList == []) = false := by simp [e1]
        have H : Hid (fnodeB x = false) := by rw [Hid, HV2.out]; simp [e1]
        clear e1
        go_wp2_with fail
        go_ret
        exact ⟨ret_bool H.out.symm, HBX.out⟩
      case pos =>
      have p1 : (x.name.toList != []) = false := by simp [e1]
      have p1' : (x.name.toList == []) = true := by simp [e1]
      have E1 := hideIt e1
      clear e1
      by_cases e2 : x.cst.length = 0
      case neg =>
        have p2 : ((x.cst.length : Int) == 0) = false := by rw [beq_eq_false_iff_ne]; omega
        have H : Hid (fnodeB x = false) := by rw [Hid, HV2.out]; simp [e2]
        clear e2
        go_wp2_with fail
        go_ret
        exact ⟨ret_bool H.out.symm, HBX.out⟩
      case pos =>
      have p2 : ((x.cst.length : Int) == 0) = true := by rw [beq_iff_eq]; omega
      by_cases e3 : x.place = 0
      case neg =>
        have p3 : (x.place == 0) = false := by simp [e3]
        have H : Hid (fnodeB x = false) := by rw [Hid, HV2.out]; simp [e3]
        clear e2 e3
        go_wp2_with fail
        go_ret
        exact ⟨ret_bool H.out.symm, HBX.out⟩
      case pos =>
      have p3 : (x.place == 0) = true := by simp [e3]
      have H : Hid (fnodeB x = true) := by rw [Hid, HV2.out]; simp [E1.out, e2, e3]
      clear e2 e3
      go_wp2_with fail
      go_ret
      exact ⟨ret_bool H.out.symm, HBX.out⟩

theorem l7NodeOk_any (B : Nat) (x : FN) (kc kn ki : Value) (w : World) (h : FNodeIn B w x kc kn ki) (hB : B ≤ w.heap.size) :
    Calls Try.prog 66 #[.agg #[.int .i64 x.kind, .string x.name, .int .i64 x.place, kc, kn, ki]] w fun e w' => e = .returned (.bool (fnodeB x)) ∧ Below w.heap.size w w' := by
  by_cases h9 : x.kind = 9
  · exact l7NodeOk_9 B x kc kn ki w h hB h9
  · exact l7NodeOk_a B x kc kn ki w h hB h9
end Go.Proofs.Ytbclgogolimbgaa
