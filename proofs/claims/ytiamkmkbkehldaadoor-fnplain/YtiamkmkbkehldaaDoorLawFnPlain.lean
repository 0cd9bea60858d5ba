/-
  The law FnPlain: the call returns true and turns nothing that was there.
-/
import Derived.Test.YtiamkmkbkehldaaDoorNdS
import Derived.Test.YtiamkmkbkehldaaDoorIYm
import Derived.Test.YtiamkmkbkehldaaDoorSSort
namespace Go.Proofs.YtiamkmkbkehldaaDoor
open Go.RowKit
set_option linter.unusedSimpArgs false
set_option linter.unusedVariables false

theorem yaml_word {s : ByteArray} (h : okB (leafN 4 0 s) = true) : yamlV (leafN 4 0 s) = wordY s ++ [10] := by
  rw [yamlV_yes h]
  rfl
theorem word_plain (s : ByteArray) : decide (wordY s ++ [10] = s.data.toList ++ [10]) = plainL s.data.toList := by
  cases h : plainL s.data.toList
  · have e : wordY s = quoT s := by unfold wordY; rw [h]; rfl
    rw [decide_eq_false_iff_not, e]
    intro e2
    have e3 := congrArg List.length e2
    have h1 := quo_ge s.data.toList
    unfold quoT at e3
    simp only [List.length_append, List.length_cons, List.length_nil] at e3
    omega
  · have e : wordY s = s.data.toList := by unfold wordY; rw [h]; rfl
    rw [e]; simp

set_option maxRecDepth 100000 in
set_option maxHeartbeats 3200000 in
theorem drawPlainOk_any (B : Nat) (v : Value) (n : Nat) (w : World) (h : CodeAt B w v n) (hB : B ≤ w.heap.size) :
    Calls Tryd.prog 5 #[v] w fun e w' => ∃ s : ByteArray, s.size ≤ 100000 ∧ e = .returned (.string s) ∧ Below w.heap.size w w' := by
  have H := hideIt h
  obtain ⟨_, a, cap, rfl, _⟩ := h
  go_enter Tryd.func5, Tryd.ntmps5
  go_wp2_with fail
  refine (l1Open_any B _ n w H.out hB).mono ?_
  rintro e w1 ⟨rfl, hr, hb⟩
  have HR := hideIt hr
  have HB := hideIt hb
  clear hr hb
  go_wp2_with fail
  refine (rdOnce_any w.heap.size n 2 w1 ⟨0, HR.out⟩ (by omega) (by omega)).mono ?_
  rintro e w2 ⟨⟨b, rfl⟩, hd⟩
  have HD2 := hideIt hd
  clear hd
  cases b
  · go_wp2_with fail
    refine (rdText_any w.heap.size n w2 HD2.out.rd).mono ?_
    rintro e w3 ⟨hx, hd⟩
    obtain ⟨s, hs60, rfl⟩ := hx
    have hs : s.size ≤ 100000 := by omega
    have HD3 := hideIt (HD2.out.trans hd)
    clear hd
    go_wp2_with fail
    go_ret
    exact ⟨s, hs, rfl, HB.out.trans HD3.out.below⟩
  · go_wp2_with fail
    refine (rdTabS w.heap.size n 15 _ _ w2 HD2.out.rd (by omega) (by omega) (by rfl)).mono ?_
    rintro e w3 ⟨⟨y, s, hy, rfl, hs, hc⟩, hd⟩
    have hy' : (y : Int) < 15 := by omega
    have HD3 := hideIt (HD2.out.trans hd)
    clear hd
    go_wp2_with fail
    go_ret
    exact ⟨s, by omega, rfl, HB.out.trans HD3.out.below⟩

set_option maxRecDepth 100000 in
set_option maxHeartbeats 6400000 in
theorem lawFnPlain_walk (v : Value) (n : Nat) (w : World) (h : RawCode w v n) (htab : TabB w.heap.size w) :
    Calls Tryd.prog 3 #[v] w fun e w' => e = .returned (.bool true) ∧ Below w.heap.size w w' := by
  obtain ⟨hn, a, cap, rfl, hc⟩ := h
  have HTAB := hideIt htab
  have HCL : Hid (n ≤ 1048576 → CodeAt w.heap.size w (.slice a n cap) n) := fun h => ⟨h, a, cap, rfl, hc⟩
  clear hc htab
  go_enter Tryd.func3, Tryd.ntmps3
  go_wp2_with fail
  refine (big_any a n cap w hn).mono ?_
  rintro e w1 ⟨rfl, rfl⟩
  by_cases hbig : 1048576 < n
  · go_wp2_with fail
    go_ret
    exact ⟨rfl, Below.refl _ _⟩
  have HC := hideIt (HCL.out (by omega))
  clear HCL
  go_wp2_with fail
  refine (drawPlainOk_any w1.heap.size _ n w1 HC.out (Nat.le_refl _)).mono ?_
  rintro e w2 ⟨s, hss, rfl, hb2⟩
  have HB2 := hideIt hb2
  have z2 := hb2.size
  clear hb2 HC
  have IP := hideIt (fun w => iPlain_walk s w)
  have SP := hideIt (fun w => sPlain_walk s w)
  have HWP := hideIt (word_plain s)
  obtain ⟨pl, hpl⟩ : ∃ pl, plainL s.data.toList = pl := ⟨_, rfl⟩
  rw [hpl] at HWP
  simp only [hpl] at IP SP
  clear hpl
  have hpn : (pl != pl) = false := by simp
  have hpe : (pl == pl) = true := by simp
  go_wp2_with fail
  refine (IP.out _).mono ?_
  rintro e w3 ⟨rfl, hb3⟩
  have HB3 := hideIt (HB2.out.trans (hb3.mono z2))
  have z3 := HB3.out.size
  clear hb3
  obtain ⟨W4, hW4⟩ : ∃ W4, w3.alloc (.cells #[.int .i64 4, .int .i64 0, .string s, .slice none 0 0, .slice none 0 0] 29) = W4 := ⟨_, rfl⟩
  have HN4 : Hid (Nest w3.heap.size W4 (.slice (some ⟨w3.heap.size, 0, none⟩) 1 1) (leafN 4 0 s) (fun _ => .slice none 0 0) (fun _ => .slice none 0 0)) := by rw [Hid, ← hW4]; exact leaf_nest w3 4 0 s
  have HB4 : Hid (Below w3.heap.size w3 W4) := by rw [Hid, ← hW4]; exact (Below.refl _ _).alloc (Nat.le_refl _) _
  have H14 := hideIt (HB3.out.trans (HB4.out.mono z3))
  have z4 := H14.out.size
  have HFIT : Hid (∀ j, j < (leafN 4 0 s).length → Fits (nodeAt (leafN 4 0 s) j)) := fun j hj => by
    obtain rfl : j = 0 := by simp [leafN] at hj; omega
    exact ⟨by simp [leafN, nodeAt], fun i hi => absurd hi (by simp [leafN, nodeAt]), by simp [leafN, nodeAt], fun i hi => absurd hi (by simp [leafN, nodeAt]), by simp [leafN, nodeAt]; omega, by simp [leafN, nodeAt], by simp [leafN, nodeAt], by simp [leafN, nodeAt], by simp [leafN, nodeAt]⟩
  have HND : Hid (∀ W, Below W4.heap.size W4 W → NodesAt W.heap.size W (.slice (some ⟨w3.heap.size, 0, none⟩) 1 1) (leafN 4 0 s)) := fun W hb => Nest.nodes (vs := leafN 4 0 s) (HN4.out.below hb) (by simp [leafN]) HFIT.out
  go_wp2_with fail
  refine (SP.out W4).mono ?_
  rintro e w5 ⟨rfl, hb5⟩
  have H5 := hideIt hb5
  have z5 := hb5.size
  clear hb5
  have HSO := hideIt (specOk_any w5.heap.size _ (leafN 4 0 s) w5 (HND.out w5 H5.out) (Nat.le_refl _))
  go_wp2_with fail
  refine HSO.out.mono ?_
  rintro e w6 ⟨rfl, hb6⟩
  have H6 := hideIt (H5.out.trans (hb6.mono z5))
  have z6 := H6.out.size
  clear hb6 HSO
  have HEND : Hid (∀ w7, Below w6.heap.size w6 w7 → Below w1.heap.size w1 w7) := fun w7 hb => H14.out.trans ((H6.out.trans (hb.mono z6)).mono z4)
  cases hok : okB (leafN 4 0 s)
  · go_wp2_with fail
    refine (SP.out w6).mono ?_
    rintro e w7 ⟨rfl, hb7⟩
    have H7 := hideIt (HEND.out w7 hb7)
    clear hb7
    go_wp2_with fail
    go_ret
    exact ⟨by rfl, H7.out⟩
  · have HYW := hideIt (yaml_word hok)
    have HIY := hideIt (implYaml_any w6.heap.size _ (leafN 4 0 s) w6 (HND.out w6 H6.out) (Nat.le_refl _) ((HTAB.out.next (HEND.out w6 (Below.refl _ _))).wide (HEND.out w6 (Below.refl _ _)).size))
    rw [HYW.out] at HIY
    obtain ⟨Y, hY⟩ : ∃ Y, txt (wordY s ++ [10]) = Y := ⟨_, rfl⟩
    rw [hY] at HIY
    obtain ⟨Z, hZ⟩ : ∃ Z, s ++ ByteArray.mk #[10] = Z := ⟨_, rfl⟩
    have hYZ : (Y.toList == Z.toList) = pl := by
      have hZl : Z.data.toList = s.data.toList ++ [10] := by rw [← hZ]; simp [ByteArray.data_append]
      rw [← HWP.out, Lib.toList_data, Lib.toList_data, ← hY, bytes_txt, hZl, Bool.eq_iff_iff, beq_iff_eq, decide_eq_true_iff]
    clear hok hY
    go_wp2_with fail
    refine HIY.out.mono ?_
    rintro e w7 ⟨rfl, hb7⟩
    have H7 := hideIt (HEND.out w7 hb7)
    clear hb7 HIY
    go_wp2_with fail
    go_ret
    exact ⟨by rfl, H7.out⟩
end Go.Proofs.YtiamkmkbkehldaaDoor
