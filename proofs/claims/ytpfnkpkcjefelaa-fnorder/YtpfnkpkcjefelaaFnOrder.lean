/-
  The law FnOrder: the call returns true and turns nothing that was there.
-/
import Derived.Test.YtpfnkpkcjefelaaBigC
import Derived.Test.YtpfnkpkcjefelaaOrdZ
import Derived.Test.YtpfnkpkcjefelaaOrdI
import Derived.Test.YtpfnkpkcjefelaaSame
import Derived.Test.YtpfnkpkcjefelaaRows
import Derived.ProofKit
import Derived.OpenShut
import Derived.ShutString
import Derived.ChangeOld
import Derived.Below
namespace Go.Proofs.Ytpfnkpkcjefelaa
open Go.RowKit
set_option linter.unusedSimpArgs false
set_option linter.unusedVariables false

set_option maxRecDepth 100000 in
set_option maxHeartbeats 4000000 in
theorem lawFnOrder_walk (v : Value) (n : Nat) (w : World) (h : RawCode w v n) :
    Calls Try.prog 3 #[v] w fun e w' => e = .returned (.bool true) ∧ Below w.heap.size w w' := by
  obtain ⟨hn, a, cap, rfl, hc⟩ := h
  have HCL : Hid (n ≤ 1048576 → CodeAt w.heap.size w (.slice a n cap) n) := fun h => ⟨h, a, cap, rfl, hc⟩
  clear hc
  go_enter Try.func3, Try.ntmps3
  go_wp2_with fail
  refine (big_any a n cap w hn).mono ?_
  rintro e w1 ⟨rfl, rfl⟩
  by_cases hbig : 1048576 < n
  · go_wp2_with fail
    go_ret
    exact ⟨rfl, Below.refl _ _⟩
  have HC := hideIt (HCL.out (by omega))
  clear HCL
  go_wp2_with fail
  refine (drawOrder_any w1.heap.size _ n w1 HC.out (Nat.le_refl _)).mono ?_
  rintro e w2 ⟨r, vs, KV, IV, r2, us, KV2, IV2, rfl, hf1, hf2, hn1, hn2, hb2⟩
  have HF1 := hideIt hf1
  have HF2 := hideIt hf2
  have HN1 := hideIt hn1
  have HN2 := hideIt hn2
  have HB2 := hideIt hb2
  have z2 := hb2.size
  obtain ⟨ar, cr, er⟩ := own_slice hn1.row
  obtain ⟨ar2, cr2, er2⟩ := own_slice hn2.row
  obtain ⟨L1, hL1⟩ : ∃ M, vs.length = M := ⟨_, rfl⟩
  obtain ⟨L2, hL2⟩ : ∃ M, us.length = M := ⟨_, rfl⟩
  rw [hL1] at er
  rw [hL2] at er2
  subst er er2
  clear hf1 hf2 hn1 hn2 hb2 hL1 hL2
  go_wp2_with fail
  refine (drawValueOk_any w1.heap.size _ n w2 (HC.out.below HB2.out) z2).mono ?_
  rintro e w3 ⟨r3, ws, KV3, IV3, rfl, hf3, hn3, hb3⟩
  have HF3 := hideIt hf3
  have HND1 := hideIt ((HN1.out.below hb3).nodes (by have := HF1.out.2.1; omega) (HF1.out.few (by omega)).2)
  have HND2 := hideIt ((HN2.out.below hb3).nodes (by have := HF2.out.2.1; omega) (HF2.out.few (by omega)).2)
  have HND3 := hideIt (hn3.nodes (by have := HF3.out.2.1; omega) (HF3.out.few (by omega)).2)
  have HBW := hideIt (HB2.out.trans (hb3.mono z2))
  obtain ⟨ar3, cr3, er3⟩ := own_slice hn3.row
  obtain ⟨L3, hL3⟩ : ∃ M, ws.length = M := ⟨_, rfl⟩
  rw [hL3] at er3
  subst er3
  clear hf3 hn3 hb3 hL3 HN1 HN2 HB2 HC
  go_wp2_with fail
  refine (implOrder_any w3.heap.size _ _ vs us w3 HND1.out HND2.out (Nat.le_refl _)).mono ?_
  rintro e w4 ⟨rfl, hb4⟩
  have z4 := hb4.size
  have HB4 := hideIt hb4
  clear hb4
  by_cases hok : okB vs = true ∧ okB us = true
  case neg =>
    have hX : orderOf vs us = -2 := if_neg hok
    rw [hX]
    have HX := hideIt hX
    clear hX hok
    go_wp2_with fail
    refine (specOrder_any w3.heap.size _ _ vs us w4 (HND1.out.below HB4.out) (HND2.out.below HB4.out) z4).mono ?_
    rintro e w5 ⟨rfl, hb5⟩
    have HB5 := hideIt (Below.next HB4.out hb5)
    have z5 := HB5.out.size
    clear hb5
    rw [HX.out]
    have qv : (okB vs != okB vs) = false := by simp
    have qw : (okB vs == okB vs) = true := by simp
    go_wp2_with fail
    refine (implOk_any w3.heap.size _ vs w5 (HND1.out.below HB5.out) z5).mono ?_
    rintro e w6 ⟨rfl, hb6⟩
    have HB6 := hideIt (Below.next HB5.out hb6)
    have z6 := HB6.out.size
    clear hb6
    go_wp2_with fail
    refine (specOk_any w3.heap.size _ vs w6 (HND1.out.below HB6.out) z6).mono ?_
    rintro e w7 ⟨rfl, hb7⟩
    have HB7 := hideIt (Below.next HB6.out hb7)
    have z7 := HB7.out.size
    clear hb7
    go_wp2_with fail
    refine (specOrder_any w3.heap.size _ _ vs us w7 (HND1.out.below HB7.out) (HND2.out.below HB7.out) z7).mono ?_
    rintro e w8 ⟨rfl, hb8⟩
    have HB8 := hideIt (Below.next HB7.out hb8)
    have z8 := HB8.out.size
    clear hb8
    rw [HX.out]
    go_wp2_with fail
    refine (implOk_any w3.heap.size _ vs w8 (HND1.out.below HB8.out) z8).mono ?_
    rintro e w9 ⟨rfl, hb9⟩
    have HB9 := hideIt (Below.next HB8.out hb9)
    have z9 := HB9.out.size
    clear hb9
    go_wp2_with fail
    refine (specOk_any w3.heap.size _ vs w9 (HND1.out.below HB9.out) z9).mono ?_
    rintro e w10 ⟨rfl, hb10⟩
    have HB10 := hideIt (Below.next HB9.out hb10)
    clear hb10
    go_wp2_with fail
    go_ret
    exact ⟨rfl, HBW.out.trans (HB10.out.mono HBW.out.size)⟩
  case pos =>
  obtain ⟨X, hX⟩ : ∃ X, orderOf vs us = X := ⟨_, rfl⟩
  obtain ⟨Z, hZ⟩ : ∃ Z, orderOf us vs = Z := ⟨_, rfl⟩
  obtain ⟨Y, hY⟩ : ∃ Y, orderOf us ws = Y := ⟨_, rfl⟩
  obtain ⟨V, hV⟩ : ∃ V, orderOf vs ws = V := ⟨_, rfl⟩
  have HR : Hid (orderOf vs vs = 0) := orderOf_refl hok.1
  have hx3 : R3 X := hX ▸ orderOf_r3 hok.1 hok.2
  have hZX : Z = -X := by rw [← hZ, ← hX]; exact orderOf_flip hok.1 hok.2
  have HS : Hid (vs = us ↔ X = 0) := by rw [Hid, ← hX]; exact (orderOf_zero hok.1 hok.2).symm
  have hyv : X = Y → V = X := by
    intro e
    by_cases hw : okB ws = true
    · rw [← hV, ← hX]; exact orderOf_same hok.1 hok.2 hw (by rw [hX, hY]; exact e)
    · exfalso
      have : orderOf us ws = -2 := orderOf_right (by simpa using hw)
      rw [hY] at this
      rcases hx3 with h | h | h <;> omega
  have hy3 : Y = -2 ∨ R3 Y := by
    by_cases hw : okB ws = true
    · exact Or.inr (hY ▸ orderOf_r3 hok.2 hw)
    · left
      rw [← hY]
      exact orderOf_right (by simpa using hw)
  have hx1 : -1 ≤ X ∧ X ≤ 1 := by rcases hx3 with h | h | h <;> omega
  have hy1 : -2 ≤ Y ∧ Y ≤ 1 := by rcases hy3 with h | h | h | h <;> omega
  obtain ⟨hx1, hx2⟩ := hx1
  obtain ⟨hy1, hy2⟩ := hy1
  have hz1 : -1 ≤ Z := by omega
  have hz2 : Z ≤ 1 := by omega
  have qZ : (X != -Z) = false := by rw [hZX]; simp
  have qX : (X != X) = false := by simp
  have qv : (okB vs != okB vs) = false := by simp
  have q2 : (X == -2) = false := by rw [beq_eq_false_iff_ne]; omega
  rw [hX]
  have HX := hideIt hX
  have HY := hideIt hY
  have HZ := hideIt hZ
  have HV := hideIt hV
  have HYV := hideIt hyv
  clear hX hY hZ hV hyv hZX hx3 hy3 hok
  go_wp2_with fail
  refine (specOrder_any w3.heap.size _ _ vs us w4 (HND1.out.below HB4.out) (HND2.out.below HB4.out) z4).mono ?_
  rintro e w5 ⟨rfl, hb5⟩
  have HB5 := hideIt (Below.next HB4.out hb5)
  have z5 := HB5.out.size
  clear hb5
  rw [HX.out]
  go_wp2_with fail
  refine (implOk_any w3.heap.size _ vs w5 (HND1.out.below HB5.out) z5).mono ?_
  rintro e w6 ⟨rfl, hb6⟩
  have HB6 := hideIt (Below.next HB5.out hb6)
  have z6 := HB6.out.size
  clear hb6
  go_wp2_with fail
  refine (specOk_any w3.heap.size _ vs w6 (HND1.out.below HB6.out) z6).mono ?_
  rintro e w7 ⟨rfl, hb7⟩
  have HB7 := hideIt (Below.next HB6.out hb7)
  have z7 := HB7.out.size
  clear hb7
  go_wp2_with fail
  refine (implOrder_any w3.heap.size _ _ us ws w7 (HND2.out.below HB7.out) (HND3.out.below HB7.out) z7).mono ?_
  rintro e w8 ⟨rfl, hb8⟩
  have HB8 := hideIt (Below.next HB7.out hb8)
  have z8 := HB8.out.size
  clear hb8
  rw [HY.out]
  go_wp2_with fail
  refine (implOrder_any w3.heap.size _ _ us vs w8 (HND2.out.below HB8.out) (HND1.out.below HB8.out) z8).mono ?_
  rintro e w9 ⟨rfl, hb9⟩
  have HB9 := hideIt (Below.next HB8.out hb9)
  have z9 := HB9.out.size
  clear hb9
  rw [HZ.out]
  go_wp2_with fail
  refine (same_any w3.heap.size _ _ vs us w9 (HND1.out.below HB9.out) (HND2.out.below HB9.out) z9).mono ?_
  rintro e w10 ⟨⟨b, rfl, hb⟩, hb10⟩
  have HB10 := hideIt (Below.next HB9.out hb10)
  have z10 := HB10.out.size
  clear hb10
  obtain rfl : b = (X == 0) := by
    rw [Bool.eq_iff_iff, hb, HS.out]
    simp
  clear hb
  have q0 : ((X == 0) != (X == 0)) = false := by simp
  go_wp2_with fail
  refine (implOrder_any w3.heap.size _ _ vs vs w10 (HND1.out.below HB10.out) (HND1.out.below HB10.out) z10).mono ?_
  rintro e w11 ⟨rfl, hb11⟩
  have HB11 := hideIt (Below.next HB10.out hb11)
  have z11 := HB11.out.size
  clear hb11
  rw [HR.out]
  by_cases e1 : X = Y
  case neg =>
    have p1 : (X != Y) = true := by simpa using e1
    clear e1
    go_wp2_with fail
    go_ret
    exact ⟨rfl, HBW.out.trans (HB11.out.mono HBW.out.size)⟩
  case pos =>
    have HVX := hideIt (HYV.out e1)
    subst e1
    go_wp2_with fail
    refine (implOrder_any w3.heap.size _ _ vs ws w11 (HND1.out.below HB11.out) (HND3.out.below HB11.out) z11).mono ?_
    rintro e w12 ⟨rfl, hb12⟩
    have HB12 := hideIt (Below.next HB11.out hb12)
    clear hb12
    rw [HV.out, HVX.out]
    have p2 : (X == X) = true := by simp
    go_wp2_with fail
    go_ret
    exact ⟨rfl, HBW.out.trans (HB12.out.mono HBW.out.size)⟩
end Go.Proofs.Ytpfnkpkcjefelaa

/-
  PROVED: for every code of bytes the law FnOrder returns true: of two drawn right values just one is ahead of the other one or they are the same, and what is ahead of one that is ahead is ahead. No condition beyond the row's own.
-/
namespace Go.Proofs.Ytpfnkpkcjefelaa
open Go.ChangeShapes Go.WideShapes Go.ChangeAt Go.RowKit
set_option linter.unusedVariables false

theorem fnOrder_own : ownKnob Try.prog.godebug = none := by kernel_rfl
theorem fnOrder_laidOut : laidOutB Try.prog = true := by kernel_rfl
set_option maxRecDepth 100000 in
theorem fnOrder_lifted (os : Os) (started : os.Started) (H : Type) (enc : TypeId × Value → H) :
    ReturnsInHanded {} Try.checked os 3 .any (Rows.fnOrderSpec.pre6 enc Try.prog Try.f3 Rows.fnOrderRow.domain false) (Rows.fnOrderSpec.post enc Try.prog Try.f3 false true false false) := by
  refine returnsInHanded_of_change (C := Try.checked) fnOrder_own started (by kernel_rfl) Try.func3
    (ChangeSpec.witness6 (enc := enc) (C := Try.checked) false ⟨#[], #[.slice none 0 0], []⟩ 8 (by kernel_rfl) (by kernel_rfl) (by kernel_rfl) (by kernel_rfl)) ?_
  intro W base args ds gs before hval0 hW hcnd _
  have hval : ∀ (j : Nat) t v, Try.f3.params[j]? = some t → args[j]? = some v → Value.okWide Try.prog W .any base t v := hval0
  have hW' := hW
  obtain ⟨p, q, hA0, hV, rfl, hfz, hnd⟩ := hW
  have hA : DataW.TrodAll enc Try.prog W 0 (fun _ => true) true Try.f3.params.toList args.toList ds p := hA0
  rw [Try.params3] at hA hval
  obtain ⟨v0, vs0, d0, ds0, p0, q0, hargs, rfl, rfl, h0, r0⟩ := trodAll_cons hA
  obtain ⟨rfl, rfl, rfl⟩ := trodAll_nil r0
  obtain rfl : args = #[v0] := by cases args; simp_all
  obtain ⟨rfl, rfl⟩ := trodVars_none hV
  obtain ⟨a0, len0, cap0, rfl⟩ := okWide_slice Try.underlying22 (hval 0 22 v0 rfl rfl)
  have k0 := h0
  have lt0 : ∀ x ∈ p0, x.block < W.heap.size := by obtain ⟨m, hm⟩ := k0; exact DataW.trod_lt m _ _ _ hm
  obtain ⟨n, w0⟩ : ∃ n, RawCode W (.slice a0 len0 cap0) n := by
    obtain ⟨fuel, hf⟩ := h0
    exact raw_code (by simpa [Value.cells] using hf)
  clear hA0 hval0
  refine (lawFnOrder_walk (.slice a0 len0 cap0) n W w0).mono fun e W' ⟨he, bel⟩ => ?_
  subst he
  exact ⟨_, rfl, _, _, _, [], _, [], hW', trodAll_mk1 (shut_bool Try.underlying4 _), (trodAll_cons_mk (Below.trod fnOrder_laidOut (by kernel_rfl) (of_decide_eq_true (by kernel_rfl)) k0 bel lt0) trodAll_mk0), rfl, bel.frame _, fun h => by cases h⟩

theorem fnOrder_holds : Rows.FnOrderSaid :=
  OpenClaim.holds_of_wide 3 Try.f3 rfl rfl rfl rfl rfl rfl rfl ⟨rfl, rfl, rfl, rfl, rfl⟩ rfl rfl rfl rfl rfl (by kernel_rfl) Try.func3 (by kernel_rfl)
    (of_decide_eq_true (by kernel_rfl)) (by unfold Func.isWrapper; first | (rw [if_pos (by decide +kernel)]; kernel_rfl) | (rw [if_neg (by decide +kernel)]; exact ⟨rfl, rfl⟩))
    (fun os started H enc _ => fnOrder_lifted os started H enc)
#print axioms fnOrder_holds
end Go.Proofs.Ytpfnkpkcjefelaa
