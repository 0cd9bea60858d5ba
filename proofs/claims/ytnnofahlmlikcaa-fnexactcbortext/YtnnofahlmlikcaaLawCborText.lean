/-
  impl.valueOf: the value of right nodes.
-/
import Derived.Test.YtnnofahlmlikcaaVAt
import Derived.Test.YtnnofahlmlikcaaImp3
import Derived.Test.YtnnofahlmlikcaaICbT
import Derived.Test.YtnnofahlmlikcaaSCbT
import Derived.Test.YtnnofahlmlikcaaSpc3
import Derived.Test.YtnnofahlmlikcaaSz
import Derived.Test.YtnnofahlmlikcaaRowB
namespace Go.Proofs.Ytnnofahlmlikcaa
open Go.RowKit
set_option linter.unusedSimpArgs false
set_option linter.unusedVariables false

set_option maxRecDepth 100000 in
set_option maxHeartbeats 1600000 in
theorem valueOf_no (B : Nat) (v : Value) (vs : List VN) (w : World) (h : NodesAt B w v vs) (hB : B ≤ w.heap.size) (hno : okB vs = false) :
    Calls Try.prog 16 #[v] w fun e w' => e = .returned (.tuple #[.nilIface, .bool false]) ∧ Below w.heap.size w w' := by
  have HV := hideIt h
  obtain ⟨_, a, cap, rfl, _⟩ := h
  go_enter Try.func16, Try.ntmps16
  go_wp2_with fail
  refine (implOk_any B _ vs _ HV.out hB).mono ?_
  rintro e w1 ⟨rfl, hb1⟩
  go_wp2_with fail
  go_ret2
  exact ⟨rfl, hb1⟩

set_option maxRecDepth 100000 in
set_option maxHeartbeats 1600000 in
theorem valueOf_yes (B : Nat) (v : Value) (vs : List VN) (w : World) (h : NodesAt B w v vs) (hB : B ≤ w.heap.size) (hyes : okB vs = true) :
    Calls Try.prog 16 #[v] w fun e w' => ∃ lo t x, e = .returned (.tuple #[.iface t x, .bool true]) ∧ w.heap.size ≤ lo ∧ lo < w'.heap.size ∧ ValIs lo w'.heap.size w' vs vs.length (vs.length - 1) (.iface t x) ∧ Below w.heap.size w w' := by
  have HV := hideIt h
  obtain ⟨_, a, cap, rfl, _⟩ := h
  obtain ⟨⟨hn1, hn2⟩, hok, _, hkn⟩ := okB_parts hyes
  have HOK := hideIt hok
  have HKN := hideIt hkn
  clear hok hkn
  go_enter Try.func16, Try.ntmps16
  go_wp2_with fail
  refine (implOk_any B _ vs _ HV.out hB).mono ?_
  rintro e w1 ⟨rfl, hb1⟩
  have z1 := hb1.size
  go_wp2_with fail
  refine (valuesAt_any B _ vs _ (HV.out.below (hb1.mono hB)) (by omega) hn1 hn2 HOK.out HKN.out).mono ?_
  rintro e w2 ⟨VV, rfl, hrow, hvals, hb2⟩
  have z2 := hb2.size
  obtain ⟨t, x, hx⟩ := (hvals (vs.length - 1) (by omega)).iface
  have hc : w2.cell? ⟨w1.heap.size, vs.length - 1, none⟩ = some (.iface t x) := by rw [hrow.cell (by omega), hx]
  have hlt := hrow.lt
  have hval := hvals (vs.length - 1) (by omega)
  rw [hx] at hval
  have HVL := hideIt hval
  have p0 : ((vs.length : Int) - 1).toNat = vs.length - 1 := by omega
  clear hrow hvals hx hval
  go_wp2_with fail
  go_ret2
  exact ⟨w1.heap.size, t, x, rfl, by omega, hlt, ValIs.more (by omega) HVL.out, hb1.trans (hb2.mono z1)⟩
end Go.Proofs.Ytnnofahlmlikcaa

/-
  The program's and the specification's CborText.
-/
namespace Go.Proofs.Ytnnofahlmlikcaa
open Go.RowKit
set_option linter.unusedSimpArgs false
set_option linter.unusedVariables false

def cborV (vs : List VN) : List UInt8 := if okB vs = true then cborT vs.length (treeOf vs vs.length (vs.length - 1)) else []
theorem ft_cbor : FT 46 0 := ⟨by kernel_rfl, by decide⟩

set_option maxRecDepth 100000 in
set_option maxHeartbeats 1600000 in
theorem implCbor_any (B : Nat) (v : Value) (vs : List VN) (w : World) (h : NodesAt B w v vs) (hB : B ≤ w.heap.size) :
    Calls Try.prog 8 #[v] w fun e w' => e = .returned (.string (txt (cborV vs))) ∧ Below w.heap.size w w' := by
  have HV := hideIt h
  obtain ⟨_, a, cap, rfl, _⟩ := h
  have HP : Hid (cborV vs = if okB vs = true then cborT vs.length (treeOf vs vs.length (vs.length - 1)) else []) := rfl
  go_enter Try.func8, Try.ntmps8
  go_wp2_with fail
  cases ok1 : okB vs
  · refine (valueOf_no B _ vs _ HV.out hB ok1).mono ?_
    rintro e w1 ⟨rfl, hb1⟩
    rw [ok1] at HP
    go_wp2_with fail
    go_ret
    exact ⟨by rw [HP.out]; rfl, hb1⟩
  · refine (valueOf_yes B _ vs _ HV.out hB ok1).mono ?_
    rintro e w1 ⟨lo1, t, x, rfl, hl1, hl1', hv1, hb1⟩
    have z1 := hb1.size
    obtain ⟨p1, p2, _, p4⟩ := okB_parts ok1
    have ht := ValIs.tree (by omega) p2 p4 p1.2 (by omega) hv1
    have HFIT := hideIt (tfit_of ok1 vs.length (vs.length - 1) (by omega))
    have H16 := hideIt (cborT_16k ok1 (f := vs.length) (i := vs.length - 1) (by omega) (by omega))
    have HPOS : Hid (1 ≤ (cborT vs.length (treeOf vs vs.length (vs.length - 1))).length) := by
      obtain ⟨f, hf⟩ : ∃ f, vs.length = f + 1 := ⟨vs.length - 1, by omega⟩
      have := cborT_pos ok1 f (i := vs.length - 1) (by omega)
      rw [← hf] at this
      exact this
    rw [ok1, if_pos rfl] at HP
    have HB1 := hideIt hb1
    obtain ⟨W2, hW2⟩ : ∃ W2, w1.alloc (.cells #[.pointer none, .slice none 0 0] 46) = W2 := ⟨_, rfl⟩
    have HW2 := hideIt hW2
    have HT2 : Hid (TreeAt w1.heap.size W2 vs.length (treeOf vs vs.length (vs.length - 1)) (.iface t x)) := TreeAt.keep (fun c hc => by rw [← hW2]; exact Below.heap_alloc _ _ _ hc) (Nat.le_refl _) ht
    have HFB : Hid (FB 46 w1.heap.size w1.heap.size [] [] W2) := by
      refine ⟨Nat.le_refl _, .pointer none, .slice none 0 0, .inl rfl, ?_, ?_, by simp [Value.ownBlock]⟩
      · rw [← hW2]; exact heap_alloc_new w1 _
      · exact World.ownsRow_nil _ _ _ _
    have hz2 : w1.heap.size ≤ W2.heap.size := by rw [← hW2]; simp
    have HBW : Hid (Below w1.heap.size w1 W2) := by rw [Hid, ← hW2]; exact (Below.refl _ _).alloc (Nat.le_refl _) _
    clear hv1 p2 p4 hb1 ht hW2
    go_wp2_with fail
    rw [HW2.out]
    refine (cbWrite_any w1.heap.size w1.heap.size ft_cbor vs.length _ _ [] W2 HFB.out HT2.out HFIT.out hz2 (by rw [List.nil_append]; have := H16.out; omega)).mono ?_
    rintro e w3 ⟨rfl, f3, b3, _⟩
    rw [List.nil_append] at f3
    have HF3 := hideIt f3
    have HB3 := hideIt (HBW.out.trans b3)
    clear f3 b3
    go_wp2_with (go_at_call 18; refine (fb_string HF3.out (fun e => by have := HPOS.out; rw [e] at this; simp at this)).mono ?_; rintro e w4 ⟨rfl, b4⟩)
    go_ret
    exact ⟨by rw [HP.out]; rfl, HB1.out.trans ((HB3.out.trans b4).mono z1)⟩

set_option maxRecDepth 100000 in
set_option maxHeartbeats 1600000 in
theorem specCbor_any (B : Nat) (v : Value) (vs : List VN) (w : World) (h : NodesAt B w v vs) (hB : B ≤ w.heap.size) :
    Calls Try.prog 6 #[v] w fun e w' => e = .returned (.string (txt (cborV vs))) ∧ Below w.heap.size w w' := by
  have HV := hideIt h
  obtain ⟨_, a, cap, rfl, _⟩ := h
  have HP : Hid (cborV vs = if okB vs = true then cborT vs.length (treeOf vs vs.length (vs.length - 1)) else []) := rfl
  go_enter Try.func6, Try.ntmps6
  go_wp2_with fail
  refine (specOk_any B _ vs _ HV.out hB).mono ?_
  rintro e w1 ⟨rfl, hb1⟩
  have z1 := hb1.size
  cases ok1 : okB vs
  · rw [ok1] at HP
    go_wp2_with fail
    go_ret
    exact ⟨by rw [HP.out]; rfl, hb1⟩
  · rw [ok1, if_pos rfl] at HP
    obtain ⟨p1, _⟩ := okB_parts ok1
    have HTX := hideIt (l3Text_any B vs ok1 vs.length _ (vs.length - 1) w1 (HV.out.below (hb1.mono hB)) (by omega) (by omega) (by omega))
    obtain ⟨N, hN⟩ : ∃ N, vs.length = N := ⟨_, rfl⟩
    have e1 : ((N - 1 : Nat) : Int) = (N : Int) - 1 := by omega
    rw [hN] at HTX HP p1 ⊢
    rw [e1] at HTX
    clear hN
    go_wp2_with (first | (go_at_call 14; go_in) | (go_at_call 27; refine HTX.out.mono ?_; rintro e w2 ⟨rfl, hb2⟩))
    go_ret
    exact ⟨by rw [HP.out]; rfl, hb1.trans (hb2.mono z1)⟩
end Go.Proofs.Ytnnofahlmlikcaa

/-
  The law of CborText: the call returns true and turns nothing that was there.
-/
namespace Go.Proofs.Ytnnofahlmlikcaa
open Go.RowKit
set_option linter.unusedSimpArgs false
set_option linter.unusedVariables false

set_option maxRecDepth 100000 in
set_option maxHeartbeats 3200000 in
theorem lawCborText_walk (v : Value) (vs : List VN) (w : World) (h : RawNodes w.heap.size w v vs) :
    Calls Try.prog 3 #[v] w fun e w' => e = .returned (.bool true) ∧ Below w.heap.size w w' := by
  have H := hideIt h
  obtain ⟨_, a, cap, rfl, _⟩ := h
  obtain ⟨S, hS⟩ : ∃ S, txt (cborV vs) = S := ⟨_, rfl⟩
  have CS := hideIt (specCbor_any (vs := vs))
  have CI := hideIt (implCbor_any (vs := vs))
  simp only [hS] at CS CI
  clear hS
  have hss : (S.toList == S.toList) = true := by simp
  go_enter Try.func3, Try.ntmps3
  go_wp2_with fail
  refine (szVNodeS_any w.heap.size _ vs 1048576 _ H.out (Nat.le_refl _) (by omega) (by omega)).mono ?_
  rintro e w1 ⟨⟨q, rfl, hq, hs⟩, hb1⟩
  have HS := hideIt hs
  clear hs
  by_cases hq0 : q < 0
  · go_wp2_with fail
    go_ret
    exact ⟨rfl, hb1⟩
  · have HN := hideIt (H.out.fit (HS.out (by omega)).1 (HS.out (by omega)).2)
    have HF := hideIt HN.out.fits
    have HL := hideIt HN.out.1
    have z1 := hb1.size
    go_wp2_with fail
    refine (toVNodeS_any w.heap.size _ vs _ (HN.out.below hb1) (by omega)).mono ?_
    rintro e w2 ⟨KB, KI, rfl, ho2, hb2⟩
    have HO2 := hideIt ho2
    have z2 := hb2.size
    clear ho2
    go_wp2_with fail
    refine (CS.out w2.heap.size _ _ (HO2.out.nodes HL.out HF.out) (Nat.le_refl _)).mono ?_
    rintro e w3 ⟨rfl, hb3⟩
    have z3 := hb3.size
    have hb13 : Below w.heap.size w w3 := (hb1.trans (hb2.mono z1)).trans (hb3.mono (by omega))
    go_wp2_with fail
    refine (toVNodeS_any w.heap.size _ vs _ (HN.out.below hb13) (by omega)).mono ?_
    rintro e w4 ⟨KB4, KI4, rfl, ho4, hb4⟩
    have HO4 := hideIt ho4
    have z4 := hb4.size
    clear ho4
    go_wp2_with fail
    refine (CI.out w4.heap.size _ _ (HO4.out.nodes HL.out HF.out) (Nat.le_refl _)).mono ?_
    rintro e w5 ⟨rfl, hb5⟩
    have z5 := hb5.size
    have hb15 : Below w.heap.size w w5 := (hb13.trans (hb4.mono (by omega))).trans (hb5.mono (by omega))
    have HO5 := hideIt (HO4.out.below hb5)
    go_wp2_with fail
    all_goals
      refine (toVNodeS_any w.heap.size _ vs _ (HN.out.below hb15) (by omega)).mono ?_
      rintro e w6 ⟨KB6, KI6, rfl, ho6, hb6⟩
      have HO6 := hideIt ho6
      have z6 := hb6.size
      clear ho6
      go_wp2_with fail
      refine (eqVNodeS_any w6.heap.size _ _ vs _ ((HO5.out.below hb6).nodes HL.out HF.out) (HO6.out.nodes HL.out HF.out) (Nat.le_refl _)).mono ?_
      rintro e w7 ⟨rfl, hb7⟩
      go_wp2_with fail
      go_ret
      exact ⟨rfl, (hb15.trans (hb6.mono (by omega))).trans (hb7.mono (by omega))⟩
end Go.Proofs.Ytnnofahlmlikcaa
