/-
  The program's and the specification's PackText.
-/
import Derived.Test.YtnnofahlmlikcaaIPkT
import Derived.Test.YtnnofahlmlikcaaSPkT
import Derived.Test.YtnnofahlmlikcaaVOf
import Derived.Test.YtnnofahlmlikcaaSpc3
namespace Go.Proofs.Ytnnofahlmlikcaa
open Go.RowKit
set_option linter.unusedSimpArgs false
set_option linter.unusedVariables false

def packV (vs : List VN) : List UInt8 := if okB vs = true then packT vs.length (treeOf vs vs.length (vs.length - 1)) else []
theorem ft_pack : FT 50 0 := ⟨by kernel_rfl, by decide⟩

set_option maxRecDepth 100000 in
set_option maxHeartbeats 1600000 in
theorem implPack_any (B : Nat) (v : Value) (vs : List VN) (w : World) (h : NodesAt B w v vs) (hB : B ≤ w.heap.size) :
    Calls Try.prog 11 #[v] w fun e w' => e = .returned (.string (txt (packV vs))) ∧ Below w.heap.size w w' := by
  have HV := hideIt h
  obtain ⟨_, a, cap, rfl, _⟩ := h
  have HP : Hid (packV vs = if okB vs = true then packT vs.length (treeOf vs vs.length (vs.length - 1)) else []) := rfl
  go_enter Try.func11, Try.ntmps11
  go_wp2_with fail
  cases ok1 : okB vs
  · refine (valueOf_no B _ vs _ HV.out hB ok1).mono ?_
    rintro e w1 ⟨rfl, hb1⟩
    rw [ok1] at HP
    go_wp2_with fail
    go_ret
    exact ⟨by rw [HP.out]; rfl, hb1⟩
  · refine (valueOf_yes B _ vs _ HV.out hB ok1).mono ?_
    rintro e w1 ⟨lo1, t, x, rfl, hl1, hl1', hv1, hb1⟩
    have z1 := hb1.size
    obtain ⟨p1, p2, _, p4⟩ := okB_parts ok1
    have ht := ValIs.tree (by omega) p2 p4 p1.2 (by omega) hv1
    have HFIT := hideIt (tfit_of ok1 vs.length (vs.length - 1) (by omega))
    have H16 := hideIt (packT_16k ok1 (f := vs.length) (i := vs.length - 1) (by omega) (by omega))
    have HPOS : Hid (1 ≤ (packT vs.length (treeOf vs vs.length (vs.length - 1))).length) := by
      obtain ⟨f, hf⟩ : ∃ f, vs.length = f + 1 := ⟨vs.length - 1, by omega⟩
      have := packT_pos ok1 f (i := vs.length - 1) (by omega)
      rw [← hf] at this
      exact this
    rw [ok1, if_pos rfl] at HP
    have HB1 := hideIt hb1
    obtain ⟨W2, hW2⟩ : ∃ W2, w1.alloc (.cells #[.pointer none, .slice none 0 0] 50) = W2 := ⟨_, rfl⟩
    have HW2 := hideIt hW2
    have HT2 : Hid (TreeAt w1.heap.size W2 vs.length (treeOf vs vs.length (vs.length - 1)) (.iface t x)) := TreeAt.keep (fun c hc => by rw [← hW2]; exact Below.heap_alloc _ _ _ hc) (Nat.le_refl _) ht
    have HFB : Hid (FB 50 w1.heap.size w1.heap.size [] [] W2) := by
      refine ⟨Nat.le_refl _, .pointer none, .slice none 0 0, .inl rfl, ?_, ?_, by simp [Value.ownBlock]⟩
      · rw [← hW2]; exact heap_alloc_new w1 _
      · exact World.ownsRow_nil _ _ _ _
    have hz2 : w1.heap.size ≤ W2.heap.size := by rw [← hW2]; simp
    have HBW : Hid (Below w1.heap.size w1 W2) := by rw [Hid, ← hW2]; exact (Below.refl _ _).alloc (Nat.le_refl _) _
    clear hv1 p2 p4 hb1 ht hW2
    go_wp2_with fail
    rw [HW2.out]
    refine (write_any w1.heap.size w1.heap.size ft_pack vs.length _ _ [] W2 HFB.out HT2.out HFIT.out hz2 (by rw [List.nil_append]; have := H16.out; omega)).mono ?_
    rintro e w3 ⟨rfl, f3, b3, _⟩
    rw [List.nil_append] at f3
    have HF3 := hideIt f3
    have HB3 := hideIt (HBW.out.trans b3)
    clear f3 b3
    go_wp2_with (go_at_call 18; refine (fb_string HF3.out (fun e => by have := HPOS.out; rw [e] at this; simp at this)).mono ?_; rintro e w4 ⟨rfl, b4⟩)
    go_ret
    exact ⟨by rw [HP.out]; rfl, HB1.out.trans ((HB3.out.trans b4).mono z1)⟩

set_option maxRecDepth 100000 in
set_option maxHeartbeats 1600000 in
theorem specPack_any (B : Nat) (v : Value) (vs : List VN) (w : World) (h : NodesAt B w v vs) (hB : B ≤ w.heap.size) :
    Calls Try.prog 10 #[v] w fun e w' => e = .returned (.string (txt (packV vs))) ∧ Below w.heap.size w w' := by
  have HV := hideIt h
  obtain ⟨_, a, cap, rfl, _⟩ := h
  have HP : Hid (packV vs = if okB vs = true then packT vs.length (treeOf vs vs.length (vs.length - 1)) else []) := rfl
  go_enter Try.func10, Try.ntmps10
  go_wp2_with fail
  refine (specOk_any B _ vs _ HV.out hB).mono ?_
  rintro e w1 ⟨rfl, hb1⟩
  have z1 := hb1.size
  cases ok1 : okB vs
  · rw [ok1] at HP
    go_wp2_with fail
    go_ret
    exact ⟨by rw [HP.out]; rfl, hb1⟩
  · rw [ok1, if_pos rfl] at HP
    obtain ⟨p1, _⟩ := okB_parts ok1
    have HTX := hideIt (l4Text_any B vs ok1 vs.length _ (vs.length - 1) w1 (HV.out.below (hb1.mono hB)) (by omega) (by omega) (by omega))
    obtain ⟨N, hN⟩ : ∃ N, vs.length = N := ⟨_, rfl⟩
    have e1 : ((N - 1 : Nat) : Int) = (N : Int) - 1 := by omega
    rw [hN] at HTX HP p1 ⊢
    rw [e1] at HTX
    clear hN
    go_wp2_with (first | (go_at_call 20; go_in) | (go_at_call 40; refine HTX.out.mono ?_; rintro e w2 ⟨rfl, hb2⟩))
    go_ret
    exact ⟨by rw [HP.out]; rfl, hb1.trans (hb2.mono z1)⟩
end Go.Proofs.Ytnnofahlmlikcaa
