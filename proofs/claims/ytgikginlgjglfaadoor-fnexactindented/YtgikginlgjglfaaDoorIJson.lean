/-
  The program's and the specification's JsonText and Indented.
-/
import Derived.Test.YtgikginlgjglfaaDoorIJw
import Derived.Test.YtgikginlgjglfaaDoorSJt
import Derived.Test.YtgikginlgjglfaaDoorVOf
namespace Go.Proofs.YtgikginlgjglfaaDoor
open Go.RowKit
set_option linter.unusedSimpArgs false
set_option linter.unusedVariables false

def jsonV (lines : Bool) (vs : List VN) : List UInt8 := if okB vs = true then jsonT lines vs.length 0 (treeOf vs vs.length (vs.length - 1)) ++ (if lines = true then [10] else []) else []
theorem ft_json : FT 46 1 := ⟨by kernel_rfl, by decide⟩
theorem jsonV_yes {lines : Bool} {vs : List VN} (h : okB vs = true) : jsonV lines vs = jsonT lines vs.length 0 (treeOf vs vs.length (vs.length - 1)) ++ (if lines = true then [10] else []) := by unfold jsonV; rw [if_pos h]
theorem jsonV_no {lines : Bool} {vs : List VN} (h : okB vs = false) : jsonV lines vs = [] := by unfold jsonV; rw [h]; rfl

theorem fb_jnew (w : World) (x : Bool) : FB 46 w.heap.size w.heap.size [.bool x] [] (w.alloc (.cells #[.pointer none, .slice none 0 0, .bool x] 46)) :=
  ⟨Nat.le_refl _, .pointer none, .slice none 0 0, .inl rfl, heap_alloc_new w _, World.ownsRow_nil _ _ _ _, by simp [Value.ownBlock]⟩

set_option maxRecDepth 100000 in
set_option maxHeartbeats 1600000 in
theorem implJson_any (B : Nat) (v : Value) (vs : List VN) (w : World) (h : NodesAt B w v vs) (hB : B ≤ w.heap.size) (htab : TabB w.heap.size w) :
    Calls Tryd.prog 8 #[v] w fun e w' => e = .returned (.string (txt (jsonV false vs))) ∧ Below w.heap.size w w' := by
  have HV := hideIt h
  have HTAB := hideIt htab
  clear htab
  obtain ⟨_, a, cap, rfl, _⟩ := h
  go_enter Tryd.func8, Tryd.ntmps8
  go_wp2_with fail
  cases ok1 : okB vs
  · have HP := hideIt (jsonV_no (lines := false) ok1)
    refine (valueOf_no B _ vs _ HV.out hB ok1).mono ?_
    rintro e w1 ⟨rfl, hb1⟩
    go_wp2_with fail
    go_ret
    exact ⟨by rw [HP.out]; rfl, hb1⟩
  · have HP := hideIt (jsonV_yes (lines := false) ok1)
    refine (valueOf_yes B _ vs _ HV.out hB ok1).mono ?_
    rintro e w1 ⟨lo1, t, x, rfl, hl1, hl1', hv1, hb1⟩
    have z1 := hb1.size
    obtain ⟨p1, p2, _, p4⟩ := okB_parts ok1
    have ht := ValIs.tree (by omega) p2 p4 p1.2 (by omega) hv1
    have HFIT := hideIt (tfit_of ok1 vs.length (vs.length - 1) (by omega))
    have H16 := hideIt (jsonT_100k ok1 false (f := vs.length) (i := vs.length - 1) (by omega) (by omega))
    have HPOS : Hid (1 ≤ (jsonT false vs.length 0 (treeOf vs vs.length (vs.length - 1))).length) := by
      obtain ⟨f, hf⟩ : ∃ f, vs.length = f + 1 := ⟨vs.length - 1, by omega⟩
      have := jsonT_pos ok1 false f 0 (i := vs.length - 1) (by omega)
      rw [← hf] at this
      exact this
    have HB1 := hideIt hb1
    have HT2 : Hid (TreeAt w1.heap.size (w1.alloc (.cells #[.pointer none, .slice none 0 0, .bool false] 46)) vs.length (treeOf vs vs.length (vs.length - 1)) (.iface t x)) := TreeAt.keep (fun c hc => Below.heap_alloc _ _ _ hc) (Nat.le_refl _) ht
    have HFB := hideIt (fb_jnew w1 false)
    have HBW : Hid (Below w1.heap.size w1 (w1.alloc (.cells #[.pointer none, .slice none 0 0, .bool false] 46))) := (Below.refl _ _).alloc (Nat.le_refl _) _
    have HTB : Hid (TabB w1.heap.size (w1.alloc (.cells #[.pointer none, .slice none 0 0, .bool false] 46))) := ((HTAB.out.next HB1.out).wide z1).next HBW.out
    clear hv1 p2 p4 hb1 ht
    go_wp2_with fail
    refine (jwrite_any w1.heap.size w1.heap.size false ft_json vs.length 0 _ _ [] _ HFB.out HT2.out HFIT.out HTB.out (by simp) (by omega) (by rw [List.nil_append]; have := H16.out; omega)).mono ?_
    rintro e w3 ⟨rfl, f3, b3, _⟩
    rw [List.nil_append] at f3
    have HF3 := hideIt f3
    have HB3 := hideIt (HBW.out.trans b3)
    clear f3 b3
    go_wp2_with fail
    refine (fb_string HF3.out (fun e => by have := HPOS.out; rw [e] at this; simp at this)).mono ?_
    rintro e w4 ⟨rfl, b4⟩
    have HB4 := hideIt (HB1.out.trans ((HB3.out.trans b4).mono z1))
    clear b4
    go_wp2_with fail
    go_ret
    exact ⟨by rw [HP.out]; simp, HB4.out⟩

set_option maxRecDepth 100000 in
set_option maxHeartbeats 1600000 in
theorem implIndented_any (B : Nat) (v : Value) (vs : List VN) (w : World) (h : NodesAt B w v vs) (hB : B ≤ w.heap.size) (htab : TabB w.heap.size w) :
    Calls Tryd.prog 11 #[v] w fun e w' => e = .returned (.string (txt (jsonV true vs))) ∧ Below w.heap.size w w' := by
  have HV := hideIt h
  have HTAB := hideIt htab
  clear htab
  obtain ⟨_, a, cap, rfl, _⟩ := h
  go_enter Tryd.func11, Tryd.ntmps11
  go_wp2_with fail
  cases ok1 : okB vs
  · have HP := hideIt (jsonV_no (lines := true) ok1)
    refine (valueOf_no B _ vs _ HV.out hB ok1).mono ?_
    rintro e w1 ⟨rfl, hb1⟩
    go_wp2_with fail
    go_ret
    exact ⟨by rw [HP.out]; rfl, hb1⟩
  · have HP := hideIt (jsonV_yes (lines := true) ok1)
    refine (valueOf_yes B _ vs _ HV.out hB ok1).mono ?_
    rintro e w1 ⟨lo1, t, x, rfl, hl1, hl1', hv1, hb1⟩
    have z1 := hb1.size
    obtain ⟨p1, p2, _, p4⟩ := okB_parts ok1
    have ht := ValIs.tree (by omega) p2 p4 p1.2 (by omega) hv1
    have HFIT := hideIt (tfit_of ok1 vs.length (vs.length - 1) (by omega))
    have H16 := hideIt (jsonT_100k ok1 true (f := vs.length) (i := vs.length - 1) (by omega) (by omega))
    have HB1 := hideIt hb1
    have HT2 : Hid (TreeAt w1.heap.size (w1.alloc (.cells #[.pointer none, .slice none 0 0, .bool true] 46)) vs.length (treeOf vs vs.length (vs.length - 1)) (.iface t x)) := TreeAt.keep (fun c hc => Below.heap_alloc _ _ _ hc) (Nat.le_refl _) ht
    have HFB := hideIt (fb_jnew w1 true)
    have HBW : Hid (Below w1.heap.size w1 (w1.alloc (.cells #[.pointer none, .slice none 0 0, .bool true] 46))) := (Below.refl _ _).alloc (Nat.le_refl _) _
    have HTB : Hid (TabB w1.heap.size (w1.alloc (.cells #[.pointer none, .slice none 0 0, .bool true] 46))) := ((HTAB.out.next HB1.out).wide z1).next HBW.out
    clear hv1 p2 p4 hb1 ht
    go_wp2_with fail
    refine (jwrite_any w1.heap.size w1.heap.size true ft_json vs.length 0 _ _ [] _ HFB.out HT2.out HFIT.out HTB.out (by simp) (by omega) (by rw [List.nil_append]; have := H16.out; omega)).mono ?_
    rintro e w3 ⟨rfl, f3, b3, _⟩
    rw [List.nil_append] at f3
    have HF3 := hideIt f3
    have HB3 := hideIt (HBW.out.trans b3)
    have z3 := HB3.out.size
    clear f3 b3
    go_wp2_with fail
    refine (fb_byte ft_json HF3.out 10 (by have := H16.out; omega) z3).mono ?_
    rintro e w5 ⟨rfl, f5, b5, _⟩
    have HF5 := hideIt f5
    have HB5 := hideIt (HB3.out.trans b5)
    clear f5 b5
    go_wp2_with fail
    refine (fb_string HF5.out (fun e => by have := congrArg List.length e; simp at this)).mono ?_
    rintro e w4 ⟨rfl, b4⟩
    have HB4 := hideIt (HB1.out.trans ((HB5.out.trans b4).mono z1))
    clear b4
    go_wp2_with fail
    go_ret
    exact ⟨by rw [HP.out]; simp, HB4.out⟩

set_option maxRecDepth 100000 in
set_option maxHeartbeats 1600000 in
theorem specJson_any (B : Nat) (v : Value) (vs : List VN) (w : World) (h : NodesAt B w v vs) (hB : B ≤ w.heap.size) :
    Calls Tryd.prog 6 #[v] w fun e w' => e = .returned (.string (txt (jsonV false vs))) ∧ Below w.heap.size w w' := by
  have HV := hideIt h
  obtain ⟨_, a, cap, rfl, _⟩ := h
  go_enter Tryd.func6, Tryd.ntmps6
  go_wp2_with fail
  refine (specOk_any B _ vs _ HV.out hB).mono ?_
  rintro e w1 ⟨rfl, hb1⟩
  have z1 := hb1.size
  cases ok1 : okB vs
  · have HP := hideIt (jsonV_no (lines := false) ok1)
    go_wp2_with fail
    go_ret
    exact ⟨by rw [HP.out]; rfl, hb1⟩
  · have HP := hideIt (jsonV_yes (lines := false) ok1)
    obtain ⟨p1, _⟩ := okB_parts ok1
    have HTX := hideIt (l2Text_any B vs ok1 false vs.length _ (vs.length - 1) 0 w1 (HV.out.below (hb1.mono hB)) (by omega) (by omega) (by omega) (by omega))
    obtain ⟨N, hN⟩ : ∃ N, vs.length = N := ⟨_, rfl⟩
    have e1 : ((N - 1 : Nat) : Int) = (N : Int) - 1 := by omega
    rw [hN] at HTX HP p1 ⊢
    rw [e1] at HTX
    have HB1 := hideIt hb1
    clear hN hb1
    go_wp2_with (first | (go_at_call 14; go_in) | (go_at_call 20; refine HTX.out.mono ?_; rintro e w2 ⟨rfl, hb2⟩))
    go_ret
    exact ⟨by rw [HP.out]; simp, HB1.out.trans (hb2.mono z1)⟩

set_option maxRecDepth 100000 in
set_option maxHeartbeats 1600000 in
theorem specIndented_any (B : Nat) (v : Value) (vs : List VN) (w : World) (h : NodesAt B w v vs) (hB : B ≤ w.heap.size) :
    Calls Tryd.prog 10 #[v] w fun e w' => e = .returned (.string (txt (jsonV true vs))) ∧ Below w.heap.size w w' := by
  have HV := hideIt h
  obtain ⟨_, a, cap, rfl, _⟩ := h
  go_enter Tryd.func10, Tryd.ntmps10
  go_wp2_with fail
  refine (specOk_any B _ vs _ HV.out hB).mono ?_
  rintro e w1 ⟨rfl, hb1⟩
  have z1 := hb1.size
  cases ok1 : okB vs
  · have HP := hideIt (jsonV_no (lines := true) ok1)
    go_wp2_with fail
    go_ret
    exact ⟨by rw [HP.out]; rfl, hb1⟩
  · have HP := hideIt (jsonV_yes (lines := true) ok1)
    obtain ⟨p1, _⟩ := okB_parts ok1
    have HTX := hideIt (l2Text_any B vs ok1 true vs.length _ (vs.length - 1) 0 w1 (HV.out.below (hb1.mono hB)) (by omega) (by omega) (by omega) (by omega))
    have H16 := hideIt (jsonT_100k ok1 true (f := vs.length) (i := vs.length - 1) (by omega) (by omega))
    obtain ⟨N, hN⟩ : ∃ N, vs.length = N := ⟨_, rfl⟩
    have e1 : ((N - 1 : Nat) : Int) = (N : Int) - 1 := by omega
    rw [hN] at HTX HP p1 H16 ⊢
    rw [e1] at HTX
    obtain ⟨D, hD⟩ : ∃ D, jsonT true N 0 (treeOf vs N (N - 1)) = D := ⟨_, rfl⟩
    rw [hD] at HTX HP H16
    have hzd : (txt D).size ≤ 100000 := by rw [txt_size]; exact H16.out
    have HB1 := hideIt hb1
    clear hN hb1 hD
    go_wp2_with fail
    refine HTX.out.mono ?_
    rintro e w2 ⟨rfl, hb2⟩
    have HB2 := hideIt (HB1.out.trans (hb2.mono z1))
    clear hb2
    go_wp2_with fail
    go_ret
    exact ⟨by rw [HP.out]; exact ret_str (app_txt _ _), HB2.out⟩
end Go.Proofs.YtgikginlgjglfaaDoor
