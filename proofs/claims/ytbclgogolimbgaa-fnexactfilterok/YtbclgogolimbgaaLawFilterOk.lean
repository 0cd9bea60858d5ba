/-
  The law of FilterOk: the call returns true and turns nothing that was there.
-/
import Derived.Test.YtbclgogolimbgaaFOp
import Derived.Test.YtbclgogolimbgaaFToS
import Derived.Test.YtbclgogolimbgaaFEq
import Derived.Test.YtbclgogolimbgaaFSpc3
import Derived.Test.YtbclgogolimbgaaFImp2
namespace Go.Proofs.Ytbclgogolimbgaa
open Go.RowKit
set_option linter.unusedSimpArgs false
set_option linter.unusedVariables false

set_option maxRecDepth 100000 in
set_option maxHeartbeats 3200000 in
theorem lawFilterOk_walk (v : Value) (fs : List FN) (w : World) (h : RawFNodes w.heap.size w v fs) :
    Calls Try.prog 7 #[v] w fun e w' => e = .returned (.bool true) ∧ Below w.heap.size w w' := by
  have H := hideIt h
  obtain ⟨_, a, cap, rfl, _⟩ := h
  go_enter Try.func7, Try.ntmps7
  go_wp2_with fail
  refine (szFNodeS_any w.heap.size _ fs 1048576 _ H.out (Nat.le_refl _) (by omega) (by omega)).mono ?_
  rintro e w1 ⟨⟨q, rfl, hq, hs⟩, hb1⟩
  have HS := hideIt hs
  clear hs
  by_cases hq0 : q < 0
  · go_wp2_with fail
    go_ret
    exact ⟨rfl, hb1⟩
  · have HN := hideIt (H.out.fit (HS.out (by omega)).1 (HS.out (by omega)).2)
    have z1 := hb1.size
    go_wp2_with fail
    refine (toFNodeS_any w.heap.size _ fs _ (HN.out.below hb1) (by omega)).mono ?_
    rintro e w2 ⟨rfl, ho2, hb2⟩
    have HO2 := hideIt ho2
    have z2 := hb2.size
    clear ho2
    go_wp2_with fail
    refine (specFilterOk_any w2.heap.size _ fs _ HO2.out (Nat.le_refl _)).mono ?_
    rintro e w3 ⟨rfl, hb3⟩
    have z3 := hb3.size
    have hb13 : Below w.heap.size w w3 := (hb1.trans (hb2.mono z1)).trans (hb3.mono (by omega))
    go_wp2_with fail
    refine (toFNodeS_any w.heap.size _ fs _ (HN.out.below hb13) (by omega)).mono ?_
    rintro e w4 ⟨rfl, ho4, hb4⟩
    have HO4 := hideIt ho4
    have z4 := hb4.size
    clear ho4
    go_wp2_with fail
    refine (implFilterOk_any w4.heap.size _ fs _ HO4.out (Nat.le_refl _)).mono ?_
    rintro e w5 ⟨rfl, hb5⟩
    have z5 := hb5.size
    have hb15 : Below w.heap.size w w5 := (hb13.trans (hb4.mono (by omega))).trans (hb5.mono (by omega))
    have HO5 := hideIt (HO4.out.below hb5)
    go_wp2_with fail
    all_goals
      refine (toFNodeS_any w.heap.size _ fs _ (HN.out.below hb15) (by omega)).mono ?_
      rintro e w6 ⟨rfl, ho6, hb6⟩
      have HO6 := hideIt ho6
      have z6 := hb6.size
      clear ho6
      go_wp2_with fail
      refine (eqFNodeS_any w6.heap.size _ _ fs _ ((HO5.out.below (hb6.mono (by omega))).wide (by omega)) HO6.out (Nat.le_refl _)).mono ?_
      rintro e w7 ⟨rfl, hb7⟩
      go_wp2_with fail
      go_ret
      exact ⟨rfl, (hb15.trans (hb6.mono (by omega))).trans (hb7.mono (by omega))⟩
end Go.Proofs.Ytbclgogolimbgaa
