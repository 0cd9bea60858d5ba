/-
  The law of Order: the call returns true and turns nothing that was there.
-/
import Derived.Test.YtpfnkpkcjefelaaSz
import Derived.Test.YtpfnkpkcjefelaaEq
import Derived.Test.YtpfnkpkcjefelaaOrdI
namespace Go.Proofs.Ytpfnkpkcjefelaa
open Go.RowKit
set_option linter.unusedSimpArgs false
set_option linter.unusedVariables false

set_option maxRecDepth 100000 in
set_option maxHeartbeats 3200000 in
theorem lawOrder_walk (v v' : Value) (us vs : List VN) (w : World) (h : RawNodes w.heap.size w v us) (h' : RawNodes w.heap.size w v' vs) :
    Calls Try.prog 7 #[v, v'] w fun e w' => e = .returned (.bool true) ∧ Below w.heap.size w w' := by
  have H := hideIt h
  have H' := hideIt h'
  obtain ⟨_, a, cap, rfl, _⟩ := h
  obtain ⟨_, a', cap', rfl, _⟩ := h'
  go_enter Try.func7, Try.ntmps7
  go_wp2_with fail
  refine (szVNodeS_any w.heap.size _ us 1048576 _ H.out (Nat.le_refl _) (by omega) (by omega)).mono ?_
  rintro e w1 ⟨⟨q, rfl, hq, hs⟩, hb1⟩
  have HS := hideIt hs
  clear hs
  have z1 := hb1.size
  by_cases hq0 : q < 0
  · go_wp2_with fail
    go_ret
    exact ⟨rfl, hb1⟩
  have HN := hideIt (H.out.fit (HS.out (by omega)).1 (HS.out (by omega)).2)
  have HF := hideIt HN.out.fits
  have HL := hideIt HN.out.1
  go_wp2_with fail
  refine (szVNodeS_any w.heap.size _ vs q _ (H'.out.below hb1) (by omega) (by omega) (by omega)).mono ?_
  rintro e w2 ⟨⟨q', rfl, hq', hs'⟩, hb2⟩
  have HS' := hideIt hs'
  clear hs'
  have HB2 := hideIt (Below.next hb1 hb2)
  have z2 := HB2.out.size
  clear hb2 hb1
  by_cases hq1 : q' < 0
  · go_wp2_with fail
    go_ret
    exact ⟨rfl, HB2.out⟩
  have HN' := hideIt (H'.out.fit (HS'.out (by omega)).1 (HS'.out (by omega)).2)
  have HF' := hideIt HN'.out.fits
  have HL' := hideIt HN'.out.1
  go_wp2_with fail
  refine (toVNodeS_any w.heap.size _ us _ (HN.out.below HB2.out) (by omega)).mono ?_
  rintro e w3 ⟨KB3, KI3, rfl, ho3, hb3⟩
  have HO3 := hideIt ho3
  have HB3 := hideIt (Below.next HB2.out hb3)
  have z3 := HB3.out.size
  clear ho3 hb3
  go_wp2_with fail
  refine (toVNodeS_any w.heap.size _ vs _ (HN'.out.below HB3.out) (by omega)).mono ?_
  rintro e w4 ⟨KB4, KI4, rfl, ho4, hb4⟩
  have HO4 := hideIt ho4
  have HO3' := hideIt (HO3.out.below hb4)
  have HB4 := hideIt (Below.next HB3.out hb4)
  have z4 := HB4.out.size
  clear ho4 hb4
  go_wp2_with fail
  refine (specOrder_any w4.heap.size _ _ us vs _ (HO3'.out.nodes HL.out HF.out) (HO4.out.nodes HL'.out HF'.out) (Nat.le_refl _)).mono ?_
  rintro e w5 ⟨rfl, hb5⟩
  have HB5 := hideIt (Below.next HB4.out hb5)
  have z5 := HB5.out.size
  clear hb5
  go_wp2_with fail
  refine (toVNodeS_any w.heap.size _ us _ (HN.out.below HB5.out) (by omega)).mono ?_
  rintro e w6 ⟨KB6, KI6, rfl, ho6, hb6⟩
  have HO6 := hideIt ho6
  have HB6 := hideIt (Below.next HB5.out hb6)
  have z6 := HB6.out.size
  clear ho6 hb6
  go_wp2_with fail
  refine (toVNodeS_any w.heap.size _ vs _ (HN'.out.below HB6.out) (by omega)).mono ?_
  rintro e w7 ⟨KB7, KI7, rfl, ho7, hb7⟩
  have HO7 := hideIt ho7
  have HO6' := hideIt (HO6.out.below hb7)
  have HB7 := hideIt (Below.next HB6.out hb7)
  have z7 := HB7.out.size
  clear ho7 hb7
  go_wp2_with fail
  refine (implOrder_any w7.heap.size _ _ us vs _ (HO6'.out.nodes HL.out HF.out) (HO7.out.nodes HL'.out HF'.out) (Nat.le_refl _)).mono ?_
  rintro e w8 ⟨rfl, hb8⟩
  have HO6b := hideIt (HO6'.out.below hb8)
  have HO7b := hideIt (HO7.out.below hb8)
  have HB8 := hideIt (Below.next HB7.out hb8)
  have z8 := HB8.out.size
  clear hb8
  have qe : (orderOf us vs != orderOf us vs) = false := by simp
  go_wp2_with fail
  refine (toVNodeS_any w.heap.size _ us _ (HN.out.below HB8.out) (by omega)).mono ?_
  rintro e w9 ⟨KB9, KI9, rfl, ho9, hb9⟩
  have HO9 := hideIt ho9
  have HO6c := hideIt (HO6b.out.below hb9)
  have HO7c := hideIt (HO7b.out.below hb9)
  have HB9 := hideIt (Below.next HB8.out hb9)
  have z9 := HB9.out.size
  clear ho9 hb9
  go_wp2_with fail
  refine (eqVNodeS_any w9.heap.size _ _ us _ (HO6c.out.nodes HL.out HF.out) (HO9.out.nodes HL.out HF.out) (Nat.le_refl _)).mono ?_
  rintro e w10 ⟨rfl, hb10⟩
  have HO7d := hideIt (HO7c.out.below hb10)
  have HB10 := hideIt (Below.next HB9.out hb10)
  have z10 := HB10.out.size
  clear hb10
  go_wp2_with fail
  refine (toVNodeS_any w.heap.size _ vs _ (HN'.out.below HB10.out) (by omega)).mono ?_
  rintro e w11 ⟨KB11, KI11, rfl, ho11, hb11⟩
  have HO11 := hideIt ho11
  have HO7e := hideIt (HO7d.out.below hb11)
  have HB11 := hideIt (Below.next HB10.out hb11)
  clear ho11 hb11
  go_wp2_with fail
  refine (eqVNodeS_any w11.heap.size _ _ vs _ (HO7e.out.nodes HL'.out HF'.out) (HO11.out.nodes HL'.out HF'.out) (Nat.le_refl _)).mono ?_
  rintro e w12 ⟨rfl, hb12⟩
  have HB12 := hideIt (Below.next HB11.out hb12)
  clear hb12
  go_wp2_with fail
  go_ret
  exact ⟨rfl, HB12.out⟩
end Go.Proofs.Ytpfnkpkcjefelaa
