/-
  The law FnLaid: the call returns true and turns nothing that was there.
-/
import Derived.Test.YtpakfgonemiebaaTakQ
import Derived.Test.YtpakfgonemiebaaRd
import Derived.Test.YtpakfgonemiebaaOrdZ
import Derived.Test.YtpakfgonemiebaaSame
import Derived.Test.YtpakfgonemiebaaPathsP
import Derived.Test.YtpakfgonemiebaaRows
import Derived.ProofKit
import Derived.OpenShut
import Derived.ShutString
import Derived.ChangeOld
import Derived.Below
namespace Go.Proofs.Ytpakfgonemiebaa
open Go.RowKit
set_option linter.unusedSimpArgs false
set_option linter.unusedVariables false

theorem NodesAt.onL {B : Nat} {w w' : World} {v : Value} {vs : List VN} (h : NodesAt B w v vs) (hB : B ≤ w.heap.size) (hb : Below w.heap.size w w') : NodesAt w'.heap.size w' v vs := (h.below (hb.mono hB)).wide (Nat.le_trans hB hb.size)
theorem StepsAt.onL {B : Nat} {w w' : World} {v : Value} {ps : List PS} (h : StepsAt B w v ps) (hB : B ≤ w.heap.size) (hb : Below w.heap.size w w') : StepsAt w'.heap.size w' v ps := (h.below (hb.mono hB)).wide (Nat.le_trans hB hb.size)
theorem own_capL {base e n k : Nat} {w : World} {a : Option Addr} {c : Nat} {xs : List Value} (h : w.ownsRow base e k (.slice a n c) n xs) : n ≤ c := by
  rcases h.2 with ⟨e1, e2⟩ | ⟨g', cap', cur, e1, _, _, h1, _⟩
  · simp only [Value.slice.injEq] at e1; omega
  · simp only [Value.slice.injEq] at e1
    obtain ⟨_, _, rfl⟩ := e1
    exact h1

set_option maxRecDepth 100000 in
set_option maxHeartbeats 12800000 in
theorem lawFnLaid_walk (v : Value) (n : Nat) (w : World) (h : RawCode w v n) :
    Calls Try.prog 3 #[v] w fun e w' => e = .returned (.bool true) ∧ Below w.heap.size w w' := by
  obtain ⟨hn, a, cap, rfl, hc⟩ := h
  have HCL : Hid (n ≤ 1048576 → CodeAt w.heap.size w (.slice a n cap) n) := fun h => ⟨h, a, cap, rfl, hc⟩
  clear hc
  go_enter Try.func3, Try.ntmps3
  go_wp2_with fail
  refine (big_any a n cap w hn).mono ?_
  rintro e w1 ⟨rfl, rfl⟩
  by_cases hbig : 1048576 < n
  · go_wp2_with fail
    go_ret
    exact ⟨rfl, Below.refl _ _⟩
  have HC := hideIt (HCL.out (by omega))
  clear HCL
  go_wp2_with fail
  refine (drawLaid_any w1.heap.size _ n w1 HC.out (Nat.le_refl _)).mono ?_
  rintro e w2 ⟨r, vs, KV, IV, u, ps, r2, ws, KW, IW, rfl, hf1, hsh, hf2, hn1, ho1, hn2, hb2⟩
  have HF := hideIt (hf1.few (show 40 ≤ 80 by omega))
  have HFW := hideIt (hf2.few (show 80 ≤ 80 by omega))
  have HV2 := hideIt (hn1.nodes (by have : vs.length ≤ 40 := hf1.2.1; omega) HF.out.2)
  have HW2 := hideIt (hn2.nodes (by have : ws.length ≤ 80 := hf2.2.1; omega) HFW.out.2)
  have HU2 := hideIt (own_steps ho1 (hsh.wide (by omega)))
  have hpl : ps.length ≤ 1001 := hsh.1
  have HB2 := hideIt hb2
  have z2 := hb2.size
  have HTF := hideIt (laid_few vs ps ws)
  obtain ⟨ar, cr, er⟩ := own_slice hn1.row
  obtain ⟨M, hM⟩ : ∃ M, vs.length = M := ⟨_, rfl⟩
  rw [hM] at er
  subst er
  obtain ⟨az, cz, ez⟩ := own_slice hn2.row
  obtain ⟨MZ, hMZ⟩ : ∃ M, ws.length = M := ⟨_, rfl⟩
  rw [hMZ] at ez
  subst ez
  obtain ⟨au, cu, eu⟩ := own_slice ho1
  subst eu
  have hcu := own_capL ho1
  obtain ⟨N, hN⟩ : ∃ N, ps.length = N := ⟨_, rfl⟩
  have HNN := hideIt hN
  rw [hN] at hcu hpl HU2 ⊢
  have HGL : Hid (gotB vs ps = true → laidB vs ps (gotNs vs ps) = true ∧ laidNs vs ps (gotNs vs ps) = vs ∧ okB (gotNs vs ps) = true) := fun h => by
    obtain ⟨h1, h2⟩ := got_laid h
    obtain ⟨_, _, _, _, _, _, _, h3⟩ := laid_ok h1
    exact ⟨h1, h2, h3⟩
  have HLG : Hid (laidB vs ps ws = true → gotB (laidNs vs ps ws) ps = true ∧ gotNs (laidNs vs ps ws) ps = ws ∧ laidB (laidNs vs ps ws) ps ws = true ∧ laidNs (laidNs vs ps ws) ps ws = laidNs vs ps ws ∧ okB (laidNs vs ps ws) = true) := laid_got
  obtain ⟨LB, hLB⟩ : ∃ LB, laidB vs ps ws = LB := ⟨_, rfl⟩
  obtain ⟨GB, hGB⟩ : ∃ GB, gotB vs ps = GB := ⟨_, rfl⟩
  obtain ⟨G, hG⟩ : ∃ G, gotNs vs ps = G := ⟨_, rfl⟩
  obtain ⟨X, hX⟩ : ∃ X, laidNs vs ps ws = X := ⟨_, rfl⟩
  rw [hLB, hX] at HLG
  rw [hGB, hG] at HGL
  rw [hX] at HTF
  have HLB := hideIt hLB
  have HGB := hideIt hGB
  have HG := hideIt hG
  have HX := hideIt hX
  obtain ⟨XL, hXL⟩ : ∃ XL, X.length = XL := ⟨_, rfl⟩
  have HXL := hideIt hXL
  have HMM := hideIt hM
  have HMZ := hideIt hMZ
  clear hf1 hsh hf2 hn1 hn2 ho1 hb2 hM hMZ hN hLB hGB hG hX hXL HC
  go_wp2_with fail
  refine (implLaid_any w2.heap.size _ _ _ vs ps ws w2 HV2.out HU2.out (fun _ _ _ e => by cases e; exact hcu) HW2.out (Nat.le_refl _)).mono ?_
  rintro e w3 ⟨r3, base3, K3, I3, rfl, _, _, hn3, hb3⟩
  rw [HX.out] at hn3
  rw [HLB.out]
  have HX3 := hideIt (hn3.nodes (Nat.le_trans HTF.out.1.1 (by omega)) HTF.out.2)
  have HV3 := hideIt (HV2.out.onL (Nat.le_refl _) hb3)
  have HW3 := hideIt (HW2.out.onL (Nat.le_refl _) hb3)
  have HU3 := hideIt (HU2.out.onL (Nat.le_refl _) hb3)
  have HB3 := hideIt (HB2.out.trans (hb3.mono z2))
  have z3 := hb3.size
  obtain ⟨a3, c3, e3⟩ := own_slice hn3.row
  have hcx := own_capL (e3 ▸ hn3.row)
  rw [HXL.out] at e3
  subst e3
  clear hn3 hb3 HV2 HU2 HW2
  go_wp2_with fail
  refine (specLaid_any w3.heap.size _ _ _ vs ps ws w3 HV3.out HU3.out (fun _ _ _ e => by cases e; exact hcu) HW3.out (Nat.le_refl _)).mono ?_
  rintro e w4 ⟨r4, base4, K4, I4, rfl, _, hn4, hb4⟩
  rw [HX.out] at hn4
  rw [HLB.out]
  have HY4 := hideIt (hn4.nodes (Nat.le_trans HTF.out.1.1 (by omega)) HTF.out.2)
  have HX4 := hideIt (HX3.out.onL (Nat.le_refl _) hb4)
  have HV4 := hideIt (HV3.out.onL (Nat.le_refl _) hb4)
  have HW4 := hideIt (HW3.out.onL (Nat.le_refl _) hb4)
  have HU4 := hideIt (HU3.out.onL (Nat.le_refl _) hb4)
  have HB4 := hideIt (HB3.out.trans (hb4.mono (by omega)))
  have z4 := hb4.size
  obtain ⟨a4, c4, e4⟩ := own_slice hn4.row
  rw [HXL.out] at e4
  subst e4
  clear hn4 hb4 HV3 HU3 HX3 HW3
  go_wp2_with fail
  refine (implGot_any w4.heap.size _ _ vs ps w4 HV4.out HU4.out (Nat.le_refl _)).mono ?_
  rintro e w5 ⟨r5, base5, K5, I5, rfl, _, _, hn5, hb5⟩
  rw [HGB.out]
  rw [HG.out] at hn5
  have HN5 := hideIt hn5
  have HY5 := hideIt (HY4.out.onL (Nat.le_refl _) hb5)
  have HX5 := hideIt (HX4.out.onL (Nat.le_refl _) hb5)
  have HV5 := hideIt (HV4.out.onL (Nat.le_refl _) hb5)
  have HW5 := hideIt (HW4.out.onL (Nat.le_refl _) hb5)
  have HU5 := hideIt (HU4.out.onL (Nat.le_refl _) hb5)
  have HB5 := hideIt (HB4.out.trans (hb5.mono (by omega)))
  have z5 := hb5.size
  obtain ⟨a5, c5, e5⟩ := own_slice hn5.row
  obtain ⟨G5, hG5⟩ : ∃ G5, G.length = G5 := ⟨_, rfl⟩
  rw [hG5] at e5
  subst e5
  clear hn5 hb5 HV4 HU4 HX4 HY4 HW4 hG5
  have hne : (LB != LB) = false := by simp
  go_wp2_with fail
  refine (same_any w5.heap.size _ _ X X w5 HX5.out HY5.out (Nat.le_refl _)).mono ?_
  rintro e w6 ⟨⟨b6, rfl, hb6'⟩, hb6⟩
  obtain rfl : b6 = true := hb6'.2 rfl
  have HX6 := hideIt (HX5.out.onL (Nat.le_refl _) hb6)
  have HV6 := hideIt (HV5.out.onL (Nat.le_refl _) hb6)
  have HW6 := hideIt (HW5.out.onL (Nat.le_refl _) hb6)
  have HU6 := hideIt (HU5.out.onL (Nat.le_refl _) hb6)
  have HN6 := hideIt (HN5.out.below hb6)
  have HB6 := hideIt (HB5.out.trans (hb6.mono (by omega)))
  have z6 := hb6.size
  clear hb6' hb6 HX5 HY5 HV5 HW5 HU5 HN5
  have HREST : Hid (∀ (W : World), Below w6.heap.size w6 W → LB = true → (gotB X ps = true ∧ gotNs X ps = ws ∧ laidB X ps ws = true ∧ laidNs X ps ws = X ∧ okB X = true) ∧ NodesAt W.heap.size W (.slice a3 XL c3) X ∧ NodesAt W.heap.size W (.slice az MZ cz) ws ∧ StepsAt W.heap.size W (.slice au N cu) ps ∧ Below w1.heap.size w1 W) := fun W hb h => ⟨HLG.out h, HX6.out.onL (Nat.le_refl _) hb, HW6.out.onL (Nat.le_refl _) hb, HU6.out.onL (Nat.le_refl _) hb, HB6.out.trans (hb.mono (by omega))⟩
  cases GB
  · cases LB
    · go_wp2_with fail
      go_ret
      exact ⟨rfl, HB6.out⟩
    · obtain ⟨⟨l1, l2, l3, l4, l5⟩, hx, hz, hu, hbw⟩ := HREST.out w6 (Below.refl _ _) rfl
      have HL := hideIt (And.intro l1 (And.intro l2 (And.intro l3 (And.intro l4 l5))))
      have HXX := hideIt hx
      have HZZ := hideIt hz
      have HUU := hideIt hu
      have HBW := hideIt hbw
      clear l1 l2 l3 l4 l5 hx hz hu hbw HREST
      go_wp2_with fail
      obtain ⟨W, hW⟩ : ∃ W, w6 = W := ⟨_, rfl⟩
      rw [hW] at HXX HZZ HUU HBW ⊢
      clear hW
      have zW := HBW.out.size
      refine (implGot_any W.heap.size _ _ X ps W HXX.out HUU.out (Nat.le_refl _)).mono ?_
      rintro e x1 ⟨r9, base9, K9, I9, rfl, _, _, hn9, hb9⟩
      rw [HL.out.1]
      rw [HL.out.2.1] at hn9
      have HX1 := hideIt (HXX.out.onL (Nat.le_refl _) hb9)
      have HZ1 := hideIt (HZZ.out.onL (Nat.le_refl _) hb9)
      have HU1 := hideIt (HUU.out.onL (Nat.le_refl _) hb9)
      have HY1 := hideIt (hn9.nodes (Nat.le_trans HFW.out.1.1 (by omega)) HFW.out.2)
      have HBW1 := hideIt (HBW.out.trans (hb9.mono (by omega)))
      have y1 := hb9.size
      obtain ⟨a9, c9, e9⟩ := own_slice hn9.row
      rw [HMZ.out] at e9
      subst e9
      clear hn9 hb9 HXX HZZ HUU
      go_wp2_with fail
      refine (implLaid_any x1.heap.size _ _ _ X ps ws x1 HX1.out HU1.out (fun _ _ _ e => by cases e; exact hcu) HZ1.out (Nat.le_refl _)).mono ?_
      rintro e x2 ⟨r10, base10, K10, I10, rfl, _, _, hn10, hb10⟩
      rw [HL.out.2.2.1]
      rw [HL.out.2.2.2.1] at hn10
      have HX2 := hideIt (HX1.out.onL (Nat.le_refl _) hb10)
      have HZ2 := hideIt (HZ1.out.onL (Nat.le_refl _) hb10)
      have HY2 := hideIt (HY1.out.onL (Nat.le_refl _) hb10)
      have HA2 := hideIt (hn10.nodes (Nat.le_trans HTF.out.1.1 (by omega)) HTF.out.2)
      have HBW2 := hideIt (HBW1.out.trans (hb10.mono (by omega)))
      have y2 := hb10.size
      obtain ⟨a10, c10, e10⟩ := own_slice hn10.row
      rw [HXL.out] at e10
      subst e10
      clear hn10 hb10 HX1 HZ1 HU1 HY1
      go_wp2_with fail
      refine (same_any x2.heap.size _ _ ws ws x2 HY2.out HZ2.out (Nat.le_refl _)).mono ?_
      rintro e x3 ⟨⟨b11, rfl, hb11'⟩, hb11⟩
      obtain rfl : b11 = true := hb11'.2 rfl
      have HX3 := hideIt (HX2.out.onL (Nat.le_refl _) hb11)
      have HA3 := hideIt (HA2.out.onL (Nat.le_refl _) hb11)
      have HBW3 := hideIt (HBW2.out.trans (hb11.mono (by omega)))
      have y3 := hb11.size
      clear hb11' hb11
      go_wp2_with fail
      refine (same_any x3.heap.size _ _ X X x3 HA3.out HX3.out (Nat.le_refl _)).mono ?_
      rintro e x4 ⟨⟨b12, rfl, hb12'⟩, hb12⟩
      obtain rfl : b12 = true := hb12'.2 rfl
      have HX4 := hideIt (HX3.out.onL (Nat.le_refl _) hb12)
      have HBW4 := hideIt (HBW3.out.trans (hb12.mono (by omega)))
      have y4 := hb12.size
      clear hb12' hb12
      go_wp2_with fail
      refine (implOk_any x4.heap.size _ X x4 HX4.out (Nat.le_refl _)).mono ?_
      rintro e x5 ⟨rfl, hb13⟩
      rw [HL.out.2.2.2.2]
      have HBW5 := hideIt (HBW4.out.trans (hb13.mono (by omega)))
      clear hb13
      go_wp2_with fail
      go_ret
      exact ⟨rfl, HBW5.out⟩
  · obtain ⟨g1, g2, g3⟩ := HGL.out rfl
    have HG1 := hideIt g1
    have HG2 := hideIt g2
    have HG3 := hideIt g3
    have HGN : Hid (NodesAt w6.heap.size w6 (.slice a5 G5 c5) G) := HN6.out.nodes (Nat.le_trans (ok_fits g3).1.1 (by omega)) (ok_fits g3).2
    clear g1 g2 g3
    go_wp2_with fail
    refine (implLaid_any w6.heap.size _ _ _ vs ps G w6 HV6.out HU6.out (fun _ _ _ e => by cases e; exact hcu) HGN.out (Nat.le_refl _)).mono ?_
    rintro e w7 ⟨r7, base7, K7, I7, rfl, _, _, hn7, hb7⟩
    rw [HG1.out]
    rw [HG2.out] at hn7
    have HV7 := hideIt (HV6.out.onL (Nat.le_refl _) hb7)
    have HY7 := hideIt (hn7.nodes (Nat.le_trans HF.out.1.1 (by omega)) HF.out.2)
    have H67 := hideIt hb7
    have z7 := hb7.size
    obtain ⟨a7, c7, e7⟩ := own_slice hn7.row
    rw [HMM.out] at e7
    subst e7
    clear hn7 hb7
    go_wp2_with fail
    refine (same_any w7.heap.size _ _ vs vs w7 HY7.out HV7.out (Nat.le_refl _)).mono ?_
    rintro e w8 ⟨⟨b8, rfl, hb8'⟩, hb8⟩
    obtain rfl : b8 = true := hb8'.2 rfl
    have H68 := hideIt (H67.out.trans (hb8.mono z7))
    clear hb8' hb8
    cases LB
    · have HB8 := hideIt (HB6.out.trans (H68.out.mono (by omega)))
      go_wp2_with fail
      go_ret
      exact ⟨rfl, HB8.out⟩
    · obtain ⟨⟨l1, l2, l3, l4, l5⟩, hx, hz, hu, hbw⟩ := HREST.out w8 H68.out rfl
      have HL := hideIt (And.intro l1 (And.intro l2 (And.intro l3 (And.intro l4 l5))))
      have HXX := hideIt hx
      have HZZ := hideIt hz
      have HUU := hideIt hu
      have HBW := hideIt hbw
      clear l1 l2 l3 l4 l5 hx hz hu hbw HREST
      go_wp2_with fail
      obtain ⟨W, hW⟩ : ∃ W, w8 = W := ⟨_, rfl⟩
      rw [hW] at HXX HZZ HUU HBW ⊢
      clear hW
      have zW := HBW.out.size
      refine (implGot_any W.heap.size _ _ X ps W HXX.out HUU.out (Nat.le_refl _)).mono ?_
      rintro e x1 ⟨r9, base9, K9, I9, rfl, _, _, hn9, hb9⟩
      rw [HL.out.1]
      rw [HL.out.2.1] at hn9
      have HX1 := hideIt (HXX.out.onL (Nat.le_refl _) hb9)
      have HZ1 := hideIt (HZZ.out.onL (Nat.le_refl _) hb9)
      have HU1 := hideIt (HUU.out.onL (Nat.le_refl _) hb9)
      have HY1 := hideIt (hn9.nodes (Nat.le_trans HFW.out.1.1 (by omega)) HFW.out.2)
      have HBW1 := hideIt (HBW.out.trans (hb9.mono (by omega)))
      have y1 := hb9.size
      obtain ⟨a9, c9, e9⟩ := own_slice hn9.row
      rw [HMZ.out] at e9
      subst e9
      clear hn9 hb9 HXX HZZ HUU
      go_wp2_with fail
      refine (implLaid_any x1.heap.size _ _ _ X ps ws x1 HX1.out HU1.out (fun _ _ _ e => by cases e; exact hcu) HZ1.out (Nat.le_refl _)).mono ?_
      rintro e x2 ⟨r10, base10, K10, I10, rfl, _, _, hn10, hb10⟩
      rw [HL.out.2.2.1]
      rw [HL.out.2.2.2.1] at hn10
      have HX2 := hideIt (HX1.out.onL (Nat.le_refl _) hb10)
      have HZ2 := hideIt (HZ1.out.onL (Nat.le_refl _) hb10)
      have HY2 := hideIt (HY1.out.onL (Nat.le_refl _) hb10)
      have HA2 := hideIt (hn10.nodes (Nat.le_trans HTF.out.1.1 (by omega)) HTF.out.2)
      have HBW2 := hideIt (HBW1.out.trans (hb10.mono (by omega)))
      have y2 := hb10.size
      obtain ⟨a10, c10, e10⟩ := own_slice hn10.row
      rw [HXL.out] at e10
      subst e10
      clear hn10 hb10 HX1 HZ1 HU1 HY1
      go_wp2_with fail
      refine (same_any x2.heap.size _ _ ws ws x2 HY2.out HZ2.out (Nat.le_refl _)).mono ?_
      rintro e x3 ⟨⟨b11, rfl, hb11'⟩, hb11⟩
      obtain rfl : b11 = true := hb11'.2 rfl
      have HX3 := hideIt (HX2.out.onL (Nat.le_refl _) hb11)
      have HA3 := hideIt (HA2.out.onL (Nat.le_refl _) hb11)
      have HBW3 := hideIt (HBW2.out.trans (hb11.mono (by omega)))
      have y3 := hb11.size
      clear hb11' hb11
      go_wp2_with fail
      refine (same_any x3.heap.size _ _ X X x3 HA3.out HX3.out (Nat.le_refl _)).mono ?_
      rintro e x4 ⟨⟨b12, rfl, hb12'⟩, hb12⟩
      obtain rfl : b12 = true := hb12'.2 rfl
      have HX4 := hideIt (HX3.out.onL (Nat.le_refl _) hb12)
      have HBW4 := hideIt (HBW3.out.trans (hb12.mono (by omega)))
      have y4 := hb12.size
      clear hb12' hb12
      go_wp2_with fail
      refine (implOk_any x4.heap.size _ X x4 HX4.out (Nat.le_refl _)).mono ?_
      rintro e x5 ⟨rfl, hb13⟩
      rw [HL.out.2.2.2.2]
      have HBW5 := hideIt (HBW4.out.trans (hb13.mono (by omega)))
      clear hb13
      go_wp2_with fail
      go_ret
      exact ⟨rfl, HBW5.out⟩
end Go.Proofs.Ytpakfgonemiebaa

/-
  PROVED: for every code of bytes the law FnLaid returns true: what is laid at a path is got there, laid again nothing changes, and what was got, laid back, changes nothing. No condition beyond the row's own.
-/
namespace Go.Proofs.Ytpakfgonemiebaa
open Go.ChangeShapes Go.WideShapes Go.ChangeAt Go.RowKit
set_option linter.unusedVariables false

theorem fnLaid_own : ownKnob Try.prog.godebug = none := by kernel_rfl
theorem fnLaid_laidOut : laidOutB Try.prog = true := by kernel_rfl
set_option maxRecDepth 100000 in
theorem fnLaid_lifted (os : Os) (started : os.Started) (H : Type) (enc : TypeId × Value → H) :
    ReturnsInHanded {} Try.checked os 3 .any (Rows.fnLaidSpec.pre6 enc Try.prog Try.f3 Rows.fnLaidRow.domain false) (Rows.fnLaidSpec.post enc Try.prog Try.f3 false true false false) := by
  refine returnsInHanded_of_change (C := Try.checked) fnLaid_own started (by kernel_rfl) Try.func3
    (ChangeSpec.witness6 (enc := enc) (C := Try.checked) false ⟨#[], #[.slice none 0 0], []⟩ 8 (by kernel_rfl) (by kernel_rfl) (by kernel_rfl) (by kernel_rfl)) ?_
  intro W base args ds gs before hval0 hW hcnd _
  have hval : ∀ (j : Nat) t v, Try.f3.params[j]? = some t → args[j]? = some v → Value.okWide Try.prog W .any base t v := hval0
  have hW' := hW
  obtain ⟨p, q, hA0, hV, rfl, hfz, hnd⟩ := hW
  have hA : DataW.TrodAll enc Try.prog W 0 (fun _ => true) true Try.f3.params.toList args.toList ds p := hA0
  rw [Try.params3] at hA hval
  obtain ⟨v0, vs0, d0, ds0, p0, q0, hargs, rfl, rfl, h0, r0⟩ := trodAll_cons hA
  obtain ⟨rfl, rfl, rfl⟩ := trodAll_nil r0
  obtain rfl : args = #[v0] := by cases args; simp_all
  obtain ⟨rfl, rfl⟩ := trodVars_none hV
  obtain ⟨a0, len0, cap0, rfl⟩ := okWide_slice Try.underlying22 (hval 0 22 v0 rfl rfl)
  have k0 := h0
  have lt0 : ∀ x ∈ p0, x.block < W.heap.size := by obtain ⟨m, hm⟩ := k0; exact DataW.trod_lt m _ _ _ hm
  obtain ⟨n, w0⟩ : ∃ n, RawCode W (.slice a0 len0 cap0) n := by
    obtain ⟨fuel, hf⟩ := h0
    exact raw_code (by simpa [Value.cells] using hf)
  clear hA0 hval0
  refine (lawFnLaid_walk (.slice a0 len0 cap0) n W w0).mono fun e W' ⟨he, bel⟩ => ?_
  subst he
  exact ⟨_, rfl, _, _, _, [], _, [], hW', trodAll_mk1 (shut_bool Try.underlying4 _), (trodAll_cons_mk (Below.trod fnLaid_laidOut (by kernel_rfl) (of_decide_eq_true (by kernel_rfl)) k0 bel lt0) trodAll_mk0), rfl, bel.frame _, fun h => by cases h⟩

theorem fnLaid_holds : Rows.FnLaidSaid :=
  OpenClaim.holds_of_wide 3 Try.f3 rfl rfl rfl rfl rfl rfl rfl ⟨rfl, rfl, rfl, rfl, rfl⟩ rfl rfl rfl rfl rfl (by kernel_rfl) Try.func3 (by kernel_rfl)
    (of_decide_eq_true (by kernel_rfl)) (by unfold Func.isWrapper; first | (rw [if_pos (by decide +kernel)]; kernel_rfl) | (rw [if_neg (by decide +kernel)]; exact ⟨rfl, rfl⟩))
    (fun os started H enc _ => fnLaid_lifted os started H enc)
#print axioms fnLaid_holds
end Go.Proofs.Ytpakfgonemiebaa
