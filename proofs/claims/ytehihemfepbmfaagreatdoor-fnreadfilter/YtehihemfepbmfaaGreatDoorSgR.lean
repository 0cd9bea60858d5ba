import Derived.Test.YtehihemfepbmfaaGreatDoorMkG
import Derived.Test.YtehihemfepbmfaaGreatDoorUneP
import Derived.Deep.RegionLaw
import Derived.Deep.AppendLies
namespace Go.Proofs.YtehihemfepbmfaaGreatDoor
set_option linter.unusedSectionVars false
set_option maxHeartbeats 12800000
open Go.RowKit
set_option linter.unusedSimpArgs false
set_option linter.unusedVariables false
set_option maxRecDepth 100000 in
theorem Xhc {rb mb base p : Nat} {Z : Nat → Prop} {s : ByteArray} {fs : List FN} {w : World} (h : FrAt w rb mb base Z s p fs) (hs : s.size ≤ 4000) (hq : ¬ p + 1 < s.size) :
  Calls Tryz.prog 111 #[.pointer (some ⟨rb, 0, none⟩)] w fun e w' => e = .returned (jhV (Xx s.data.toList p)) ∧ Below w.heap.size w w' := by
 obtain ⟨W1, hW1⟩ : ∃ W1, w.alloc (.cells #[.int .i64 0, .string ⟨#[]⟩, .int .i64 0, .int .i64 0, .int .i64 0] 91) = W1 := ⟨_, rfl⟩
 have hb1 : Below w.heap.size w W1 := by rw [← hW1]; exact (Below.refl _ _).alloc (Nat.le_refl _) _
 have hx1 : W1.heap[w.heap.size]? = some (.cells #[.int .i64 0, .string ⟨#[]⟩, .int .i64 0, .int .i64 0, .int .i64 0] 91 (0, 0)) := by rw [← hW1]; exact heap_alloc_new w _
 have hz1 : w.heap.size < W1.heap.size := by rw [← hW1]; simp
 have HLN := Xa (Xh s)
 have hp := h.le
 have HJ : Hid (Xx s.data.toList p = G0 (Xe s.data.toList p) (Xe s.data.toList (p + 1))) := by rw [Hid, Xoe, Xum]
 obtain ⟨c, hc⟩ : ∃ c, Xe s.data.toList p = c := ⟨_, rfl⟩
 obtain ⟨d, hd⟩ : ∃ d, Xe s.data.toList (p + 1) = d := ⟨_, rfl⟩
 have hc256 : c < 256 := by rw [← hc]; exact Jl _ _
 have hd256 : d < 256 := by rw [← hd]; exact Jl _ _
 rw [hc, hd] at HJ
 have HD := Xa hd
 have HX1 := Xa hx1
 have HB1 := Xa hb1
 have HF1 := Xa (h.below hb1)
 have HPK := Xa (Xao (let ⟨v, h1, _⟩ := HF1.out.ex; h1.br) (by omega))
 rw [hc] at HPK
 clear h hb1 hx1 hc hd
 go_enter Tryz.func111, Tryz.ntmps111
 go_wp2_with fail
 (try rw [hW1])
 refine HPK.out.mono ?_
 rintro e w1 ⟨rfl, hb2⟩
 have HB2 := Xa hb2
 have HF2 := Xa (HF1.out.below hb2)
 have hz2 : w.heap.size < w1.heap.size := Nat.lt_of_lt_of_le hz1 hb2.size
 have HX2 : Hid (w1.heap[w.heap.size]? = _) := (hb2.block _ hz1).trans HX1.out
 obtain ⟨W2, hW2⟩ : ∃ W2, w1.alloc (.cells #[.int .u8 (c : Int), .int .u8 0] 110) = W2 := ⟨_, rfl⟩
 have hb3 : Below w1.heap.size w1 W2 := by rw [← hW2]; exact (Below.refl _ _).alloc (Nat.le_refl _) _
 have HB3 := Xa hb3
 have HF3 := Xa (HF2.out.below hb3)
 have HX3 : Hid (W2.heap[w.heap.size]? = _) := (hb3.block _ hz2).trans HX2.out
 have HY3 : Hid (W2.heap[w1.heap.size]? = some (.cells #[.int .u8 (c : Int), .int .u8 0] 110 (0, 0))) := by rw [Hid, ← hW2]; exact heap_alloc_new w1 _
 have hz3 : w1.heap.size < W2.heap.size := by rw [← hW2]; simp
 have HW2 := Xa hW2
 clear hb2 hb3 hW2
 go_wp2_with fail
 rw [HW2.out]
 obtain ⟨c0, c1, f1, lt0⟩ := HF3.out.cells
 have y0 : W2.cell? ⟨w1.heap.size, 0, none⟩ = some (.int .u8 (c : Int)) := cellAt HY3.out rfl
 have y1 : W2.cell? ⟨w1.heap.size, 1, none⟩ = some (.int .u8 0) := cellAt HY3.out rfl
 have g1 : W2.frozen? ⟨w1.heap.size, 1, none⟩ = false := Lib.frozen_of_heap HY3.out 1
 have hd0 : (d : Int) = 0 := by
  have := Qu (L := s.data.toList) (p := p + 1) (by rw [HLN.out]; omega)
  rw [HD.out] at this; omega
 have hq' : ¬ (p : Int) + 1 < (s.size : Int) := by omega
 have hqd : decide ((p : Int) + 1 < (s.size : Int)) = false := by simpa using hq'
 have HD0 := Xa hd0
 clear hd0
 go_quiet (fail)
 have HD4 := Xa (Xn (w := W2) nq)
 obtain ⟨WA, hWA⟩ : ∃ WA, W2.drewN nq = WA := ⟨_, rfl⟩
 rw [hWA] at HD4 ⊢
 have HFA := Xa (HF3.out.below HD4.out)
 have HXA : Hid (WA.heap[w.heap.size]? = _) := (HD4.out.block _ (by omega)).trans HX3.out
 have HYA : Hid (WA.heap[w1.heap.size]? = some (.cells #[.int .u8 (c : Int), .int .u8 (d : Int)] 110 (0, 0))) := by rw [Hid, HD0.out]; exact (HD4.out.block _ (by omega)).trans HY3.out
 have hzA : w1.heap.size < WA.heap.size := Nat.lt_of_lt_of_le hz3 HD4.out.size
 have HBA : Hid (Below w.heap.size w WA) := ((HB1.out.trans (HB2.out.mono (by omega))).trans (HB3.out.mono (by omega))).trans (HD4.out.mono (by omega))
 have m3 : WA.cell? ⟨rb, 3, none⟩ = some (.map (some mb)) := by
  obtain ⟨v, h1, _⟩ := HFA.out.ex
  exact h1.bl 3 (by decide)
 have mmp : WA.heap[mb]? = some (.map (Qh 10) 10) := HFA.out.box.mp
 clear hWA c0 c1 f1 y0 y1 g1 hq hq' hqd HD4 HFA nq
 all_goals
  obtain ⟨k1, t1, l1, fl1, r1, ok1, hlk, hor1⟩ := Xd3 mb c d
  have hlk1 := hlk WA.drew mmp
  have hmb : mb < WA.heap.size := Wm mmp
  have hlk2 := hlk ((WA.alloc (.cells #[.int .i64 0, .string ⟨#[]⟩, .int .i64 0, .int .i64 0, .int .i64 0] 91)).drew) ((heap_alloc_old WA _ hmb).trans mmp)
  have HOR1 := Xa hor1
  have HMP := Xa mmp
  have hrl : rb < WA.heap.size := by have := HF2.out.cells.2.2.2; omega
  clear hor1 mmp hlk
  have y0 : WA.cell? ⟨w1.heap.size, 0, none⟩ = some (.int .u8 (c : Int)) := cellAt HYA.out rfl
  have y1 : WA.cell? ⟨w1.heap.size, 1, none⟩ = some (.int .u8 (d : Int)) := cellAt HYA.out rfl
  have HW2' := HW2
  clear HW2
  go_wp2_with fail
  go_region
 all_goals
  obtain ⟨WB, hWB⟩ : ∃ WB, (WA.alloc (.cells #[.int .i64 k1, .string t1, .int .i64 l1, .int .i64 fl1, .int .i64 r1] 91)).drew = WB := ⟨_, rfl⟩
  rw [hWB]
  have hbB : Below WA.heap.size WA WB := by rw [← hWB]; exact ((Below.refl _ _).alloc (Nat.le_refl _) _).drew
  have hjB : WB.heap[WA.heap.size]? = some (.cells #[.int .i64 k1, .string t1, .int .i64 l1, .int .i64 fl1, .int .i64 r1] 91 (0, 0)) := by rw [← hWB]; exact heap_alloc_new WA _
  have HXB : Hid (WB.heap[w.heap.size]? = _) := (hbB.block _ (by omega)).trans HXA.out
  have HYB : Hid (WB.heap[w1.heap.size]? = _) := (hbB.block _ (by omega)).trans HYA.out
  have HMPB : Hid (WB.heap[mb]? = _) := (hbB.block _ hmb).trans HMP.out
  have HBB := Xa (HBA.out.trans (hbB.mono (by omega)))
  have hzB : WA.heap.size < WB.heap.size := by rw [← hWB]; simp
  have hmbB : mb < WB.heap.size := by omega
  have m3' : WB.cell? ⟨rb, 3, none⟩ = some (.map (some mb)) := (Xco (hbB.block rb hrl)).trans m3
  clear hWB hbB hlk1 hlk2 m3 y0 y1
  have m3 := m3'
  clear m3'
  have y0 : WB.cell? ⟨w1.heap.size, 0, none⟩ = some (.int .u8 (c : Int)) := cellAt HYB.out rfl
  have y1 : WB.cell? ⟨w1.heap.size, 1, none⟩ = some (.int .u8 (d : Int)) := cellAt HYB.out rfl
  have j0 := cellAt hjB (i := 0) rfl
  have j1 := cellAt hjB (i := 1) rfl
  have j2 := cellAt hjB (i := 2) rfl
  have j3 := cellAt hjB (i := 3) rfl
  have j4 := cellAt hjB (i := 4) rfl
  have u0 := cellAt HXB.out (i := 0) rfl
  have u1 := cellAt HXB.out (i := 1) rfl
  have u2 := cellAt HXB.out (i := 2) rfl
  have u3 := cellAt HXB.out (i := 3) rfl
  have u4 := cellAt HXB.out (i := 4) rfl
  have v0 : WB.frozen? ⟨w.heap.size, 0, none⟩ = false := Lib.frozen_of_heap HXB.out 0
  have v1 : WB.frozen? ⟨w.heap.size, 1, none⟩ = false := Lib.frozen_of_heap HXB.out 1
  have v2 : WB.frozen? ⟨w.heap.size, 2, none⟩ = false := Lib.frozen_of_heap HXB.out 2
  have v3 : WB.frozen? ⟨w.heap.size, 3, none⟩ = false := Lib.frozen_of_heap HXB.out 3
  have v4 : WB.frozen? ⟨w.heap.size, 4, none⟩ = false := Lib.frozen_of_heap HXB.out 4
  have hne2 : ¬ w.heap.size = WA.heap.size := by omega
  have hne3 : ¬ WA.heap.size = w.heap.size := by omega
  have hrlB : rb < WB.heap.size := by omega
  have hw1B : w1.heap.size < WB.heap.size := by omega
  clear hjB HXA HYA HMP hrl hmb
  by_cases hA : ok1 = true ∧ d ≠ 0
  ·obtain ⟨hok, hd0⟩ := hA
   subst hok
   have dne : ((d : Int) != 0) = true := by simp; omega
   have dne2 : ¬ (d : Int) = 0 := by omega
   have HR : Hid (jhV (Xx s.data.toList p) = .tuple #[.agg #[.int .i64 k1, .string t1, .int .i64 l1, .int .i64 fl1, .int .i64 r1], .int .i64 2]) := by
    rcases HOR1.out with ⟨_, hk, e1, e2, e3, e4⟩ | ⟨e, _⟩
    ·rw [Hid, HJ.out]; unfold G0; rw [if_neg hd0, hk, e1, e2, e3, e4]; rfl
    ·cases e
   clear HOR1
   go_wp2_with fail
   refine Gc (Ws HXB.out) rfl rfl rfl ?_
   exact ⟨by rw [HR.out]; rfl, ((((HBB.out.setCell (p := ⟨w.heap.size, 0, none⟩) (Nat.le_refl _) _).setCell (p := ⟨w.heap.size, 1, none⟩) (Nat.le_refl _) _).setCell (p := ⟨w.heap.size, 2, none⟩) (Nat.le_refl _) _).setCell (p := ⟨w.heap.size, 3, none⟩) (Nat.le_refl _) _).setCell (p := ⟨w.heap.size, 4, none⟩) (Nat.le_refl _) _⟩
  have HFST : Hid ((if d = 0 then none else Vy c d) = none) := by
   rw [Hid]
   split
   ·rfl
   ·rename_i hd0
    rcases HOR1.out with ⟨e, _⟩ | ⟨_, hk⟩
    ·exact absurd ⟨e, hd0⟩ hA
    ·exact hk
  have hB : ok1 = false ∨ (ok1 = true ∧ (d : Int) = 0) := by
   cases ok1
   ·exact .inl rfl
   ·refine .inr ⟨rfl, ?_⟩
    by_cases h : d = 0
    ·omega
    ·exact absurd ⟨rfl, h⟩ hA
  clear HOR1 hA
  rcases hB with hB | ⟨hB, hd0⟩
  ·subst hB
   obtain ⟨k2, t2, l2, fl2, r2, ok2, hlk, hor2⟩ := Xa0 mb c
   have hlk1 := hlk WB.drew HMPB.out
   have hlk2 := hlk ((WB.alloc (.cells #[.int .i64 0, .string ⟨#[]⟩, .int .i64 0, .int .i64 0, .int .i64 0] 91)).drew) ((heap_alloc_old WB _ hmbB).trans HMPB.out)
   clear hlk
   have HOR2 := Xa hor2
   clear hor2
   go_wp2_with fail
   go_region
   all_goals
    obtain ⟨WC, hWC⟩ : ∃ WC, (WB.alloc (.cells #[.int .i64 k2, .string t2, .int .i64 l2, .int .i64 fl2, .int .i64 r2] 91)).drew = WC := ⟨_, rfl⟩
    rw [hWC]
    have hbC : Below WB.heap.size WB WC := by rw [← hWC]; exact ((Below.refl _ _).alloc (Nat.le_refl _) _).drew
    have hjC : WC.heap[WB.heap.size]? = some (.cells #[.int .i64 k2, .string t2, .int .i64 l2, .int .i64 fl2, .int .i64 r2] 91 (0, 0)) := by rw [← hWC]; exact heap_alloc_new WB _
    have HXC : Hid (WC.heap[w.heap.size]? = _) := (hbC.block _ (by omega)).trans HXB.out
    have HBC := Xa (HBB.out.trans (hbC.mono (by omega)))
    have hzC : WB.heap.size < WC.heap.size := by rw [← hWC]; simp
    clear hWC hbC hlk1 hlk2 m3 y0 y1 u0 u1 u2 u3 u4 v0 v1 v2 v3 v4 j0 j1 j2 j3 j4
    have j0 := cellAt hjC (i := 0) rfl
    have j1 := cellAt hjC (i := 1) rfl
    have j2 := cellAt hjC (i := 2) rfl
    have j3 := cellAt hjC (i := 3) rfl
    have j4 := cellAt hjC (i := 4) rfl
    have u0 := cellAt HXC.out (i := 0) rfl
    have u1 := cellAt HXC.out (i := 1) rfl
    have u2 := cellAt HXC.out (i := 2) rfl
    have u3 := cellAt HXC.out (i := 3) rfl
    have u4 := cellAt HXC.out (i := 4) rfl
    have v0 : WC.frozen? ⟨w.heap.size, 0, none⟩ = false := Lib.frozen_of_heap HXC.out 0
    have v1 : WC.frozen? ⟨w.heap.size, 1, none⟩ = false := Lib.frozen_of_heap HXC.out 1
    have v2 : WC.frozen? ⟨w.heap.size, 2, none⟩ = false := Lib.frozen_of_heap HXC.out 2
    have v3 : WC.frozen? ⟨w.heap.size, 3, none⟩ = false := Lib.frozen_of_heap HXC.out 3
    have v4 : WC.frozen? ⟨w.heap.size, 4, none⟩ = false := Lib.frozen_of_heap HXC.out 4
    have hne2 : ¬ w.heap.size = WB.heap.size := by omega
    have hne3 : ¬ WB.heap.size = w.heap.size := by omega
    clear hjC
    rcases HOR2.out with ⟨e, hk, e1, e2, e3, e4⟩ | ⟨e, hk⟩
    ·subst e
     have HR : Hid (jhV (Xx s.data.toList p) = .tuple #[.agg #[.int .i64 k2, .string t2, .int .i64 l2, .int .i64 fl2, .int .i64 r2], .int .i64 1]) := by rw [Hid, HJ.out]; unfold G0; rw [HFST.out, hk, e1, e2, e3, e4]; rfl
     clear hk e1 e2 e3 e4 HOR2
     go_wp2_with fail
     refine Gc (Ws HXC.out) rfl rfl rfl ?_
     exact ⟨by rw [HR.out]; rfl, ((((HBC.out.setCell (p := ⟨w.heap.size, 0, none⟩) (Nat.le_refl _) _).setCell (p := ⟨w.heap.size, 1, none⟩) (Nat.le_refl _) _).setCell (p := ⟨w.heap.size, 2, none⟩) (Nat.le_refl _) _).setCell (p := ⟨w.heap.size, 3, none⟩) (Nat.le_refl _) _).setCell (p := ⟨w.heap.size, 4, none⟩) (Nat.le_refl _) _⟩
    ·subst e
     have HR : Hid (jhV (Xx s.data.toList p) = .tuple #[.agg #[.int .i64 0, .string ⟨#[]⟩, .int .i64 0, .int .i64 0, .int .i64 0], .int .i64 0]) := by rw [Hid, HJ.out]; unfold G0; rw [HFST.out, hk]; rfl
     clear hk HOR2
     go_wp2_with fail
     refine Gc (Ws HXC.out) rfl rfl rfl ?_
     exact ⟨by rw [HR.out]; rfl, ((((HBC.out.setCell (p := ⟨w.heap.size, 0, none⟩) (Nat.le_refl _) _).setCell (p := ⟨w.heap.size, 1, none⟩) (Nat.le_refl _) _).setCell (p := ⟨w.heap.size, 2, none⟩) (Nat.le_refl _) _).setCell (p := ⟨w.heap.size, 3, none⟩) (Nat.le_refl _) _).setCell (p := ⟨w.heap.size, 4, none⟩) (Nat.le_refl _) _⟩
  ·subst hB
   rw [hd0] at y1
   clear hd0
   obtain ⟨k2, t2, l2, fl2, r2, ok2, hlk, hor2⟩ := Xa0 mb c
   have hlk1 := hlk WB.drew HMPB.out
   have hlk2 := hlk ((WB.alloc (.cells #[.int .i64 0, .string ⟨#[]⟩, .int .i64 0, .int .i64 0, .int .i64 0] 91)).drew) ((heap_alloc_old WB _ hmbB).trans HMPB.out)
   clear hlk
   have HOR2 := Xa hor2
   clear hor2
   go_wp2_with fail
   go_region
   all_goals
    obtain ⟨WC, hWC⟩ : ∃ WC, (WB.alloc (.cells #[.int .i64 k2, .string t2, .int .i64 l2, .int .i64 fl2, .int .i64 r2] 91)).drew = WC := ⟨_, rfl⟩
    rw [hWC]
    have hbC : Below WB.heap.size WB WC := by rw [← hWC]; exact ((Below.refl _ _).alloc (Nat.le_refl _) _).drew
    have hjC : WC.heap[WB.heap.size]? = some (.cells #[.int .i64 k2, .string t2, .int .i64 l2, .int .i64 fl2, .int .i64 r2] 91 (0, 0)) := by rw [← hWC]; exact heap_alloc_new WB _
    have HXC : Hid (WC.heap[w.heap.size]? = _) := (hbC.block _ (by omega)).trans HXB.out
    have HBC := Xa (HBB.out.trans (hbC.mono (by omega)))
    have hzC : WB.heap.size < WC.heap.size := by rw [← hWC]; simp
    clear hWC hbC hlk1 hlk2 m3 y0 y1 u0 u1 u2 u3 u4 v0 v1 v2 v3 v4 j0 j1 j2 j3 j4
    have j0 := cellAt hjC (i := 0) rfl
    have j1 := cellAt hjC (i := 1) rfl
    have j2 := cellAt hjC (i := 2) rfl
    have j3 := cellAt hjC (i := 3) rfl
    have j4 := cellAt hjC (i := 4) rfl
    have u0 := cellAt HXC.out (i := 0) rfl
    have u1 := cellAt HXC.out (i := 1) rfl
    have u2 := cellAt HXC.out (i := 2) rfl
    have u3 := cellAt HXC.out (i := 3) rfl
    have u4 := cellAt HXC.out (i := 4) rfl
    have v0 : WC.frozen? ⟨w.heap.size, 0, none⟩ = false := Lib.frozen_of_heap HXC.out 0
    have v1 : WC.frozen? ⟨w.heap.size, 1, none⟩ = false := Lib.frozen_of_heap HXC.out 1
    have v2 : WC.frozen? ⟨w.heap.size, 2, none⟩ = false := Lib.frozen_of_heap HXC.out 2
    have v3 : WC.frozen? ⟨w.heap.size, 3, none⟩ = false := Lib.frozen_of_heap HXC.out 3
    have v4 : WC.frozen? ⟨w.heap.size, 4, none⟩ = false := Lib.frozen_of_heap HXC.out 4
    have hne2 : ¬ w.heap.size = WB.heap.size := by omega
    have hne3 : ¬ WB.heap.size = w.heap.size := by omega
    clear hjC
    rcases HOR2.out with ⟨e, hk, e1, e2, e3, e4⟩ | ⟨e, hk⟩
    ·subst e
     have HR : Hid (jhV (Xx s.data.toList p) = .tuple #[.agg #[.int .i64 k2, .string t2, .int .i64 l2, .int .i64 fl2, .int .i64 r2], .int .i64 1]) := by rw [Hid, HJ.out]; unfold G0; rw [HFST.out, hk, e1, e2, e3, e4]; rfl
     clear hk e1 e2 e3 e4 HOR2
     go_wp2_with fail
     refine Gc (Ws HXC.out) rfl rfl rfl ?_
     exact ⟨by rw [HR.out]; rfl, ((((HBC.out.setCell (p := ⟨w.heap.size, 0, none⟩) (Nat.le_refl _) _).setCell (p := ⟨w.heap.size, 1, none⟩) (Nat.le_refl _) _).setCell (p := ⟨w.heap.size, 2, none⟩) (Nat.le_refl _) _).setCell (p := ⟨w.heap.size, 3, none⟩) (Nat.le_refl _) _).setCell (p := ⟨w.heap.size, 4, none⟩) (Nat.le_refl _) _⟩
    ·subst e
     have HR : Hid (jhV (Xx s.data.toList p) = .tuple #[.agg #[.int .i64 0, .string ⟨#[]⟩, .int .i64 0, .int .i64 0, .int .i64 0], .int .i64 0]) := by rw [Hid, HJ.out]; unfold G0; rw [HFST.out, hk]; rfl
     clear hk HOR2
     go_wp2_with fail
     refine Gc (Ws HXC.out) rfl rfl rfl ?_
     exact ⟨by rw [HR.out]; rfl, ((((HBC.out.setCell (p := ⟨w.heap.size, 0, none⟩) (Nat.le_refl _) _).setCell (p := ⟨w.heap.size, 1, none⟩) (Nat.le_refl _) _).setCell (p := ⟨w.heap.size, 2, none⟩) (Nat.le_refl _) _).setCell (p := ⟨w.heap.size, 3, none⟩) (Nat.le_refl _) _).setCell (p := ⟨w.heap.size, 4, none⟩) (Nat.le_refl _) _⟩

theorem Xxo : (Tryz.prog.info? 9).map (fun i => (i.zero, i.size, i.bytes)) = some (some (.string ByteArray.empty), 1, 16) := by kernel_rfl
theorem Xxp : (Tryz.prog.info? 2).map (fun i => (i.zero, i.size, i.bytes)) = some (some (.int .i64 0), 1, 8) := by kernel_rfl
def Xuq (w : World) (rb : Nat) : Bool := match w.cell? ⟨rb, 2, none⟩ with | some (.bool b) => b | _ => false
def Yb (w : World) (rb n : Nat) : Nat := if Xuq w rb = true then 0 else n + 1 - placeOf w rb
theorem LfAt.meas {w : World} {rb base : Nat} {Z : Nat → Prop} {s : ByteArray} {p n : Nat} {bad : Bool} {fs : List FN} (h : LfAt w rb base Z s p bad fs) : Yb w rb n = if bad = true then 0 else n + 1 - p := by
 unfold Yb Xuq; rw [h.cells.2.2, h.placeOf]
theorem LfAt.grown {a b : World} {rb base b0 e0 s0 n0 : Nat} {Z Z' : Nat → Prop} {s : ByteArray} {p : Nat} {bad : Bool} {fs : List FN} {v : Value} {xs : List Value} (h : LfAt a rb base Z s p bad fs) (hv : a.ownsRow b0 e0 s0 v n0 xs) (he : 51 ≠ e0) (hb : base ≤ b0) (hZ : ∀ x, v.ownBlock = some x → Z x) (hg : a.grownBy b v.ownBlock)
  (hz : ∀ x, Z' x → Z x ∨ a.heap.size ≤ x) (hz2 : ∀ x, Z' x → x < b.heap.size) : LfAt b rb base Z' s p bad fs := by
 obtain ⟨u, h1, ⟨C, N, I, hN, hS⟩, h3⟩ := h.blk
 have hne : ∀ x, v.ownBlock = some x → base ≤ x := fun x hx => Nat.le_trans hb (hv.lt x hx).1
 refine ⟨⟨u, (hg.block rb h.lt (fun e => by have := hne rb e.symm; have := h.rb_lt; omega)).trans h1, ⟨C, N, I, hN.keep (fun x hx => hg.block x (hN.row.lt x hx).2 (fun e => ?_)) (fun x hx => hg.block x (hN.sub hx).2 (fun e => hS x hx (hZ x e.symm))), fun x hx hzx => ?_⟩, fun x hx hzx => ?_⟩, h.le, h.rb_lt, Nat.le_trans h.sz hg.size, hz2⟩
 ·rcases Vo hN.row hv he with e2 | e2
  ·rw [hx] at e2; cases e2
  ·exact e2 (hx.trans e)
 ·rcases hz x hzx with h4 | h4
  ·exact hS x hx h4
  ·have := (hN.sub hx).2; omega
 ·rcases hz x hzx with h4 | h4
  ·exact h3 x hx h4
  ·have := (hN.row.lt x hx).2; omega
theorem LfAt.setX {w : World} {rb base xb o : Nat} {Z : Nat → Prop} {s : ByteArray} {p : Nat} {bad : Bool} {fs : List FN} {u : Value} (h : LfAt w rb base Z s p bad fs) (hx : Z xb) (hne : rb ≠ xb) : LfAt (w.setCell ⟨xb, o, none⟩ u) rb base Z s p bad fs := by
 obtain ⟨v, h1, ⟨C, N, I, hN, hS⟩, h3⟩ := h.blk
 refine ⟨⟨v, (Below.heap_setCell _ _ _ _ hne).trans h1, ⟨C, N, I, hN.keep (fun x hx' => Below.heap_setCell _ _ _ _ (fun e => ?_)) (fun x hx' => Below.heap_setCell _ _ _ _ (fun e => ?_)), hS⟩, h3⟩, h.le, h.rb_lt, by simpa using h.sz, fun x hx => by simpa using h.zb x hx⟩
 ·have e' : x = xb := e
  rw [e'] at hx'; exact h3 xb hx' hx
 ·have e' : x = xb := e
  rw [e'] at hx'; exact hS xb hx' hx
theorem LfSt.grown {a b : World} {rb base b0 e0 s0 n0 p0 : Nat} {Z Z' : Nat → Prop} {s : ByteArray} {r : CF} {v : Value} {xs : List Value} (h : LfSt r rb base Z s p0 a) (hv : a.ownsRow b0 e0 s0 v n0 xs) (he : 51 ≠ e0) (hb : base ≤ b0) (hZ : ∀ x, v.ownBlock = some x → Z x) (hg : a.grownBy b v.ownBlock)
  (hz : ∀ x, Z' x → Z x ∨ a.heap.size ≤ x) (hz2 : ∀ x, Z' x → x < b.heap.size) : LfSt r rb base Z' s p0 b := by
 obtain ⟨fs, p, h1, ⟨h2, h3, h4⟩ | ⟨h2, h3, h4⟩⟩ := h
 ·exact ⟨fs, p, h1, .inl ⟨h2, h3.grown hv he hb hZ hg hz hz2, h4⟩⟩
 ·exact ⟨fs, p, h1, .inr ⟨h2, h3, h4.grown hv he hb hZ hg hz hz2⟩⟩
theorem LfSt.setX {w : World} {rb base xb o p0 : Nat} {Z : Nat → Prop} {s : ByteArray} {r : CF} {u : Value} (h : LfSt r rb base Z s p0 w) (hx : Z xb) (hne : rb ≠ xb) : LfSt r rb base Z s p0 (w.setCell ⟨xb, o, none⟩ u) := by
 obtain ⟨fs, p, h1, ⟨h2, h3, h4⟩ | ⟨h2, h3, h4⟩⟩ := h
 ·exact ⟨fs, p, h1, .inl ⟨h2, h3.setX hx hne, h4⟩⟩
 ·exact ⟨fs, p, h1, .inr ⟨h2, h3, h4.setX hx hne⟩⟩
theorem ButF.setN {rb base xb o : Nat} {w a : World} {u : Value} (h : ButF rb base w a) (hx : w.heap.size ≤ xb) : ButF rb base w (a.setCell ⟨xb, o, none⟩ u) :=
 ⟨h.os, h.tape, h.output, by have := h.size; simpa using this, fun c hc hn ht => (Below.heap_setCell _ _ _ _ (show c ≠ xb by omega)).trans (h.block c hc hn ht)⟩
theorem ButF.grownS {rb base : Nat} {w a b : World} {row : Option Nat} (h : ButF rb base w a) (hg : a.grownBy b row) (hr : ∀ x, row = some x → w.heap.size ≤ x) : ButF rb base w b :=
 ⟨hg.os.trans h.os, hg.tape.trans h.tape, hg.output.trans h.output, Nat.le_trans h.size hg.size, fun x hx hn ht => (hg.block x (Nat.lt_of_lt_of_le hx h.size) (fun e => by have := hr x e.symm; omega)).trans (h.block x hx hn ht)⟩
theorem LB.setN {rb base xb o : Nat} {Z : Nat → Prop} {w a : World} {u : Value} (h : LB rb base Z w a) (hx : w.heap.size ≤ xb) : LB rb base Z w (a.setCell ⟨xb, o, none⟩ u) :=
 ⟨h.bf.setN hx, fun c hz hc hn => (Below.heap_setCell _ _ _ _ (show c ≠ xb by omega)).trans (h.av c hz hc hn)⟩
theorem LB.grownN {rb base : Nat} {Z : Nat → Prop} {w a b : World} {row : Option Nat} (h : LB rb base Z w a) (hg : a.grownBy b row) (hr : ∀ x, row = some x → w.heap.size ≤ x) : LB rb base Z w b :=
 ⟨h.bf.grownS hg hr, fun c hz hc hn => (hg.block c (Nat.lt_of_lt_of_le hc h.size) (fun e => by have := hr c e.symm; omega)).trans (h.av c hz hc hn)⟩
theorem Xr8 {rb base p0 : Nat} {s : ByteArray} {r : CF} {Z : Nat → Prop} {w : World} (c : UInt8) (hs : s.size ≤ 4000) (h : LfSt r rb base Z s p0 w) :
  Calls Tryz.prog 114 #[.pointer (some ⟨rb, 0, none⟩), .string ⟨#[c]⟩] w fun e w' => e = .returned (.tuple #[]) ∧ LB rb base Z w w' ∧ ∃ d, d ≤ 1 ∧ LfSt (r.bind fun x => if Xd s.data.toList x.2 c.toNat = true then some (x.1, skF s.data.toList (x.2 + 1)) else none) rb base Z s (p0 + d) w' ∧ (d = 0 → (r.bind fun x => if Xd s.data.toList x.2 c.toNat = true then some (x.1, skF s.data.toList (x.2 + 1)) else none) = none) := by
 obtain ⟨fs, p, hp, ⟨hr, ha, hl⟩ | ⟨hr, hl, ha⟩⟩ := h
 ·have hsk := Xu s.data.toList p
  subst hr
  refine (V7 c ha hs).mono ?_
  rintro e w' ⟨he, hb, ⟨_, hy, h'⟩ | ⟨hn, h'⟩⟩
  ·refine ⟨he, hb, 1, by omega, LfSt.of ?_ (LfSt.good h' hl (by omega)), by omega⟩
   show _ = if Xd s.data.toList (skF s.data.toList p) c.toNat = true then _ else _
   rw [if_pos hy]
  ·have hno : (some (fs, skF s.data.toList p)).bind (fun x => if Xd s.data.toList x.2 c.toNat = true then some (x.1, skF s.data.toList (x.2 + 1)) else none) = none := by
    show (if Xd s.data.toList (skF s.data.toList p) c.toNat = true then _ else _) = _
    rcases hn with hn | hn
    ·cases hn
    ·rw [if_neg (by rw [hn]; simp)]
   exact ⟨he, hb, 0, by omega, LfSt.of hno.symm (LfSt.bad h' (by omega) (by omega)), fun _ => hno⟩
 ·have hsk := Xu s.data.toList p
  subst hr
  refine (V7 c ha hs).mono ?_
  rintro e w' ⟨he, hb, ⟨hx, _, h'⟩ | ⟨hn, h'⟩⟩
  ·cases hx
  ·exact ⟨he, hb, 0, by omega, LfSt.bad h' (by omega) (by omega), fun _ => rfl⟩
theorem Xr9 {R : RD} {L : List UInt8} {g : Nat} {names : List ByteArray} {kids : List Int} {fs : List FN} {q : Nat} {n : Int} {T : ByteArray} {r1 r2 r3 : CF} (hT : T = txt ((L.drop q).take (wdJ L q - q)))
  (h1 : r1 = some (fs, skF L (wdJ L q))) (h2 : r2 = r1.bind fun x => if Xd L x.2 58 = true then some (x.1, skF L (x.2 + 1)) else none) (h3 : r3 = r2.bind fun x => (R 3 x.1 x.2).map (·.2)) (hn : ∀ fs q y, r2 = some (fs, q) → R 3 fs q = some y → y.1 = n) :
  Zg WSp R L (g + 1) names kids fs q = r3.bind fun x => if Xd L x.2 125 = true then Xs WSp (Vi (names ++ [T]) (kids ++ [n])) x.1 (skF L (x.2 + 1)) else Ye L x.2 44 fun q => Zg WSp R L g (names ++ [T]) (kids ++ [n]) x.1 q := by
 rw [Zg, Xy2, ← hT]
 subst h1
 by_cases e : Xd L (skF L (wdJ L q)) 58 = true
 ·have h2' : r2 = some (fs, skF L (skF L (wdJ L q) + 1)) := by rw [h2]; show (if _ then _ else _) = _; rw [if_pos e]
  rw [Xiq e]
  cases h4 : R 3 fs (skF L (skF L (wdJ L q) + 1)) with
  | none =>
   have : r3 = none := by rw [h3, h2']; show (R 3 fs (skF L (skF L (wdJ L q) + 1))).map (·.2) = _; rw [h4]; rfl
   rw [this]; rfl
  | some y =>
   obtain ⟨n', f3, q3⟩ := y
   obtain rfl : n' = n := hn _ _ _ h2' h4
   have : r3 = some (f3, q3) := by rw [h3, h2']; show (R 3 fs (skF L (skF L (wdJ L q) + 1))).map (·.2) = _; rw [h4]; rfl
   rw [this, Xz]; rfl
 ·have h2' : r2 = none := by rw [h2]; show (if _ then _ else _) = _; rw [if_neg e]
  rw [Xir e]
  have : r3 = none := by rw [h3, h2']; rfl
  rw [this]; rfl

theorem Xml (v : Value) (w : World) : (callFunc 119 #[v]).run Tryz.prog w = .ok (.enter 119 #[v]) w := by
 have h := Tryz.func119
 go_simp
theorem Xkk (v u : Value) (w : World) : (callFunc 43 #[v, u]).run Tryz.prog w = .ok (.enter 43 #[v, u]) w := by
 have h := Tryz.func43
 go_simp
theorem Xkl {P : Program} {w : World} {ops : Array Oper} {o : Oper} {a : Act} {K : Act → World → Prop} {Q : Exit → Act → World → Prop} {E : Prop} (hgd : o.guard = none) (F : FuncId) (x y : Operand) (T U : TypeId)
  (ho : o.op = .call { callee := .value (.func F), args := #[x, y], argTypes := #[T, U] }) (v u : Value) (hx : a.eval x = v) (hy : a.eval y = u) (hcf : ∀ w, (callFunc F #[v, u]).run P w = .ok (.enter F #[v, u]) w) {R : Ending → World → Prop} (hc : Calls P F #[v, u] w R)
  (h : ∀ e w', R e w' → ∃ u, e = .returned u ∧ K (a.put o.dst u) w') :
  if Region.wanted o (yielded ops a.tmps) = true then Oper.wp P o a w K Q else E := by
 have hw : Region.wanted o (yielded ops a.tmps) = true := by simp [Region.wanted, hgd]
 rw [if_pos hw]
 unfold Oper.wp execOp
 have e1 : a.eval (.func F) = .func (.func F) #[] #[] := rfl
 simp [ho, resolve, invoke, hx, hy, e1, Deferred.ofValue, hcf, Result.andThen, Oper.upon_enter]
 refine hc.mono fun e w' hr => ?_
 obtain ⟨u, rfl, hk⟩ := h e w' hr
 exact hk
def XB (w : World) (xb : Nat) (kv it : Value) : Prop := w.heap[xb]? = some (.cells #[.int .i64 9, .string ⟨#[]⟩, .int .i64 0, .slice none 0 0, kv, it] 51 (0, 0))
def ZR (Z : Nat → Prop) (xb : Nat) (kv it : Value) (x : Nat) : Prop := Z x ∨ x = xb ∨ kv.ownBlock = some x ∨ it.ownBlock = some x
theorem Xey {w : World} {b e s n xb o : Nat} {v u : Value} {xs : List Value} (h : w.ownsRow b e s v n xs) (hx : xb < b) : (w.setCell ⟨xb, o, none⟩ u).ownsRow b e s v n xs := J2 h fun x hx' => Below.heap_setCell _ _ _ _ (show x ≠ xb by have := (h.lt x hx').1; omega)
theorem XB.keep {rb base xb : Nat} {Z : Nat → Prop} {w w' : World} {kv it : Value} (h : XB w xb kv it) (hb : LB rb base Z w w') (hz : Z xb) (hne : xb ≠ rb) : XB w' xb kv it := (hb.av xb hz (ltH h) hne).trans h
structure Bhd (lo et : Nat) (w1 : World) (iv u : Value) (k xb : Nat) (xs : List Value) : Prop where
 base : lo ≤ (w1.alloc (.cells #[u] et)).heap.size
 row : (w1.alloc (.cells #[u] et)).ownsRow lo et 1 iv k xs
 top : (w1.alloc (.cells #[u] et)).heap.size = w1.heap.size + 1
 news : ∀ j x, [u][j]? = some x → (w1.alloc (.cells #[u] et)).cell? ((⟨w1.heap.size, 0, none⟩ : Addr).add j) = some x
 lt : xb < (w1.alloc (.cells #[u] et)).heap.size
theorem Bhd.of {lo et : Nat} {w1 : World} {iv u : Value} {k xb : Nat} {xs : List Value} (h : w1.ownsRow lo et 1 iv k xs) (hlo : lo ≤ w1.heap.size) (hx : xb < w1.heap.size) : Bhd lo et w1 iv u k xb xs :=
 ⟨by simp; omega, h.alloc _, by simp, World.news_of_block (cs := #[u]) (t := et) (fr := (0, 0)) (heap_alloc_new w1 _), by simp; omega⟩
section
variable {R : RD} {f rb base : Nat} {s : ByteArray} (HR : Xf3 R f rb base s)
include HR
set_option maxRecDepth 100000 in
theorem Xpd {p : Nat} {Z : Nat → Prop} {fs : List FN} {w : World} (h : LfAt w rb base Z s p false fs) (hZ : ∀ x, Z x → x < w.heap.size) (hs : s.size ≤ 1000) (hl : fs.length ≤ 40) (hf : s.size < p + f) :
  Calls Tryz.prog 115 #[.pointer (some ⟨rb, 0, none⟩)] w (LfOr (Q7 WSp R s.data.toList fs (skF s.data.toList p)) rb base Z s p w) := by
 obtain ⟨i1, hi1, hz1, hs1, hy1⟩ := info_parts Xxp
 obtain ⟨j1, hj1, hzj, hsj, hyj⟩ := info_parts Xxo
 have HLN := Xa (Xh s)
 have HZ : Hid (∀ x, Z x → x < w.heap.size) := hZ
 have HHR := Xa HR
 have hrbb := h.rb_lt
 have hbs := h.sz
 have HF0 := Xa h
 obtain ⟨q, hq⟩ : ∃ q, skF s.data.toList p = q := ⟨_, rfl⟩
 have HPQ := Xa hq
 have hpq : p ≤ q := by rw [← hq]; exact Xu _ _
 have HQQ : Hid (skF s.data.toList q = q) := by rw [Hid, ← hq]; exact Yc _ _
 rw [hq]
 obtain ⟨xb, hxb⟩ : ∃ xb, w.heap.size = xb := ⟨_, rfl⟩
 obtain ⟨W1, hW1⟩ : ∃ W1, w.alloc (.cells #[.int .i64 9, .string ⟨#[]⟩, .int .i64 0, .slice none 0 0, .slice none 0 0, .slice none 0 0] 51) = W1 := ⟨_, rfl⟩
 have hb1 : Below w.heap.size w W1 := by rw [← hW1]; exact (Below.refl _ _).alloc (Nat.le_refl _) _
 have hz1' : W1.heap.size = xb + 1 := by rw [← hW1, ← hxb]; simp
 have HX1 : Hid (XB W1 xb (.slice none 0 0) (.slice none 0 0)) := by rw [Hid, ← hW1, ← hxb]; exact heap_alloc_new w _
 have hF1 : LfAt W1 rb base (ZR Z xb (.slice none 0 0) (.slice none 0 0)) s p false fs := HF0.out.fresh hb1 (fun x hx => by rcases hx with hx | hx | hx | hx; exact .inl hx; exact .inr (by omega); cases hx; cases hx) (fun x hx => by rcases hx with hx | hx | hx | hx; have := HZ.out x hx; omega; omega; cases hx; cases hx)
 have HB1 : Hid (LB rb base Z w W1) := LB.of_below hb1
 have hi := Zn 125 hF1 (by omega)
 rw [HPQ.out, show (125 : UInt8).toNat = 125 from rfl] at hi
 have HW1 := Xb hW1
 have HZ1 := Xb hz1'
 have hrx : rb < xb := by omega
 have HXB := Xb hxb
 have HZX : Hid (∀ x, Z x → x < xb) := fun x hx => by have := HZ.out x hx; omega
 have hbx : base ≤ xb := by omega
 clear h hZ HR hq hb1 hF1 hW1 hz1' hbs
 cases a125 : Xd s.data.toList q 125
 rotate_left
 ·have HE : Hid (Q7 WSp R s.data.toList fs q = Xs WSp (Qn 9) fs (skF s.data.toList (q + 1))) := by rw [Hid]; unfold Q7; rw [if_pos a125]
  rw [a125] at hi
  have HI := Xa hi
  clear hi a125
  go_enter Tryz.func115, Tryz.ntmps115
  go_wp2_with fail
  rw [HW1.out]
  (try rw [HXB.out])
  refine HI.out.mono ?_
  rintro e w2 ⟨rfl, h, b⟩
  have h9 : LfAt w2 rb base (ZR Z xb (.slice none 0 0) (.slice none 0 0)) s (q + 1) false fs := h
  have h10 : LfAt w2 rb base Z s (q + 1) false fs := h9.fresh (Below.refl _ _) (fun x hx => .inl (.inl hx)) (fun x hx => by have := HZX.out x hx; have := b.size; have := HZ1.out; omega)
  have hx2 := HX1.out.keep b (.inr (.inl rfl)) (by omega)
  have x0 : w2.cell? ⟨xb, 0, none⟩ = some (.int .i64 9) := cellAt hx2 rfl
  have x1 : w2.cell? ⟨xb, 1, none⟩ = some (.string ⟨#[]⟩) := cellAt hx2 rfl
  have x2 : w2.cell? ⟨xb, 2, none⟩ = some (.int .i64 0) := cellAt hx2 rfl
  have x3 : w2.cell? ⟨xb, 3, none⟩ = some (.slice none 0 0) := cellAt hx2 rfl
  have x4 : w2.cell? ⟨xb, 4, none⟩ = some (.slice none 0 0) := cellAt hx2 rfl
  have x5 : w2.cell? ⟨xb, 5, none⟩ = some (.slice none 0 0) := cellAt hx2 rfl
  have HB2 := Xa (HB1.out.trans (b.mono fun x hx => .inl hx))
  have HA := Xa (Qd h10 (by omega) 9 ByteArray.empty 0)
  clear h h9 h10 b hx2
  go_wp2_with fail
  refine HA.out.mono ?_
  rintro e w9 ⟨rfl, h9, b9⟩
  have HF9 := Xa h9
  have HB9 := Xa (HB2.out.trans b9)
  clear h9 b9
  go_wp2_with fail
  go_ret
  exact LfOr.of HE.out (LfOr.add HF9.out hl (by omega) HB9.out)
 have HE : Hid (Q7 WSp R s.data.toList fs q = Zg WSp R s.data.toList (s.size + 1) [] [] fs q) := by rw [Hid]; unfold Q7; rw [if_neg (by rw [a125]; decide), HLN.out]
 rw [a125] at hi
 have HI := Xa hi
 clear hi a125
 obtain ⟨tg, htg⟩ : ∃ tg, Q7 WSp R s.data.toList fs q = tg := ⟨_, rfl⟩
 rw [htg] at HE ⊢
 clear htg
 go_enter Tryz.func115, Tryz.ntmps115
 go_wp2_with fail
 rw [HW1.out]
 (try rw [HXB.out])
 refine HI.out.mono ?_
 rintro e w2 ⟨rfl, h, b⟩
 have h9 : LfAt w2 rb base (ZR Z xb (.slice none 0 0) (.slice none 0 0)) s q false fs := h
 have HF2 := Xa h9
 have HX2 := Xa (HX1.out.keep b (.inr (.inl rfl)) (by omega))
 have HB2 := Xa (HB1.out.trans (b.mono fun x hx => .inl hx))
 clear h h9 b
 go_wp2_with fail
 go_loopw [] (fun wr => ∃ (g y : Nat) (b : Bool) (names : List ByteArray) (kids : List Int) (fs' : List FN) (kv it : Value), names.length + g = s.size + 1 ∧ kids.length = names.length ∧ p ≤ y ∧ fs'.length + p ≤ 42 + y ∧ LfAt wr rb base (ZR Z xb kv it) s y b fs' ∧ LB rb base Z w wr ∧ XB wr xb kv it ∧ wr.ownsRow (xb + 1) 9 1 kv names.length (names.map .string) ∧ wr.ownsRow (xb + 1) 2 1 it kids.length (kids.map (.int .i64)) ∧ Hid ((b = true → tg = none) ∧ (b = false → fs'.length ≤ 40 ∧ names.length + p ≤ y ∧ tg = Zg WSp R s.data.toList g names kids fs' (skF s.data.toList y)))) (fun wr => Yb wr rb s.size)
 case atStart => exact ⟨s.size + 1, q, false, [], [], fs, _, _, by simp, rfl, hpq, by omega, HF2.out, HB2.out, HX2.out, World.ownsRow_nil _ _ _ _, World.ownsRow_nil _ _ _ _, fun e => (by cases e), fun _ => ⟨hl, by simpa using hpq, by rw [HQQ.out]; exact HE.out⟩⟩
 case round =>
  obtain ⟨g, y, b, names, kids, fs', kv, it, hng, hkl, hpy, hfl, hfr, hbt, hxx, hrn, hrk, HEQ⟩ := hrel
  have hys := hfr.le
  have HS := Xb hfr
  have HBT := Xb hbt
  have HXX := Xb hxx
  have HRN := Xb hrn
  have HRK := Xb hrk
  have zr : xb ≤ wr.heap.size := by have := hbt.size; have := HXB.out; omega
  have zx : xb < wr.heap.size := ltH hxx
  obtain ⟨c0, c1, c2⟩ := hfr.cells
  clear HF2 HX2 HB2 HE
  cases b
  rotate_left
  ·have h1 : LfAt wr rb base Z s y true fs' := hfr.fresh (Below.refl _ _) (fun x hx => .inl (.inl hx)) (fun x hx => by have := HZX.out x hx; omega)
   have HS1 := Xb h1
   have HTN := Xb (HEQ.out.1 rfl)
   clear hfr hbt hxx hrn hrk h1 HEQ
   go_wp2_with fail
   go_ret
   exact LfOr.no HTN.out HS1.out hfl hpy HBT.out
  obtain ⟨hfl40, hny, hTG⟩ := HEQ.out.2 rfl
  have HTG := Xb hTG
  obtain ⟨g, rfl⟩ : ∃ g', g = g' + 1 := ⟨g - 1, by omega⟩
  obtain ⟨ak, ck, ek⟩ := J6 hrn
  obtain ⟨ai, ci, ei⟩ := J6 hrk
  obtain ⟨k, hlen⟩ : ∃ k, names.length = k := ⟨_, rfl⟩
  have HKL : Hid (kids.length = k) := by rw [Hid, hkl, hlen]
  rw [hkl, hlen] at ei
  rw [hlen] at ek hng hny hkl
  have HLEN := Xb hlen
  subst ek ei
  obtain ⟨q0, hq0⟩ : ∃ q0, skF s.data.toList y = q0 := ⟨_, rfl⟩
  rw [hq0] at HTG
  have HQ0 := Xb hq0
  have hbd : Below wr.heap.size wr wr.drew := (Below.refl _ _).drew
  have hst0 : LfSt (some (fs', q0)) rb base (ZR Z xb (.slice ak k ck) (.slice ai k ci)) s y wr.drew := by rw [← hq0]; exact LfSt.good (hfr.below hbd) hfl40 (Nat.le_refl _)
  have HWD := Xb (Xwf (by omega) hst0)
  have HXD : Hid (XB wr.drew xb (.slice ak k ck) (.slice ai k ci)) := (hbd.block xb zx).trans hxx
  have HRND : Hid (wr.drew.ownsRow (xb + 1) 9 1 (.slice ak k ck) k (names.map Value.string)) := by rw [hlen] at hrn; exact J2 hrn fun x hx => hbd.block x (hrn.lt x hx).2
  have HRKD : Hid (wr.drew.ownsRow (xb + 1) 2 1 (.slice ai k ci) k (kids.map (Value.int .i64))) := by rw [HKL.out] at hrk; exact J2 hrk fun x hx => hbd.block x (hrk.lt x hx).2
  have HBD : Hid (LB rb base Z w wr.drew) := hbt.trans (LB.of_below hbd)
  have zxd : xb < wr.drew.heap.size := by simpa using zx
  have x4 : wr.cell? ⟨xb, 4, none⟩ = some (.slice ak k ck) := cellAt hxx rfl
  have y4 : wr.frozen? ⟨xb, 4, none⟩ = false := Lib.frozen_of_heap hxx 4
  have hone : ∀ (T : ByteArray), ∀ u ∈ [Value.string T], u.oneCell' = true := fun T u hu => by simp at hu; subst hu; rfl
  have hml : k + 1 ≤ maxLen := by unfold maxLen; omega
  have hby : (k + 1) * 16 ≤ 140737488355328 := by omega
  have hnr : (Value.slice ak k ck).ownBlock ≠ some xb := fun e => by have := (HRND.out.lt _ e).1; omega
  clear hfr hbt hxx hrn hrk hlen hkl hq0 hst0 hbd hTG HEQ
  go_wp2_with fail
  go_region_law
   (first
    | (refine Wu (by rfl) 119 _ _ (by rfl) (.pointer (some ⟨rb, 0, none⟩)) (by rfl) (Xml _) HWD.out ?_; rintro e w1 ⟨T, rfl, hb1, hst1, hT1⟩; have hx1 := HXD.out.keep hb1 (.inr (.inl rfl)) (by omega); have zx1 := ltH hx1; have hS1 : w1.cell? ⟨xb, 4, none⟩ = some (.slice ak k ck) := cellAt hx1 rfl; have hf1 : w1.frozen? ⟨xb, 4, none⟩ = false := Lib.frozen_of_heap hx1 4; have hbh := Bhd.of (u := .string T) (xb := xb) (hb1.own HRND.out (by decide) (by omega)) (by omega) zx1; refine ⟨_, rfl, ?_⟩)
    | (refine step_append_lies _ (by rfl) _ _ _ (by rfl) (xb + 1) 9 j1 (.string ByteArray.empty) 1 16 Tryz.underlying48 hj1 hzj hsj hyj rfl (by omega) (.slice ak k ck) k (names.map .string) (by rfl) hbh.row ⟨w1.heap.size, 0, none⟩ 1 1 [.string T] (by rfl) (by rfl) hbh.news (hone T) (by omega) hml hby hbh.base (w1.heap.size + 1) hbh.top ?_; intro g5 cap5 w5 hown hgrow hat hlt5; have hx5 : XB w5 xb (.slice ak k ck) (.slice ai k ci) := (hgrow.block xb hbh.lt (Ne.symm hnr)).trans ((heap_alloc_old w1 _ zx1).trans hx1); have hS3 : w5.cell? ⟨xb, 4, none⟩ = some (.slice ak k ck) := cellAt hx5 rfl; have hf3 : w5.frozen? ⟨xb, 4, none⟩ = false := Lib.frozen_of_heap hx5 4))
  all_goals
   -- the row of names has grown
   have hba : Below w1.heap.size w1 (w1.alloc (.cells #[.string T] 9)) := (Below.refl _ _).alloc (Nat.le_refl _) _
   have hza : (w1.alloc (.cells #[.string T] 9)).heap.size = w1.heap.size + 1 := by simp
   have hg5 := hgrow.size
   obtain ⟨r1, hr1⟩ : ∃ r1 : CF, ((some (fs', q0) : CF).bind fun x => some (x.1, skF s.data.toList (wdJ s.data.toList x.2))) = r1 := ⟨_, rfl⟩
   rw [hr1] at hst1
   have HR1 : Hid (r1 = some (fs', skF s.data.toList (wdJ s.data.toList q0))) := by rw [Hid, ← hr1]; rfl
   have HTT : Hid (T = txt ((s.data.toList.drop q0).take (wdJ s.data.toList q0 - q0))) := hT1 _ _ rfl
   obtain ⟨W6, hW6⟩ : ∃ W6, w5.setCell ⟨xb, 4, none⟩ (.slice (some ⟨g5, 0, none⟩) (k + 1) cap5) = W6 := ⟨_, rfl⟩
   have hz6 : W6.heap.size = w5.heap.size := by rw [← hW6]; simp
   have HX6 : Hid (XB W6 xb (.slice (some ⟨g5, 0, none⟩) (k + 1) cap5) (.slice ai k ci)) := by rw [Hid, ← hW6]; exact setH hx5 _
   have HN6 : Hid (W6.ownsRow (xb + 1) 9 1 (.slice (some ⟨g5, 0, none⟩) (k + 1) cap5) (names ++ [T]).length ((names ++ [T]).map .string)) := by
    rw [Hid, ← hW6, List.length_append, List.length_singleton, HLEN.out, List.map_append]; exact Xey hown (by omega)
   have hrk1 := hb1.own HRKD.out (by decide) (by omega)
   have HK6 : Hid (W6.ownsRow (xb + 1) 2 1 (.slice ai k ci) k (kids.map (Value.int .i64))) := by
    rw [Hid, ← hW6]
    exact Xey ((hrk1.alloc _).kept hgrow (Vo (hrk1.alloc _) hbh.row (by decide))) (by omega)
   have HST6 : Hid (LfSt r1 rb base (ZR Z xb (.slice (some ⟨g5, 0, none⟩) (k + 1) cap5) (.slice ai k ci)) s y W6) := by
    rw [Hid, ← hW6]
    refine LfSt.setX (LfSt.grown (hst1.below hba) hbh.row (by decide) (by omega) (fun x hx => .inr (.inr (.inl hx))) hgrow (fun x hx => ?_) (fun x hx => ?_)) (.inr (.inl rfl)) (by omega)
    ·rcases hx with hx | hx | hx | hx
     ·exact .inl (.inl hx)
     ·exact .inl (.inr (.inl hx))
     ·have e : g5 = x := by simpa [Value.ownBlock] using hx
      rcases hat with h | h
      ·exact .inl (.inr (.inr (.inl (by rw [← e]; exact h))))
      ·exact .inr (by rw [hza]; omega)
     ·exact .inl (.inr (.inr (.inr hx)))
    ·rcases hx with hx | hx | hx | hx
     ·have := HZX.out x hx; omega
     ·omega
     ·have e : g5 = x := by simpa [Value.ownBlock] using hx
      omega
     ·have := (hrk1.lt x hx).2; omega
   have HB6 : Hid (LB rb base Z w W6) := by
    rw [Hid, ← hW6]
    exact (((HBD.out.trans (hb1.mono fun x hx => .inl hx)).trans (LB.of_below hba)).grownN hgrow (fun x hx => by have := (HRND.out.lt x hx).1; have := HXB.out; omega)).setN (by have := HXB.out; omega)
   have HW6 := Xb hW6
   have zx6 : xb < W6.heap.size := by omega
   clear hb1 hst1 hT1 hx1 zx1 hS1 hf1 hbh hown hgrow hat hlt5 hx5 hS3 hf3 hba hza hg5 hr1 hW6 hz6 hrk1 x4 y4 c0 c1 c2 hone hml hby hnr
   have HWA := Xb (Xr8 58 (by omega) HST6.out)
   go_wp2_with fail
   rw [HW6.out]
   refine HWA.out.mono ?_
   rintro e w7 ⟨rfl, b7, d, hd1, st7, hd0⟩
   obtain ⟨r2, hr2⟩ : ∃ r2 : CF, (r1.bind fun x => if Xd s.data.toList x.2 (58 : UInt8).toNat = true then some (x.1, skF s.data.toList (x.2 + 1)) else none) = r2 := ⟨_, rfl⟩
   rw [hr2] at st7 hd0
   have HR2 := Xb hr2
   have HD0 := Xb hd0
   have HX7 := Xb (HX6.out.keep b7 (.inr (.inl rfl)) (by omega))
   have HN7 := Xb (b7.own HN6.out (by decide) (by omega))
   have HK7 := Xb (b7.own HK6.out (by decide) (by omega))
   have HB7 := Xb (HB6.out.trans (b7.mono fun x hx => .inl hx))
   have zx7 := ltH HX7.out
   have hbd7 : Below w7.heap.size w7 w7.drew := (Below.refl _ _).drew
   have st7d := st7.below hbd7
   have HXD7 : Hid (XB w7.drew xb (.slice (some ⟨g5, 0, none⟩) (k + 1) cap5) (.slice ai k ci)) := (hbd7.block xb zx7).trans HX7.out
   have HND7 : Hid (w7.drew.ownsRow (xb + 1) 9 1 (.slice (some ⟨g5, 0, none⟩) (k + 1) cap5) (names ++ [T]).length ((names ++ [T]).map .string)) := J2 HN7.out fun x hx => hbd7.block x (HN7.out.lt x hx).2
   have HKD7 : Hid (w7.drew.ownsRow (xb + 1) 2 1 (.slice ai k ci) k (kids.map (Value.int .i64))) := J2 HK7.out fun x hx => hbd7.block x (HK7.out.lt x hx).2
   have HBD7 : Hid (LB rb base Z w w7.drew) := HB7.out.trans (LB.of_below hbd7)
   have HLV := Xb (Xb2 HHR.out 3 (by decide) (by decide) st7d.zb (by omega) st7d)
   have x5 : w7.cell? ⟨xb, 5, none⟩ = some (.slice ai k ci) := cellAt HX7.out rfl
   have y5 : w7.frozen? ⟨xb, 5, none⟩ = false := Lib.frozen_of_heap HX7.out 5
   have zxd7 : xb < w7.drew.heap.size := by simpa using zx7
   have hone2 : ∀ (n : Int), ∀ u ∈ [Value.int .i64 n], u.oneCell' = true := fun n u hu => by simp at hu; subst hu; rfl
   have hml2 : k + 1 ≤ maxLen := by unfold maxLen; omega
   have hby2 : (k + 1) * 8 ≤ 140737488355328 := by omega
   have hnr2 : (Value.slice ai k ci).ownBlock ≠ some xb := fun e => by have := (HKD7.out.lt _ e).1; omega
   clear b7 st7 hr2 hd0 hbd7 st7d
   go_wp2_with fail
   go_region_law
    (first
     | (refine Xkl (by rfl) 43 _ _ _ _ (by rfl) (.pointer (some ⟨rb, 0, none⟩)) (.int .i64 3) (by rfl) (by rfl) (Xkk _ _) HLV.out ?_; rintro e w8 ⟨n, rfl, hb8, hst8, hn8⟩; have hx8 := HXD7.out.keep hb8 (.inr (.inl rfl)) (by omega); have zx8 := ltH hx8; have hS8 : w8.cell? ⟨xb, 5, none⟩ = some (.slice ai k ci) := cellAt hx8 rfl; have hf8 : w8.frozen? ⟨xb, 5, none⟩ = false := Lib.frozen_of_heap hx8 5; have hbh8 := Bhd.of (u := .int .i64 n) (xb := xb) (hb8.own HKD7.out (by decide) (by omega)) (by omega) zx8; refine ⟨_, rfl, ?_⟩)
     | (refine step_append_lies _ (by rfl) _ _ _ (by rfl) (xb + 1) 2 i1 (.int .i64 0) 1 8 Tryz.underlying49 hi1 hz1 hs1 hy1 rfl (by omega) (.slice ai k ci) k (kids.map (Value.int .i64)) (by rfl) hbh8.row ⟨w8.heap.size, 0, none⟩ 1 1 [.int .i64 n] (by rfl) (by rfl) hbh8.news (hone2 n) (by omega) hml2 hby2 hbh8.base (w8.heap.size + 1) hbh8.top ?_; intro g9 cap9 w9 hown hgrow hat hlt9; have hx9 : XB w9 xb (.slice (some ⟨g5, 0, none⟩) (k + 1) cap5) (.slice ai k ci) := (hgrow.block xb hbh8.lt (Ne.symm hnr2)).trans ((heap_alloc_old w8 _ zx8).trans hx8); have hS9 : w9.cell? ⟨xb, 5, none⟩ = some (.slice ai k ci) := cellAt hx9 rfl; have hf9 : w9.frozen? ⟨xb, 5, none⟩ = false := Lib.frozen_of_heap hx9 5))
   all_goals
    have hba : Below w8.heap.size w8 (w8.alloc (.cells #[.int .i64 n] 2)) := (Below.refl _ _).alloc (Nat.le_refl _) _
    have hza : (w8.alloc (.cells #[.int .i64 n] 2)).heap.size = w8.heap.size + 1 := by simp
    have hg9 := hgrow.size
    obtain ⟨r3, hr3⟩ : ∃ r3 : CF, (r2.bind fun x => (R 3 x.1 x.2).map (·.2)) = r3 := ⟨_, rfl⟩
    rw [hr3] at hst8
    have HSTEP : Hid (tg = r3.bind fun x => if Xd s.data.toList x.2 125 = true then Xs WSp (Vi (names ++ [T]) (kids ++ [n])) x.1 (skF s.data.toList (x.2 + 1)) else Ye s.data.toList x.2 44 fun q => Zg WSp R s.data.toList g (names ++ [T]) (kids ++ [n]) x.1 q) := by
     rw [Hid, HTG.out]
     exact Xr9 HTT.out HR1.out HR2.out.symm hr3.symm hn8
    have HD3 : Hid (r3 ≠ none → d = 1) := fun hne => by
     have : r2 ≠ none := fun e => hne (by rw [← hr3, e]; rfl)
     have : d ≠ 0 := fun e => this (HD0.out e)
     omega
    obtain ⟨WA, hWA⟩ : ∃ WA, w9.setCell ⟨xb, 5, none⟩ (.slice (some ⟨g9, 0, none⟩) (k + 1) cap9) = WA := ⟨_, rfl⟩
    have hzA : WA.heap.size = w9.heap.size := by rw [← hWA]; simp
    have HXA : Hid (XB WA xb (.slice (some ⟨g5, 0, none⟩) (k + 1) cap5) (.slice (some ⟨g9, 0, none⟩) (k + 1) cap9)) := by rw [Hid, ← hWA]; exact setH hx9 _
    have HKA : Hid (WA.ownsRow (xb + 1) 2 1 (.slice (some ⟨g9, 0, none⟩) (k + 1) cap9) (kids ++ [n]).length ((kids ++ [n]).map (Value.int .i64))) := by
     rw [Hid, ← hWA, List.length_append, List.length_singleton, HKL.out, List.map_append]; exact Xey hown (by omega)
    have hrn8 := hb8.own HND7.out (by decide) (by omega)
    have HNA : Hid (WA.ownsRow (xb + 1) 9 1 (.slice (some ⟨g5, 0, none⟩) (k + 1) cap5) (names ++ [T]).length ((names ++ [T]).map .string)) := by
     rw [Hid, ← hWA]
     exact Xey ((hrn8.alloc _).kept hgrow (Vo (hrn8.alloc _) hbh8.row (by decide))) (by omega)
    have HSTA : Hid (LfSt r3 rb base (ZR Z xb (.slice (some ⟨g5, 0, none⟩) (k + 1) cap5) (.slice (some ⟨g9, 0, none⟩) (k + 1) cap9)) s (y + d) WA) := by
     rw [Hid, ← hWA]
     refine LfSt.setX (LfSt.grown (hst8.below hba) hbh8.row (by decide) (by omega) (fun x hx => .inr (.inr (.inr hx))) hgrow (fun x hx => ?_) (fun x hx => ?_)) (.inr (.inl rfl)) (by omega)
     ·rcases hx with hx | hx | hx | hx
      ·exact .inl (.inl hx)
      ·exact .inl (.inr (.inl hx))
      ·exact .inl (.inr (.inr (.inl hx)))
      ·have e : g9 = x := by simpa [Value.ownBlock] using hx
       rcases hat with h | h
       ·exact .inl (.inr (.inr (.inr (by rw [← e]; exact h))))
       ·exact .inr (by rw [hza]; omega)
     ·rcases hx with hx | hx | hx | hx
      ·have := HZX.out x hx; omega
      ·omega
      ·have := (hrn8.lt x hx).2; omega
      ·have e : g9 = x := by simpa [Value.ownBlock] using hx
       omega
    have HBA : Hid (LB rb base Z w WA) := by
     rw [Hid, ← hWA]
     exact (((HBD7.out.trans (hb8.mono fun x hx => .inl hx)).trans (LB.of_below hba)).grownN hgrow (fun x hx => by have := (HKD7.out.lt x hx).1; have := HXB.out; omega)).setN (by have := HXB.out; omega)
    have HWA2 := Xb hWA
    have zxA : xb < WA.heap.size := by omega
    clear hb8 hst8 hn8 hx8 zx8 hS8 hf8 hbh8 hown hgrow hat hlt9 hx9 hS9 hf9 hba hza hg9 hr3 hWA hzA hrn8 x5 y5 hone2 hml2 hby2 hnr2
    have HIS := Xb (Xzl 125 (by omega) HSTA.out)
    go_wp2_with fail
    rw [HWA2.out]
    refine HIS.out.mono ?_
    rintro e w10 ⟨b10, ⟨rfl, fs3, q3, hr, hi, st10⟩ | ⟨rfl, hno, st10⟩⟩
    ·have HY : Hid (tg = Xs WSp (Vi (names ++ [T]) (kids ++ [n])) fs3 (skF s.data.toList (q3 + 1))) := by
      rw [Hid, HSTEP.out, hr]; show (if Xd s.data.toList q3 125 = true then _ else _) = _; rw [if_pos (show Xd s.data.toList q3 125 = true from hi)]
     have HX10 := Xb (HXA.out.keep b10 (.inr (.inl rfl)) (by omega))
     have HN10 := Xb (b10.own HNA.out (by decide) (by omega))
     have HK10 := Xb (b10.own HKA.out (by decide) (by omega))
     have HB10 := Xb (HBA.out.trans (b10.mono fun x hx => .inl hx))
     obtain ⟨bb, fs4, y4, ha4, hp4, hl4, hb4, hg4⟩ := st10.at
     have hbb : bb = false := by
      cases bb
      ·rfl
      ·exact absurd (hb4 rfl) (by simp)
     subst hbb
     obtain ⟨e4, hl40⟩ := hg4 rfl
     have e5 : fs3 = fs4 ∧ skF s.data.toList (q3 + 1) = skF s.data.toList y4 := by simpa using e4
     have HY2 : Hid (tg = Xs WSp (Vi (names ++ [T]) (kids ++ [n])) fs4 (skF s.data.toList y4)) := by rw [Hid, HY.out, e5.2, e5.1]
     have hx10 := HX10.out
     have x0 : w10.cell? ⟨xb, 0, none⟩ = some (.int .i64 9) := cellAt hx10 rfl
     have x1 : w10.cell? ⟨xb, 1, none⟩ = some (.string ⟨#[]⟩) := cellAt hx10 rfl
     have x2 : w10.cell? ⟨xb, 2, none⟩ = some (.int .i64 0) := cellAt hx10 rfl
     have x3 : w10.cell? ⟨xb, 3, none⟩ = some (.slice none 0 0) := cellAt hx10 rfl
     have x4 : w10.cell? ⟨xb, 4, none⟩ = some (.slice (some ⟨g5, 0, none⟩) (k + 1) cap5) := cellAt hx10 rfl
     have x5 : w10.cell? ⟨xb, 5, none⟩ = some (.slice (some ⟨g9, 0, none⟩) (k + 1) cap9) := cellAt hx10 rfl
     have HA := Xb (Xa6 (Z' := Z) (x := Vi (names ++ [T]) (kids ++ [n])) (kc := .slice none 0 0) (kn := .slice (some ⟨g5, 0, none⟩) (k + 1) cap5) (ki := .slice (some ⟨g9, 0, none⟩) (k + 1) cap9) ha4 (Ur _ _) (Xaf HN10.out (by omega)) (Xaf HK10.out (by omega)) (fun x hx => by
      rcases hx with hx | hx | hx
      ·cases hx
      ·exact .inr (.inr (.inl hx))
      ·exact .inr (.inr (.inr hx))) (fun x hx => ⟨.inl hx, fun e => by
      have h0 := HZX.out x hx
      rcases e with e | e | e
      ·cases e
      ·have := (HN10.out.lt x e).1; omega
      ·have := (HK10.out.lt x e).1; omega⟩) (by omega))
     clear b10 st10 hr hi ha4 hl4 hb4 hg4 e4 e5 hx10
     go_wp2_with fail
     refine HA.out.mono ?_
     rintro e w11 ⟨rfl, h11, b11⟩
     have HF11 := Xa h11
     have HB11 := Xa (HB10.out.trans (b11.mono fun x hx => .inl hx))
     clear h11 b11
     go_wp2_with fail
     go_ret
     exact LfOr.of HY2.out (LfOr.add HF11.out hl40 (by omega) HB11.out)
    ·have HX10 := Xb (HXA.out.keep b10 (.inr (.inl rfl)) (by omega))
     have HN10 := Xb (b10.own HNA.out (by decide) (by omega))
     have HK10 := Xb (b10.own HKA.out (by decide) (by omega))
     have HB10 := Xb (HBA.out.trans (b10.mono fun x hx => .inl hx))
     have HNO := Xb hno
     have HWB := Xb (Xbk 44 (by omega) st10)
     clear b10 st10 hno
     go_wp2_with fail
     refine HWB.out.mono ?_
     rintro e w11 ⟨rfl, b11, st11⟩
     obtain ⟨r4, hr4⟩ : ∃ r4 : CF, (r3.bind fun x => if Xd s.data.toList x.2 (44 : UInt8).toNat = true then some (x.1, skF s.data.toList (x.2 + 1)) else none) = r4 := ⟨_, rfl⟩
     rw [hr4] at st11
     have HR4 : Hid (tg = r4.bind fun x => Zg WSp R s.data.toList g (names ++ [T]) (kids ++ [n]) x.1 x.2) := by
      rw [Hid, HSTEP.out, ← hr4]
      cases e3 : r3 with
      | none => rfl
      | some x =>
       obtain ⟨f3, q3⟩ := x
       show (if Xd s.data.toList q3 125 = true then _ else Ye s.data.toList q3 44 fun q => Zg WSp R s.data.toList g (names ++ [T]) (kids ++ [n]) f3 q) = Option.bind (if Xd s.data.toList q3 44 = true then _ else _) _
       rw [if_neg (show ¬ Xd s.data.toList q3 125 = true by rw [show Xd s.data.toList q3 125 = false from HNO.out f3 q3 e3]; decide)]
       by_cases e44 : Xd s.data.toList q3 44 = true
       ·rw [if_pos e44, Xiq e44]; rfl
       ·rw [if_neg e44, Xir e44]; rfl
     have HD4 : Hid (r4 ≠ none → d = 1) := fun hne => HD3.out (fun e => hne (by rw [← hr4, e]; rfl))
     have HX11 := Xb (HX10.out.keep b11 (.inr (.inl rfl)) (by omega))
     have HN11 := Xb (b11.own HN10.out (by decide) (by omega))
     have HK11 := Xb (b11.own HK10.out (by decide) (by omega))
     have HB11 := Xb (HB10.out.trans (b11.mono fun x hx => .inl hx))
     obtain ⟨bb, fs5, y5, ha5, hp5, hl5, hb5, hg5⟩ := st11.at
     have HA5 := Xb ha5
     have HB5 := Xb hb5
     have HG5 := Xb hg5
     have hms : Yb w11 rb s.size < s.size + 1 - y := by
      rw [ha5.meas]
      have := ha5.le
      cases bb
      ·have h4 : r4 ≠ none := by rw [(hg5 rfl).1]; simp
       have := HD4.out h4
       rw [if_neg (by decide)]; omega
      ·rw [if_pos rfl]; omega
     have HMS := Xb hms
     clear b11 st11 hr4 ha5 hb5 hg5 hms
     go_wp2_with fail
     go_roundw
     case rel =>
      refine ⟨g, y5, bb, names ++ [T], kids ++ [n], fs5, _, _, ?_, ?_, by omega, by omega, HA5.out, HB11.out, HX11.out, ?_, ?_, ?_⟩
      ·rw [List.length_append, List.length_singleton, HLEN.out]; omega
      ·rw [List.length_append, List.length_append, List.length_singleton, List.length_singleton, HLEN.out, HKL.out]
      ·exact HN11.out
      ·exact HK11.out
      ·refine ⟨fun e => by rw [HR4.out, HB5.out e]; rfl, fun e => ?_⟩
       obtain ⟨e4, hl4⟩ := HG5.out e
       have := HD4.out (by rw [e4]; simp)
       refine ⟨hl4, ?_, by rw [HR4.out, e4]; rfl⟩
       rw [List.length_append, List.length_singleton, HLEN.out]; omega
     case measure =>
      rw [HS.out.meas, if_neg (by decide)]
      exact HMS.out
end
end Go.Proofs.YtehihemfepbmfaaGreatDoor
