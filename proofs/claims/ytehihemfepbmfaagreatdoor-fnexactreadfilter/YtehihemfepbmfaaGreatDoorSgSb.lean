/-
  The program's filterReader: jointHere at the last byte, and behind it.
-/
import Derived.Test.YtehihemfepbmfaaGreatDoorMkG
import Derived.Test.YtehihemfepbmfaaGreatDoorSgK
import Derived.Test.YtehihemfepbmfaaGreatDoorUneP
import Derived.Deep.RegionLaw
import Derived.Deep.AppendLies
import Derived.Test.YtehihemfepbmfaaGreatDoorSgJ
namespace Go.Proofs.YtehihemfepbmfaaGreatDoor
open Go.RowKit
set_option linter.unusedSimpArgs false
set_option linter.unusedVariables false

set_option maxRecDepth 100000 in
set_option maxHeartbeats 12800000 in
theorem jointHere_one {rb mb base p : Nat} {Z : Nat → Prop} {s : ByteArray} {fs : List FN} {w : World} (h : FrAt w rb mb base Z s p fs) (hs : s.size ≤ 4000) (hq : ¬ p + 1 < s.size) :
    Calls Tryz.prog 111 #[.pointer (some ⟨rb, 0, none⟩)] w fun e w' => e = .returned (jhV (jntF s.data.toList p)) ∧ Below w.heap.size w w' := by
  obtain ⟨W1, hW1⟩ : ∃ W1, w.alloc (.cells #[.int .i64 0, .string ⟨#[]⟩, .int .i64 0, .int .i64 0, .int .i64 0] 91) = W1 := ⟨_, rfl⟩
  have hb1 : Below w.heap.size w W1 := by rw [← hW1]; exact (Below.refl _ _).alloc (Nat.le_refl _) _
  have hx1 : W1.heap[w.heap.size]? = some (.cells #[.int .i64 0, .string ⟨#[]⟩, .int .i64 0, .int .i64 0, .int .i64 0] 91 (0, 0)) := by rw [← hW1]; exact heap_alloc_new w _
  have hz1 : w.heap.size < W1.heap.size := by rw [← hW1]; simp
  have HLN := hideB (len_is s)
  have hp := h.le
  have HJ : Hid (jntF s.data.toList p = jntK (byAt s.data.toList p) (byAt s.data.toList (p + 1))) := by rw [Hid, jnt_is, jnt_K]
  obtain ⟨c, hc⟩ : ∃ c, byAt s.data.toList p = c := ⟨_, rfl⟩
  obtain ⟨d, hd⟩ : ∃ d, byAt s.data.toList (p + 1) = d := ⟨_, rfl⟩
  have hc256 : c < 256 := by rw [← hc]; exact byAt_lt _ _
  have hd256 : d < 256 := by rw [← hd]; exact byAt_lt _ _
  rw [hc, hd] at HJ
  have HD := hideB hd
  have HX1 := hideB hx1
  have HB1 := hideB hb1
  have HF1 := hideB (h.below hb1)
  have HPK := hideB (peek_any (let ⟨v, h1, _⟩ := HF1.out.ex; h1.br) (by omega))
  rw [hc] at HPK
  clear h hb1 hx1 hc hd
  go_enter Tryz.func111, Tryz.ntmps111
  go_wp2_with fail
  (try rw [hW1])
  refine HPK.out.mono ?_
  rintro e w1 ⟨rfl, hb2⟩
  have HB2 := hideB hb2
  have HF2 := hideB (HF1.out.below hb2)
  have hz2 : w.heap.size < w1.heap.size := Nat.lt_of_lt_of_le hz1 hb2.size
  have HX2 : Hid (w1.heap[w.heap.size]? = _) := (hb2.block _ hz1).trans HX1.out
  obtain ⟨W2, hW2⟩ : ∃ W2, w1.alloc (.cells #[.int .u8 (c : Int), .int .u8 0] 110) = W2 := ⟨_, rfl⟩
  have hb3 : Below w1.heap.size w1 W2 := by rw [← hW2]; exact (Below.refl _ _).alloc (Nat.le_refl _) _
  have HB3 := hideB hb3
  have HF3 := hideB (HF2.out.below hb3)
  have HX3 : Hid (W2.heap[w.heap.size]? = _) := (hb3.block _ hz2).trans HX2.out
  have HY3 : Hid (W2.heap[w1.heap.size]? = some (.cells #[.int .u8 (c : Int), .int .u8 0] 110 (0, 0))) := by rw [Hid, ← hW2]; exact heap_alloc_new w1 _
  have hz3 : w1.heap.size < W2.heap.size := by rw [← hW2]; simp
  have HW2 := hideB hW2
  clear hb2 hb3 hW2
  go_wp2_with fail
  rw [HW2.out]
  obtain ⟨c0, c1, f1, lt0⟩ := HF3.out.cells
  have y0 : W2.cell? ⟨w1.heap.size, 0, none⟩ = some (.int .u8 (c : Int)) := cellAt HY3.out rfl
  have y1 : W2.cell? ⟨w1.heap.size, 1, none⟩ = some (.int .u8 0) := cellAt HY3.out rfl
  have g1 : W2.frozen? ⟨w1.heap.size, 1, none⟩ = false := Lib.frozen_of_heap HY3.out 1
  have hd0 : (d : Int) = 0 := by
    have := byAt_past (L := s.data.toList) (p := p + 1) (by rw [HLN.out]; omega)
    rw [HD.out] at this; omega
  have hq' : ¬ (p : Int) + 1 < (s.size : Int) := by omega
  have hqd : decide ((p : Int) + 1 < (s.size : Int)) = false := by simpa using hq'
  have HD0 := hideB hd0
  clear hd0
  go_quiet (fail)
  have HD4 := hideB (below_drewB (w := W2) nq)
  obtain ⟨WA, hWA⟩ : ∃ WA, W2.drewN nq = WA := ⟨_, rfl⟩
  rw [hWA] at HD4 ⊢
  have HFA := hideB (HF3.out.below HD4.out)
  have HXA : Hid (WA.heap[w.heap.size]? = _) := (HD4.out.block _ (by omega)).trans HX3.out
  have HYA : Hid (WA.heap[w1.heap.size]? = some (.cells #[.int .u8 (c : Int), .int .u8 (d : Int)] 110 (0, 0))) := by rw [Hid, HD0.out]; exact (HD4.out.block _ (by omega)).trans HY3.out
  have hzA : w1.heap.size < WA.heap.size := Nat.lt_of_lt_of_le hz3 HD4.out.size
  have HBA : Hid (Below w.heap.size w WA) := ((HB1.out.trans (HB2.out.mono (by omega))).trans (HB3.out.mono (by omega))).trans (HD4.out.mono (by omega))
  have m3 : WA.cell? ⟨rb, 3, none⟩ = some (.map (some mb)) := by
    obtain ⟨v, h1, _⟩ := HFA.out.ex
    exact h1.bl 3 (by decide)
  have mmp : WA.heap[mb]? = some (.map (signM 10) 10) := HFA.out.box.mp
  clear hWA c0 c1 f1 y0 y1 g1 hq hq' hqd HD4 HFA nq
  all_goals
    obtain ⟨k1, t1, l1, fl1, r1, ok1, hlk, hor1⟩ := look_any mb c d
    have hlk1 := hlk WA.drew mmp
    have hmb : mb < WA.heap.size := ltHF mmp
    have hlk2 := hlk ((WA.alloc (.cells #[.int .i64 0, .string ⟨#[]⟩, .int .i64 0, .int .i64 0, .int .i64 0] 91)).drew) ((heap_alloc_old WA _ hmb).trans mmp)
    have HOR1 := hideB hor1
    have HMP := hideB mmp
    have hrl : rb < WA.heap.size := by have := HF2.out.cells.2.2.2; omega
    clear hor1 mmp hlk
    have y0 : WA.cell? ⟨w1.heap.size, 0, none⟩ = some (.int .u8 (c : Int)) := cellAt HYA.out rfl
    have y1 : WA.cell? ⟨w1.heap.size, 1, none⟩ = some (.int .u8 (d : Int)) := cellAt HYA.out rfl
    have HW2' := HW2
    clear HW2
    go_wp2_with fail
    go_region
  all_goals
    obtain ⟨WB, hWB⟩ : ∃ WB, (WA.alloc (.cells #[.int .i64 k1, .string t1, .int .i64 l1, .int .i64 fl1, .int .i64 r1] 91)).drew = WB := ⟨_, rfl⟩
    rw [hWB]
    have hbB : Below WA.heap.size WA WB := by rw [← hWB]; exact ((Below.refl _ _).alloc (Nat.le_refl _) _).drew
    have hjB : WB.heap[WA.heap.size]? = some (.cells #[.int .i64 k1, .string t1, .int .i64 l1, .int .i64 fl1, .int .i64 r1] 91 (0, 0)) := by rw [← hWB]; exact heap_alloc_new WA _
    have HXB : Hid (WB.heap[w.heap.size]? = _) := (hbB.block _ (by omega)).trans HXA.out
    have HYB : Hid (WB.heap[w1.heap.size]? = _) := (hbB.block _ (by omega)).trans HYA.out
    have HMPB : Hid (WB.heap[mb]? = _) := (hbB.block _ hmb).trans HMP.out
    have HBB := hideB (HBA.out.trans (hbB.mono (by omega)))
    have hzB : WA.heap.size < WB.heap.size := by rw [← hWB]; simp
    have hmbB : mb < WB.heap.size := by omega
    have m3' : WB.cell? ⟨rb, 3, none⟩ = some (.map (some mb)) := (cellOf (hbB.block rb hrl)).trans m3
    clear hWB hbB hlk1 hlk2 m3 y0 y1
    have m3 := m3'
    clear m3'
    have y0 : WB.cell? ⟨w1.heap.size, 0, none⟩ = some (.int .u8 (c : Int)) := cellAt HYB.out rfl
    have y1 : WB.cell? ⟨w1.heap.size, 1, none⟩ = some (.int .u8 (d : Int)) := cellAt HYB.out rfl
    have j0 := cellAt hjB (i := 0) rfl
    have j1 := cellAt hjB (i := 1) rfl
    have j2 := cellAt hjB (i := 2) rfl
    have j3 := cellAt hjB (i := 3) rfl
    have j4 := cellAt hjB (i := 4) rfl
    have u0 := cellAt HXB.out (i := 0) rfl
    have u1 := cellAt HXB.out (i := 1) rfl
    have u2 := cellAt HXB.out (i := 2) rfl
    have u3 := cellAt HXB.out (i := 3) rfl
    have u4 := cellAt HXB.out (i := 4) rfl
    have v0 : WB.frozen? ⟨w.heap.size, 0, none⟩ = false := Lib.frozen_of_heap HXB.out 0
    have v1 : WB.frozen? ⟨w.heap.size, 1, none⟩ = false := Lib.frozen_of_heap HXB.out 1
    have v2 : WB.frozen? ⟨w.heap.size, 2, none⟩ = false := Lib.frozen_of_heap HXB.out 2
    have v3 : WB.frozen? ⟨w.heap.size, 3, none⟩ = false := Lib.frozen_of_heap HXB.out 3
    have v4 : WB.frozen? ⟨w.heap.size, 4, none⟩ = false := Lib.frozen_of_heap HXB.out 4
    have hne2 : ¬ w.heap.size = WA.heap.size := by omega
    have hne3 : ¬ WA.heap.size = w.heap.size := by omega
    have hrlB : rb < WB.heap.size := by omega
    have hw1B : w1.heap.size < WB.heap.size := by omega
    clear hjB HXA HYA HMP hrl hmb
    by_cases hA : ok1 = true ∧ d ≠ 0
    · obtain ⟨hok, hd0⟩ := hA
      subst hok
      have dne : ((d : Int) != 0) = true := by simp; omega
      have dne2 : ¬ (d : Int) = 0 := by omega
      have HR : Hid (jhV (jntF s.data.toList p) = .tuple #[.agg #[.int .i64 k1, .string t1, .int .i64 l1, .int .i64 fl1, .int .i64 r1], .int .i64 2]) := by
        rcases HOR1.out with ⟨_, hk, e1, e2, e3, e4⟩ | ⟨e, _⟩
        · rw [Hid, HJ.out]; unfold jntK; rw [if_neg hd0, hk, e1, e2, e3, e4]; rfl
        · cases e
      clear HOR1
      go_wp2_with fail
      refine ret_jh (set5 HXB.out) rfl rfl rfl ?_
      exact ⟨by rw [HR.out]; rfl, ((((HBB.out.setCell (p := ⟨w.heap.size, 0, none⟩) (Nat.le_refl _) _).setCell (p := ⟨w.heap.size, 1, none⟩) (Nat.le_refl _) _).setCell (p := ⟨w.heap.size, 2, none⟩) (Nat.le_refl _) _).setCell (p := ⟨w.heap.size, 3, none⟩) (Nat.le_refl _) _).setCell (p := ⟨w.heap.size, 4, none⟩) (Nat.le_refl _) _⟩
    have HFST : Hid ((if d = 0 then none else lookK c d) = none) := by
      rw [Hid]
      split
      · rfl
      · rename_i hd0
        rcases HOR1.out with ⟨e, _⟩ | ⟨_, hk⟩
        · exact absurd ⟨e, hd0⟩ hA
        · exact hk
    have hB : ok1 = false ∨ (ok1 = true ∧ (d : Int) = 0) := by
      cases ok1
      · exact .inl rfl
      · refine .inr ⟨rfl, ?_⟩
        by_cases h : d = 0
        · omega
        · exact absurd ⟨rfl, h⟩ hA
    clear HOR1 hA
    rcases hB with hB | ⟨hB, hd0⟩
    · subst hB
      obtain ⟨k2, t2, l2, fl2, r2, ok2, hlk, hor2⟩ := look_zero mb c
      have hlk1 := hlk WB.drew HMPB.out
      have hlk2 := hlk ((WB.alloc (.cells #[.int .i64 0, .string ⟨#[]⟩, .int .i64 0, .int .i64 0, .int .i64 0] 91)).drew) ((heap_alloc_old WB _ hmbB).trans HMPB.out)
      clear hlk
      have HOR2 := hideB hor2
      clear hor2
      go_wp2_with fail
      go_region
      all_goals
        obtain ⟨WC, hWC⟩ : ∃ WC, (WB.alloc (.cells #[.int .i64 k2, .string t2, .int .i64 l2, .int .i64 fl2, .int .i64 r2] 91)).drew = WC := ⟨_, rfl⟩
        rw [hWC]
        have hbC : Below WB.heap.size WB WC := by rw [← hWC]; exact ((Below.refl _ _).alloc (Nat.le_refl _) _).drew
        have hjC : WC.heap[WB.heap.size]? = some (.cells #[.int .i64 k2, .string t2, .int .i64 l2, .int .i64 fl2, .int .i64 r2] 91 (0, 0)) := by rw [← hWC]; exact heap_alloc_new WB _
        have HXC : Hid (WC.heap[w.heap.size]? = _) := (hbC.block _ (by omega)).trans HXB.out
        have HBC := hideB (HBB.out.trans (hbC.mono (by omega)))
        have hzC : WB.heap.size < WC.heap.size := by rw [← hWC]; simp
        clear hWC hbC hlk1 hlk2 m3 y0 y1 u0 u1 u2 u3 u4 v0 v1 v2 v3 v4 j0 j1 j2 j3 j4
        have j0 := cellAt hjC (i := 0) rfl
        have j1 := cellAt hjC (i := 1) rfl
        have j2 := cellAt hjC (i := 2) rfl
        have j3 := cellAt hjC (i := 3) rfl
        have j4 := cellAt hjC (i := 4) rfl
        have u0 := cellAt HXC.out (i := 0) rfl
        have u1 := cellAt HXC.out (i := 1) rfl
        have u2 := cellAt HXC.out (i := 2) rfl
        have u3 := cellAt HXC.out (i := 3) rfl
        have u4 := cellAt HXC.out (i := 4) rfl
        have v0 : WC.frozen? ⟨w.heap.size, 0, none⟩ = false := Lib.frozen_of_heap HXC.out 0
        have v1 : WC.frozen? ⟨w.heap.size, 1, none⟩ = false := Lib.frozen_of_heap HXC.out 1
        have v2 : WC.frozen? ⟨w.heap.size, 2, none⟩ = false := Lib.frozen_of_heap HXC.out 2
        have v3 : WC.frozen? ⟨w.heap.size, 3, none⟩ = false := Lib.frozen_of_heap HXC.out 3
        have v4 : WC.frozen? ⟨w.heap.size, 4, none⟩ = false := Lib.frozen_of_heap HXC.out 4
        have hne2 : ¬ w.heap.size = WB.heap.size := by omega
        have hne3 : ¬ WB.heap.size = w.heap.size := by omega
        clear hjC
        rcases HOR2.out with ⟨e, hk, e1, e2, e3, e4⟩ | ⟨e, hk⟩
        · subst e
          have HR : Hid (jhV (jntF s.data.toList p) = .tuple #[.agg #[.int .i64 k2, .string t2, .int .i64 l2, .int .i64 fl2, .int .i64 r2], .int .i64 1]) := by rw [Hid, HJ.out]; unfold jntK; rw [HFST.out, hk, e1, e2, e3, e4]; rfl
          clear hk e1 e2 e3 e4 HOR2
          go_wp2_with fail
          refine ret_jh (set5 HXC.out) rfl rfl rfl ?_
          exact ⟨by rw [HR.out]; rfl, ((((HBC.out.setCell (p := ⟨w.heap.size, 0, none⟩) (Nat.le_refl _) _).setCell (p := ⟨w.heap.size, 1, none⟩) (Nat.le_refl _) _).setCell (p := ⟨w.heap.size, 2, none⟩) (Nat.le_refl _) _).setCell (p := ⟨w.heap.size, 3, none⟩) (Nat.le_refl _) _).setCell (p := ⟨w.heap.size, 4, none⟩) (Nat.le_refl _) _⟩
        · subst e
          have HR : Hid (jhV (jntF s.data.toList p) = .tuple #[.agg #[.int .i64 0, .string ⟨#[]⟩, .int .i64 0, .int .i64 0, .int .i64 0], .int .i64 0]) := by rw [Hid, HJ.out]; unfold jntK; rw [HFST.out, hk]; rfl
          clear hk HOR2
          go_wp2_with fail
          refine ret_jh (set5 HXC.out) rfl rfl rfl ?_
          exact ⟨by rw [HR.out]; rfl, ((((HBC.out.setCell (p := ⟨w.heap.size, 0, none⟩) (Nat.le_refl _) _).setCell (p := ⟨w.heap.size, 1, none⟩) (Nat.le_refl _) _).setCell (p := ⟨w.heap.size, 2, none⟩) (Nat.le_refl _) _).setCell (p := ⟨w.heap.size, 3, none⟩) (Nat.le_refl _) _).setCell (p := ⟨w.heap.size, 4, none⟩) (Nat.le_refl _) _⟩
    · subst hB
      rw [hd0] at y1
      clear hd0
      obtain ⟨k2, t2, l2, fl2, r2, ok2, hlk, hor2⟩ := look_zero mb c
      have hlk1 := hlk WB.drew HMPB.out
      have hlk2 := hlk ((WB.alloc (.cells #[.int .i64 0, .string ⟨#[]⟩, .int .i64 0, .int .i64 0, .int .i64 0] 91)).drew) ((heap_alloc_old WB _ hmbB).trans HMPB.out)
      clear hlk
      have HOR2 := hideB hor2
      clear hor2
      go_wp2_with fail
      go_region
      all_goals
        obtain ⟨WC, hWC⟩ : ∃ WC, (WB.alloc (.cells #[.int .i64 k2, .string t2, .int .i64 l2, .int .i64 fl2, .int .i64 r2] 91)).drew = WC := ⟨_, rfl⟩
        rw [hWC]
        have hbC : Below WB.heap.size WB WC := by rw [← hWC]; exact ((Below.refl _ _).alloc (Nat.le_refl _) _).drew
        have hjC : WC.heap[WB.heap.size]? = some (.cells #[.int .i64 k2, .string t2, .int .i64 l2, .int .i64 fl2, .int .i64 r2] 91 (0, 0)) := by rw [← hWC]; exact heap_alloc_new WB _
        have HXC : Hid (WC.heap[w.heap.size]? = _) := (hbC.block _ (by omega)).trans HXB.out
        have HBC := hideB (HBB.out.trans (hbC.mono (by omega)))
        have hzC : WB.heap.size < WC.heap.size := by rw [← hWC]; simp
        clear hWC hbC hlk1 hlk2 m3 y0 y1 u0 u1 u2 u3 u4 v0 v1 v2 v3 v4 j0 j1 j2 j3 j4
        have j0 := cellAt hjC (i := 0) rfl
        have j1 := cellAt hjC (i := 1) rfl
        have j2 := cellAt hjC (i := 2) rfl
        have j3 := cellAt hjC (i := 3) rfl
        have j4 := cellAt hjC (i := 4) rfl
        have u0 := cellAt HXC.out (i := 0) rfl
        have u1 := cellAt HXC.out (i := 1) rfl
        have u2 := cellAt HXC.out (i := 2) rfl
        have u3 := cellAt HXC.out (i := 3) rfl
        have u4 := cellAt HXC.out (i := 4) rfl
        have v0 : WC.frozen? ⟨w.heap.size, 0, none⟩ = false := Lib.frozen_of_heap HXC.out 0
        have v1 : WC.frozen? ⟨w.heap.size, 1, none⟩ = false := Lib.frozen_of_heap HXC.out 1
        have v2 : WC.frozen? ⟨w.heap.size, 2, none⟩ = false := Lib.frozen_of_heap HXC.out 2
        have v3 : WC.frozen? ⟨w.heap.size, 3, none⟩ = false := Lib.frozen_of_heap HXC.out 3
        have v4 : WC.frozen? ⟨w.heap.size, 4, none⟩ = false := Lib.frozen_of_heap HXC.out 4
        have hne2 : ¬ w.heap.size = WB.heap.size := by omega
        have hne3 : ¬ WB.heap.size = w.heap.size := by omega
        clear hjC
        rcases HOR2.out with ⟨e, hk, e1, e2, e3, e4⟩ | ⟨e, hk⟩
        · subst e
          have HR : Hid (jhV (jntF s.data.toList p) = .tuple #[.agg #[.int .i64 k2, .string t2, .int .i64 l2, .int .i64 fl2, .int .i64 r2], .int .i64 1]) := by rw [Hid, HJ.out]; unfold jntK; rw [HFST.out, hk, e1, e2, e3, e4]; rfl
          clear hk e1 e2 e3 e4 HOR2
          go_wp2_with fail
          refine ret_jh (set5 HXC.out) rfl rfl rfl ?_
          exact ⟨by rw [HR.out]; rfl, ((((HBC.out.setCell (p := ⟨w.heap.size, 0, none⟩) (Nat.le_refl _) _).setCell (p := ⟨w.heap.size, 1, none⟩) (Nat.le_refl _) _).setCell (p := ⟨w.heap.size, 2, none⟩) (Nat.le_refl _) _).setCell (p := ⟨w.heap.size, 3, none⟩) (Nat.le_refl _) _).setCell (p := ⟨w.heap.size, 4, none⟩) (Nat.le_refl _) _⟩
        · subst e
          have HR : Hid (jhV (jntF s.data.toList p) = .tuple #[.agg #[.int .i64 0, .string ⟨#[]⟩, .int .i64 0, .int .i64 0, .int .i64 0], .int .i64 0]) := by rw [Hid, HJ.out]; unfold jntK; rw [HFST.out, hk]; rfl
          clear hk HOR2
          go_wp2_with fail
          refine ret_jh (set5 HXC.out) rfl rfl rfl ?_
          exact ⟨by rw [HR.out]; rfl, ((((HBC.out.setCell (p := ⟨w.heap.size, 0, none⟩) (Nat.le_refl _) _).setCell (p := ⟨w.heap.size, 1, none⟩) (Nat.le_refl _) _).setCell (p := ⟨w.heap.size, 2, none⟩) (Nat.le_refl _) _).setCell (p := ⟨w.heap.size, 3, none⟩) (Nat.le_refl _) _).setCell (p := ⟨w.heap.size, 4, none⟩) (Nat.le_refl _) _⟩
end Go.Proofs.YtehihemfepbmfaaGreatDoor

/-
  The specification's l7Rf: a node that is being made in memory beside the reader.
-/
namespace Go.Proofs.YtehihemfepbmfaaGreatDoor
open Go.RowKit
set_option linter.unusedSimpArgs false
set_option linter.unusedVariables false

theorem infoSR : (Tryz.prog.info? 9).map (fun i => (i.zero, i.size, i.bytes)) = some (some (.string ByteArray.empty), 1, 16) := by kernel_rfl
theorem infoIR : (Tryz.prog.info? 2).map (fun i => (i.zero, i.size, i.bytes)) = some (some (.int .i64 0), 1, 8) := by kernel_rfl
def badLf (w : World) (rb : Nat) : Bool := match w.cell? ⟨rb, 2, none⟩ with | some (.bool b) => b | _ => false
/-- How much a good reader has still to read. -/
def measLf (w : World) (rb n : Nat) : Nat := if badLf w rb = true then 0 else n + 1 - placeOf w rb
theorem LfAt.meas {w : World} {rb base : Nat} {Z : Nat → Prop} {s : ByteArray} {p n : Nat} {bad : Bool} {fs : List FN} (h : LfAt w rb base Z s p bad fs) : measLf w rb n = if bad = true then 0 else n + 1 - p := by
  unfold measLf badLf; rw [h.cells.2.2, h.placeOf]
/-- Another row has grown. -/
theorem LfAt.grown {a b : World} {rb base b0 e0 s0 n0 : Nat} {Z Z' : Nat → Prop} {s : ByteArray} {p : Nat} {bad : Bool} {fs : List FN} {v : Value} {xs : List Value} (h : LfAt a rb base Z s p bad fs) (hv : a.ownsRow b0 e0 s0 v n0 xs) (he : 51 ≠ e0) (hb : base ≤ b0) (hZ : ∀ x, v.ownBlock = some x → Z x) (hg : a.grownBy b v.ownBlock)
    (hz : ∀ x, Z' x → Z x ∨ a.heap.size ≤ x) (hz2 : ∀ x, Z' x → x < b.heap.size) : LfAt b rb base Z' s p bad fs := by
  obtain ⟨u, h1, ⟨C, N, I, hN, hS⟩, h3⟩ := h.blk
  have hne : ∀ x, v.ownBlock = some x → base ≤ x := fun x hx => Nat.le_trans hb (hv.lt x hx).1
  refine ⟨⟨u, (hg.block rb h.lt (fun e => by have := hne rb e.symm; have := h.rb_lt; omega)).trans h1, ⟨C, N, I, hN.keep (fun x hx => hg.block x (hN.row.lt x hx).2 (fun e => ?_)) (fun x hx => hg.block x (hN.sub hx).2 (fun e => hS x hx (hZ x e.symm))), fun x hx hzx => ?_⟩, fun x hx hzx => ?_⟩, h.le, h.rb_lt, Nat.le_trans h.sz hg.size, hz2⟩
  · rcases own_apart hN.row hv he with e2 | e2
    · rw [hx] at e2; cases e2
    · exact e2 (hx.trans e)
  · rcases hz x hzx with h4 | h4
    · exact hS x hx h4
    · have := (hN.sub hx).2; omega
  · rcases hz x hzx with h4 | h4
    · exact h3 x hx h4
    · have := (hN.row.lt x hx).2; omega
/-- A block of Z was set. -/
theorem LfAt.setX {w : World} {rb base xb o : Nat} {Z : Nat → Prop} {s : ByteArray} {p : Nat} {bad : Bool} {fs : List FN} {u : Value} (h : LfAt w rb base Z s p bad fs) (hx : Z xb) (hne : rb ≠ xb) : LfAt (w.setCell ⟨xb, o, none⟩ u) rb base Z s p bad fs := by
  obtain ⟨v, h1, ⟨C, N, I, hN, hS⟩, h3⟩ := h.blk
  refine ⟨⟨v, (Below.heap_setCell _ _ _ _ hne).trans h1, ⟨C, N, I, hN.keep (fun x hx' => Below.heap_setCell _ _ _ _ (fun e => ?_)) (fun x hx' => Below.heap_setCell _ _ _ _ (fun e => ?_)), hS⟩, h3⟩, h.le, h.rb_lt, by simpa using h.sz, fun x hx => by simpa using h.zb x hx⟩
  · have e' : x = xb := e
    rw [e'] at hx'; exact h3 xb hx' hx
  · have e' : x = xb := e
    rw [e'] at hx'; exact hS xb hx' hx
theorem LfSt.grown {a b : World} {rb base b0 e0 s0 n0 p0 : Nat} {Z Z' : Nat → Prop} {s : ByteArray} {r : CF} {v : Value} {xs : List Value} (h : LfSt r rb base Z s p0 a) (hv : a.ownsRow b0 e0 s0 v n0 xs) (he : 51 ≠ e0) (hb : base ≤ b0) (hZ : ∀ x, v.ownBlock = some x → Z x) (hg : a.grownBy b v.ownBlock)
    (hz : ∀ x, Z' x → Z x ∨ a.heap.size ≤ x) (hz2 : ∀ x, Z' x → x < b.heap.size) : LfSt r rb base Z' s p0 b := by
  obtain ⟨fs, p, h1, ⟨h2, h3, h4⟩ | ⟨h2, h3, h4⟩⟩ := h
  · exact ⟨fs, p, h1, .inl ⟨h2, h3.grown hv he hb hZ hg hz hz2, h4⟩⟩
  · exact ⟨fs, p, h1, .inr ⟨h2, h3, h4.grown hv he hb hZ hg hz hz2⟩⟩
theorem LfSt.setX {w : World} {rb base xb o p0 : Nat} {Z : Nat → Prop} {s : ByteArray} {r : CF} {u : Value} (h : LfSt r rb base Z s p0 w) (hx : Z xb) (hne : rb ≠ xb) : LfSt r rb base Z s p0 (w.setCell ⟨xb, o, none⟩ u) := by
  obtain ⟨fs, p, h1, ⟨h2, h3, h4⟩ | ⟨h2, h3, h4⟩⟩ := h
  · exact ⟨fs, p, h1, .inl ⟨h2, h3.setX hx hne, h4⟩⟩
  · exact ⟨fs, p, h1, .inr ⟨h2, h3, h4.setX hx hne⟩⟩
theorem ButF.setN {rb base xb o : Nat} {w a : World} {u : Value} (h : ButF rb base w a) (hx : w.heap.size ≤ xb) : ButF rb base w (a.setCell ⟨xb, o, none⟩ u) :=
  ⟨h.os, h.tape, h.output, by have := h.size; simpa using this, fun c hc hn ht => (Below.heap_setCell _ _ _ _ (show c ≠ xb by omega)).trans (h.block c hc hn ht)⟩
theorem ButF.grownS {rb base : Nat} {w a b : World} {row : Option Nat} (h : ButF rb base w a) (hg : a.grownBy b row) (hr : ∀ x, row = some x → w.heap.size ≤ x) : ButF rb base w b :=
  ⟨hg.os.trans h.os, hg.tape.trans h.tape, hg.output.trans h.output, Nat.le_trans h.size hg.size, fun x hx hn ht => (hg.block x (Nat.lt_of_lt_of_le hx h.size) (fun e => by have := hr x e.symm; omega)).trans (h.block x hx hn ht)⟩
theorem LB.setN {rb base xb o : Nat} {Z : Nat → Prop} {w a : World} {u : Value} (h : LB rb base Z w a) (hx : w.heap.size ≤ xb) : LB rb base Z w (a.setCell ⟨xb, o, none⟩ u) :=
  ⟨h.bf.setN hx, fun c hz hc hn => (Below.heap_setCell _ _ _ _ (show c ≠ xb by omega)).trans (h.av c hz hc hn)⟩
theorem LB.grownN {rb base : Nat} {Z : Nat → Prop} {w a b : World} {row : Option Nat} (h : LB rb base Z w a) (hg : a.grownBy b row) (hr : ∀ x, row = some x → w.heap.size ≤ x) : LB rb base Z w b :=
  ⟨h.bf.grownS hg hr, fun c hz hc hn => (hg.block c (Nat.lt_of_lt_of_le hc h.size) (fun e => by have := hr c e.symm; omega)).trans (h.av c hz hc hn)⟩
/-- The sign must stand there; where it does, a byte is behind. -/
theorem want_st1 {rb base p0 : Nat} {s : ByteArray} {r : CF} {Z : Nat → Prop} {w : World} (c : UInt8) (hs : s.size ≤ 4000) (h : LfSt r rb base Z s p0 w) :
    Calls Tryz.prog 114 #[.pointer (some ⟨rb, 0, none⟩), .string ⟨#[c]⟩] w fun e w' => e = .returned (.tuple #[]) ∧ LB rb base Z w w' ∧ ∃ d, d ≤ 1 ∧ LfSt (r.bind fun x => if isAt s.data.toList x.2 c.toNat = true then some (x.1, skF s.data.toList (x.2 + 1)) else none) rb base Z s (p0 + d) w' ∧ (d = 0 → (r.bind fun x => if isAt s.data.toList x.2 c.toNat = true then some (x.1, skF s.data.toList (x.2 + 1)) else none) = none) := by
  obtain ⟨fs, p, hp, ⟨hr, ha, hl⟩ | ⟨hr, hl, ha⟩⟩ := h
  · have hsk := skF_ge s.data.toList p
    subst hr
    refine (lfWant_any c ha hs).mono ?_
    rintro e w' ⟨he, hb, ⟨_, hy, h'⟩ | ⟨hn, h'⟩⟩
    · refine ⟨he, hb, 1, by omega, LfSt.of ?_ (LfSt.good h' hl (by omega)), by omega⟩
      show _ = if isAt s.data.toList (skF s.data.toList p) c.toNat = true then _ else _
      rw [if_pos hy]
    · have hno : (some (fs, skF s.data.toList p)).bind (fun x => if isAt s.data.toList x.2 c.toNat = true then some (x.1, skF s.data.toList (x.2 + 1)) else none) = none := by
        show (if isAt s.data.toList (skF s.data.toList p) c.toNat = true then _ else _) = _
        rcases hn with hn | hn
        · cases hn
        · rw [if_neg (by rw [hn]; simp)]
      exact ⟨he, hb, 0, by omega, LfSt.of hno.symm (LfSt.bad h' (by omega) (by omega)), fun _ => hno⟩
  · have hsk := skF_ge s.data.toList p
    subst hr
    refine (lfWant_any c ha hs).mono ?_
    rintro e w' ⟨he, hb, ⟨hx, _, h'⟩ | ⟨hn, h'⟩⟩
    · cases hx
    · exact ⟨he, hb, 0, by omega, LfSt.bad h' (by omega) (by omega), fun _ => rfl⟩
theorem rowsF_is {R : RD} {L : List UInt8} {g : Nat} {names : List ByteArray} {kids : List Int} {fs : List FN} {q : Nat} {n : Int} {T : ByteArray} {r1 r2 r3 : CF} (hT : T = txt ((L.drop q).take (wdJ L q - q)))
    (h1 : r1 = some (fs, skF L (wdJ L q))) (h2 : r2 = r1.bind fun x => if isAt L x.2 58 = true then some (x.1, skF L (x.2 + 1)) else none) (h3 : r3 = r2.bind fun x => (R 3 x.1 x.2).map (·.2)) (hn : ∀ fs q y, r2 = some (fs, q) → R 3 fs q = some y → y.1 = n) :
    rowsF WSp R L (g + 1) names kids fs q = r3.bind fun x => if isAt L x.2 125 = true then addF WSp (nodeM (names ++ [T]) (kids ++ [n])) x.1 (skF L (x.2 + 1)) else mustF L x.2 44 fun q => rowsF WSp R L g (names ++ [T]) (kids ++ [n]) x.1 q := by
  rw [rowsF, wdJ_is, ← hT]
  subst h1
  by_cases e : isAt L (skF L (wdJ L q)) 58 = true
  · have h2' : r2 = some (fs, skF L (skF L (wdJ L q) + 1)) := by rw [h2]; show (if _ then _ else _) = _; rw [if_pos e]
    rw [mustYS e]
    cases h4 : R 3 fs (skF L (skF L (wdJ L q) + 1)) with
    | none =>
      have : r3 = none := by rw [h3, h2']; show (R 3 fs (skF L (skF L (wdJ L q) + 1))).map (·.2) = _; rw [h4]; rfl
      rw [this]; rfl
    | some y =>
      obtain ⟨n', f3, q3⟩ := y
      obtain rfl : n' = n := hn _ _ _ h2' h4
      have : r3 = some (f3, q3) := by rw [h3, h2']; show (R 3 fs (skF L (skF L (wdJ L q) + 1))).map (·.2) = _; rw [h4]; rfl
      rw [this, bindF_some]; rfl
  · have h2' : r2 = none := by rw [h2]; show (if _ then _ else _) = _; rw [if_neg e]
    rw [mustNS e]
    have : r3 = none := by rw [h3, h2']; rfl
    rw [this]; rfl
end Go.Proofs.YtehihemfepbmfaaGreatDoor

/-
  The specification's l7Rf: the sign of a level, where the reader is spoilt. (Made by mksgs.py.)
-/
namespace Go.Proofs.YtehihemfepbmfaaGreatDoor
open Go.RowKit
set_option linter.unusedSimpArgs false
set_option linter.unusedVariables false

set_option maxRecDepth 100000 in
set_option maxHeartbeats 6400000 in
theorem lfSignB_1 {rb base p q : Nat} {Z : Nat → Prop} {s : ByteArray} {fs : List FN} {w : World} (h : LfAt w rb base Z s p true fs) (hs : s.size ≤ 4000) (hq : skF s.data.toList p = q) :
    Calls Tryz.prog 81 #[.pointer (some ⟨rb, 0, none⟩), .int .i64 1] w fun e w' => e = .returned (.int .i64 0) ∧ LB rb base Z w w' ∧ LfAt w' rb base Z s q true fs := by
  have HBK := hideB (lfBlanks_any h hs)
  have HLN := hideB (len_is s)
  have HQQ : Hid (skF s.data.toList q = q) := by rw [Hid, ← hq]; exact skF_idem _ _
  have hql : q ≤ s.size := by rw [← hq, ← HLN.out]; exact skF_le (by rw [HLN.out]; exact h.le)
  rw [hq] at HBK
  clear h hq
  by_cases hlt : q + 1 < s.size
  focus
    have hlt0 : (q : Int) < (s.size : Int) := by omega
    have hlt1 : (q : Int) + 1 < (s.size : Int) := by omega
    have hd1 : decide ((q : Int) + 1 < (s.size : Int)) = true := by simpa using hlt1
    have HBA := hideB (byS (show q < s.size by omega))
    have HBB := hideB (byS hlt)
    obtain ⟨c, hc⟩ : ∃ c, s[q].toNat = c := ⟨_, rfl⟩
    obtain ⟨d, hd⟩ : ∃ d, s[q + 1].toNat = d := ⟨_, rfl⟩
    have HC : Hid (byAt s.data.toList q = c) := by rw [Hid, ← HBA.out]; exact hc
    have HD : Hid (byAt s.data.toList (q + 1) = d) := by rw [Hid, ← HBB.out]; exact hd
    have et : ((q : Int) + 1).toNat = q + 1 := by omega
    by_cases e1 : c = 47
    focus
      have n1 : ((c : Int) == 47) = true := by rw [e1]; rfl
      have n1' : (c : Int) = 47 := by omega
      by_cases e2 : d = 47
      focus
        have n2 : ((d : Int) == 47) = true := by rw [e2]; rfl
        have n2' : (d : Int) = 47 := by omega
        have HTW : Hid ((isAt s.data.toList q 47 && isAt s.data.toList (q + 1) 47) = true) := by
          rw [Hid, Bool.and_eq_true]; exact ⟨isAt_yes.2 ⟨by rw [HLN.out]; omega, by rw [HC.out, e1]⟩, isAt_yes.2 ⟨by rw [HLN.out]; omega, by rw [HD.out, e2]⟩⟩
        go_enter Tryz.func81, Tryz.ntmps81
        go_wp2_with fail
        refine HBK.out.mono ?_
        rintro e w1 ⟨rfl, h, b⟩
        have HF1 := hideB h
        have HB1 := hideB b
        obtain ⟨c0, c1, c2⟩ := h.cells
        clear h b
        go_wp2_with fail
        go_quiet (fail)
      rotate_left
      focus
        have n2 : ((d : Int) == 47) = false := by simp; omega
        have n2' : ¬ (d : Int) = 47 := by omega
        have HTW : Hid ((isAt s.data.toList q 47 && isAt s.data.toList (q + 1) 47) = false) := by
          rw [Hid, Bool.and_eq_false_iff]; right; rw [isAt_no]; rintro ⟨_, e⟩; rw [HD.out] at e; exact e2 e
        go_enter Tryz.func81, Tryz.ntmps81
        go_wp2_with fail
        refine HBK.out.mono ?_
        rintro e w1 ⟨rfl, h, b⟩
        have HF1 := hideB h
        have HB1 := hideB b
        obtain ⟨c0, c1, c2⟩ := h.cells
        clear h b
        go_wp2_with fail
        go_quiet (fail)
    rotate_left 2
    focus
      have n1 : ((c : Int) == 47) = false := by simp; omega
      have n1' : ¬ (c : Int) = 47 := by omega
      have HTW : Hid ((isAt s.data.toList q 47 && isAt s.data.toList (q + 1) 47) = false) := by
        rw [Hid, Bool.and_eq_false_iff]; left; rw [isAt_no]; rintro ⟨_, e⟩; rw [HC.out] at e; exact e1 e
      go_enter Tryz.func81, Tryz.ntmps81
      go_wp2_with fail
      refine HBK.out.mono ?_
      rintro e w1 ⟨rfl, h, b⟩
      have HF1 := hideB h
      have HB1 := hideB b
      obtain ⟨c0, c1, c2⟩ := h.cells
      clear h b
      go_wp2_with fail
      go_quiet (fail)
  rotate_left 3
  focus
    have hlt1 : ¬ (q : Int) + 1 < (s.size : Int) := by omega
    have hd1 : decide ((q : Int) + 1 < (s.size : Int)) = false := by simpa using hlt1
    have HTW : Hid ((isAt s.data.toList q 47 && isAt s.data.toList (q + 1) 47) = false) := by
      rw [Hid, Bool.and_eq_false_iff]; right; rw [isAt_no]; rintro ⟨e, _⟩; rw [HLN.out] at e; omega
    go_enter Tryz.func81, Tryz.ntmps81
    go_wp2_with fail
    refine HBK.out.mono ?_
    rintro e w1 ⟨rfl, h, b⟩
    have HF1 := hideB h
    have HB1 := hideB b
    obtain ⟨c0, c1, c2⟩ := h.cells
    clear h b
    go_wp2_with fail
    go_quiet (fail)
  all_goals
    have HDD := hideB (below_drewB (w := w1) nq)
    have HF2 := hideB (HF1.out.below HDD.out)
    have HB2 := hideB (HB1.out.trans (LB.of_below HDD.out))
    clear c0 c1 c2
    generalize w1.drewN nq = W0 at HDD HF2 HB2 ⊢
    clear nq
    have hi0 := lfIs_no (u := ⟨#[124]⟩) HF2.out (by omega) (by show (1 : Nat) ≤ 100; omega) (.inl rfl)
    rw [HQQ.out] at hi0
    have HI0 := hideB hi0
    clear hi0
    go_wp2_with fail
    refine HI0.out.mono ?_
    rintro e v0 ⟨rfl, h3, b3⟩
    have HG0 := hideB h3
    have HC0 := hideB (HB2.out.trans b3)
    clear h3 b3
    go_wp2_with fail
    go_ret
    exact ⟨rfl, HC0.out, HG0.out⟩
set_option maxRecDepth 100000 in
set_option maxHeartbeats 6400000 in
theorem lfSignB_2 {rb base p q : Nat} {Z : Nat → Prop} {s : ByteArray} {fs : List FN} {w : World} (h : LfAt w rb base Z s p true fs) (hs : s.size ≤ 4000) (hq : skF s.data.toList p = q) :
    Calls Tryz.prog 81 #[.pointer (some ⟨rb, 0, none⟩), .int .i64 2] w fun e w' => e = .returned (.int .i64 0) ∧ LB rb base Z w w' ∧ LfAt w' rb base Z s q true fs := by
  have HBK := hideB (lfBlanks_any h hs)
  have HLN := hideB (len_is s)
  have HQQ : Hid (skF s.data.toList q = q) := by rw [Hid, ← hq]; exact skF_idem _ _
  have hql : q ≤ s.size := by rw [← hq, ← HLN.out]; exact skF_le (by rw [HLN.out]; exact h.le)
  rw [hq] at HBK
  clear h hq
  by_cases hlt : q + 1 < s.size
  focus
    have hlt0 : (q : Int) < (s.size : Int) := by omega
    have hlt1 : (q : Int) + 1 < (s.size : Int) := by omega
    have hd1 : decide ((q : Int) + 1 < (s.size : Int)) = true := by simpa using hlt1
    have HBA := hideB (byS (show q < s.size by omega))
    have HBB := hideB (byS hlt)
    obtain ⟨c, hc⟩ : ∃ c, s[q].toNat = c := ⟨_, rfl⟩
    obtain ⟨d, hd⟩ : ∃ d, s[q + 1].toNat = d := ⟨_, rfl⟩
    have HC : Hid (byAt s.data.toList q = c) := by rw [Hid, ← HBA.out]; exact hc
    have HD : Hid (byAt s.data.toList (q + 1) = d) := by rw [Hid, ← HBB.out]; exact hd
    have et : ((q : Int) + 1).toNat = q + 1 := by omega
    by_cases e1 : c = 47
    focus
      have n1 : ((c : Int) == 47) = true := by rw [e1]; rfl
      have n1' : (c : Int) = 47 := by omega
      by_cases e2 : d = 47
      focus
        have n2 : ((d : Int) == 47) = true := by rw [e2]; rfl
        have n2' : (d : Int) = 47 := by omega
        have HTW : Hid ((isAt s.data.toList q 47 && isAt s.data.toList (q + 1) 47) = true) := by
          rw [Hid, Bool.and_eq_true]; exact ⟨isAt_yes.2 ⟨by rw [HLN.out]; omega, by rw [HC.out, e1]⟩, isAt_yes.2 ⟨by rw [HLN.out]; omega, by rw [HD.out, e2]⟩⟩
        go_enter Tryz.func81, Tryz.ntmps81
        go_wp2_with fail
        refine HBK.out.mono ?_
        rintro e w1 ⟨rfl, h, b⟩
        have HF1 := hideB h
        have HB1 := hideB b
        obtain ⟨c0, c1, c2⟩ := h.cells
        clear h b
        go_wp2_with fail
        go_quiet (fail)
      rotate_left
      focus
        have n2 : ((d : Int) == 47) = false := by simp; omega
        have n2' : ¬ (d : Int) = 47 := by omega
        have HTW : Hid ((isAt s.data.toList q 47 && isAt s.data.toList (q + 1) 47) = false) := by
          rw [Hid, Bool.and_eq_false_iff]; right; rw [isAt_no]; rintro ⟨_, e⟩; rw [HD.out] at e; exact e2 e
        go_enter Tryz.func81, Tryz.ntmps81
        go_wp2_with fail
        refine HBK.out.mono ?_
        rintro e w1 ⟨rfl, h, b⟩
        have HF1 := hideB h
        have HB1 := hideB b
        obtain ⟨c0, c1, c2⟩ := h.cells
        clear h b
        go_wp2_with fail
        go_quiet (fail)
    rotate_left 2
    focus
      have n1 : ((c : Int) == 47) = false := by simp; omega
      have n1' : ¬ (c : Int) = 47 := by omega
      have HTW : Hid ((isAt s.data.toList q 47 && isAt s.data.toList (q + 1) 47) = false) := by
        rw [Hid, Bool.and_eq_false_iff]; left; rw [isAt_no]; rintro ⟨_, e⟩; rw [HC.out] at e; exact e1 e
      go_enter Tryz.func81, Tryz.ntmps81
      go_wp2_with fail
      refine HBK.out.mono ?_
      rintro e w1 ⟨rfl, h, b⟩
      have HF1 := hideB h
      have HB1 := hideB b
      obtain ⟨c0, c1, c2⟩ := h.cells
      clear h b
      go_wp2_with fail
      go_quiet (fail)
  rotate_left 3
  focus
    have hlt1 : ¬ (q : Int) + 1 < (s.size : Int) := by omega
    have hd1 : decide ((q : Int) + 1 < (s.size : Int)) = false := by simpa using hlt1
    have HTW : Hid ((isAt s.data.toList q 47 && isAt s.data.toList (q + 1) 47) = false) := by
      rw [Hid, Bool.and_eq_false_iff]; right; rw [isAt_no]; rintro ⟨e, _⟩; rw [HLN.out] at e; omega
    go_enter Tryz.func81, Tryz.ntmps81
    go_wp2_with fail
    refine HBK.out.mono ?_
    rintro e w1 ⟨rfl, h, b⟩
    have HF1 := hideB h
    have HB1 := hideB b
    obtain ⟨c0, c1, c2⟩ := h.cells
    clear h b
    go_wp2_with fail
    go_quiet (fail)
  all_goals
    have HDD := hideB (below_drewB (w := w1) nq)
    have HF2 := hideB (HF1.out.below HDD.out)
    have HB2 := hideB (HB1.out.trans (LB.of_below HDD.out))
    clear c0 c1 c2
    generalize w1.drewN nq = W0 at HDD HF2 HB2 ⊢
    clear nq
    have hi0 := lfIs_no (u := ⟨#[44]⟩) HF2.out (by omega) (by show (1 : Nat) ≤ 100; omega) (.inl rfl)
    rw [HQQ.out] at hi0
    have HI0 := hideB hi0
    clear hi0
    go_wp2_with fail
    refine HI0.out.mono ?_
    rintro e v0 ⟨rfl, h3, b3⟩
    have HG0 := hideB h3
    have HC0 := hideB (HB2.out.trans b3)
    clear h3 b3
    go_wp2_with fail
    go_ret
    exact ⟨rfl, HC0.out, HG0.out⟩
set_option maxRecDepth 100000 in
set_option maxHeartbeats 6400000 in
theorem lfSignB_3 {rb base p q : Nat} {Z : Nat → Prop} {s : ByteArray} {fs : List FN} {w : World} (h : LfAt w rb base Z s p true fs) (hs : s.size ≤ 4000) (hq : skF s.data.toList p = q) :
    Calls Tryz.prog 81 #[.pointer (some ⟨rb, 0, none⟩), .int .i64 3] w fun e w' => e = .returned (.int .i64 0) ∧ LB rb base Z w w' ∧ LfAt w' rb base Z s q true fs := by
  have HBK := hideB (lfBlanks_any h hs)
  have HLN := hideB (len_is s)
  have HQQ : Hid (skF s.data.toList q = q) := by rw [Hid, ← hq]; exact skF_idem _ _
  have hql : q ≤ s.size := by rw [← hq, ← HLN.out]; exact skF_le (by rw [HLN.out]; exact h.le)
  rw [hq] at HBK
  clear h hq
  by_cases hlt : q + 1 < s.size
  focus
    have hlt0 : (q : Int) < (s.size : Int) := by omega
    have hlt1 : (q : Int) + 1 < (s.size : Int) := by omega
    have hd1 : decide ((q : Int) + 1 < (s.size : Int)) = true := by simpa using hlt1
    have HBA := hideB (byS (show q < s.size by omega))
    have HBB := hideB (byS hlt)
    obtain ⟨c, hc⟩ : ∃ c, s[q].toNat = c := ⟨_, rfl⟩
    obtain ⟨d, hd⟩ : ∃ d, s[q + 1].toNat = d := ⟨_, rfl⟩
    have HC : Hid (byAt s.data.toList q = c) := by rw [Hid, ← HBA.out]; exact hc
    have HD : Hid (byAt s.data.toList (q + 1) = d) := by rw [Hid, ← HBB.out]; exact hd
    have et : ((q : Int) + 1).toNat = q + 1 := by omega
    by_cases e1 : c = 47
    focus
      have n1 : ((c : Int) == 47) = true := by rw [e1]; rfl
      have n1' : (c : Int) = 47 := by omega
      by_cases e2 : d = 47
      focus
        have n2 : ((d : Int) == 47) = true := by rw [e2]; rfl
        have n2' : (d : Int) = 47 := by omega
        have HTW : Hid ((isAt s.data.toList q 47 && isAt s.data.toList (q + 1) 47) = true) := by
          rw [Hid, Bool.and_eq_true]; exact ⟨isAt_yes.2 ⟨by rw [HLN.out]; omega, by rw [HC.out, e1]⟩, isAt_yes.2 ⟨by rw [HLN.out]; omega, by rw [HD.out, e2]⟩⟩
        go_enter Tryz.func81, Tryz.ntmps81
        go_wp2_with fail
        refine HBK.out.mono ?_
        rintro e w1 ⟨rfl, h, b⟩
        have HF1 := hideB h
        have HB1 := hideB b
        obtain ⟨c0, c1, c2⟩ := h.cells
        clear h b
        go_wp2_with fail
        go_quiet (fail)
      rotate_left
      focus
        have n2 : ((d : Int) == 47) = false := by simp; omega
        have n2' : ¬ (d : Int) = 47 := by omega
        have HTW : Hid ((isAt s.data.toList q 47 && isAt s.data.toList (q + 1) 47) = false) := by
          rw [Hid, Bool.and_eq_false_iff]; right; rw [isAt_no]; rintro ⟨_, e⟩; rw [HD.out] at e; exact e2 e
        go_enter Tryz.func81, Tryz.ntmps81
        go_wp2_with fail
        refine HBK.out.mono ?_
        rintro e w1 ⟨rfl, h, b⟩
        have HF1 := hideB h
        have HB1 := hideB b
        obtain ⟨c0, c1, c2⟩ := h.cells
        clear h b
        go_wp2_with fail
        go_quiet (fail)
    rotate_left 2
    focus
      have n1 : ((c : Int) == 47) = false := by simp; omega
      have n1' : ¬ (c : Int) = 47 := by omega
      have HTW : Hid ((isAt s.data.toList q 47 && isAt s.data.toList (q + 1) 47) = false) := by
        rw [Hid, Bool.and_eq_false_iff]; left; rw [isAt_no]; rintro ⟨_, e⟩; rw [HC.out] at e; exact e1 e
      go_enter Tryz.func81, Tryz.ntmps81
      go_wp2_with fail
      refine HBK.out.mono ?_
      rintro e w1 ⟨rfl, h, b⟩
      have HF1 := hideB h
      have HB1 := hideB b
      obtain ⟨c0, c1, c2⟩ := h.cells
      clear h b
      go_wp2_with fail
      go_quiet (fail)
  rotate_left 3
  focus
    have hlt1 : ¬ (q : Int) + 1 < (s.size : Int) := by omega
    have hd1 : decide ((q : Int) + 1 < (s.size : Int)) = false := by simpa using hlt1
    have HTW : Hid ((isAt s.data.toList q 47 && isAt s.data.toList (q + 1) 47) = false) := by
      rw [Hid, Bool.and_eq_false_iff]; right; rw [isAt_no]; rintro ⟨e, _⟩; rw [HLN.out] at e; omega
    go_enter Tryz.func81, Tryz.ntmps81
    go_wp2_with fail
    refine HBK.out.mono ?_
    rintro e w1 ⟨rfl, h, b⟩
    have HF1 := hideB h
    have HB1 := hideB b
    obtain ⟨c0, c1, c2⟩ := h.cells
    clear h b
    go_wp2_with fail
    go_quiet (fail)
  all_goals
    have HDD := hideB (below_drewB (w := w1) nq)
    have HF2 := hideB (HF1.out.below HDD.out)
    have HB2 := hideB (HB1.out.trans (LB.of_below HDD.out))
    clear c0 c1 c2
    generalize w1.drewN nq = W0 at HDD HF2 HB2 ⊢
    clear nq
    have hi := lfIs_no (u := ⟨#[47, 47]⟩) HF2.out (by omega) (by show (2 : Nat) ≤ 100; omega) (.inl rfl)
    rw [HQQ.out] at hi
    have HI := hideB hi
    clear hi
    first
      | (go_wp2_with fail
         go_ret
         exact ⟨rfl, HB2.out, HF2.out⟩)
      | (go_wp2_with fail
         refine HI.out.mono ?_
         rintro e w3 ⟨rfl, h3, b3⟩
         have HF3 := hideB h3
         have HB3 := hideB (HB2.out.trans b3)
         clear h3 b3
         go_wp2_with fail
         go_ret
         exact ⟨rfl, HB3.out, HF3.out⟩)
set_option maxRecDepth 100000 in
set_option maxHeartbeats 6400000 in
theorem lfSignB_4 {rb base p q : Nat} {Z : Nat → Prop} {s : ByteArray} {fs : List FN} {w : World} (h : LfAt w rb base Z s p true fs) (hs : s.size ≤ 4000) (hq : skF s.data.toList p = q) :
    Calls Tryz.prog 81 #[.pointer (some ⟨rb, 0, none⟩), .int .i64 4] w fun e w' => e = .returned (.int .i64 0) ∧ LB rb base Z w w' ∧ LfAt w' rb base Z s q true fs := by
  have HBK := hideB (lfBlanks_any h hs)
  have HLN := hideB (len_is s)
  have HQQ : Hid (skF s.data.toList q = q) := by rw [Hid, ← hq]; exact skF_idem _ _
  have hql : q ≤ s.size := by rw [← hq, ← HLN.out]; exact skF_le (by rw [HLN.out]; exact h.le)
  rw [hq] at HBK
  clear h hq
  by_cases hlt : q + 1 < s.size
  focus
    have hlt0 : (q : Int) < (s.size : Int) := by omega
    have hlt1 : (q : Int) + 1 < (s.size : Int) := by omega
    have hd1 : decide ((q : Int) + 1 < (s.size : Int)) = true := by simpa using hlt1
    have HBA := hideB (byS (show q < s.size by omega))
    have HBB := hideB (byS hlt)
    obtain ⟨c, hc⟩ : ∃ c, s[q].toNat = c := ⟨_, rfl⟩
    obtain ⟨d, hd⟩ : ∃ d, s[q + 1].toNat = d := ⟨_, rfl⟩
    have HC : Hid (byAt s.data.toList q = c) := by rw [Hid, ← HBA.out]; exact hc
    have HD : Hid (byAt s.data.toList (q + 1) = d) := by rw [Hid, ← HBB.out]; exact hd
    have et : ((q : Int) + 1).toNat = q + 1 := by omega
    by_cases e1 : c = 47
    focus
      have n1 : ((c : Int) == 47) = true := by rw [e1]; rfl
      have n1' : (c : Int) = 47 := by omega
      by_cases e2 : d = 47
      focus
        have n2 : ((d : Int) == 47) = true := by rw [e2]; rfl
        have n2' : (d : Int) = 47 := by omega
        have HTW : Hid ((isAt s.data.toList q 47 && isAt s.data.toList (q + 1) 47) = true) := by
          rw [Hid, Bool.and_eq_true]; exact ⟨isAt_yes.2 ⟨by rw [HLN.out]; omega, by rw [HC.out, e1]⟩, isAt_yes.2 ⟨by rw [HLN.out]; omega, by rw [HD.out, e2]⟩⟩
        go_enter Tryz.func81, Tryz.ntmps81
        go_wp2_with fail
        refine HBK.out.mono ?_
        rintro e w1 ⟨rfl, h, b⟩
        have HF1 := hideB h
        have HB1 := hideB b
        obtain ⟨c0, c1, c2⟩ := h.cells
        clear h b
        go_wp2_with fail
        go_quiet (fail)
      rotate_left
      focus
        have n2 : ((d : Int) == 47) = false := by simp; omega
        have n2' : ¬ (d : Int) = 47 := by omega
        have HTW : Hid ((isAt s.data.toList q 47 && isAt s.data.toList (q + 1) 47) = false) := by
          rw [Hid, Bool.and_eq_false_iff]; right; rw [isAt_no]; rintro ⟨_, e⟩; rw [HD.out] at e; exact e2 e
        go_enter Tryz.func81, Tryz.ntmps81
        go_wp2_with fail
        refine HBK.out.mono ?_
        rintro e w1 ⟨rfl, h, b⟩
        have HF1 := hideB h
        have HB1 := hideB b
        obtain ⟨c0, c1, c2⟩ := h.cells
        clear h b
        go_wp2_with fail
        go_quiet (fail)
    rotate_left 2
    focus
      have n1 : ((c : Int) == 47) = false := by simp; omega
      have n1' : ¬ (c : Int) = 47 := by omega
      have HTW : Hid ((isAt s.data.toList q 47 && isAt s.data.toList (q + 1) 47) = false) := by
        rw [Hid, Bool.and_eq_false_iff]; left; rw [isAt_no]; rintro ⟨_, e⟩; rw [HC.out] at e; exact e1 e
      go_enter Tryz.func81, Tryz.ntmps81
      go_wp2_with fail
      refine HBK.out.mono ?_
      rintro e w1 ⟨rfl, h, b⟩
      have HF1 := hideB h
      have HB1 := hideB b
      obtain ⟨c0, c1, c2⟩ := h.cells
      clear h b
      go_wp2_with fail
      go_quiet (fail)
  rotate_left 3
  focus
    have hlt1 : ¬ (q : Int) + 1 < (s.size : Int) := by omega
    have hd1 : decide ((q : Int) + 1 < (s.size : Int)) = false := by simpa using hlt1
    have HTW : Hid ((isAt s.data.toList q 47 && isAt s.data.toList (q + 1) 47) = false) := by
      rw [Hid, Bool.and_eq_false_iff]; right; rw [isAt_no]; rintro ⟨e, _⟩; rw [HLN.out] at e; omega
    go_enter Tryz.func81, Tryz.ntmps81
    go_wp2_with fail
    refine HBK.out.mono ?_
    rintro e w1 ⟨rfl, h, b⟩
    have HF1 := hideB h
    have HB1 := hideB b
    obtain ⟨c0, c1, c2⟩ := h.cells
    clear h b
    go_wp2_with fail
    go_quiet (fail)
  all_goals
    have HDD := hideB (below_drewB (w := w1) nq)
    have HF2 := hideB (HF1.out.below HDD.out)
    have HB2 := hideB (HB1.out.trans (LB.of_below HDD.out))
    clear c0 c1 c2
    generalize w1.drewN nq = W0 at HDD HF2 HB2 ⊢
    clear nq
    have hi0 := lfIs_no (u := ⟨#[61, 61]⟩) HF2.out (by omega) (by show (2 : Nat) ≤ 100; omega) (.inl rfl)
    rw [HQQ.out] at hi0
    have HI0 := hideB hi0
    clear hi0
    go_wp2_with fail
    refine HI0.out.mono ?_
    rintro e v0 ⟨rfl, h3, b3⟩
    have HG0 := hideB h3
    have HC0 := hideB (HB2.out.trans b3)
    clear h3 b3
    have hi1 := lfIs_no (u := ⟨#[33, 61]⟩) HG0.out (by omega) (by show (2 : Nat) ≤ 100; omega) (.inl rfl)
    rw [HQQ.out] at hi1
    have HI1 := hideB hi1
    clear hi1
    go_wp2_with fail
    refine HI1.out.mono ?_
    rintro e v1 ⟨rfl, h3, b3⟩
    have HG1 := hideB h3
    have HC1 := hideB (HC0.out.trans b3)
    clear h3 b3
    have hi2 := lfIs_no (u := ⟨#[60, 61]⟩) HG1.out (by omega) (by show (2 : Nat) ≤ 100; omega) (.inl rfl)
    rw [HQQ.out] at hi2
    have HI2 := hideB hi2
    clear hi2
    go_wp2_with fail
    refine HI2.out.mono ?_
    rintro e v2 ⟨rfl, h3, b3⟩
    have HG2 := hideB h3
    have HC2 := hideB (HC1.out.trans b3)
    clear h3 b3
    have hi3 := lfIs_no (u := ⟨#[60]⟩) HG2.out (by omega) (by show (1 : Nat) ≤ 100; omega) (.inl rfl)
    rw [HQQ.out] at hi3
    have HI3 := hideB hi3
    clear hi3
    go_wp2_with fail
    refine HI3.out.mono ?_
    rintro e v3 ⟨rfl, h3, b3⟩
    have HG3 := hideB h3
    have HC3 := hideB (HC2.out.trans b3)
    clear h3 b3
    go_wp2_with fail
    go_ret
    exact ⟨rfl, HC3.out, HG3.out⟩
set_option maxRecDepth 100000 in
set_option maxHeartbeats 6400000 in
theorem lfSignB_5 {rb base p q : Nat} {Z : Nat → Prop} {s : ByteArray} {fs : List FN} {w : World} (h : LfAt w rb base Z s p true fs) (hs : s.size ≤ 4000) (hq : skF s.data.toList p = q) :
    Calls Tryz.prog 81 #[.pointer (some ⟨rb, 0, none⟩), .int .i64 5] w fun e w' => e = .returned (.int .i64 0) ∧ LB rb base Z w w' ∧ LfAt w' rb base Z s q true fs := by
  have HBK := hideB (lfBlanks_any h hs)
  have HLN := hideB (len_is s)
  have HQQ : Hid (skF s.data.toList q = q) := by rw [Hid, ← hq]; exact skF_idem _ _
  have hql : q ≤ s.size := by rw [← hq, ← HLN.out]; exact skF_le (by rw [HLN.out]; exact h.le)
  rw [hq] at HBK
  clear h hq
  by_cases hlt : q + 1 < s.size
  focus
    have hlt0 : (q : Int) < (s.size : Int) := by omega
    have hlt1 : (q : Int) + 1 < (s.size : Int) := by omega
    have hd1 : decide ((q : Int) + 1 < (s.size : Int)) = true := by simpa using hlt1
    have HBA := hideB (byS (show q < s.size by omega))
    have HBB := hideB (byS hlt)
    obtain ⟨c, hc⟩ : ∃ c, s[q].toNat = c := ⟨_, rfl⟩
    obtain ⟨d, hd⟩ : ∃ d, s[q + 1].toNat = d := ⟨_, rfl⟩
    have HC : Hid (byAt s.data.toList q = c) := by rw [Hid, ← HBA.out]; exact hc
    have HD : Hid (byAt s.data.toList (q + 1) = d) := by rw [Hid, ← HBB.out]; exact hd
    have et : ((q : Int) + 1).toNat = q + 1 := by omega
    by_cases e1 : c = 47
    focus
      have n1 : ((c : Int) == 47) = true := by rw [e1]; rfl
      have n1' : (c : Int) = 47 := by omega
      by_cases e2 : d = 47
      focus
        have n2 : ((d : Int) == 47) = true := by rw [e2]; rfl
        have n2' : (d : Int) = 47 := by omega
        have HTW : Hid ((isAt s.data.toList q 47 && isAt s.data.toList (q + 1) 47) = true) := by
          rw [Hid, Bool.and_eq_true]; exact ⟨isAt_yes.2 ⟨by rw [HLN.out]; omega, by rw [HC.out, e1]⟩, isAt_yes.2 ⟨by rw [HLN.out]; omega, by rw [HD.out, e2]⟩⟩
        go_enter Tryz.func81, Tryz.ntmps81
        go_wp2_with fail
        refine HBK.out.mono ?_
        rintro e w1 ⟨rfl, h, b⟩
        have HF1 := hideB h
        have HB1 := hideB b
        obtain ⟨c0, c1, c2⟩ := h.cells
        clear h b
        go_wp2_with fail
        go_quiet (fail)
      rotate_left
      focus
        have n2 : ((d : Int) == 47) = false := by simp; omega
        have n2' : ¬ (d : Int) = 47 := by omega
        have HTW : Hid ((isAt s.data.toList q 47 && isAt s.data.toList (q + 1) 47) = false) := by
          rw [Hid, Bool.and_eq_false_iff]; right; rw [isAt_no]; rintro ⟨_, e⟩; rw [HD.out] at e; exact e2 e
        go_enter Tryz.func81, Tryz.ntmps81
        go_wp2_with fail
        refine HBK.out.mono ?_
        rintro e w1 ⟨rfl, h, b⟩
        have HF1 := hideB h
        have HB1 := hideB b
        obtain ⟨c0, c1, c2⟩ := h.cells
        clear h b
        go_wp2_with fail
        go_quiet (fail)
    rotate_left 2
    focus
      have n1 : ((c : Int) == 47) = false := by simp; omega
      have n1' : ¬ (c : Int) = 47 := by omega
      have HTW : Hid ((isAt s.data.toList q 47 && isAt s.data.toList (q + 1) 47) = false) := by
        rw [Hid, Bool.and_eq_false_iff]; left; rw [isAt_no]; rintro ⟨_, e⟩; rw [HC.out] at e; exact e1 e
      go_enter Tryz.func81, Tryz.ntmps81
      go_wp2_with fail
      refine HBK.out.mono ?_
      rintro e w1 ⟨rfl, h, b⟩
      have HF1 := hideB h
      have HB1 := hideB b
      obtain ⟨c0, c1, c2⟩ := h.cells
      clear h b
      go_wp2_with fail
      go_quiet (fail)
  rotate_left 3
  focus
    have hlt1 : ¬ (q : Int) + 1 < (s.size : Int) := by omega
    have hd1 : decide ((q : Int) + 1 < (s.size : Int)) = false := by simpa using hlt1
    have HTW : Hid ((isAt s.data.toList q 47 && isAt s.data.toList (q + 1) 47) = false) := by
      rw [Hid, Bool.and_eq_false_iff]; right; rw [isAt_no]; rintro ⟨e, _⟩; rw [HLN.out] at e; omega
    go_enter Tryz.func81, Tryz.ntmps81
    go_wp2_with fail
    refine HBK.out.mono ?_
    rintro e w1 ⟨rfl, h, b⟩
    have HF1 := hideB h
    have HB1 := hideB b
    obtain ⟨c0, c1, c2⟩ := h.cells
    clear h b
    go_wp2_with fail
    go_quiet (fail)
  all_goals
    have HDD := hideB (below_drewB (w := w1) nq)
    have HF2 := hideB (HF1.out.below HDD.out)
    have HB2 := hideB (HB1.out.trans (LB.of_below HDD.out))
    clear c0 c1 c2
    generalize w1.drewN nq = W0 at HDD HF2 HB2 ⊢
    clear nq
    have hi0 := lfIs_no (u := ⟨#[43]⟩) HF2.out (by omega) (by show (1 : Nat) ≤ 100; omega) (.inl rfl)
    rw [HQQ.out] at hi0
    have HI0 := hideB hi0
    clear hi0
    go_wp2_with fail
    refine HI0.out.mono ?_
    rintro e v0 ⟨rfl, h3, b3⟩
    have HG0 := hideB h3
    have HC0 := hideB (HB2.out.trans b3)
    clear h3 b3
    have hi1 := lfIs_no (u := ⟨#[45]⟩) HG0.out (by omega) (by show (1 : Nat) ≤ 100; omega) (.inl rfl)
    rw [HQQ.out] at hi1
    have HI1 := hideB hi1
    clear hi1
    go_wp2_with fail
    refine HI1.out.mono ?_
    rintro e v1 ⟨rfl, h3, b3⟩
    have HG1 := hideB h3
    have HC1 := hideB (HC0.out.trans b3)
    clear h3 b3
    go_wp2_with fail
    go_ret
    exact ⟨rfl, HC1.out, HG1.out⟩
theorem lfSign_bad {rb base p : Nat} {Z : Nat → Prop} {s : ByteArray} {fs : List FN} {w : World} (h : LfAt w rb base Z s p true fs) (hs : s.size ≤ 4000) (l : Nat) (h1 : 1 ≤ l) (h5 : l ≤ 5) :
    Calls Tryz.prog 81 #[.pointer (some ⟨rb, 0, none⟩), .int .i64 (l : Int)] w fun e w' => e = .returned (.int .i64 0) ∧ LB rb base Z w w' ∧ LfAt w' rb base Z s (skF s.data.toList p) true fs := by
  rcases (show l = 1 ∨ l = 2 ∨ l = 3 ∨ l = 4 ∨ l = 5 by omega) with rfl | rfl | rfl | rfl | rfl
  · exact lfSignB_1 h hs rfl
  · exact lfSignB_2 h hs rfl
  · exact lfSignB_3 h hs rfl
  · exact lfSignB_4 h hs rfl
  · exact lfSignB_5 h hs rfl
end Go.Proofs.YtehihemfepbmfaaGreatDoor
