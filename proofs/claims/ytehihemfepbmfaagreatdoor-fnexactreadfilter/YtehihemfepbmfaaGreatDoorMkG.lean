/-
  The program's filterReader: jointHere: what is wanted for it.
-/
import Derived.Test.YtehihemfepbmfaaGreatDoorSgW
import Derived.Test.YtehihemfepbmfaaGreatDoorIFj
import Derived.Test.YtehihemfepbmfaaGreatDoorGupN
import Derived.Test.YtehihemfepbmfaaGreatDoorSLf
import Derived.Test.YtehihemfepbmfaaGreatDoorMkF
namespace Go.Proofs.YtehihemfepbmfaaGreatDoor
open Go.RowKit
set_option linter.unusedSimpArgs false
set_option linter.unusedVariables false

theorem ret_jh {R : Ending → World → Prop} {a : Act} {W : World} {b : Nat} {c0 c1 c2 c3 c4 v : Value} {T : TypeId} {z : Nat × Nat} (hh : W.heap[b]? = some (.cells #[c0, c1, c2, c3, c4] T z)) (h2 : a.tmps.getD 2 undef = .pointer (some ⟨b, 0, none⟩)) (h3 : a.tmps.getD 3 undef = v) (hd : a.defers = []) (hR : R (.returned (.tuple #[.agg #[c0, c1, c2, c3, c4], v])) W) : bodyPost Tryz.prog Tryz.f111 R .ret a W := by
  have x0 : W.cell? ⟨b, 0, none⟩ = some c0 := cellAt hh (i := 0) rfl
  have x1 : W.cell? ⟨b, 1, none⟩ = some c1 := cellAt hh (i := 1) rfl
  have x2 : W.cell? ⟨b, 2, none⟩ = some c2 := cellAt hh (i := 2) rfl
  have x3 : W.cell? ⟨b, 3, none⟩ = some c3 := cellAt hh (i := 3) rfl
  have x4 : W.cell? ⟨b, 4, none⟩ = some c4 := cellAt hh (i := 4) rfl
  have h2' : a.tmps[2]?.getD undef = .pointer (some ⟨b, 0, none⟩) := by simpa using h2
  have h3' : a.tmps[3]?.getD undef = v := by simpa using h3
  refine bodyPost_ret ?_ hd hR
  simp [results, Tryz.results111, go_sem, h2', h3', x0, x1, x2, x3, x4]
/-- What the signs hold at two bytes. -/
theorem look_any (mb a b : Nat) : ∃ k t l f r ok, (∀ w : World, w.heap[mb]? = some (.map (signM 10) 10) → (Instr.lookup 62 (.map (some mb)) (.agg #[.int .u8 (a : Int), .int .u8 (b : Int)]) true).run Tryz.prog w = .ok (.tuple #[.agg #[.int .i64 k, .string t, .int .i64 l, .int .i64 f, .int .i64 r], .bool ok]) w) ∧ ((ok = true ∧ lookK a b = some k ∧ t = txt (sgnJ k) ∧ l = levF k ∧ f = lftJ k ∧ r = rgtJ k) ∨ (ok = false ∧ lookK a b = none)) := by
  cases hk : lookK a b with
  | none => exact ⟨0, ByteArray.empty, 0, 0, 0, false, fun w h => by rw [look_run h, lookV_is, hk]; rfl, .inr ⟨rfl, rfl⟩⟩
  | some k => exact ⟨k, txt (sgnJ k), levF k, lftJ k, rgtJ k, true, fun w h => by rw [look_run h, lookV_is, hk]; rfl, .inl ⟨rfl, rfl, rfl, rfl, rfl, rfl⟩⟩
theorem look_zero (mb a : Nat) : ∃ k t l f r ok, (∀ w : World, w.heap[mb]? = some (.map (signM 10) 10) → (Instr.lookup 62 (.map (some mb)) (.agg #[.int .u8 (a : Int), .int .u8 0]) true).run Tryz.prog w = .ok (.tuple #[.agg #[.int .i64 k, .string t, .int .i64 l, .int .i64 f, .int .i64 r], .bool ok]) w) ∧ ((ok = true ∧ lookK a 0 = some k ∧ t = txt (sgnJ k) ∧ l = levF k ∧ f = lftJ k ∧ r = rgtJ k) ∨ (ok = false ∧ lookK a 0 = none)) := look_any mb a 0
/-- What jointHere answers. -/
def jhV (o : Option (Int × Nat)) : Value := match o with
  | some (k, n) => .tuple #[.agg #[.int .i64 k, .string (txt (sgnJ k)), .int .i64 (levF k), .int .i64 (lftJ k), .int .i64 (rgtJ k)], .int .i64 (n : Int)]
  | none => .tuple #[.agg #[.int .i64 0, .string ⟨#[]⟩, .int .i64 0, .int .i64 0, .int .i64 0], .int .i64 0]

end Go.Proofs.YtehihemfepbmfaaGreatDoor

/-
  The program's filterReader: jointHere, two bytes ahead.
-/
namespace Go.Proofs.YtehihemfepbmfaaGreatDoor
open Go.RowKit
set_option linter.unusedSimpArgs false
set_option linter.unusedVariables false

set_option maxRecDepth 100000 in
set_option maxHeartbeats 12800000 in
theorem jointHere_two {rb mb base p : Nat} {Z : Nat → Prop} {s : ByteArray} {fs : List FN} {w : World} (h : FrAt w rb mb base Z s p fs) (hs : s.size ≤ 4000) (hq : p + 1 < s.size) :
    Calls Tryz.prog 111 #[.pointer (some ⟨rb, 0, none⟩)] w fun e w' => e = .returned (jhV (jntF s.data.toList p)) ∧ Below w.heap.size w w' := by
  obtain ⟨W1, hW1⟩ : ∃ W1, w.alloc (.cells #[.int .i64 0, .string ⟨#[]⟩, .int .i64 0, .int .i64 0, .int .i64 0] 91) = W1 := ⟨_, rfl⟩
  have hb1 : Below w.heap.size w W1 := by rw [← hW1]; exact (Below.refl _ _).alloc (Nat.le_refl _) _
  have hx1 : W1.heap[w.heap.size]? = some (.cells #[.int .i64 0, .string ⟨#[]⟩, .int .i64 0, .int .i64 0, .int .i64 0] 91 (0, 0)) := by rw [← hW1]; exact heap_alloc_new w _
  have hz1 : w.heap.size < W1.heap.size := by rw [← hW1]; simp
  have HLN := hideB (len_is s)
  have hp := h.le
  have HJ : Hid (jntF s.data.toList p = jntK (byAt s.data.toList p) (byAt s.data.toList (p + 1))) := by rw [Hid, jnt_is, jnt_K]
  obtain ⟨c, hc⟩ : ∃ c, byAt s.data.toList p = c := ⟨_, rfl⟩
  obtain ⟨d, hd⟩ : ∃ d, byAt s.data.toList (p + 1) = d := ⟨_, rfl⟩
  have hc256 : c < 256 := by rw [← hc]; exact byAt_lt _ _
  have hd256 : d < 256 := by rw [← hd]; exact byAt_lt _ _
  rw [hc, hd] at HJ
  have HD := hideB hd
  have HX1 := hideB hx1
  have HB1 := hideB hb1
  have HF1 := hideB (h.below hb1)
  have HPK := hideB (peek_any (let ⟨v, h1, _⟩ := HF1.out.ex; h1.br) (by omega))
  rw [hc] at HPK
  clear h hb1 hx1 hc hd
  go_enter Tryz.func111, Tryz.ntmps111
  go_wp2_with fail
  (try rw [hW1])
  refine HPK.out.mono ?_
  rintro e w1 ⟨rfl, hb2⟩
  have HB2 := hideB hb2
  have HF2 := hideB (HF1.out.below hb2)
  have hz2 : w.heap.size < w1.heap.size := Nat.lt_of_lt_of_le hz1 hb2.size
  have HX2 : Hid (w1.heap[w.heap.size]? = _) := (hb2.block _ hz1).trans HX1.out
  obtain ⟨W2, hW2⟩ : ∃ W2, w1.alloc (.cells #[.int .u8 (c : Int), .int .u8 0] 110) = W2 := ⟨_, rfl⟩
  have hb3 : Below w1.heap.size w1 W2 := by rw [← hW2]; exact (Below.refl _ _).alloc (Nat.le_refl _) _
  have HB3 := hideB hb3
  have HF3 := hideB (HF2.out.below hb3)
  have HX3 : Hid (W2.heap[w.heap.size]? = _) := (hb3.block _ hz2).trans HX2.out
  have HY3 : Hid (W2.heap[w1.heap.size]? = some (.cells #[.int .u8 (c : Int), .int .u8 0] 110 (0, 0))) := by rw [Hid, ← hW2]; exact heap_alloc_new w1 _
  have hz3 : w1.heap.size < W2.heap.size := by rw [← hW2]; simp
  have HW2 := hideB hW2
  clear hb2 hb3 hW2
  go_wp2_with fail
  rw [HW2.out]
  obtain ⟨c0, c1, f1, lt0⟩ := HF3.out.cells
  have y0 : W2.cell? ⟨w1.heap.size, 0, none⟩ = some (.int .u8 (c : Int)) := cellAt HY3.out rfl
  have y1 : W2.cell? ⟨w1.heap.size, 1, none⟩ = some (.int .u8 0) := cellAt HY3.out rfl
  have g1 : W2.frozen? ⟨w1.heap.size, 1, none⟩ = false := Lib.frozen_of_heap HY3.out 1
  have hq' : (p : Int) + 1 < (s.size : Int) := by omega
  have hqd : decide ((p : Int) + 1 < (s.size : Int)) = true := by simpa using hq'
  have hby : s[p + 1].toNat = d := by rw [byS hq]; exact HD.out
  have hte : ((p : Int) + 1).toNat = p + 1 := by omega
  go_quiet (fail)
  have HD4 := hideB (below_drewB (w := W2) nq)
  obtain ⟨W3, hW3⟩ : ∃ W3, W2.drewN nq = W3 := ⟨_, rfl⟩
  rw [hW3] at HD4 ⊢
  have HF4 := hideB (HF3.out.below HD4.out)
  have HX4 : Hid (W3.heap[w.heap.size]? = _) := (HD4.out.block _ (by omega)).trans HX3.out
  have hy4 : W3.heap[w1.heap.size]? = some (.cells #[.int .u8 (c : Int), .int .u8 0] 110 (0, 0)) := (HD4.out.block _ (by omega)).trans HY3.out
  have hz4 : w1.heap.size < W3.heap.size := Nat.lt_of_lt_of_le hz3 HD4.out.size
  clear c0 c1 f1 lt0 y0 y1 g1 hW3 nq
  obtain ⟨c0, c1, f1, lt0⟩ := HF4.out.cells
  have y1 : W3.cell? ⟨w1.heap.size, 1, none⟩ = some (.int .u8 0) := cellAt hy4 rfl
  have g1 : W3.frozen? ⟨w1.heap.size, 1, none⟩ = false := Lib.frozen_of_heap hy4 1
  have HY4 := hideB hy4
  clear hy4
  go_wp2_with fail
  go_region
  obtain ⟨WA, hWA⟩ : ∃ WA, (W3.setCell ⟨w1.heap.size, 1, none⟩ (.int .u8 (d : Int))).drew = WA := ⟨_, rfl⟩
  rw [hWA]
  have hbA : Below w1.heap.size W3 WA := by rw [← hWA]; exact ((Below.refl _ _).setCell (p := ⟨w1.heap.size, 1, none⟩) (Nat.le_refl _) _).drew
  have HYA : Hid (WA.heap[w1.heap.size]? = some (.cells #[.int .u8 (c : Int), .int .u8 (d : Int)] 110 (0, 0))) := by rw [Hid, ← hWA]; exact setH HY4.out _
  have HXA : Hid (WA.heap[w.heap.size]? = _) := (hbA.block _ (by omega)).trans HX4.out
  have hzA : w1.heap.size < WA.heap.size := Nat.lt_of_lt_of_le hz4 hbA.size
  have HBA : Hid (Below w.heap.size w WA) := (((HB1.out.trans (HB2.out.mono (by omega))).trans (HB3.out.mono (by omega))).trans (HD4.out.mono (by omega))).trans (hbA.mono (by omega))
  have m3 : WA.cell? ⟨rb, 3, none⟩ = some (.map (some mb)) := by
    obtain ⟨v, h1, _⟩ := HF4.out.ex
    rw [← hWA]
    simp only [World.cell?_drew]
    rw [World.cell?_setCell_other (h := by have := (HF2.out.cells).2.2.2; simp; try omega)]
    exact h1.bl 3 (by decide)
  have mmp : WA.heap[mb]? = some (.map (signM 10) 10) := (hbA.block mb (by have := HF2.out.box.mb_lt; have := HF2.out.box.sz; omega)).trans HF4.out.box.mp
  clear hWA hbA c0 c1 f1 y1 g1 hq hq' hqd hby hte HD4 HF4 HX4 HY4 hz4
  all_goals
    obtain ⟨k1, t1, l1, fl1, r1, ok1, hlk, hor1⟩ := look_any mb c d
    have hlk1 := hlk WA.drew mmp
    have hmb : mb < WA.heap.size := ltHF mmp
    have hlk2 := hlk ((WA.alloc (.cells #[.int .i64 0, .string ⟨#[]⟩, .int .i64 0, .int .i64 0, .int .i64 0] 91)).drew) ((heap_alloc_old WA _ hmb).trans mmp)
    have HOR1 := hideB hor1
    have HMP := hideB mmp
    have hrl : rb < WA.heap.size := by have := HF2.out.cells.2.2.2; omega
    clear hor1 mmp hlk
    have y0 : WA.cell? ⟨w1.heap.size, 0, none⟩ = some (.int .u8 (c : Int)) := cellAt HYA.out rfl
    have y1 : WA.cell? ⟨w1.heap.size, 1, none⟩ = some (.int .u8 (d : Int)) := cellAt HYA.out rfl
    have HW2' := HW2
    clear HW2
    go_wp2_with fail
    go_region
  all_goals
    obtain ⟨WB, hWB⟩ : ∃ WB, (WA.alloc (.cells #[.int .i64 k1, .string t1, .int .i64 l1, .int .i64 fl1, .int .i64 r1] 91)).drew = WB := ⟨_, rfl⟩
    rw [hWB]
    have hbB : Below WA.heap.size WA WB := by rw [← hWB]; exact ((Below.refl _ _).alloc (Nat.le_refl _) _).drew
    have hjB : WB.heap[WA.heap.size]? = some (.cells #[.int .i64 k1, .string t1, .int .i64 l1, .int .i64 fl1, .int .i64 r1] 91 (0, 0)) := by rw [← hWB]; exact heap_alloc_new WA _
    have HXB : Hid (WB.heap[w.heap.size]? = _) := (hbB.block _ (by omega)).trans HXA.out
    have HYB : Hid (WB.heap[w1.heap.size]? = _) := (hbB.block _ (by omega)).trans HYA.out
    have HMPB : Hid (WB.heap[mb]? = _) := (hbB.block _ hmb).trans HMP.out
    have HBB := hideB (HBA.out.trans (hbB.mono (by omega)))
    have hzB : WA.heap.size < WB.heap.size := by rw [← hWB]; simp
    have hmbB : mb < WB.heap.size := by omega
    have m3' : WB.cell? ⟨rb, 3, none⟩ = some (.map (some mb)) := (cellOf (hbB.block rb hrl)).trans m3
    clear hWB hbB hlk1 hlk2 m3 y0 y1
    have m3 := m3'
    clear m3'
    have y0 : WB.cell? ⟨w1.heap.size, 0, none⟩ = some (.int .u8 (c : Int)) := cellAt HYB.out rfl
    have y1 : WB.cell? ⟨w1.heap.size, 1, none⟩ = some (.int .u8 (d : Int)) := cellAt HYB.out rfl
    have j0 := cellAt hjB (i := 0) rfl
    have j1 := cellAt hjB (i := 1) rfl
    have j2 := cellAt hjB (i := 2) rfl
    have j3 := cellAt hjB (i := 3) rfl
    have j4 := cellAt hjB (i := 4) rfl
    have u0 := cellAt HXB.out (i := 0) rfl
    have u1 := cellAt HXB.out (i := 1) rfl
    have u2 := cellAt HXB.out (i := 2) rfl
    have u3 := cellAt HXB.out (i := 3) rfl
    have u4 := cellAt HXB.out (i := 4) rfl
    have v0 : WB.frozen? ⟨w.heap.size, 0, none⟩ = false := Lib.frozen_of_heap HXB.out 0
    have v1 : WB.frozen? ⟨w.heap.size, 1, none⟩ = false := Lib.frozen_of_heap HXB.out 1
    have v2 : WB.frozen? ⟨w.heap.size, 2, none⟩ = false := Lib.frozen_of_heap HXB.out 2
    have v3 : WB.frozen? ⟨w.heap.size, 3, none⟩ = false := Lib.frozen_of_heap HXB.out 3
    have v4 : WB.frozen? ⟨w.heap.size, 4, none⟩ = false := Lib.frozen_of_heap HXB.out 4
    have hne2 : ¬ w.heap.size = WA.heap.size := by omega
    have hne3 : ¬ WA.heap.size = w.heap.size := by omega
    have hrlB : rb < WB.heap.size := by omega
    have hw1B : w1.heap.size < WB.heap.size := by omega
    clear hjB HXA HYA HMP hrl hmb
    by_cases hA : ok1 = true ∧ d ≠ 0
    · obtain ⟨hok, hd0⟩ := hA
      subst hok
      have dne : ((d : Int) != 0) = true := by simp; omega
      have dne2 : ¬ (d : Int) = 0 := by omega
      have HR : Hid (jhV (jntF s.data.toList p) = .tuple #[.agg #[.int .i64 k1, .string t1, .int .i64 l1, .int .i64 fl1, .int .i64 r1], .int .i64 2]) := by
        rcases HOR1.out with ⟨_, hk, e1, e2, e3, e4⟩ | ⟨e, _⟩
        · rw [Hid, HJ.out]; unfold jntK; rw [if_neg hd0, hk, e1, e2, e3, e4]; rfl
        · cases e
      clear HOR1
      go_wp2_with fail
      refine ret_jh (set5 HXB.out) rfl rfl rfl ?_
      exact ⟨by rw [HR.out]; rfl, ((((HBB.out.setCell (p := ⟨w.heap.size, 0, none⟩) (Nat.le_refl _) _).setCell (p := ⟨w.heap.size, 1, none⟩) (Nat.le_refl _) _).setCell (p := ⟨w.heap.size, 2, none⟩) (Nat.le_refl _) _).setCell (p := ⟨w.heap.size, 3, none⟩) (Nat.le_refl _) _).setCell (p := ⟨w.heap.size, 4, none⟩) (Nat.le_refl _) _⟩
    have HFST : Hid ((if d = 0 then none else lookK c d) = none) := by
      rw [Hid]
      split
      · rfl
      · rename_i hd0
        rcases HOR1.out with ⟨e, _⟩ | ⟨_, hk⟩
        · exact absurd ⟨e, hd0⟩ hA
        · exact hk
    have hB : ok1 = false ∨ (ok1 = true ∧ (d : Int) = 0) := by
      cases ok1
      · exact .inl rfl
      · refine .inr ⟨rfl, ?_⟩
        by_cases h : d = 0
        · omega
        · exact absurd ⟨rfl, h⟩ hA
    clear HOR1 hA
    rcases hB with hB | ⟨hB, hd0⟩
    · subst hB
      obtain ⟨k2, t2, l2, fl2, r2, ok2, hlk, hor2⟩ := look_zero mb c
      have hlk1 := hlk WB.drew HMPB.out
      have hlk2 := hlk ((WB.alloc (.cells #[.int .i64 0, .string ⟨#[]⟩, .int .i64 0, .int .i64 0, .int .i64 0] 91)).drew) ((heap_alloc_old WB _ hmbB).trans HMPB.out)
      clear hlk
      have HOR2 := hideB hor2
      clear hor2
      go_wp2_with fail
      go_region
      all_goals
        obtain ⟨WC, hWC⟩ : ∃ WC, (WB.alloc (.cells #[.int .i64 k2, .string t2, .int .i64 l2, .int .i64 fl2, .int .i64 r2] 91)).drew = WC := ⟨_, rfl⟩
        rw [hWC]
        have hbC : Below WB.heap.size WB WC := by rw [← hWC]; exact ((Below.refl _ _).alloc (Nat.le_refl _) _).drew
        have hjC : WC.heap[WB.heap.size]? = some (.cells #[.int .i64 k2, .string t2, .int .i64 l2, .int .i64 fl2, .int .i64 r2] 91 (0, 0)) := by rw [← hWC]; exact heap_alloc_new WB _
        have HXC : Hid (WC.heap[w.heap.size]? = _) := (hbC.block _ (by omega)).trans HXB.out
        have HBC := hideB (HBB.out.trans (hbC.mono (by omega)))
        have hzC : WB.heap.size < WC.heap.size := by rw [← hWC]; simp
        clear hWC hbC hlk1 hlk2 m3 y0 y1 u0 u1 u2 u3 u4 v0 v1 v2 v3 v4 j0 j1 j2 j3 j4
        have j0 := cellAt hjC (i := 0) rfl
        have j1 := cellAt hjC (i := 1) rfl
        have j2 := cellAt hjC (i := 2) rfl
        have j3 := cellAt hjC (i := 3) rfl
        have j4 := cellAt hjC (i := 4) rfl
        have u0 := cellAt HXC.out (i := 0) rfl
        have u1 := cellAt HXC.out (i := 1) rfl
        have u2 := cellAt HXC.out (i := 2) rfl
        have u3 := cellAt HXC.out (i := 3) rfl
        have u4 := cellAt HXC.out (i := 4) rfl
        have v0 : WC.frozen? ⟨w.heap.size, 0, none⟩ = false := Lib.frozen_of_heap HXC.out 0
        have v1 : WC.frozen? ⟨w.heap.size, 1, none⟩ = false := Lib.frozen_of_heap HXC.out 1
        have v2 : WC.frozen? ⟨w.heap.size, 2, none⟩ = false := Lib.frozen_of_heap HXC.out 2
        have v3 : WC.frozen? ⟨w.heap.size, 3, none⟩ = false := Lib.frozen_of_heap HXC.out 3
        have v4 : WC.frozen? ⟨w.heap.size, 4, none⟩ = false := Lib.frozen_of_heap HXC.out 4
        have hne2 : ¬ w.heap.size = WB.heap.size := by omega
        have hne3 : ¬ WB.heap.size = w.heap.size := by omega
        clear hjC
        rcases HOR2.out with ⟨e, hk, e1, e2, e3, e4⟩ | ⟨e, hk⟩
        · subst e
          have HR : Hid (jhV (jntF s.data.toList p) = .tuple #[.agg #[.int .i64 k2, .string t2, .int .i64 l2, .int .i64 fl2, .int .i64 r2], .int .i64 1]) := by rw [Hid, HJ.out]; unfold jntK; rw [HFST.out, hk, e1, e2, e3, e4]; rfl
          clear hk e1 e2 e3 e4 HOR2
          go_wp2_with fail
          refine ret_jh (set5 HXC.out) rfl rfl rfl ?_
          exact ⟨by rw [HR.out]; rfl, ((((HBC.out.setCell (p := ⟨w.heap.size, 0, none⟩) (Nat.le_refl _) _).setCell (p := ⟨w.heap.size, 1, none⟩) (Nat.le_refl _) _).setCell (p := ⟨w.heap.size, 2, none⟩) (Nat.le_refl _) _).setCell (p := ⟨w.heap.size, 3, none⟩) (Nat.le_refl _) _).setCell (p := ⟨w.heap.size, 4, none⟩) (Nat.le_refl _) _⟩
        · subst e
          have HR : Hid (jhV (jntF s.data.toList p) = .tuple #[.agg #[.int .i64 0, .string ⟨#[]⟩, .int .i64 0, .int .i64 0, .int .i64 0], .int .i64 0]) := by rw [Hid, HJ.out]; unfold jntK; rw [HFST.out, hk]; rfl
          clear hk HOR2
          go_wp2_with fail
          refine ret_jh (set5 HXC.out) rfl rfl rfl ?_
          exact ⟨by rw [HR.out]; rfl, ((((HBC.out.setCell (p := ⟨w.heap.size, 0, none⟩) (Nat.le_refl _) _).setCell (p := ⟨w.heap.size, 1, none⟩) (Nat.le_refl _) _).setCell (p := ⟨w.heap.size, 2, none⟩) (Nat.le_refl _) _).setCell (p := ⟨w.heap.size, 3, none⟩) (Nat.le_refl _) _).setCell (p := ⟨w.heap.size, 4, none⟩) (Nat.le_refl _) _⟩
    · subst hB
      rw [hd0] at y1
      clear hd0
      obtain ⟨k2, t2, l2, fl2, r2, ok2, hlk, hor2⟩ := look_zero mb c
      have hlk1 := hlk WB.drew HMPB.out
      have hlk2 := hlk ((WB.alloc (.cells #[.int .i64 0, .string ⟨#[]⟩, .int .i64 0, .int .i64 0, .int .i64 0] 91)).drew) ((heap_alloc_old WB _ hmbB).trans HMPB.out)
      clear hlk
      have HOR2 := hideB hor2
      clear hor2
      go_wp2_with fail
      go_region
      all_goals
        obtain ⟨WC, hWC⟩ : ∃ WC, (WB.alloc (.cells #[.int .i64 k2, .string t2, .int .i64 l2, .int .i64 fl2, .int .i64 r2] 91)).drew = WC := ⟨_, rfl⟩
        rw [hWC]
        have hbC : Below WB.heap.size WB WC := by rw [← hWC]; exact ((Below.refl _ _).alloc (Nat.le_refl _) _).drew
        have hjC : WC.heap[WB.heap.size]? = some (.cells #[.int .i64 k2, .string t2, .int .i64 l2, .int .i64 fl2, .int .i64 r2] 91 (0, 0)) := by rw [← hWC]; exact heap_alloc_new WB _
        have HXC : Hid (WC.heap[w.heap.size]? = _) := (hbC.block _ (by omega)).trans HXB.out
        have HBC := hideB (HBB.out.trans (hbC.mono (by omega)))
        have hzC : WB.heap.size < WC.heap.size := by rw [← hWC]; simp
        clear hWC hbC hlk1 hlk2 m3 y0 y1 u0 u1 u2 u3 u4 v0 v1 v2 v3 v4 j0 j1 j2 j3 j4
        have j0 := cellAt hjC (i := 0) rfl
        have j1 := cellAt hjC (i := 1) rfl
        have j2 := cellAt hjC (i := 2) rfl
        have j3 := cellAt hjC (i := 3) rfl
        have j4 := cellAt hjC (i := 4) rfl
        have u0 := cellAt HXC.out (i := 0) rfl
        have u1 := cellAt HXC.out (i := 1) rfl
        have u2 := cellAt HXC.out (i := 2) rfl
        have u3 := cellAt HXC.out (i := 3) rfl
        have u4 := cellAt HXC.out (i := 4) rfl
        have v0 : WC.frozen? ⟨w.heap.size, 0, none⟩ = false := Lib.frozen_of_heap HXC.out 0
        have v1 : WC.frozen? ⟨w.heap.size, 1, none⟩ = false := Lib.frozen_of_heap HXC.out 1
        have v2 : WC.frozen? ⟨w.heap.size, 2, none⟩ = false := Lib.frozen_of_heap HXC.out 2
        have v3 : WC.frozen? ⟨w.heap.size, 3, none⟩ = false := Lib.frozen_of_heap HXC.out 3
        have v4 : WC.frozen? ⟨w.heap.size, 4, none⟩ = false := Lib.frozen_of_heap HXC.out 4
        have hne2 : ¬ w.heap.size = WB.heap.size := by omega
        have hne3 : ¬ WB.heap.size = w.heap.size := by omega
        clear hjC
        rcases HOR2.out with ⟨e, hk, e1, e2, e3, e4⟩ | ⟨e, hk⟩
        · subst e
          have HR : Hid (jhV (jntF s.data.toList p) = .tuple #[.agg #[.int .i64 k2, .string t2, .int .i64 l2, .int .i64 fl2, .int .i64 r2], .int .i64 1]) := by rw [Hid, HJ.out]; unfold jntK; rw [HFST.out, hk, e1, e2, e3, e4]; rfl
          clear hk e1 e2 e3 e4 HOR2
          go_wp2_with fail
          refine ret_jh (set5 HXC.out) rfl rfl rfl ?_
          exact ⟨by rw [HR.out]; rfl, ((((HBC.out.setCell (p := ⟨w.heap.size, 0, none⟩) (Nat.le_refl _) _).setCell (p := ⟨w.heap.size, 1, none⟩) (Nat.le_refl _) _).setCell (p := ⟨w.heap.size, 2, none⟩) (Nat.le_refl _) _).setCell (p := ⟨w.heap.size, 3, none⟩) (Nat.le_refl _) _).setCell (p := ⟨w.heap.size, 4, none⟩) (Nat.le_refl _) _⟩
        · subst e
          have HR : Hid (jhV (jntF s.data.toList p) = .tuple #[.agg #[.int .i64 0, .string ⟨#[]⟩, .int .i64 0, .int .i64 0, .int .i64 0], .int .i64 0]) := by rw [Hid, HJ.out]; unfold jntK; rw [HFST.out, hk]; rfl
          clear hk HOR2
          go_wp2_with fail
          refine ret_jh (set5 HXC.out) rfl rfl rfl ?_
          exact ⟨by rw [HR.out]; rfl, ((((HBC.out.setCell (p := ⟨w.heap.size, 0, none⟩) (Nat.le_refl _) _).setCell (p := ⟨w.heap.size, 1, none⟩) (Nat.le_refl _) _).setCell (p := ⟨w.heap.size, 2, none⟩) (Nat.le_refl _) _).setCell (p := ⟨w.heap.size, 3, none⟩) (Nat.le_refl _) _).setCell (p := ⟨w.heap.size, 4, none⟩) (Nat.le_refl _) _⟩
end Go.Proofs.YtehihemfepbmfaaGreatDoor

/-
  The specification's l7Rf: what a reading function leaves; nodes of the four shapes; constants, words that must stand there.
-/
namespace Go.Proofs.YtehihemfepbmfaaGreatDoor
open Go.RowKit
set_option linter.unusedSimpArgs false
set_option linter.unusedVariables false

/-- Read as 'r' says, or spoilt where 'r' fails. A spoilt reader has few nodes still: each node more was paid for by a byte. -/
def LfOr (r : RF) (rb base : Nat) (Z : Nat → Prop) (s : ByteArray) (p0 : Nat) (w : World) (e : Ending) (w' : World) : Prop :=
  LB rb base Z w w' ∧ ∃ (n : Int) (fs' : List FN) (p' : Nat), e = .returned (.int .i64 n) ∧ p0 ≤ p' ∧ ((r = some (n, fs', skF s.data.toList p') ∧ LfAt w' rb base Z s p' false fs' ∧ fs'.length ≤ 40) ∨ (r = none ∧ fs'.length + p0 ≤ 42 + p' ∧ LfAt w' rb base Z s p' true fs'))
theorem LfOr.of {r r' : RF} {rb base p0 : Nat} {Z : Nat → Prop} {s : ByteArray} {w w' : World} {e : Ending} (hr : r = r') (h : LfOr r' rb base Z s p0 w e w') : LfOr r rb base Z s p0 w e w' := by rw [hr]; exact h
theorem LfOr.after {r : RF} {rb base p0 p1 : Nat} {Z : Nat → Prop} {s : ByteArray} {w w1 w' : World} {e : Ending} (hb : LB rb base Z w w1) (hp : p0 ≤ p1) (h : LfOr r rb base Z s p1 w1 e w') : LfOr r rb base Z s p0 w e w' := by
  obtain ⟨h1, n, fs', p', he, hq, hc⟩ := h
  refine ⟨hb.trans h1, n, fs', p', he, by omega, ?_⟩
  rcases hc with hc | ⟨a, b, c⟩
  · exact .inl hc
  · exact .inr ⟨a, by omega, c⟩
/-- A node more, good so far. -/
theorem LfOr.add {x : FN} {fs : List FN} {rb base p0 p' : Nat} {Z : Nat → Prop} {s : ByteArray} {w w' : World} (h : LfAt w' rb base Z s p' (false || decide (40 < fs.length + 1)) (fs ++ [x])) (hfs : fs.length ≤ 40) (hp : p0 ≤ p') (hb : LB rb base Z w w') : LfOr (addF WSp x fs (skF s.data.toList p')) rb base Z s p0 w (.returned (.int .i64 (fs.length : Int))) w' := by
  refine ⟨hb, _, fs ++ [x], p', rfl, hp, ?_⟩
  by_cases hk : 40 < fs.length + 1
  · right
    refine ⟨by unfold addF; rw [if_pos ⟨rfl, hk⟩], by simp; omega, ?_⟩
    have e : (false || decide (40 < fs.length + 1)) = true := by simp [hk]
    rw [e] at h; exact h
  · left
    refine ⟨by unfold addF; rw [if_neg (fun e => hk e.2)], ?_, by simp; omega⟩
    have e : (false || decide (40 < fs.length + 1)) = false := by simp [hk]
    rw [e] at h; exact h
/-- A node more, spoilt already. -/
theorem LfOr.addB {r : RF} {x : FN} {fs : List FN} {rb base p0 p' : Nat} {Z : Nat → Prop} {s : ByteArray} {w w' : World} (hr : r = none) (h : LfAt w' rb base Z s p' (true || decide (40 < fs.length + 1)) (fs ++ [x])) (hfs : fs.length + 1 + p0 ≤ 42 + p') (hp : p0 ≤ p') (hb : LB rb base Z w w') : LfOr r rb base Z s p0 w (.returned (.int .i64 (fs.length : Int))) w' := by
  refine ⟨hb, _, fs ++ [x], p', rfl, hp, .inr ⟨hr, by simp; omega, ?_⟩⟩
  rw [Bool.true_or] at h; exact h
theorem LfOr.no {r : RF} {fs : List FN} {n : Int} {rb base p0 p' : Nat} {Z : Nat → Prop} {s : ByteArray} {w w' : World} (hr : r = none) (h : LfAt w' rb base Z s p' true fs) (hfs : fs.length + p0 ≤ 42 + p') (hp : p0 ≤ p') (hb : LB rb base Z w w') : LfOr r rb base Z s p0 w (.returned (.int .i64 n)) w' := ⟨hb, n, fs, p', rfl, hp, .inr ⟨hr, hfs, h⟩⟩

/-- A node without kids, names, constant. -/
theorem lfAddK_any {rb base p : Nat} {Z : Nat → Prop} {s : ByteArray} {bad : Bool} {fs : List FN} {w : World} (h : LfAt w rb base Z s p bad fs) (hl : fs.length ≤ 4000) (k : Int) (nm : ByteArray) (pl : Int) :
    Calls Tryz.prog 80 #[.pointer (some ⟨rb, 0, none⟩), .agg #[.int .i64 k, .string nm, .int .i64 pl, .slice none 0 0, .slice none 0 0, .slice none 0 0]] w fun e w' => e = .returned (.int .i64 (fs.length : Int)) ∧ LfAt w' rb base Z s p (bad || decide (40 < fs.length + 1)) (fs ++ [⟨k, nm, pl, [], [], []⟩]) ∧ LB rb base Z w w' :=
  lfAdd_any (x := ⟨k, nm, pl, [], [], []⟩) h (nestNil _ _) (World.ownsRow_nil _ _ _ _) (World.ownsRow_nil _ _ _ _) (fun y hy => by rcases hy with e | e | e <;> cases e) (fun y hy => ⟨hy, fun e => by rcases e with e | e | e <;> cases e⟩) hl
theorem lit_intsS (w : World) (base : Nat) (ks : List Int) (hb : base ≤ w.heap.size) (hn : ks.length ≤ 1000) : (w.alloc (.cells (ks.map (Value.int .i64)).toArray 2)).ownsRow base 2 1 (.slice (some ⟨w.heap.size, 0, none⟩) ks.length ks.length) ks.length (ks.map (.int .i64)) := by
  have := World.ownsRow_lit (base := base) (e := 2) (size := 1) w (ks.map (Value.int .i64)).toArray ks.length hb (by unfold maxLen; omega) (by simp)
  simpa using this
/-- A node with kids that were laid just now. -/
theorem lfAddR_any {rb base p : Nat} {Z : Nat → Prop} {s : ByteArray} {bad : Bool} {fs : List FN} {w : World} (h : LfAt w rb base Z s p bad fs) (hZ : ∀ x, Z x → x < w.heap.size) (hl : fs.length ≤ 4000) (k : Int) (ks : List Int) (hn : ks.length ≤ 1000) :
    Calls Tryz.prog 80 #[.pointer (some ⟨rb, 0, none⟩), .agg #[.int .i64 k, .string ByteArray.empty, .int .i64 0, .slice none 0 0, .slice none 0 0, .slice (some ⟨w.heap.size, 0, none⟩) ks.length ks.length]] (w.alloc (.cells (ks.map (Value.int .i64)).toArray 2)) fun e w' => e = .returned (.int .i64 (fs.length : Int)) ∧ LfAt w' rb base Z s p (bad || decide (40 < fs.length + 1)) (fs ++ [nodeR k ks]) ∧ LB rb base Z w w' := by
  have hb : Below w.heap.size w (w.alloc (.cells (ks.map (Value.int .i64)).toArray 2)) := (Below.refl _ _).alloc (Nat.le_refl _) _
  refine (lfAdd_any (Z := fun x => Z x ∨ x = w.heap.size) (Z' := Z) (x := nodeR k ks) (h.fresh hb (fun x hx => by rcases hx with hx | hx; exact .inl hx; exact .inr (by omega)) (fun x hx => by have := hb.size; rw [show (w.alloc (.cells (ks.map (Value.int .i64)).toArray 2)).heap.size = w.heap.size + 1 by simp]; rcases hx with hx | hx; have := hZ x hx; omega; omega)) (nestNil _ _) (World.ownsRow_nil _ _ _ _) (lit_intsS w base ks h.sz hn) (fun y hy => ?_) (fun y hy => ⟨.inl hy, fun e => ?_⟩) hl).mono ?_
  · rcases hy with e | e | e
    · cases e
    · cases e
    · simp [Value.ownBlock] at e; exact .inr e.symm
  · rcases e with e | e | e
    · cases e
    · cases e
    · simp [Value.ownBlock] at e; have := hZ y hy; omega
  · rintro e w' ⟨rfl, h1, h2⟩
    exact ⟨rfl, h1, (LB.of_below hb).trans (h2.mono fun x hx => .inl hx)⟩

set_option maxRecDepth 100000 in
set_option maxHeartbeats 3200000 in
/-- A constant that lies in a row of its own. -/
theorem lfConst_any {rb base p : Nat} {Z Z' : Nat → Prop} {s : ByteArray} {bad : Bool} {fs : List FN} {w : World} {v : VN} {kc : Value} (h : LfAt w rb base Z s p bad fs) (hc : Nest base w kc [v] nilV nilV) (hfr : ∀ y, kc.ownBlock = some y → Z y) (hz : ∀ y, Z' y → Z y ∧ ¬ kc.ownBlock = some y) (hl : fs.length ≤ 4000) :
    Calls Tryz.prog 117 #[.pointer (some ⟨rb, 0, none⟩), kc] w fun e w' => e = .returned (.int .i64 (fs.length : Int)) ∧ LfAt w' rb base Z' s p (bad || decide (40 < fs.length + 1)) (fs ++ [nodeC v]) ∧ LB rb base Z w w' := by
  have HA := hideB (lfAdd_any (Z' := Z') (x := nodeC v) (kc := kc) (kn := .slice none 0 0) (ki := .slice none 0 0) h hc (World.ownsRow_nil _ _ _ _) (World.ownsRow_nil _ _ _ _) (fun y hy => by rcases hy with e | e | e; exact hfr y e; cases e; cases e) (fun y hy => ⟨(hz y hy).1, fun e => by rcases e with e | e | e; exact (hz y hy).2 e; cases e; cases e⟩) hl)
  obtain ⟨ac, cc, ekc⟩ := own_sl hc.row
  clear h hc hfr hz
  subst ekc
  go_enter Tryz.func117, Tryz.ntmps117
  go_wp2_with fail
  refine HA.out.mono ?_
  rintro e w1 ⟨rfl, h1, b1⟩
  have HF1 := hideB h1
  have HB1 := hideB b1
  clear h1 b1
  go_wp2_with fail
  go_ret
  exact ⟨rfl, HF1.out, HB1.out⟩
end Go.Proofs.YtehihemfepbmfaaGreatDoor

/-
  The specification's l7Rf: a word that must stand there.
-/
namespace Go.Proofs.YtehihemfepbmfaaGreatDoor
open Go.RowKit
set_option linter.unusedSimpArgs false
set_option linter.unusedVariables false

/-- A word that begins with a letter: 'word' finds it just where the name is this word. -/
theorem word_name {L : List UInt8} {q : Nat} {c : UInt8} {u : List UInt8} (hc : letN c.toNat = true) (hne : ¬ (L.drop q).take (wdJ L q - q) = c :: u) : nameF L q ≠ c :: u := by
  intro h
  unfold wdJ at hne
  by_cases hl : letAt L q = true
  · rw [if_pos hl] at hne; exact hne h
  · unfold nameF at h
    have hq : q < L.length := by
      by_cases hq : q < L.length
      · exact hq
      · rw [List.drop_eq_nil_of_le (by omega)] at h; simp at h
    have hm : 0 < nmJ L q - q := by
      by_cases hm : 0 < nmJ L q - q
      · exact hm
      · rw [show nmJ L q - q = 0 by omega] at h; simp at h
    have hb : byAt ((L.drop q).take (nmJ L q - q)) 0 = byAt L (q + 0) := byAt_cut hm
    rw [h] at hb
    have : byAt L q = c.toNat := hb.symm
    exact hl (by unfold letAt; rw [this, hc]; simp [hq])
theorem word_name_yes {L : List UInt8} {q : Nat} {c : UInt8} {u : List UInt8} (he : (L.drop q).take (wdJ L q - q) = c :: u) : nameF L q = c :: u ∧ wdJ L q = nmJ L q := by
  by_cases hl : letAt L q = true
  · have : wdJ L q = nmJ L q := by unfold wdJ; rw [if_pos hl]
    rw [this] at he
    exact ⟨he, this⟩
  · unfold wdJ at he; rw [if_neg hl] at he; simp at he

set_option maxRecDepth 100000 in
set_option maxHeartbeats 3200000 in
theorem lfThen_any {rb base p : Nat} {Z : Nat → Prop} {s u : ByteArray} {bad : Bool} {fs : List FN} {w : World} (h : LfAt w rb base Z s p bad fs) (hs : s.size ≤ 4000) (hu : ∃ c l, u.data.toList = c :: l ∧ letN c.toNat = true) :
    Calls Tryz.prog 156 #[.pointer (some ⟨rb, 0, none⟩), .string u] w fun e w' => e = .returned (.tuple #[]) ∧ LB rb base Z w w' ∧ ((bad = false ∧ nameF s.data.toList (skF s.data.toList p) = u.data.toList ∧ LfAt w' rb base Z s (nmJ s.data.toList (skF s.data.toList p)) false fs) ∨ ((bad = true ∨ nameF s.data.toList (skF s.data.toList p) ≠ u.data.toList) ∧ ∃ p', p ≤ p' ∧ LfAt w' rb base Z s p' true fs)) := by
  have HW := hideB (lfWord_any h hs)
  have hsk := skF_ge s.data.toList p
  obtain ⟨q, hq⟩ : ∃ q, skF s.data.toList p = q := ⟨_, rfl⟩
  rw [hq] at HW hsk ⊢
  obtain ⟨c, l, hul, hcl⟩ := hu
  have hwq : q ≤ wdJ s.data.toList q := by
    unfold wdJ; split
    · exact runJ_ge _ _ _
    · exact Nat.le_refl _
  clear h hq
  obtain ⟨T, hT⟩ : ∃ T, (if bad = true then (⟨#[]⟩ : ByteArray) else txt ((s.data.toList.drop q).take (wdJ s.data.toList q - q))) = T := ⟨_, rfl⟩
  obtain ⟨P, hP⟩ : ∃ P, (if bad = true then q else wdJ s.data.toList q) = P := ⟨_, rfl⟩
  rw [hT, hP] at HW
  have hpP : p ≤ P := by rw [← hP]; split <;> omega
  by_cases he : T = u
  · subst he
    have HYES : Hid (bad = false ∧ nameF s.data.toList q = T.data.toList ∧ P = nmJ s.data.toList q) := by
      rw [Hid]
      cases hb : bad
      · rw [hb, if_neg (by decide)] at hT hP
        have e1 : (s.data.toList.drop q).take (wdJ s.data.toList q - q) = c :: l := by rw [← hul, ← hT, bytes_txt]
        have e2 := word_name_yes e1
        exact ⟨rfl, by rw [hul]; exact e2.1, by rw [← hP]; exact e2.2⟩
      · rw [hb, if_pos rfl] at hT
        rw [← hT] at hul; simp at hul
    clear hT hP hul hcl hwq hsk
    have q1 : (T.toList == T.toList) = true := by simp
    have q2 : (T.toList != T.toList) = false := by simp
    go_enter Tryz.func156, Tryz.ntmps156
    go_wp2_with fail
    refine HW.out.mono ?_
    rintro e w1 ⟨b1, rfl, h1⟩
    have HF1 := hideB h1
    have HB1 := hideB b1
    clear h1 b1
    go_wp2_with fail
    go_end0
    refine ⟨rfl, HB1.out, .inl ⟨HYES.out.1, HYES.out.2.1, ?_⟩⟩
    have := HF1.out
    rw [HYES.out.1, HYES.out.2.2] at this
    exact this
  · have HNO : Hid (bad = true ∨ nameF s.data.toList q ≠ u.data.toList) := by
      rw [Hid]
      cases hb : bad
      · right
        rw [hb, if_neg (by decide)] at hT
        rw [hul]
        refine word_name hcl (fun e => he ?_)
        rw [← hT, e, ← hul, txt_bytes]
      · left; rfl
    have q0 : ¬ T.toList = u.toList := fun e => he (str_eq (by rw [e]; simp))
    have q1 : (T.toList == u.toList) = false := by simpa using q0
    have q2 : (T.toList != u.toList) = true := by simpa using q0
    clear he hT hP hul hcl hwq hsk
    go_enter Tryz.func156, Tryz.ntmps156
    go_wp2_with fail
    refine HW.out.mono ?_
    rintro e w1 ⟨b1, rfl, h1⟩
    have HF1 := hideB (h1.setB true)
    have HB1 := hideB (b1.trans (LB.of_set 2 (.bool true)))
    obtain ⟨c0, c1, c2⟩ := h1.cells
    have f2 := h1.free 2
    clear h1 b1
    go_wp2_with fail
    go_end0
    exact ⟨rfl, HB1.out, .inr ⟨HNO.out, P, hpP, HF1.out⟩⟩
end Go.Proofs.YtehihemfepbmfaaGreatDoor

/-
  The specification's l7Rf: numbers.
-/
namespace Go.Proofs.YtehihemfepbmfaaGreatDoor
open Go.RowKit
set_option linter.unusedSimpArgs false
set_option linter.unusedVariables false

set_option maxRecDepth 100000 in
set_option maxHeartbeats 6400000 in
theorem lfNum_any {rb base p : Nat} {Z : Nat → Prop} {s : ByteArray} {bad : Bool} {fs : List FN} {w : World} (h : LfAt w rb base Z s p bad fs) (hs : s.size ≤ 4000) :
    Calls Tryz.prog 122 #[.pointer (some ⟨rb, 0, none⟩)] w fun e w' => LB rb base Z w w' ∧ ∃ n, e = .returned (.int .i64 n) ∧ ((intT (numW s.data.toList (skF s.data.toList p)) = some n ∧ LfAt w' rb base Z s (dgJ s.data.toList (numAt s.data.toList (skF s.data.toList p))) bad fs) ∨ (intT (numW s.data.toList (skF s.data.toList p)) = none ∧ n = 0 ∧ LfAt w' rb base Z s (skF s.data.toList p) true fs)) := by
  have HBK := hideB (lfBlanks_any h hs)
  have hps := h.le
  have HLN := hideB (len_is s)
  obtain ⟨q, hq⟩ : ∃ q, skF s.data.toList p = q := ⟨_, rfl⟩
  have hql : q ≤ s.size := by rw [← hq, ← len_is]; exact skF_le (by rw [len_is]; exact hps)
  rw [hq] at HBK ⊢
  clear h hq
  obtain ⟨q0, hq0⟩ : ∃ q0, numAt s.data.toList q = q0 := ⟨_, rfl⟩
  have HQ0 := hideB hq0
  have hq0s : q0 ≤ s.size := by rw [← hq0, ← HLN.out]; exact numAt_le (by rw [HLN.out]; exact hql)
  have hpq0 : q ≤ q0 := by rw [← hq0]; exact numAt_ge _ _
  have HEND : Hid (numW s.data.toList q = (s.data.toList.drop q).take (dgJ s.data.toList q0 - q)) := by rw [Hid]; unfold numW; rw [hq0]
  have HIS : Hid (q0 = if isAt s.data.toList q 45 = true then q + 1 else q) := by rw [Hid, ← hq0]; rfl
  obtain ⟨N, hN⟩ : ∃ N, numW s.data.toList q = N := ⟨_, rfl⟩
  have HNN := hideB hN
  obtain ⟨D, hD⟩ : ∃ D, dgJ s.data.toList q0 = D := ⟨_, rfl⟩
  have HDD := hideB hD
  rw [hq0, hN, hD]
  clear hq0 hN hD
  go_enter Tryz.func122, Tryz.ntmps122
  go_wp2_with fail
  refine HBK.out.mono ?_
  rintro e w1 ⟨rfl, h1, b1⟩
  have HF1 := hideB h1
  have HB1 := hideB b1
  obtain ⟨c0, c1, c2⟩ := h1.cells
  have l1 := h1.free 1
  have l2 := h1.free 2
  clear h1 b1
  by_cases hlt : q < s.size
  focus
    have hlt' : (q : Int) < (s.size : Int) := by omega
    have HB := hideB (byS hlt)
    obtain ⟨c, hc⟩ : ∃ c, s[q].toNat = c := ⟨_, rfl⟩
    have HC : Hid (byAt s.data.toList q = c) := by rw [Hid, ← HB.out]; exact hc
    by_cases h45 : c = 45
    focus
      have h45' : ((c : Int) == 45) = true := by rw [h45]; rfl
      have h45'' : (c : Int) = 45 := by omega
      have hqq : q0 = q + 1 := by rw [HIS.out, if_pos (isAt_yes.2 ⟨by rw [HLN.out]; exact hlt, by rw [HC.out]; exact h45⟩)]
      have HQZ : Hid ((q : Int) + 1 = (q0 : Int)) := by rw [Hid]; omega
      clear hqq h45
      go_wp2_with fail
    rotate_left
    focus
      have h45' : ((c : Int) == 45) = false := by simp; omega
      have h45'' : ¬ (c : Int) = 45 := by omega
      have hqq : q0 = q := by rw [HIS.out, if_neg (fun e => h45 (by rw [← HC.out]; exact (isAt_yes.1 e).2))]
      have HQZ : Hid ((q : Int) = (q0 : Int)) := by rw [Hid]; omega
      clear hqq h45
      go_wp2_with fail
  rotate_left 2
  focus
    have hlt' : ¬ (q : Int) < (s.size : Int) := by omega
    have hqq : q0 = q := by rw [HIS.out, if_neg (fun e => by have := (isAt_yes.1 e).1; rw [HLN.out] at this; omega)]
    have HQZ : Hid ((q : Int) = (q0 : Int)) := by rw [Hid]; omega
    clear hqq
    go_wp2_with fail
  all_goals
    first
      | clear hlt' h45' h45'' hlt HB HC hc
      | clear hlt' hlt
    go_loopw [3] (fun tv wr => wr = w1 ∧ ∃ t : Nat, tv = .int .i64 (t : Int) ∧ q ≤ t ∧ t ≤ s.size ∧ Hid (dgJ s.data.toList t = D)) (fun tv _ => s.size - (intOf tv).toNat)
    case atStart => exact ⟨rfl, q0, congrArg (Value.int .i64) HQZ.out, hpq0, hq0s, HDD.out⟩
    case round =>
      obtain ⟨rfl, t, rfl, hqt, hts, HIN⟩ := hrel
      obtain ⟨T, hT⟩ : ∃ T, txt ((s.data.toList.drop q).take (t - q)) = T := ⟨_, rfl⟩
      have hTs : T.size ≤ 4000 := by rw [← hT, txt_size, List.length_take, List.length_drop, HLN.out]; omega
      have HTD : Hid (T.data.toList = (s.data.toList.drop q).take (t - q)) := by rw [Hid, ← hT, bytes_txt]
      have hcut : ∀ w, (Instr.slice 9 (.string s) (some (.int .i64 (q : Int))) (some (.int .i64 (t : Int))) none).run Tryz.prog w = .ok (.string T) w := fun w => by rw [run_cut (P := Tryz.prog) (t := 9) s q t Tryz.underlying9 hqt hts w, hT]
      have HLI := hideB (l1Int_any T (by omega))
      have HSTOP : Hid (dgJ s.data.toList t = t → D = t ∧ N = T.data.toList) := fun he => by
        have e1 : D = t := by rw [← HIN.out]; exact he
        refine ⟨e1, ?_⟩
        rw [← HNN.out, HEND.out, HDD.out, e1, HTD.out]
      clear hT
      by_cases htl : t < s.size
      focus
        have htl' : (t : Int) < (s.size : Int) := by omega
        have HBt := hideB (byS htl)
        obtain ⟨d, hd⟩ : ∃ d, s[t].toNat = d := ⟨_, rfl⟩
        have HDt : Hid (byAt s.data.toList t = d) := by rw [Hid, ← HBt.out]; exact hd
        have HTL : Hid (t < s.data.toList.length) := by rw [Hid, HLN.out]; exact htl
        by_cases hd1 : 48 ≤ d
        focus
          have hd1' : (48 : Int) ≤ (d : Int) := by omega
          by_cases hd2 : d ≤ 57
          focus
            have hd2' : (d : Int) ≤ 57 := by omega
            have HN2 : Hid (dgJ s.data.toList (t + 1) = D) := by
              rw [Hid, ← HIN.out]
              exact (runJ_yes HTL.out (by rw [HDt.out]; unfold digC; simp; omega)).symm
            clear HSTOP
            go_wp2_with fail
            go_roundw
            case rel => exact ⟨by trivial, t + 1, by go_num, by omega, by omega, HN2.out⟩
            case measure => simp [intOf]; omega
          focus
            have hd2' : ¬ (d : Int) ≤ 57 := by omega
            have HFIN := hideB (HSTOP.out (runJ_no (fun e => by have := e.2; rw [HDt.out] at this; unfold digC at this; simp at this; omega)))
            go_wp2_with fail
        rotate_left
        focus
          have hd1' : ¬ (48 : Int) ≤ (d : Int) := by omega
          have HFIN := hideB (HSTOP.out (runJ_no (fun e => by have := e.2; rw [HDt.out] at this; unfold digC at this; simp at this; omega)))
          go_wp2_with fail
      rotate_left 2
      focus
        have htl' : ¬ (t : Int) < (s.size : Int) := by omega
        have HFIN := hideB (HSTOP.out (runJ_past (by rw [HLN.out]; omega)))
        go_wp2_with fail
      all_goals
        have hrw : rb < wr.heap.size := HF1.out.lt
        go_region_with (go_at_call 157; refine (HLI.out _).mono ?_; rintro e w5 ⟨n, ok, rfl, hw5, hor⟩; have hw6 := hw5.symm; clear hw5; subst hw6)
        all_goals
          have HBD : Hid (LB rb base Z w (wr.setCell ⟨rb, 2, none⟩ (.bool true)).drew) := (HB1.out.trans (LB.of_set 2 (.bool true))).trans (LB.of_below (Below.refl _ _).drew)
          have HFD : Hid (LfAt (wr.setCell ⟨rb, 2, none⟩ (.bool true)).drew rb base Z s q true fs) := (HF1.out.setB true).below (Below.refl _ _).drew
          have HB6 : Hid (LB rb base Z w (wr.setCell ⟨rb, 1, none⟩ (.int .i64 (t : Int))).drew) := (HB1.out.trans (LB.of_set 1 (.int .i64 (t : Int)))).trans (LB.of_below (Below.refl _ _).drew)
          have HF6 : Hid (LfAt (wr.setCell ⟨rb, 1, none⟩ (.int .i64 (t : Int))).drew rb base Z s t bad fs) := (HF1.out.setP hts).below (Below.refl _ _).drew
          cases ok
        all_goals
          go_wp2_with fail
        all_goals
          go_ret
        all_goals
          obtain ⟨rfl, rfl⟩ := HFIN.out
          rcases hor with ⟨h1, h2⟩ | ⟨h1, h2⟩
          all_goals
            first
              | (cases h2; done)
              | exact ⟨HB6.out, n, rfl, .inl ⟨h1, HF6.out⟩⟩
              | exact ⟨HBD.out, 0, rfl, .inr ⟨h1, rfl, HFD.out⟩⟩
end Go.Proofs.YtehihemfepbmfaaGreatDoor

/-
  The specification's l7Rf: what stands behind a point.
-/
namespace Go.Proofs.YtehihemfepbmfaaGreatDoor
open Go.RowKit
set_option linter.unusedSimpArgs false
set_option linter.unusedVariables false

set_option maxRecDepth 100000 in
set_option maxHeartbeats 3200000 in
/-- The point alone. -/
theorem lfDot_self {rb base p : Nat} {Z : Nat → Prop} {s : ByteArray} {fs : List FN} {w : World} (h : LfAt w rb base Z s p false fs) (hs : s.size ≤ 4000) (hl : fs.length ≤ 40) (h1 : isAt s.data.toList p 91 = false) (h2 : letAt s.data.toList p = false) :
    Calls Tryz.prog 113 #[.pointer (some ⟨rb, 0, none⟩)] w (LfOr (pointF WSp s.data.toList fs p) rb base Z s p w) := by
  have HE : Hid (pointF WSp s.data.toList fs p = addF WSp (nodeK 1) fs (skF s.data.toList p)) := by rw [Hid]; unfold pointF; rw [if_neg (by rw [h2]; simp), if_neg (by rw [h1]; simp)]
  have HLN := hideB (len_is s)
  obtain ⟨c0, c1, c2⟩ := h.cells
  have f1 := h.free 1
  have hple := h.le
  have HF0 := hideB h
  have HB0 : Hid (LB rb base Z w w) := LB.refl _ _ _ _
  clear h
  by_cases hlt : p < s.size
  focus
    have hlt' : (p : Int) < (s.size : Int) := by omega
    have HB := hideB (byS hlt)
    obtain ⟨c, hc⟩ : ∃ c, s[p].toNat = c := ⟨_, rfl⟩
    have hc256 : c < 256 := by rw [← hc]; exact s[p].toNat_lt
    have HC : Hid (byAt s.data.toList p = c) := by rw [Hid, ← HB.out]; exact hc
    have hn : c ≠ 91 := fun e => by rw [isAt_yes.2 ⟨by rw [HLN.out]; exact hlt, by rw [HC.out]; exact e⟩] at h1; cases h1
    have hlc : letN c = false := by
      unfold letAt at h2
      rw [HC.out, HLN.out] at h2
      simpa [hlt] using h2
    have n1 : ((c : Int) == 91) = false := by simp; omega
    have n2 : ¬ (c : Int) = 91 := by omega
    have HLL := hideB (l5Letter_any c)
    rw [hlc] at HLL
    clear h1 h2 hn hlc
    go_enter Tryz.func113, Tryz.ntmps113
    go_wp2_with fail
    go_quiet (fail)
    have HD1 := hideB (below_drewB (w := w) nq)
    have HF1 := hideB (HF0.out.below HD1.out)
    have HB1 := hideB (HB0.out.trans (LB.of_below HD1.out))
    clear c0 c1 c2 f1
    obtain ⟨c0, c1, c2⟩ := HF1.out.cells
    have f1 := HF1.out.free 1
    generalize w.drewN nq = W1 at HD1 HF1 HB1 c0 c1 c2 f1 ⊢
    clear nq
    go_wp2_with fail
    go_quiet ((go_at_call 103; exact Calls.quiet_of_same (HLL.out _ hc256)))
    have HD2 := hideB (below_drewB (w := W1) nq)
    have HF2 := hideB (HF1.out.below HD2.out)
    have HB2 := hideB (HB1.out.trans (LB.of_below HD2.out))
    clear c0 c1 c2 f1
    obtain ⟨c0, c1, c2⟩ := HF2.out.cells
    have f1 := HF2.out.free 1
    generalize W1.drewN nq = W2 at HD2 HF2 HB2 c0 c1 c2 f1 ⊢
    clear nq
    have HA := hideB (lfAddK_any HF2.out (by omega) 1 ByteArray.empty 0)
    go_wp2_with fail
    refine HA.out.mono ?_
    rintro e w9 ⟨rfl, h3, b3⟩
    have HF9 := hideB h3
    have HB9 := hideB (HB2.out.trans b3)
    clear h3 b3
    go_wp2_with fail
    go_ret
    exact LfOr.of HE.out (LfOr.add HF9.out hl (Nat.le_refl _) HB9.out)
  focus
    have hlt' : ¬ (p : Int) < (s.size : Int) := by omega
    clear h1 h2
    go_enter Tryz.func113, Tryz.ntmps113
    go_wp2_with fail
    go_quiet (fail)
    have HD1 := hideB (below_drewB (w := w) nq)
    have HF1 := hideB (HF0.out.below HD1.out)
    have HB1 := hideB (HB0.out.trans (LB.of_below HD1.out))
    clear c0 c1 c2 f1
    obtain ⟨c0, c1, c2⟩ := HF1.out.cells
    have f1 := HF1.out.free 1
    generalize w.drewN nq = W1 at HD1 HF1 HB1 c0 c1 c2 f1 ⊢
    clear nq
    go_wp2_with fail
    go_quiet (fail)
    have HD2 := hideB (below_drewB (w := W1) nq)
    have HF2 := hideB (HF1.out.below HD2.out)
    have HB2 := hideB (HB1.out.trans (LB.of_below HD2.out))
    clear c0 c1 c2 f1
    obtain ⟨c0, c1, c2⟩ := HF2.out.cells
    have f1 := HF2.out.free 1
    generalize W1.drewN nq = W2 at HD2 HF2 HB2 c0 c1 c2 f1 ⊢
    clear nq
    have HA := hideB (lfAddK_any HF2.out (by omega) 1 ByteArray.empty 0)
    go_wp2_with fail
    refine HA.out.mono ?_
    rintro e w9 ⟨rfl, h3, b3⟩
    have HF9 := hideB h3
    have HB9 := hideB (HB2.out.trans b3)
    clear h3 b3
    go_wp2_with fail
    go_ret
    exact LfOr.of HE.out (LfOr.add HF9.out hl (Nat.le_refl _) HB9.out)

set_option maxRecDepth 100000 in
set_option maxHeartbeats 3200000 in
/-- A key. -/
theorem lfDot_key {rb base p : Nat} {Z : Nat → Prop} {s : ByteArray} {fs : List FN} {w : World} (h : LfAt w rb base Z s p false fs) (hs : s.size ≤ 4000) (hl : fs.length ≤ 40) (h2 : letAt s.data.toList p = true) :
    Calls Tryz.prog 113 #[.pointer (some ⟨rb, 0, none⟩)] w (LfOr (pointF WSp s.data.toList fs p) rb base Z s p w) := by
  have HE : Hid (pointF WSp s.data.toList fs p = addF WSp ⟨2, txt (nameF s.data.toList p), 0, [], [], []⟩ fs (skF s.data.toList (nmJ s.data.toList p))) := by rw [Hid]; unfold pointF; rw [if_pos h2]
  have HLN := hideB (len_is s)
  obtain ⟨c0, c1, c2⟩ := h.cells
  have f1 := h.free 1
  have hple := h.le
  have HF0 := hideB h
  have HB0 : Hid (LB rb base Z w w) := LB.refl _ _ _ _
  clear h
  have hlt : p < s.size := by rw [← HLN.out]; exact (nmJ_lt h2).2
  have hlt' : (p : Int) < (s.size : Int) := by omega
  have HB := hideB (byS hlt)
  obtain ⟨c, hc⟩ : ∃ c, s[p].toNat = c := ⟨_, rfl⟩
  have hc256 : c < 256 := by rw [← hc]; exact s[p].toNat_lt
  have HC : Hid (byAt s.data.toList p = c) := by rw [Hid, ← HB.out]; exact hc
  have hlc : letN c = true := by
    unfold letAt at h2
    rw [HC.out] at h2
    simp at h2
    exact h2.2
  have hn : c ≠ 91 := fun e => by rw [e] at hlc; revert hlc; decide
  have n1 : ((c : Int) == 91) = false := by simp; omega
  have n2 : ¬ (c : Int) = 91 := by omega
  have HSK : Hid (skF s.data.toList p = p) := by
    rw [Hid]
    refine runJ_no (fun e => ?_)
    have := e.2
    rw [HC.out] at this
    unfold blkF at this
    simp at this
    rcases this with e | e <;> rw [e] at hlc <;> revert hlc <;> decide
  have HNL : Hid (p ≤ nmJ s.data.toList p) := runJ_ge _ _ _
  have HWJ : Hid (wdJ s.data.toList p = nmJ s.data.toList p) := by rw [Hid]; unfold wdJ; rw [if_pos h2]
  have HLL := hideB (l5Letter_any c)
  rw [hlc] at HLL
  clear h2 hn hlc
  go_enter Tryz.func113, Tryz.ntmps113
  go_wp2_with fail
  go_quiet (fail)
  have HD1 := hideB (below_drewB (w := w) nq)
  have HF1 := hideB (HF0.out.below HD1.out)
  have HB1 := hideB (HB0.out.trans (LB.of_below HD1.out))
  clear c0 c1 c2 f1
  obtain ⟨c0, c1, c2⟩ := HF1.out.cells
  have f1 := HF1.out.free 1
  generalize w.drewN nq = W1 at HD1 HF1 HB1 c0 c1 c2 f1 ⊢
  clear nq
  go_wp2_with fail
  go_quiet ((go_at_call 103; exact Calls.quiet_of_same (HLL.out _ hc256)))
  have HD2 := hideB (below_drewB (w := W1) nq)
  have HF2 := hideB (HF1.out.below HD2.out)
  have HB2 := hideB (HB1.out.trans (LB.of_below HD2.out))
  clear c0 c1 c2 f1
  obtain ⟨c0, c1, c2⟩ := HF2.out.cells
  have f1 := HF2.out.free 1
  generalize W1.drewN nq = W2 at HD2 HF2 HB2 c0 c1 c2 f1 ⊢
  clear nq
  have HW := hideB (lfWord_any HF2.out hs)
  rw [if_neg (by decide), if_neg (by decide), HSK.out, HWJ.out] at HW
  obtain ⟨T, hT⟩ : ∃ T, txt (nameF s.data.toList p) = T := ⟨_, rfl⟩
  obtain ⟨M, hM⟩ : ∃ M, nmJ s.data.toList p = M := ⟨_, rfl⟩
  rw [show (s.data.toList.drop p).take (nmJ s.data.toList p - p) = nameF s.data.toList p from rfl, hT, hM] at HW
  rw [hT, hM] at HE
  rw [hM] at HNL
  clear hT hM c0 c1 c2
  go_wp2_with fail
  refine HW.out.mono ?_
  rintro e w8 ⟨b8, rfl, h8⟩
  have HF8 := hideB h8
  have HB8 := hideB (HB2.out.trans b8)
  clear h8 b8
  have HA := hideB (lfAddK_any HF8.out (by omega) 2 T 0)
  go_wp2_with fail
  refine HA.out.mono ?_
  rintro e w9 ⟨rfl, h3, b3⟩
  have HF9 := hideB h3
  have HB9 := hideB (HB8.out.trans b3)
  clear h3 b3
  go_wp2_with fail
  go_ret
  exact LfOr.of HE.out (LfOr.add HF9.out hl HNL.out HB9.out)
end Go.Proofs.YtehihemfepbmfaaGreatDoor

/-
  The specification's l7Rf: a spoilt reader reads no filter.
-/
namespace Go.Proofs.YtehihemfepbmfaaGreatDoor
open Go.RowKit
set_option linter.unusedSimpArgs false
set_option linter.unusedVariables false

set_option maxRecDepth 100000 in
set_option maxHeartbeats 3200000 in
theorem lfLevel_bad {rb base p : Nat} {Z : Nat → Prop} {s : ByteArray} {fs : List FN} {w : World} (h : LfAt w rb base Z s p true fs) (l : Int) :
    Calls Tryz.prog 43 #[.pointer (some ⟨rb, 0, none⟩), .int .i64 l] w fun e w' => e = .returned (.int .i64 0) ∧ LfAt w' rb base Z s p true fs ∧ LB rb base Z w w' := by
  obtain ⟨c0, c1, c2⟩ := h.cells
  have HF0 := hideB h
  have HB0 : Hid (LB rb base Z w w) := LB.refl _ _ _ _
  clear h
  go_enter Tryz.func43, Tryz.ntmps43
  go_wp2_with fail
  go_ret
  exact ⟨rfl, HF0.out, HB0.out⟩
end Go.Proofs.YtehihemfepbmfaaGreatDoor

/-
  The specification's l7Rf: a constant that was laid just now.
-/
namespace Go.Proofs.YtehihemfepbmfaaGreatDoor
open Go.RowKit
set_option linter.unusedSimpArgs false
set_option linter.unusedVariables false

theorem leaf_const {rb base p : Nat} {Z : Nat → Prop} {s : ByteArray} {bad : Bool} {fs : List FN} {w w1 : World} {k n : Int} {t : ByteArray} (h : LfAt w rb base Z s p bad fs) (hZ : ∀ x, Z x → x < w.heap.size) (hl : fs.length ≤ 4000) (hb : Below w.heap.size w w1) (hn : Nest w.heap.size w1 (.slice (some ⟨w.heap.size, 0, none⟩) 1 1) (leafN k n t) (fun _ => .slice none 0 0) (fun _ => .slice none 0 0)) :
    Calls Tryz.prog 117 #[.pointer (some ⟨rb, 0, none⟩), .slice (some ⟨w.heap.size, 0, none⟩) 1 1] w1 fun e w' => e = .returned (.int .i64 (fs.length : Int)) ∧ LfAt w' rb base Z s p (bad || decide (40 < fs.length + 1)) (fs ++ [nodeC ⟨k, n, t, [], []⟩]) ∧ LB rb base Z w w' := by
  refine (lfConst_any (Z := fun x => Z x ∨ x = w.heap.size) (Z' := Z) (v := ⟨k, n, t, [], []⟩) (h.fresh hb (fun x hx => by rcases hx with hx | hx; exact .inl hx; exact .inr (by omega)) (fun x hx => by rcases hx with hx | hx; have := hZ x hx; have := hb.size; omega; exact hx ▸ (hn.row.lt _ rfl).2)) (nestB hn h.sz) (fun y hy => ?_) (fun y hy => ⟨.inl hy, fun e => ?_⟩) hl).mono ?_
  · simp [Value.ownBlock] at hy; exact .inr hy.symm
  · simp [Value.ownBlock] at e; have := hZ y hy; omega
  · rintro e w' ⟨rfl, h1, h2⟩
    exact ⟨rfl, h1, (LB.of_below hb).trans (h2.mono fun x hx => .inl hx)⟩
end Go.Proofs.YtehihemfepbmfaaGreatDoor

/-
  Nodes of filters in own memory can be marked.
-/
namespace Go.Proofs.YtehihemfepbmfaaGreatDoor
open Go.RowKit
set_option linter.unusedSimpArgs false
set_option linter.unusedVariables false

def ncF (fs : List FN) (i : Nat) : Nat := (fnAt fs i).cst.length
def nnF (fs : List FN) (i : Nat) : Nat := (fnAt fs i).names.length
def niF (fs : List FN) (i : Nat) : Nat := (fnAt fs i).kids.length
def blF (C : Nat → Value) (i : Nat) : Nat := ((C i).ownBlock).getD 0
theorem blF_of {w : World} {base e s n : Nat} {C : Nat → Value} {i : Nat} {xs : List Value} (h : w.ownsRow base e s (C i) n xs) (hn : 0 < n) : (C i).ownBlock = some (blF C i) ∧ ∃ p, C i = .slice (some ⟨blF C i, 0, none⟩) n p := by
  obtain ⟨g, cap, e1, _⟩ := h.form hn
  unfold blF
  rw [e1]
  exact ⟨rfl, cap, rfl⟩
theorem FNest.mky {base : Nat} {w : World} {a : Option Addr} {n p : Nat} {fs : List FN} {C N I : Nat → Value} (h : FNest base w (.slice a n p) fs C N I) (hl : fs.length = n) (hn : n ≤ 4000) (hf : AllF fs) :
    0 < n → a = some ⟨((Value.slice a n p).ownBlock).getD 0, 0, none⟩ ∧ MkyF base w (((Value.slice a n p).ownBlock).getD 0) n (ncF fs) (nnF fs) (niF fs) (blF C) (blF N) (blF I) 0 := by
  subst hl
  intro hp
  obtain ⟨g, cap, e, _⟩ := h.row.form hp
  cases e
  have hg : ((Value.slice (some ⟨g, 0, none⟩) fs.length p).ownBlock).getD 0 = g := rfl
  rw [hg]
  have fit : ∀ i, i < fs.length → FitF (fnAt fs i) := fun i hi => hf _ (by unfold fnAt; rw [List.getD_eq_getElem?_getD, List.getElem?_eq_getElem hi]; exact List.getElem_mem hi)
  have hlt := h.row.lt g rfl
  have q : ∀ i k, k < 6 → (i * 6 + k) % 6 = k ∧ (i * 6 + k) / 6 = i := fun i k hk => by omega
  have bc : ∀ i, i < fs.length → 0 < ncF fs i → (C i).ownBlock = some (blF C i) ∧ ∃ p, C i = .slice (some ⟨blF C i, 0, none⟩) (ncF fs i) p := fun i hi hp => blF_of (h.rc i hi).row hp
  have bn : ∀ i, i < fs.length → 0 < nnF fs i → (N i).ownBlock = some (blF N i) ∧ ∃ p, N i = .slice (some ⟨blF N i, 0, none⟩) (nnF fs i) p := fun i hi hp => blF_of (h.rn i hi) hp
  have bi : ∀ i, i < fs.length → 0 < niF fs i → (I i).ownBlock = some (blF I i) ∧ ∃ p, I i = .slice (some ⟨blF I i, 0, none⟩) (niF fs i) p := fun i hi hp => blF_of (h.ri i hi) hp
  have apart : ∀ {e e' s s' n n' : Nat} {v v' : Value} {xs xs' : List Value} {x : Nat}, w.ownsRow base e s v n xs → w.ownsRow base e' s' v' n' xs' → e ≠ e' → v.ownBlock = some x → v'.ownBlock ≠ some x := fun h1 h2 hne hx hy => by
    rcases own_apart h1 h2 hne with e | e
    · rw [hx] at e; cases e
    · exact e (hx.trans hy.symm)
  have cel : ∀ i k, i < fs.length → k < 6 → w.cell? ⟨g, i * 6 + k, none⟩ = some (fCell fs C N I (i * 6 + k)) := fun i k hi hk => by
    rw [h.row.cellAt _ (by omega), fCells_get _ _ _ _ (by omega)]
  have sl : ∀ {e s n : Nat} {v : Value} {xs : List Value}, w.ownsRow base e s v n xs → ∃ a c, v = .slice a n c := fun h => own_sl h
  refine ⟨rfl, hlt.1, hlt.2, hn, own_wrow h.row, fun i hi => ⟨(fit i hi).cst.1, (fit i hi).names.1, (fit i hi).kids.1⟩, fun i _ hi => ?_, fun i _ hi => ?_, fun i _ hi => ?_, fun i j hi hj hij x hx hy => ?_, fun i hi => ⟨fun h1 h2 e => ?_, fun h1 h2 e => ?_, fun h1 h2 e => ?_⟩, fun i hi x hx => ?_⟩
  · have hc := cel i 3 hi (by omega)
    have e3 : fCell fs C N I (i * 6 + 3) = C i := by unfold fCell; rw [(q i 3 (by omega)).1, (q i 3 (by omega)).2]; rfl
    rw [e3] at hc
    obtain ⟨a', c', e4⟩ := sl (h.rc i hi).row
    refine ⟨a', c', by rw [hc, e4]; rfl, fun hp => ?_⟩
    obtain ⟨_, p', e5⟩ := bc i hi hp
    have ea : a' = some ⟨blF C i, 0, none⟩ := by rw [e4] at e5; injection e5
    refine ⟨ea, ?_⟩
    have hr := h.rc i hi
    rw [e5] at hr
    have f := fit i hi
    have hz : ∀ j, (nodeAt (fnAt fs i).cst j).keys.length = 0 ∧ (nodeAt (fnAt fs i).cst j).kids.length = 0 := fun j => by
      by_cases hj : j < (fnAt fs i).cst.length
      · have hm : nodeAt (fnAt fs i).cst j ∈ (fnAt fs i).cst := by unfold nodeAt; rw [List.getD_eq_getElem?_getD, List.getElem?_eq_getElem hj]; exact List.getElem_mem hj
        obtain ⟨a1, a2, _⟩ := f.cst.2 _ hm
        rw [a1, a2]; exact ⟨rfl, rfl⟩
      · unfold nodeAt; rw [List.getD_eq_getElem?_getD, List.getElem?_eq_none (by omega)]; exact ⟨rfl, rfl⟩
    have hmk := Nest.marky hr (by have := f.cst.1; omega) (fun j _ => by rw [(hz j).1, (hz j).2]; omega)
    have e6 : (fun j => (nodeAt (fnAt fs i).cst j).keys.length) = z0 := funext fun j => (hz j).1
    have e7 : (fun j => (nodeAt (fnAt fs i).cst j).kids.length) = z0 := funext fun j => (hz j).2
    rw [e6, e7] at hmk
    exact hmk
  · have hc := cel i 4 hi (by omega)
    have e3 : fCell fs C N I (i * 6 + 4) = N i := by unfold fCell; rw [(q i 4 (by omega)).1, (q i 4 (by omega)).2]; rfl
    rw [e3] at hc
    obtain ⟨a', c', e4⟩ := sl (h.rn i hi)
    refine ⟨a', c', by rw [hc, e4]; rfl, fun hp => ?_⟩
    obtain ⟨e8, p', e5⟩ := bn i hi hp
    have ea : a' = some ⟨blF N i, 0, none⟩ := by rw [e4] at e5; injection e5
    have hr := h.rn i hi
    have hb := hr.lt _ e8
    rw [e5] at hr
    have := own_wrow hr
    rw [Nat.mul_one] at this
    exact ⟨ea, hb.1, hb.2, this⟩
  · have hc := cel i 5 hi (by omega)
    have e3 : fCell fs C N I (i * 6 + 5) = I i := by unfold fCell; rw [(q i 5 (by omega)).1, (q i 5 (by omega)).2]; rfl
    rw [e3] at hc
    obtain ⟨a', c', e4⟩ := sl (h.ri i hi)
    refine ⟨a', c', by rw [hc, e4]; rfl, fun hp => ?_⟩
    obtain ⟨e8, p', e5⟩ := bi i hi hp
    have ea : a' = some ⟨blF I i, 0, none⟩ := by rw [e4] at e5; injection e5
    have hr := h.ri i hi
    have hb := hr.lt _ e8
    rw [e5] at hr
    have := own_wrow hr
    rw [Nat.mul_one] at this
    exact ⟨ea, hb.1, hb.2, this⟩
  · rcases hx with ⟨p1, rfl⟩ | ⟨p1, rfl⟩ | ⟨p1, rfl⟩
    · have ex := (bc i hi p1).1
      rcases hy with ⟨p2, e2⟩ | ⟨p2, e2⟩ | ⟨p2, e2⟩
      · exact h.dc i j hi hj hij _ ex (by rw [e2]; exact (bc j hj p2).1)
      · exact apart (h.rc i hi).row (h.rn j hj) (by decide) ex (by rw [e2]; exact (bn j hj p2).1)
      · exact apart (h.rc i hi).row (h.ri j hj) (by decide) ex (by rw [e2]; exact (bi j hj p2).1)
    · have ex := (bn i hi p1).1
      rcases hy with ⟨p2, e2⟩ | ⟨p2, e2⟩ | ⟨p2, e2⟩
      · exact apart (h.rn i hi) (h.rc j hj).row (by decide) ex (by rw [e2]; exact (bc j hj p2).1)
      · exact h.dn i j hi hj hij _ ex (by rw [e2]; exact (bn j hj p2).1)
      · exact apart (h.rn i hi) (h.ri j hj) (by decide) ex (by rw [e2]; exact (bi j hj p2).1)
    · have ex := (bi i hi p1).1
      rcases hy with ⟨p2, e2⟩ | ⟨p2, e2⟩ | ⟨p2, e2⟩
      · exact apart (h.ri i hi) (h.rc j hj).row (by decide) ex (by rw [e2]; exact (bc j hj p2).1)
      · exact apart (h.ri i hi) (h.rn j hj) (by decide) ex (by rw [e2]; exact (bn j hj p2).1)
      · exact h.di i j hi hj hij _ ex (by rw [e2]; exact (bi j hj p2).1)
  · exact apart (h.rc i hi).row (h.rn i hi) (by decide) (bc i hi h1).1 (by rw [e]; exact (bn i hi h2).1)
  · exact apart (h.rc i hi).row (h.ri i hi) (by decide) (bc i hi h1).1 (by rw [e]; exact (bi i hi h2).1)
  · exact apart (h.rn i hi) (h.ri i hi) (by decide) (bn i hi h1).1 (by rw [e]; exact (bi i hi h2).1)
  · have hs : Sub fs.length C N I x := by
      rcases hx with ⟨p1, rfl⟩ | ⟨p1, rfl⟩ | ⟨p1, rfl⟩
      · exact ⟨i, hi, .inl (bc i hi p1).1⟩
      · exact ⟨i, hi, .inr (.inl (bn i hi p1).1)⟩
      · exact ⟨i, hi, .inr (.inr (bi i hi p1).1)⟩
    exact ⟨fun e => h.apart hs (by rw [e]; rfl), (h.sub hs).2⟩
end Go.Proofs.YtehihemfepbmfaaGreatDoor
