/-
  The specification's l3Rc: its place in memory, numbers in bytes and texts.
-/
import Derived.Test.YtokhindolimchaaRdM
import Derived.Test.YtokhindolimchaaSmP
namespace Go.Proofs.Ytokhindolimchaa
open Go.RowKit
set_option linter.unusedSimpArgs false
set_option linter.unusedVariables false

/-- The reader of the text 's' in block 'rb': behind 'p' bytes, spoilt or not, so many values so far. -/
structure ScAt (w : World) (rb : Nat) (s : ByteArray) (p : Nat) (bad : Bool) (c : Nat) : Prop where
  blk : w.heap[rb]? = some (.cells #[.string s, .int .i64 p, .bool bad, .int .i64 c] 60 (0, 0))
  le : p ≤ s.size
  few : c ≤ 100
theorem cellSc {w : World} {b i : Nat} {cs : Array Value} {T : TypeId} {z : Nat × Nat} {x : Value} (h : w.heap[b]? = some (.cells cs T z)) (hx : cs[i]? = some x) : w.cell? ⟨b, i, none⟩ = some x := by
  rw [Lib.cell_of_heap h]; exact hx
theorem ltH {w : World} {b : Nat} {o : Obj} (h : w.heap[b]? = some o) : b < w.heap.size := by
  rcases Nat.lt_or_ge b w.heap.size with h' | h'
  · exact h'
  · rw [Array.getElem?_eq_none h'] at h; cases h
theorem setH {w : World} {b i : Nat} {cs : Array Value} {T : TypeId} {z : Nat × Nat} (h : w.heap[b]? = some (.cells cs T z)) (u : Value) : (w.setCell ⟨b, i, none⟩ u).heap[b]? = some (.cells (cs.setIfInBounds i u) T z) := by
  simp [World.setCell, Array.getElem?_modify, h]
theorem ScAt.lt {w : World} {rb p c : Nat} {s : ByteArray} {bad : Bool} (h : ScAt w rb s p bad c) : rb < w.heap.size := ltH h.blk
theorem ScAt.cells {w : World} {rb p c : Nat} {s : ByteArray} {bad : Bool} (h : ScAt w rb s p bad c) : w.cell? ⟨rb, 0, none⟩ = some (.string s) ∧ w.cell? ⟨rb, 1, none⟩ = some (.int .i64 p) ∧ w.cell? ⟨rb, 2, none⟩ = some (.bool bad) ∧ w.cell? ⟨rb, 3, none⟩ = some (.int .i64 c) :=
  ⟨cellSc h.blk rfl, cellSc h.blk rfl, cellSc h.blk rfl, cellSc h.blk rfl⟩
theorem ScAt.free {w : World} {rb p c : Nat} {s : ByteArray} {bad : Bool} (h : ScAt w rb s p bad c) (i : Nat) : w.frozen? ⟨rb, i, none⟩ = false := Lib.frozen_of_heap h.blk i
theorem ScAt.keep {w w' : World} {rb p c : Nat} {s : ByteArray} {bad : Bool} (h : ScAt w rb s p bad c) (hb : w'.heap[rb]? = w.heap[rb]?) : ScAt w' rb s p bad c := ⟨hb.trans h.blk, h.le, h.few⟩
theorem ScAt.below {w w' : World} {rb p c : Nat} {s : ByteArray} {bad : Bool} (h : ScAt w rb s p bad c) (hb : Below w.heap.size w w') : ScAt w' rb s p bad c := h.keep (hb.block rb h.lt)
theorem ScAt.setP {w : World} {rb p c q : Nat} {s : ByteArray} {bad : Bool} (h : ScAt w rb s p bad c) (hq : q ≤ s.size) : ScAt (w.setCell ⟨rb, 1, none⟩ (.int .i64 q)) rb s q bad c := ⟨setH h.blk _, hq, h.few⟩
theorem ScAt.setB {w : World} {rb p c : Nat} {s : ByteArray} {bad : Bool} (h : ScAt w rb s p bad c) (x : Bool) : ScAt (w.setCell ⟨rb, 2, none⟩ (.bool x)) rb s p x c := ⟨setH h.blk _, h.le, h.few⟩
theorem ScAt.setN {w : World} {rb p c d : Nat} {s : ByteArray} {bad : Bool} (h : ScAt w rb s p bad c) (hd : d ≤ 100) : ScAt (w.setCell ⟨rb, 3, none⟩ (.int .i64 d)) rb s p bad d := ⟨setH h.blk _, h.le, hd⟩
/-- The reader has been spoilt. -/
def Spoilt (w : World) (rb : Nat) (s : ByteArray) (c : Nat) : Prop := ∃ p, ScAt w rb s p true c

set_option maxRecDepth 100000 in
set_option maxHeartbeats 3200000 in
theorem scBig_any {rb p c : Nat} {s : ByteArray} {bad : Bool} {w : World} (h : ScAt w rb s p bad c) (hs : s.size ≤ 4000) (m : Nat) (hm : 1 ≤ m) (hm8 : m ≤ 8) :
    Calls Try.prog 73 #[.pointer (some ⟨rb, 0, none⟩), .int .i64 m] w fun e w' => But rb w w' ∧
      ((∃ n q, bigS s.data.toList p m = some (n, q) ∧ e = .returned (.int .i64 n) ∧ ScAt w' rb s q bad c ∧ n ≤ 256000000000000255) ∨ (bigS s.data.toList p m = none ∧ e = .returned (.int .i64 (-1)) ∧ Spoilt w' rb s c)) := by
  have H := hideB h
  obtain ⟨c0, c1, c2, c3⟩ := h.cells
  have f1 := h.free 1
  have f2 := h.free 2
  have hle := h.le
  have hlen := len_is s
  have hrb := h.lt
  clear h
  by_cases hfit : p + m ≤ s.size
  rotate_left
  · have hgt : (s.size : Int) < (p : Int) + (m : Int) := by omega
    have HN : Hid (bigS s.data.toList p m = none) := by rw [Hid]; unfold bigS; rw [if_neg (fun h => hfit (by have := h.1; omega))]
    go_enter Try.func73, Try.ntmps73
    go_wp2_with fail
    go_quiet (fail)
    have HD1 := hideB (below_drewB (w := w) nq)
    have HR1 := hideB (H.out.below HD1.out)
    have k2 := HR1.out.free 2
    generalize w.drewN nq = W1 at HR1 HD1 k2 ⊢
    clear nq c0 c1 c2 c3 f1 f2
    have d2 := HR1.out.cells.2.2.1
    go_wp2_with fail
    go_ret
    exact ⟨(But.of_below HD1.out).trans (But.of_set _ _), .inr ⟨HN.out, rfl, p, HR1.out.setB true⟩⟩
  have hgt : ¬ (s.size : Int) < (p : Int) + (m : Int) := by omega
  have HGB : Hid (∀ k (h : k < s.size), byAt s.data.toList k = s[k].toNat) := fun k h => getB h
  have HBM : Hid (∀ j k, j ≤ k → bigN s.data.toList p j ≤ bigN s.data.toList p k) := fun j k h => bigN_mono _ _ h
  go_enter Try.func73, Try.ntmps73
  go_wp2_with fail
  go_quiet (fail)
  have HD1 := hideB (below_drewB (w := w) nq)
  have HR1 := hideB (H.out.below HD1.out)
  generalize w.drewN nq = W1 at HR1 HD1 ⊢
  clear nq c0 c1 c2 c3 f1 f2
  go_wp2_with fail
  go_loopw [5, 6] (fun n i wr => ∃ j : Nat, j ≤ m ∧ i = .int .i64 j ∧ n = .int .i64 (bigN s.data.toList p j) ∧ ScAt wr rb s p bad c ∧ But rb w wr ∧ (1 ≤ j → bigN s.data.toList p (j - 1) ≤ 1000000000000000)) (fun _ i _ => m - (intOf i).toNat)
  case atStart => exact ⟨0, Nat.zero_le _, rfl, rfl, HR1.out, But.of_below HD1.out, fun h => by omega⟩
  case round =>
    obtain ⟨j, hj, rfl, rfl, hsc, hbt, hpr⟩ := hrel
    have HSC := hideB hsc
    have HBT := hideB hbt
    obtain ⟨c0, c1, c2, c3⟩ := hsc.cells
    have f1 := hsc.free 1
    have f2 := hsc.free 2
    have hnb : bigN s.data.toList p j ≤ 256000000000000255 := by
      cases j with
      | zero => simp [bigN]
      | succ j => have := hpr (by omega); rw [Nat.add_sub_cancel] at this; have := byAt_lt s.data.toList (p + j); rw [bigN]; omega
    have HPR := hideB hpr
    clear hsc hbt hpr
    have HNX : Hid (bigN s.data.toList p (j + 1) = 256 * bigN s.data.toList p j + byAt s.data.toList (p + j)) := rfl
    obtain ⟨N, hN⟩ : ∃ N, bigN s.data.toList p j = N := ⟨_, rfl⟩
    have HNN := hideB hN
    rw [hN] at hnb HNX ⊢
    clear hN
    by_cases hlt : j < m
    · have hlt' : (j : Int) < (m : Int) := by omega
      by_cases hbig : 1000000000000000 < N
      · have hbig' : (1000000000000000 : Int) < (N : Int) := by omega
        have HNO : Hid (bigS s.data.toList p m = none) := by
          rw [Hid]; unfold bigS maxI
          rw [if_neg]
          intro h
          have := HBM.out j (m - 1) (by omega)
          have := HNN.out
          omega
        go_wp2_with fail
        go_ret
        exact ⟨HBT.out.trans (But.of_set _ _), .inr ⟨HNO.out, rfl, p, HSC.out.setB true⟩⟩
      · have hbig' : ¬ (1000000000000000 : Int) < (N : Int) := by omega
        have hpj : p + j < s.size := by omega
        have hpj' : (p : Int) + (j : Int) < (s.size : Int) := by omega
        have e1 : ((p : Int) + (j : Int)).toNat = p + j := by omega
        have hby := HGB.out (p + j) hpj
        have hb256 := byAt_lt s.data.toList (p + j)
        obtain ⟨B, hB⟩ : ∃ B, byAt s.data.toList (p + j) = B := ⟨_, rfl⟩
        rw [hB] at HNX hby hb256
        clear hB
        obtain ⟨y, hy⟩ : ∃ y, s[p + j] = y := ⟨_, rfl⟩
        rw [hy] at hby
        have HBY := hideB hby
        clear hby
        have hyl : y.toNat < 256 := y.toNat_lt
        go_wp2_with fail
        go_quiet (fail)
        have HD2 := hideB (below_drewB (w := wr) nq)
        have HR2 := hideB (HSC.out.below HD2.out)
        have HB2 := hideB (HBT.out.trans (But.of_below HD2.out))
        generalize wr.drewN nq = W2 at HR2 HD2 HB2 ⊢
        go_wp2_with fail
        refine ⟨⟨j + 1, by omega, by go_num, ?_, HR2.out, HB2.out, fun _ => by rw [Nat.add_sub_cancel, HNN.out]; omega⟩, by simp [intOf]; omega⟩
        rw [HNX.out, HBY.out]
        congr 1
    · obtain rfl : j = m := by omega
      have HYES : Hid (bigS s.data.toList p j = some (N, p + j)) := by
        rw [Hid]; unfold bigS maxI
        rw [if_pos ⟨by omega, HPR.out hm⟩, HNN.out]
      have e1 : ((p + j : Nat) : Int) = (p : Int) + (j : Int) := by omega
      have HSP := hideB (HSC.out.setP (q := p + j) hfit)
      rw [e1] at HSP
      go_wp2_with fail
      go_ret
      exact ⟨HBT.out.trans (But.of_set _ _), .inl ⟨N, p + j, HYES.out, rfl, HSP.out, hnb⟩⟩

set_option maxRecDepth 100000 in
set_option maxHeartbeats 3200000 in
theorem stake_yes {rb p c n : Nat} {s : ByteArray} {bad : Bool} {w : World} (h : ScAt w rb s p bad c) (hs : s.size ≤ 4000) (hn : n ≤ 60) (hp : p + n ≤ s.size) :
    Calls Try.prog 67 #[.pointer (some ⟨rb, 0, none⟩), .int .i64 n] w fun e w' => But rb w w' ∧ e = .returned (.string (cutT s.data.toList p n)) ∧ ScAt w' rb s (p + n) bad c := by
  have H := hideB h
  obtain ⟨c0, c1, c2, c3⟩ := h.cells
  have f1 := h.free 1
  have f2 := h.free 2
  clear h
  have g1 : ¬ (n : Int) < 0 := by omega
  have g2 : ¬ (60 : Int) < (n : Int) := by omega
  have g3 : ¬ (s.size : Int) < (p : Int) + (n : Int) := by omega
  have d1 : decide ((n : Int) < 0) = false := decide_eq_false g1
  have d2 : decide ((60 : Int) < (n : Int)) = false := by simpa using g2
  have d3 : decide ((s.size : Int) < (p : Int) + (n : Int)) = false := by simpa using g3
  have e1 : ((p + n : Nat) : Int) = (p : Int) + (n : Int) := by omega
  go_enter Try.func67, Try.ntmps67
  go_wp2_with fail
  go_quiet (fail)
  have HD1 := hideB (below_drewB (w := w) nq)
  have HR1 := hideB (H.out.below HD1.out)
  obtain ⟨k0, k1, k2, k3⟩ := HR1.out.cells
  have l1 := HR1.out.free 1
  generalize w.drewN nq = W1 at HR1 HD1 k0 k1 k2 k3 l1 ⊢
  clear nq c0 c1 c2 c3 f1 f2
  have HR2 := hideB (HR1.out.setP hp)
  have HB2 := hideB ((But.of_below (rb := rb) HD1.out).trans (But.of_set 1 (.int .i64 ((p : Int) + (n : Int)))))
  rw [e1] at HR2
  go_wp2_with fail
  obtain ⟨m0, m1, m2, m3⟩ := HR2.out.cells
  rw [e1] at m1
  generalize W1.setCell ⟨rb, 1, none⟩ (.int .i64 ((p : Int) + (n : Int))) = W2 at HR2 m0 m1 m2 m3 HB2 ⊢
  clear k0 k1 k2 k3 l1
  have e2 : (p : Int) + (n : Int) - (n : Int) = (p : Int) := by omega
  have hcut : ∀ w, (Instr.slice 9 (.string s) (some (.int .i64 (p : Int))) (some (.int .i64 ((p : Int) + (n : Int)))) none).run Try.prog w = .ok (.string (cutT s.data.toList p n)) w := fun w => by
    have := run_cut (P := Try.prog) (t := 9) s p (p + n) Try.underlying9 (by omega) hp w
    rw [e1, Nat.add_sub_cancel_left] at this
    exact this
  go_quiet (fail)
  have HD3 := hideB (below_drewB (w := W2) nq)
  have HR3 := hideB (HR2.out.below HD3.out)
  generalize W2.drewN nq = W3 at HR3 HD3 ⊢
  go_wp2_with fail
  go_ret
  exact ⟨HB2.out.trans (But.of_below HD3.out), rfl, HR3.out⟩

set_option maxRecDepth 100000 in
set_option maxHeartbeats 3200000 in
theorem stake_no {rb p c : Nat} {n : Int} {s : ByteArray} {bad : Bool} {w : World} (h : ScAt w rb s p bad c) (hs : s.size ≤ 4000) (hn : n < 0 ∨ 60 < n ∨ (s.size : Int) < p + n) (hn2 : -2 ≤ n) (hn3 : n ≤ 300000000000000000) :
    Calls Try.prog 67 #[.pointer (some ⟨rb, 0, none⟩), .int .i64 n] w fun e w' => But rb w w' ∧ e = .returned (.string ⟨#[]⟩) ∧ ScAt w' rb s p true c := by
  have H := hideB h
  obtain ⟨c0, c1, c2, c3⟩ := h.cells
  have f1 := h.free 1
  have f2 := h.free 2
  have hle := h.le
  clear h
  by_cases g1 : n < 0
  focus
    have d1 : decide (n < 0) = true := by simpa using g1
    go_enter Try.func67, Try.ntmps67
    go_wp2_with fail
    go_quiet (fail)
  rotate_left
  focus
    have d1 : decide (n < 0) = false := by simpa using g1
    by_cases g2 : 60 < n
    focus
      have d2 : decide (60 < n) = true := by simpa using g2
      go_enter Try.func67, Try.ntmps67
      go_wp2_with fail
      go_quiet (fail)
    rotate_left
    focus
      have d2 : decide (60 < n) = false := by simpa using g2
      have g3 : (s.size : Int) < (p : Int) + n := by omega
      have d3 : decide ((s.size : Int) < (p : Int) + n) = true := by simpa using g3
      go_enter Try.func67, Try.ntmps67
      go_wp2_with fail
      go_quiet (fail)
  all_goals
    have HD1 := hideB (below_drewB (w := w) nq)
    have HR1 := hideB (H.out.below HD1.out)
    obtain ⟨k0, k1, k2, k3⟩ := HR1.out.cells
    have l2 := HR1.out.free 2
    generalize w.drewN nq = W1 at HR1 HD1 k0 k1 k2 k3 l2 ⊢
    clear nq c0 c1 c2 c3 f1 f2
    go_wp2_with fail
    go_ret
    exact ⟨(But.of_below HD1.out).trans (But.of_set _ _), rfl, HR1.out.setB true⟩
end Go.Proofs.Ytokhindolimchaa
