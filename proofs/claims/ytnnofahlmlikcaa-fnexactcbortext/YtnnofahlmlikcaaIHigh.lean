/-
  The specification's l3Big: a number in so many bytes.
-/
import Derived.Test.YtnnofahlmlikcaaCbP
import Derived.Test.YtnnofahlmlikcaaRowB
import Derived.RangeFuncBox
import Derived.RangeFuncNested
import Derived.RangeFuncBound
import Derived.RangeFuncCalls
import Derived.RangeFuncLeaves
import Derived.Shelf.Abstract
import Derived.WalkKit
import Derived.OwnWalkIn
import Derived.TacticsInMore
import Derived.LoopNIn
import Derived.LoopIn
namespace Go.Proofs.Ytnnofahlmlikcaa
open Go.RowKit Go.WideShapes
set_option linter.unusedSimpArgs false
set_option linter.unusedVariables false

/-- What stands before the last 'j' bytes. -/
def bigTo (n : Int) (m j : Nat) : List UInt8 := (bigB n m).take (m - j)
theorem bigTo_all (n : Int) (m : Nat) : bigTo n m 0 = bigB n m := by unfold bigTo; rw [List.take_of_length_le]; rw [bigB_len]; omega
theorem bigTo_none (n : Int) (m : Nat) : bigTo n m m = [] := by unfold bigTo; simp
theorem bigB_drop (n : Int) (m j : Nat) (h : j ≤ m) : (bigB n m).drop (m - j) = bigB n j := by
  induction m with
  | zero => obtain rfl : j = 0 := by omega
            rfl
  | succ m ih =>
    by_cases e : j = m + 1
    · subst e; simp
    · have : m + 1 - j = (m - j) + 1 := by omega
      rw [this, bigB, List.drop_succ_cons]
      exact ih (by omega)
theorem bigTo_step (n : Int) (m j : Nat) (h : j < m) : bigTo n m j = bigTo n m (j + 1) ++ [byI (n / 256 ^ j)] := by
  unfold bigTo
  have e1 : m - j = (m - (j + 1)) + 1 := by omega
  rw [e1]
  have hl : m - (j + 1) < (bigB n m).length := by rw [bigB_len]; omega
  rw [List.take_succ_eq_append_getElem hl]
  congr 2
  have hd := bigB_drop n m (j + 1) (by omega)
  have : (bigB n m).drop (m - (j + 1)) = (bigB n m)[m - (j + 1)] :: (bigB n m).drop (m - (j + 1) + 1) := List.drop_eq_getElem_cons hl
  rw [hd, bigB] at this
  exact (List.cons.inj this).1.symm

set_option maxRecDepth 100000 in
set_option maxHeartbeats 1600000 in
theorem l3Big_any (n : Int) (m : Nat) (w : World) (h0 : -9223372036854775808 ≤ n) (h1 : n ≤ 9223372036854775807) (hm : m ≤ 8) : Calls Try.prog 57 #[.int .i64 n, .int .i64 m] w fun e w' => e = .returned (.string (txt (bigB n m))) ∧ Below w.heap.size w w' := by
  go_enter Try.func57, Try.ntmps57
  go_wp2_with fail
  go_loopw [5, 6] (fun v i wr => ∃ (j : Nat), j ≤ m ∧ i = .int .i64 ((j : Int) - 1) ∧ RowB w.heap.size wr v (bigTo n m j) ∧ Below w.heap.size w wr) (fun _ i _ => (intOf i + 1).toNat)
  case atStart => exact ⟨m, Nat.le_refl _, by go_num, by rw [bigTo_none]; exact rowB_new w, (Below.refl _ _).alloc (Nat.le_refl _) _⟩
  case round =>
    obtain ⟨j, hj, rfl, hrow, hbel⟩ := hrel
    obtain ⟨ao, co, eo⟩ := hrow.slice
    obtain ⟨q, hq⟩ : ∃ q, (bigTo n m j).length = q := ⟨_, rfl⟩
    have HR := hideB hrow
    have HB := hideB hbel
    have hz := hbel.size
    have hq8 : q ≤ 8 := by rw [← hq]; unfold bigTo; rw [List.length_take, bigB_len]; omega
    rw [hq] at eo
    have HQ := hideB hq
    subst eo
    clear hrow hbel hq
    by_cases hlt : 0 < j
    · obtain ⟨k, rfl⟩ : ∃ k, j = k + 1 := ⟨j - 1, by omega⟩
      have e0 : ((k + 1 : Nat) : Int) - 1 = (k : Int) := by omega
      rw [e0]
      have hk8 : (k : Int) ≤ 7 := by omega
      have hk0 : 0 ≤ (k : Int) := by omega
      have e1 := byI_shift n k
      have HS := hideB (bigTo_step n m k (by omega))
      go_wp2_with (at_builtin; refine wpList_push rfl _ _ rfl w.heap.size _ _ rfl HR.out (byI (n / 256 ^ k)) rfl (by rw [HQ.out]; omega) hz ?_)
      intro v' w' hr' hb'
      go_wp2_with fail
      refine ⟨⟨k, by omega, rfl, by rw [HS.out]; exact hr', HB.out.trans hb'⟩, by simp [intOf]⟩
    · obtain rfl : j = 0 := by omega
      have hc0 := HR.out.text HQ.out
      go_wp2_with fail
      go_ret
      exact ⟨ret_txt (bigTo_all n m), HB.out⟩
end Go.Proofs.Ytnnofahlmlikcaa

/-
  The program's highestFirst: its function value hands the bytes of a number over, the highest first.
-/
namespace Go.Proofs.Ytnnofahlmlikcaa
open Go.RowKit Go.Shelf
set_option linter.unusedSimpArgs false
set_option linter.unusedVariables false

attribute [local go_sem] Oper.semAt_some

/-- What a round must keep for the iterator: the two variables that it has captured. -/
def KpH (b1 b2 : Nat) (W W' : World) : Prop := W'.cell? ⟨b1, 0, none⟩ = W.cell? ⟨b1, 0, none⟩ ∧ W'.cell? ⟨b2, 0, none⟩ = W.cell? ⟨b2, 0, none⟩
theorem KpH.trans {b1 b2 : Nat} {X Y Z : World} (h : KpH b1 b2 X Y) (k : KpH b1 b2 Y Z) : KpH b1 b2 X Z := ⟨k.1.trans h.1, k.2.trans h.2⟩
def encB (x : UInt8) : Array Value := #[.int .u8 (x.toNat : Int)]
theorem bigTo_len (n : Int) (m j : Nat) : (bigTo n m j).length = m - j := by unfold bigTo; rw [List.length_take, bigB_len]; omega

set_option maxRecDepth 100000 in
set_option maxHeartbeats 2000000 in
theorem high1_in (F : Fence) (k : Nat) (h7 : F.fn 71) (hro : F.round = none) (hn : 1 ≤ k) (l b1 b2 : Nat) (n : Int) (m : Nat) (hm : m ≤ 8) (h0n : 0 ≤ n) (h1n : n ≤ 18446744073709551615) (J Jx : List UInt8 → World → Prop)
    (hY : ∀ pre x W, J pre W → pre.length < m → YieldAt F (k - 1) Try.prog l (encB x) W fun e W' =>
      (e = .returned (.bool true) ∧ J (pre ++ [x]) W' ∧ KpH b1 b2 W W') ∨ (e = .returned (.bool false) ∧ Jx (pre ++ [x]) W'))
    (W : World) (hc1 : W.cell? ⟨b1, 0, none⟩ = some (.int .i64 m)) (hc2 : W.cell? ⟨b2, 0, none⟩ = some (.int .u64 n)) (h0 : J [] W) :
    CallsIn F k Try.prog 71 #[.func (.yield l) #[] #[], .pointer (some ⟨b1, 0, none⟩), .pointer (some ⟨b2, 0, none⟩)] W fun e W' => (∃ v, e = .returned v) ∧
      ((∃ ys, ys = bigB n m ∧ J ys W') ∨ (∃ pre, True ∧ Jx pre W')) := by
  refine callsIn_of_wp Try.func71 rfl h7 ?_ hro
  simp only [Try.ntmps71, List.size_toArray, List.length_cons, List.length_nil, Nat.reduceAdd, Nat.reduceSub, Array.replicate_succ, Array.replicate_zero, List.push_toArray, List.append_toArray, List.nil_append, List.cons_append]
  gi_wp2
  gi_loopw [4] (fun i wr => ∃ (r : Nat) (z : Int), r ≤ m ∧ i = .int .i64 z ∧ z = (r : Int) - 1 ∧ J (bigTo n m r) wr ∧ KpH b1 b2 W wr) (fun i _ => (intOf i + 1).toNat)
  case atStart => exact ⟨m, _, Nat.le_refl _, rfl, rfl, by rw [bigTo_none]; exact h0, rfl, rfl⟩
  case round =>
    obtain ⟨r, z, hr, rfl, hz, hJs, hnx⟩ := hrel
    have hb1 := hnx.1.trans hc1
    have hb2 := hnx.2.trans hc2
    by_cases hr0 : r = 0
    · subst hr0
      obtain rfl : z = -1 := by omega
      clear hz
      gi_wp2
      go_end0
      exact ⟨⟨_, rfl⟩, .inl ⟨_, bigTo_all n m, hJs⟩⟩
    · obtain ⟨q, rfl⟩ : ∃ q, r = q + 1 := ⟨r - 1, by omega⟩
      obtain rfl : z = (q : Int) := by omega
      obtain ⟨fn, tmps, assign, body, hy, hR⟩ := hY _ (byI (n / 256 ^ q)) wr hJs (by rw [bigTo_len]; omega)
      have HJ : Hid (bigTo n m q = bigTo n m (q + 1) ++ [byI (n / 256 ^ q)]) := bigTo_step n m q (by omega)
      unfold encB at hy
      (try dsimp only at hy)
      have e1 := byI_shift n q
      have hq8 : (q : Int) ≤ 7 := by omega
      have hq0 : (0 : Int) ≤ (q : Int) := by omega
      clear hz hY hr0
      gi_wp2
      refine hR.mono ?_
      rintro e W3 (⟨rfl, hJ3, hk3⟩ | ⟨rfl, hJx3⟩)
      · gi_wp2
        go_roundw
        case rel => exact ⟨q, _, by omega, rfl, rfl, by rw [HJ.out]; exact hJ3, hnx.trans hk3⟩
        case measure => simp [intOf]
      · gi_wp2
        refine bodyPost_ret (results_none rfl _ _ _) rfl ?_
        exact ⟨⟨_, rfl⟩, .inr ⟨_, trivial, hJx3⟩⟩

set_option maxHeartbeats 1000000 in
theorem high_in (F : Fence) (k : Nat) (h5 : F.fn 67) (hro : F.round = none) (n m : Int) (w : World) :
    CallsIn F k Try.prog 67 #[.int .u64 n, .int .i64 m] w fun e w' => e = .returned (.func (.func 71) #[] #[.pointer (some ⟨w.heap.size + 1, 0, none⟩), .pointer (some ⟨w.heap.size, 0, none⟩)]) ∧ w' = (w.alloc (.cells #[.int .u64 n] 97)).alloc (.cells #[.int .i64 m] 3) := by
  refine callsIn_of_wp Try.func67 rfl h5 ?_ hro
  simp only [Try.ntmps67, List.size_toArray, List.length_cons, List.length_nil, Nat.reduceAdd, Nat.reduceSub, Array.replicate_succ, Array.replicate_zero, List.push_toArray, List.append_toArray, List.nil_append, List.cons_append]
  gi_wp2
  go_ret
  exact ⟨rfl, rfl⟩

theorem high_stops (F : Fence) (k : Nat) (h7 : F.fn 71) (hro : F.round = none) (hn : 1 ≤ k) (b1 b2 : Nat) (n : Int) (m : Nat) (hm : m ≤ 8) (h0n : 0 ≤ n) (h1n : n ≤ 18446744073709551615) (w : World) (hb1 : b1 < w.heap.size) (hb2 : b2 < w.heap.size)
    (hc1 : w.cell? ⟨b1, 0, none⟩ = some (.int .i64 m)) (hc2 : w.cell? ⟨b2, 0, none⟩ = some (.int .u64 n)) :
    SeqStopsK F k Try.prog 71 #[.pointer (some ⟨b1, 0, none⟩), .pointer (some ⟨b2, 0, none⟩)] encB (KpH b1 b2) (fun ys => ys = bigB n m) (fun pre => True) m w := fun l J Jx W hW _ _ hY h0 =>
  high1_in F k h7 hro hn l b1 b2 n m hm h0n h1n J Jx hY W ((hW.cell (p := ⟨b1, 0, none⟩) hb1).trans hc1) ((hW.cell (p := ⟨b2, 0, none⟩) hb2).trans hc2) h0
end Go.Proofs.Ytnnofahlmlikcaa
