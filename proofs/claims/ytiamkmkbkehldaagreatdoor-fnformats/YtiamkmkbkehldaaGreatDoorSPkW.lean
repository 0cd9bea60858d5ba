/-
  Plain: the tree of right nodes is good; the nodes that are laid for a tree, and its tree again.
-/
import Derived.Test.YtiamkmkbkehldaaGreatDoorRdN
import Derived.Test.YtiamkmkbkehldaaGreatDoorPure
import Derived.Test.YtiamkmkbkehldaaGreatDoorFBld
import Derived.RangeFuncBox
import Derived.RangeFuncNested
import Derived.RangeFuncBound
import Derived.RangeFuncCalls
import Derived.RangeFuncLeaves
import Derived.Shelf.Abstract
import Derived.WalkKit
import Derived.OwnWalkIn
import Derived.TacticsInMore
import Derived.LoopNIn
import Derived.LoopIn
import Derived.Test.YtiamkmkbkehldaaGreatDoorIJs
namespace Go.Proofs.YtiamkmkbkehldaaGreatDoor
open Go.RowKit
set_option linter.unusedSimpArgs false
set_option linter.unusedVariables false

theorem good_tree {vs : List VN} (hok : okB vs = true) : ∀ f i, i < vs.length → i < f → goodT f (treeOf vs f i) := by
  intro f
  induction f with
  | zero => intro i _ h; omega
  | succ f ih =>
    intro i hi hf
    obtain ⟨_, p2, _, _⟩ := okB_parts hok
    rw [treeOf]
    refine ⟨?_, fun j hj => ?_⟩
    · have := (p2 i hi).1
      rw [nodeT_eq] at this
      rw [List.length_map]
      exact this
    · rw [List.length_map] at hj
      have hki := kidsIn_get (p2 i hi).2 hj
      rw [kidT_map hj]
      exact ih _ (by omega) (by omega)
theorem whole_lay {vs : List VN} (hok : okB vs = true) : layT vs.length (treeOf vs vs.length (vs.length - 1)) 0 = vs := by
  obtain ⟨p1, _⟩ := okB_parts hok
  obtain ⟨h, htr⟩ := root_first hok
  rw [← lay_tree, lay_run vs vs.length (vs.length - 1) 0 0 h (by omega) htr]
  rw [show vs.length - 1 + 1 - 0 = vs.length by omega, show (((0 : Nat) : Int) - ((0 : Nat) : Int)) = 0 by omega, run_all]
  have : (shiftN 0) = id := by funext x; exact shift_zero x
  rw [this, List.map_id]
end Go.Proofs.YtiamkmkbkehldaaGreatDoor

/-
  The specification's l3Big: a number in so many bytes.
-/
namespace Go.Proofs.YtiamkmkbkehldaaGreatDoor
open Go.RowKit Go.WideShapes
set_option linter.unusedSimpArgs false
set_option linter.unusedVariables false

/-- What stands before the last 'j' bytes. -/
def bigTo (n : Int) (m j : Nat) : List UInt8 := (bigB n m).take (m - j)
theorem bigTo_all (n : Int) (m : Nat) : bigTo n m 0 = bigB n m := by unfold bigTo; rw [List.take_of_length_le]; rw [bigB_len]; omega
theorem bigTo_none (n : Int) (m : Nat) : bigTo n m m = [] := by unfold bigTo; simp
theorem bigB_drop (n : Int) (m j : Nat) (h : j ≤ m) : (bigB n m).drop (m - j) = bigB n j := by
  induction m with
  | zero => obtain rfl : j = 0 := by omega
            rfl
  | succ m ih =>
    by_cases e : j = m + 1
    · subst e; simp
    · have : m + 1 - j = (m - j) + 1 := by omega
      rw [this, bigB, List.drop_succ_cons]
      exact ih (by omega)
theorem bigTo_step (n : Int) (m j : Nat) (h : j < m) : bigTo n m j = bigTo n m (j + 1) ++ [byI (n / 256 ^ j)] := by
  unfold bigTo
  have e1 : m - j = (m - (j + 1)) + 1 := by omega
  rw [e1]
  have hl : m - (j + 1) < (bigB n m).length := by rw [bigB_len]; omega
  rw [List.take_succ_eq_append_getElem hl]
  congr 2
  have hd := bigB_drop n m (j + 1) (by omega)
  have : (bigB n m).drop (m - (j + 1)) = (bigB n m)[m - (j + 1)] :: (bigB n m).drop (m - (j + 1) + 1) := List.drop_eq_getElem_cons hl
  rw [hd, bigB] at this
  exact (List.cons.inj this).1.symm

end Go.Proofs.YtiamkmkbkehldaaGreatDoor

/-
  The program's highestFirst: its function value hands the bytes of a number over, the highest first.
-/
namespace Go.Proofs.YtiamkmkbkehldaaGreatDoor
open Go.RowKit Go.Shelf
set_option linter.unusedSimpArgs false
set_option linter.unusedVariables false

attribute [local go_sem] Oper.semAt_some

/-- What a round must keep for the iterator: the two variables that it has captured. -/
def KpH (b1 b2 : Nat) (W W' : World) : Prop := W'.cell? ⟨b1, 0, none⟩ = W.cell? ⟨b1, 0, none⟩ ∧ W'.cell? ⟨b2, 0, none⟩ = W.cell? ⟨b2, 0, none⟩
theorem KpH.trans {b1 b2 : Nat} {X Y Z : World} (h : KpH b1 b2 X Y) (k : KpH b1 b2 Y Z) : KpH b1 b2 X Z := ⟨k.1.trans h.1, k.2.trans h.2⟩
def encB (x : UInt8) : Array Value := #[.int .u8 (x.toNat : Int)]
theorem bigTo_len (n : Int) (m j : Nat) : (bigTo n m j).length = m - j := by unfold bigTo; rw [List.length_take, bigB_len]; omega

set_option maxRecDepth 100000 in
set_option maxHeartbeats 2000000 in
theorem high1_in (F : Fence) (k : Nat) (h7 : F.fn 224) (hro : F.round = none) (hn : 1 ≤ k) (l b1 b2 : Nat) (n : Int) (m : Nat) (hm : m ≤ 8) (h0n : 0 ≤ n) (h1n : n ≤ 18446744073709551615) (J Jx : List UInt8 → World → Prop)
    (hY : ∀ pre x W, J pre W → pre.length < m → YieldAt F (k - 1) Tryz.prog l (encB x) W fun e W' =>
      (e = .returned (.bool true) ∧ J (pre ++ [x]) W' ∧ KpH b1 b2 W W') ∨ (e = .returned (.bool false) ∧ Jx (pre ++ [x]) W'))
    (W : World) (hc1 : W.cell? ⟨b1, 0, none⟩ = some (.int .i64 m)) (hc2 : W.cell? ⟨b2, 0, none⟩ = some (.int .u64 n)) (h0 : J [] W) :
    CallsIn F k Tryz.prog 224 #[.func (.yield l) #[] #[], .pointer (some ⟨b1, 0, none⟩), .pointer (some ⟨b2, 0, none⟩)] W fun e W' => (∃ v, e = .returned v) ∧
      ((∃ ys, ys = bigB n m ∧ J ys W') ∨ (∃ pre, True ∧ Jx pre W')) := by
  refine callsIn_of_wp Tryz.func224 rfl h7 ?_ hro
  simp only [Tryz.ntmps224, List.size_toArray, List.length_cons, List.length_nil, Nat.reduceAdd, Nat.reduceSub, Array.replicate_succ, Array.replicate_zero, List.push_toArray, List.append_toArray, List.nil_append, List.cons_append]
  gi_wp2
  gi_loopw [4] (fun i wr => ∃ (r : Nat) (z : Int), r ≤ m ∧ i = .int .i64 z ∧ z = (r : Int) - 1 ∧ J (bigTo n m r) wr ∧ KpH b1 b2 W wr) (fun i _ => (intOf i + 1).toNat)
  case atStart => exact ⟨m, _, Nat.le_refl _, rfl, rfl, by rw [bigTo_none]; exact h0, rfl, rfl⟩
  case round =>
    obtain ⟨r, z, hr, rfl, hz, hJs, hnx⟩ := hrel
    have hb1 := hnx.1.trans hc1
    have hb2 := hnx.2.trans hc2
    by_cases hr0 : r = 0
    · subst hr0
      obtain rfl : z = -1 := by omega
      clear hz
      gi_wp2
      go_end0
      exact ⟨⟨_, rfl⟩, .inl ⟨_, bigTo_all n m, hJs⟩⟩
    · obtain ⟨q, rfl⟩ : ∃ q, r = q + 1 := ⟨r - 1, by omega⟩
      obtain rfl : z = (q : Int) := by omega
      obtain ⟨fn, tmps, assign, body, hy, hR⟩ := hY _ (byI (n / 256 ^ q)) wr hJs (by rw [bigTo_len]; omega)
      have HJ : Hid (bigTo n m q = bigTo n m (q + 1) ++ [byI (n / 256 ^ q)]) := bigTo_step n m q (by omega)
      unfold encB at hy
      (try dsimp only at hy)
      have e1 := byI_shift n q
      have hq8 : (q : Int) ≤ 7 := by omega
      have hq0 : (0 : Int) ≤ (q : Int) := by omega
      clear hz hY hr0
      gi_wp2
      refine hR.mono ?_
      rintro e W3 (⟨rfl, hJ3, hk3⟩ | ⟨rfl, hJx3⟩)
      · gi_wp2
        go_roundw
        case rel => exact ⟨q, _, by omega, rfl, rfl, by rw [HJ.out]; exact hJ3, hnx.trans hk3⟩
        case measure => simp [intOf]
      · gi_wp2
        refine bodyPost_ret (results_none rfl _ _ _) rfl ?_
        exact ⟨⟨_, rfl⟩, .inr ⟨_, trivial, hJx3⟩⟩

set_option maxHeartbeats 1000000 in
theorem high_in (F : Fence) (k : Nat) (h5 : F.fn 203) (hro : F.round = none) (n m : Int) (w : World) :
    CallsIn F k Tryz.prog 203 #[.int .u64 n, .int .i64 m] w fun e w' => e = .returned (.func (.func 224) #[] #[.pointer (some ⟨w.heap.size + 1, 0, none⟩), .pointer (some ⟨w.heap.size, 0, none⟩)]) ∧ w' = (w.alloc (.cells #[.int .u64 n] 193)).alloc (.cells #[.int .i64 m] 3) := by
  refine callsIn_of_wp Tryz.func203 rfl h5 ?_ hro
  simp only [Tryz.ntmps203, List.size_toArray, List.length_cons, List.length_nil, Nat.reduceAdd, Nat.reduceSub, Array.replicate_succ, Array.replicate_zero, List.push_toArray, List.append_toArray, List.nil_append, List.cons_append]
  gi_wp2
  go_ret
  exact ⟨rfl, rfl⟩

theorem high_stops (F : Fence) (k : Nat) (h7 : F.fn 224) (hro : F.round = none) (hn : 1 ≤ k) (b1 b2 : Nat) (n : Int) (m : Nat) (hm : m ≤ 8) (h0n : 0 ≤ n) (h1n : n ≤ 18446744073709551615) (w : World) (hb1 : b1 < w.heap.size) (hb2 : b2 < w.heap.size)
    (hc1 : w.cell? ⟨b1, 0, none⟩ = some (.int .i64 m)) (hc2 : w.cell? ⟨b2, 0, none⟩ = some (.int .u64 n)) :
    SeqStopsK F k Tryz.prog 224 #[.pointer (some ⟨b1, 0, none⟩), .pointer (some ⟨b2, 0, none⟩)] encB (KpH b1 b2) (fun ys => ys = bigB n m) (fun pre => True) m w := fun l J Jx W hW _ _ hY h0 =>
  high1_in F k h7 hro hn l b1 b2 n m hm h0n h1n J Jx hY W ((hW.cell (p := ⟨b1, 0, none⟩) hb1).trans hc1) ((hW.cell (p := ⟨b2, 0, none⟩) hb2).trans hc2) h0
end Go.Proofs.YtiamkmkbkehldaaGreatDoor

/-
  The program's writeBytes: a number's bytes, by a range over a function.
-/
namespace Go.Proofs.YtiamkmkbkehldaaGreatDoor
open Go.RowKit Go.Shelf
set_option linter.unusedSimpArgs false
set_option linter.unusedVariables false

attribute [local go_sem] Oper.semAt_some

theorem Beside.others {T : TypeId} {B b : Nat} {rest : List Value} {l : List UInt8} {w w' : World} (h : Beside b w w') (hf : FB T B b rest l w) : KeepsOthers w w' := by
  obtain ⟨hB, p, v, hp, hb, _⟩ := hf
  refine ⟨h.1, fun k o hk ho => ?_⟩
  rw [h.2 k (lt_heap hk) (fun e => by subst e; rw [hb] at hk; cases hk; cases ho) (fun cs z e => by rw [hk] at e; cases e; cases ho)]
  exact hk
theorem Beside.box {b c : Nat} {w w' : World} {t : TypeId} {v : Value} (h : Beside b w w') (hc : Boxed w c t v) (hne : c ≠ b) (ht : t ≠ 5) : Boxed w' c t v := by
  have hh : w.heap[c]? = some (.cells #[v] t (0, 0)) := hc
  have := h.2 c (lt_heap hh) hne (fun cs z e => by rw [hh] at e; injection e with e; injection e with _ e2; exact ht e2)
  exact this.trans hh
theorem Beside.far {b : Nat} {w X Y : World} {row : Option Nat} (h : Beside b w X) (hg : X.grownBy Y row) (hr : ∀ r, row = some r → w.heap.size ≤ r) : Beside b w Y :=
  ⟨Nat.le_trans h.1 hg.size, fun c h1 h2 h3 => (hg.block c (Nat.lt_of_lt_of_le h1 h.1) (fun e => by have := hr c e.symm; omega)).trans (h.2 c h1 h2 h3)⟩
set_option maxRecDepth 100000 in
set_option maxHeartbeats 4000000 in
theorem writeBytes_any {B b : Nat} {l : List UInt8} {w : World} (hT : FT 97 0) (h : FB 97 B b [] l w) (n : Int) (m : Nat) (hm : m ≤ 8) (h0n : 0 ≤ n) (h1n : n ≤ 18446744073709551615) (hlen : l.length + m ≤ 1000000000) (hBw : B ≤ w.heap.size) :
    Calls Tryz.prog 177 #[.pointer (some ⟨b, 0, none⟩), .int .u64 n, .int .i64 m] w fun e w' => e = .returned (.tuple #[]) ∧ FB 97 B b [] (l ++ bigB n m) w' ∧ Below B w w' ∧ Beside b w w' := by
  refine (callsIn_wide (n := 6)).1 ?_
  refine callsIn_of_wp_marks Tryz.func177 rfl trivial ?_ rfl
  simp only [Tryz.ntmps177, List.size_toArray, List.length_cons, List.length_nil, Nat.reduceAdd, Nat.reduceSub, Array.replicate_succ, Array.replicate_zero, List.push_toArray, List.append_toArray, List.nil_append, List.cons_append]
  gi_wp2_with (refine ⟨trivial, ?_⟩; gi_at_call 203; refine (high_in Fence.wide _ trivial rfl _ _ _).mono ?_; rintro e w' ⟨rfl, rfl⟩)
  have hlt := h.lt
  have F0 : FB 97 B b [] (l ++ []) (((w.alloc (.cells #[.pointer (some ⟨b, 0, none⟩)] 182)).alloc (.cells #[.int .u64 n] 193)).alloc (.cells #[.int .i64 m] 3)) := by rw [List.append_nil]; exact ((h.alloc _).alloc _).alloc _
  have x1 : Boxed (((w.alloc (.cells #[.pointer (some ⟨b, 0, none⟩)] 182)).alloc (.cells #[.int .u64 n] 193)).alloc (.cells #[.int .i64 m] 3)) w.heap.size 182 (.pointer (some ⟨b, 0, none⟩)) := ((Boxed.new w _ _).alloc _).alloc _
  have x2 : Boxed (((w.alloc (.cells #[.pointer (some ⟨b, 0, none⟩)] 182)).alloc (.cells #[.int .u64 n] 193)).alloc (.cells #[.int .i64 m] 3)) (w.heap.size + 1) 193 (.int .u64 n) := by
    have := (Boxed.new (w.alloc (.cells #[.pointer (some ⟨b, 0, none⟩)] 182)) 193 (.int .u64 n)).alloc (.cells #[.int .i64 m] 3)
    rw [World.size_alloc] at this
    exact this
  have x3 : Boxed (((w.alloc (.cells #[.pointer (some ⟨b, 0, none⟩)] 182)).alloc (.cells #[.int .u64 n] 193)).alloc (.cells #[.int .i64 m] 3)) (w.heap.size + 1 + 1) 3 (.int .i64 m) := by
    have := Boxed.new ((w.alloc (.cells #[.pointer (some ⟨b, 0, none⟩)] 182)).alloc (.cells #[.int .u64 n] 193)) 3 (.int .i64 m)
    rw [World.size_alloc, World.size_alloc] at this
    exact this
  have B0 : Below B w (((w.alloc (.cells #[.pointer (some ⟨b, 0, none⟩)] 182)).alloc (.cells #[.int .u64 n] 193)).alloc (.cells #[.int .i64 m] 3)) := (((Below.refl _ w).alloc hBw _).alloc (by simp; omega) _).alloc (by simp; omega) _
  have K0 : Beside b w (((w.alloc (.cells #[.pointer (some ⟨b, 0, none⟩)] 182)).alloc (.cells #[.int .u64 n] 193)).alloc (.cells #[.int .i64 m] 3)) := ((Beside.alloc _ _ _).trans (Beside.alloc _ _ _)).trans (Beside.alloc _ _ _)
  have sE : (((w.alloc (.cells #[.pointer (some ⟨b, 0, none⟩)] 182)).alloc (.cells #[.int .u64 n] 193)).alloc (.cells #[.int .i64 m] 3)).heap.size = w.heap.size + 1 + 1 + 1 := by simp
  generalize (((w.alloc (.cells #[.pointer (some ⟨b, 0, none⟩)] 182)).alloc (.cells #[.int .u64 n] 193)).alloc (.cells #[.int .i64 m] 3)) = W2 at *
  refine wpIn_rangeFunc_ownG (F := Fence.wide) (n := 6) rfl (by decide) (gf := 224) (lb := #[.pointer (some ⟨w.heap.size + 1 + 1, 0, none⟩), .pointer (some ⟨w.heap.size + 1, 0, none⟩)]) rfl trivial (enters_of Tryz.func224 (by kernel_rfl) rfl)
    (high_stops Fence.wide (6 - 1) trivial rfl (by decide) (w.heap.size + 1 + 1) (w.heap.size + 1) n m hm h0n h1n W2 (by omega) (by omega) x3.cell x2.cell) KpH.trans ?hKb (Below.refl _ _) (fun _ => rfl)
    (fun pre W => (FB 97 B b [] (l ++ pre) W ∧ Boxed W w.heap.size 182 (.pointer (some ⟨b, 0, none⟩)) ∧ Boxed W (w.heap.size + 1) 193 (.int .u64 n) ∧ Boxed W (w.heap.size + 1 + 1) 3 (.int .i64 m)) ∧ (Below B w W ∧ Beside b w W))
    (fun _ _ _ => False) ?hI (fun _ _ _ _ _ hs _ _ => hs) ⟨⟨F0, x1, x2, x3⟩, B0, K0⟩
    (fun x => { tmps := #[.pointer (some ⟨b, 0, none⟩), .int .u64 n, .int .i64 m, .pointer (some ⟨w.heap.size, 0, none⟩), undef, undef, .int .u8 (x.toNat : Int), .int .u64 n, .int .i64 m, .func (.func 224) #[] #[.pointer (some ⟨w.heap.size + 1 + 1, 0, none⟩), .pointer (some ⟨w.heap.size + 1, 0, none⟩)], .int .u8 (x.toNat : Int), undef, undef, undef, undef, undef], defers := [] }) ?assign ?body ?done ?stop
  case hKb =>
    intro X k o o' hk ho _ _
    constructor
    · unfold World.cell?
      rw [show (X.putObj k o').heap[(⟨w.heap.size + 1 + 1, 0, none⟩ : Addr).block]? = X.heap[(⟨w.heap.size + 1 + 1, 0, none⟩ : Addr).block]? from World.putObj_heap_other (by simp; omega)]
    · unfold World.cell?
      rw [show (X.putObj k o').heap[(⟨w.heap.size + 1, 0, none⟩ : Addr).block]? = X.heap[(⟨w.heap.size + 1, 0, none⟩ : Addr).block]? from World.putObj_heap_other (by simp; omega)]
  case hI =>
    refine OwnFrom.and (Own.from ?_ _) (OwnFrom.and (ownFrom_below hBw (by omega)) (fun _ X Y row hs hg hr => hs.far hg (fun r e => by have := (hr r e).1; omega)))
    rintro s X Y row ⟨h1, h2, h3, h4⟩ hg hr
    exact ⟨h1.grown hg hr, boxed_own _ _ (fun _ => _) s X Y row h2 hg hr, boxed_own _ _ (fun _ => _) s X Y row h3 hg hr, boxed_own _ _ (fun _ => _) s X Y row h4 hg hr⟩
  case assign =>
    intro k x X K' hK'
    unfold encB
    gi_wp2
    exact hK'
  case body =>
    rintro k pre x X ⟨⟨h1, h2, h3, h4⟩, h5, h6⟩ hpl
    have c2 := h2.cell
    have zX := h5.size
    gi_wp2_with (refine ⟨trivial, ?_⟩; gi_at_call 38; refine (CallsIn.inRound k (callsIn_wide.2 (fb_byte hT h1 x (by simp; omega) (by omega)))).mono ?_; rintro e w3 ⟨rfl, f3, b3, k3⟩)
    have y2 := k3.box h2 (by omega) (by decide)
    have y3 := k3.box h3 (by omega) (by decide)
    have y4 := k3.box h4 (by omega) (by decide)
    exact ⟨(k3.others h1).from _, ⟨y4.cell.trans h4.cell.symm, y3.cell.trans h3.cell.symm⟩, ⟨by rw [← List.append_assoc]; exact f3, y2, y3, y4⟩, h5.trans b3, h6.trans k3⟩
  case done =>
    rintro D ys X hD rfl ⟨⟨h1, h2, h3, h4⟩, h5, h6⟩ hK
    gi_wp2
    refine ⟨by simp, .inl ⟨_, _, rfl, run_takeDeferred hK, ?_⟩⟩
    exact ⟨_, results_none rfl _ _ _, rfl, h1.grown (grownBy_putObj' X D (.deferred none)) (fun r e => by cases e; exact ⟨_, hK, rfl⟩), h5.grown (grownBy_putObj' X D (.deferred none)) (Nat.le_trans hBw h5.size) (fun r e => by cases e; omega), h6.far (grownBy_putObj' X D (.deferred none)) (fun r e => by cases e; omega)⟩
  case stop =>
    rintro D c pre X _ _ h _
    exact h.elim
end Go.Proofs.YtiamkmkbkehldaaGreatDoor

/-
  The specification's l4Int and l4Word: numbers and texts.
-/
namespace Go.Proofs.YtiamkmkbkehldaaGreatDoor
open Go.RowKit Go.WideShapes
set_option linter.unusedSimpArgs false
set_option linter.unusedVariables false

theorem packI_alone {n : Int} (h : -32 ≤ n ∧ n ≤ 127) : packI n = [byI n] := by unfold packI; rw [if_pos h]
theorem packI_up {n : Int} (h : 127 < n) {k : Nat} (hk : stepI n = k) {c : UInt8} (hc : c = byI (204 + k)) : packI n = c :: bigB n (2 ^ k) := by
  unfold packI; rw [if_neg (by omega), if_pos (by omega), hk, hc]
theorem packI_dn {n : Int} (h : n < -32) {k : Nat} (hk : stepI (2 * (-1 - n)) = k) {c : UInt8} (hc : c = byI (208 + k)) : packI n = c :: bigB n (2 ^ k) := by
  unfold packI; rw [if_neg (by omega), if_neg (by omega), hk, hc]
theorem step0 {m : Int} (h : m < 256) : stepI m = 0 := by unfold stepI; rw [if_pos h]
theorem step1 {m : Int} (h0 : ¬ m < 256) (h : m < 65536) : stepI m = 1 := by unfold stepI; rw [if_neg h0, if_pos h]
theorem step2 {m : Int} (h0 : ¬ m < 65536) (h : m < 4294967296) : stepI m = 2 := by unfold stepI; rw [if_neg (by omega), if_neg h0, if_pos h]
theorem step3 {m : Int} (h : ¬ m < 4294967296) : stepI m = 3 := by unfold stepI; rw [if_neg (by omega), if_neg (by omega), if_neg h]

end Go.Proofs.YtiamkmkbkehldaaGreatDoor
