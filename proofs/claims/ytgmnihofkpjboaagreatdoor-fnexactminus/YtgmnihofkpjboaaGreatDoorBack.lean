/-
  slices.Backward over a slice of numbers: its function value hands the numbers over from the last one to the first.
-/
import Derived.RangeFuncBox
import Derived.RangeFuncNested
import Derived.RangeFuncBound
import Derived.RangeFuncCalls
import Derived.RangeFuncLeaves
import Derived.Shelf.Abstract
import Derived.WalkKit
import Derived.OwnWalkIn
import Derived.TacticsInMore
import Derived.LoopNIn
import Derived.LoopIn
import Derived.Test.YtgmnihofkpjboaaGreatDoorStepC
import Derived.Test.YtgmnihofkpjboaaGreatDoorProg
namespace Go.Proofs.YtgmnihofkpjboaaGreatDoor
open Go.RowKit Go.Shelf
set_option linter.unusedSimpArgs false
set_option linter.unusedVariables false

attribute [local go_sem] Oper.semAt_some

/-- What has come when r are still to come. -/
def dn (zs : List Int) (r : Nat) : List (Nat × Int) := ((List.range' r (zs.length - r)).reverse).map fun j => (j, intAt zs j)

theorem dn_end (zs : List Int) : dn zs zs.length = [] := by simp [dn]
theorem dn_step (zs : List Int) (r : Nat) (h : r < zs.length) : dn zs r = dn zs (r + 1) ++ [(r, intAt zs r)] := by
  unfold dn
  obtain ⟨m, hm⟩ : ∃ m, zs.length - r = m + 1 := ⟨zs.length - r - 1, by omega⟩
  rw [hm, List.range'_succ, show zs.length - (r + 1) = m by omega]
  simp
theorem dn_snd (zs : List Int) : ∀ k r, zs.length = r + k → (dn zs r).map Prod.snd = (zs.drop r).reverse := by
  intro k
  induction k with
  | zero => intro r h; rw [show r = zs.length by omega, dn_end]; simp
  | succ k ih =>
    intro r h
    rw [dn_step zs r (by omega), List.map_append, ih (r + 1) (by omega), List.drop_eq_getElem_cons (by omega : r < zs.length), List.reverse_cons]
    simp [intAt, show r < zs.length by omega]
theorem dn_len (zs : List Int) (r : Nat) (h : r ≤ zs.length) : (dn zs r).length = zs.length - r := by simp [dn]

/-- What a round must keep for the iterator: what lies below B, and the variable that holds the slice. -/
def KpB (B Bs : Nat) (W W' : World) : Prop := Below B W W' ∧ W'.cell? ⟨Bs, 0, none⟩ = W.cell? ⟨Bs, 0, none⟩
theorem KpB.trans {B Bs : Nat} {X Y Z : World} (h : KpB B Bs X Y) (k : KpB B Bs Y Z) : KpB B Bs X Z := ⟨h.1.trans k.1, k.2.trans h.2⟩
theorem KpB.refl (B Bs : Nat) (W : World) : KpB B Bs W W := ⟨Below.refl _ _, rfl⟩

def encKV (x : Nat × Int) : Array Value := #[.int .i64 (x.1 : Int), .int .i64 x.2]

set_option maxRecDepth 100000 in
set_option maxHeartbeats 2000000 in
theorem back1_in (F : Fence) (n : Nat) (h7 : F.fn 75) (hro : F.round = none) (hn : 1 ≤ n) (l Bs n₀ : Nat) (sv : Value) (zs : List Int) (J Jx : List (Nat × Int) → World → Prop)
    (hY : ∀ pre x W, J pre W → pre.length < zs.length → YieldAt F (n - 1) Tryz.prog l (encKV x) W fun e W' =>
      (e = .returned (.bool true) ∧ J (pre ++ [x]) W' ∧ KpB n₀ Bs W W') ∨ (e = .returned (.bool false) ∧ Jx (pre ++ [x]) W'))
    (W : World) (hBs : W.cell? ⟨Bs, 0, none⟩ = some sv) (hI : IntsAt n₀ W sv zs) (h0 : J [] W) :
    CallsIn F n Tryz.prog 75 #[.func (.yield l) #[] #[], .pointer (some ⟨Bs, 0, none⟩)] W fun e W' => (∃ v, e = .returned v) ∧
      ((∃ ys, ys.map Prod.snd = zs.reverse ∧ J ys W') ∨ (∃ pre, (∃ q, zs.reverse = pre.map Prod.snd ++ q) ∧ Jx pre W')) := by
  obtain ⟨hlen, hbd, a, cap, rfl, hcell⟩ := hI
  refine callsIn_of_wp Tryz.func75 rfl h7 ?_ hro
  simp only [Tryz.ntmps75, List.size_toArray, List.length_cons, List.length_nil, Nat.reduceAdd, Nat.reduceSub, Array.replicate_succ, Array.replicate_zero, List.push_toArray, List.append_toArray, List.nil_append, List.cons_append]
  gi_wp2
  gi_loopw [3] (fun i wr => ∃ (r : Nat) (z : Int), r ≤ zs.length ∧ i = .int .i64 z ∧ z = (r : Int) - 1 ∧ J (dn zs r) wr ∧ KpB n₀ Bs W wr) (fun i _ => (intOf i + 1).toNat)
  case atStart => exact ⟨zs.length, _, Nat.le_refl _, rfl, rfl, by rw [dn_end]; exact h0, KpB.refl _ _ _⟩
  case round =>
    obtain ⟨r, z, hr, rfl, hz, hJs, hnx⟩ := hrel
    have hbx : wr.cell? ⟨Bs, 0, none⟩ = some (.slice a zs.length cap) := hnx.2.trans hBs
    by_cases hr0 : r = 0
    · subst hr0
      obtain rfl : z = -1 := by omega
      clear hz hcell
      gi_wp2
      go_end0
      exact ⟨⟨_, rfl⟩, .inl ⟨_, by have := dn_snd zs zs.length 0 (by omega); simpa using this, hJs⟩⟩
    · obtain ⟨q, rfl⟩ : ∃ q, r = q + 1 := ⟨r - 1, by omega⟩
      obtain rfl : z = (q : Int) := by omega
      obtain ⟨b, o, rfl, hb, hc⟩ := hcell (by omega)
      have hcx : wr.cell? ⟨b, o + q, none⟩ = some (.int .i64 (intAt zs q)) := (hnx.1.cell (p := ⟨b, o + q, none⟩) hb).trans (hc q (by omega))
      obtain ⟨fn, tmps, assign, body, hy, hR⟩ := hY _ (q, intAt zs q) wr hJs (by rw [dn_len zs _ (by omega)]; omega)
      have HJ : Hid (dn zs q = dn zs (q + 1) ++ [(q, intAt zs q)]) := dn_step zs q (by omega)
      unfold encKV at hy
      dsimp only at hy
      have hql : (q : Int) < (zs.length : Int) := by omega
      clear hz hc hcell hY hr0
      gi_wp2
      refine hR.mono ?_
      rintro e W3 (⟨rfl, hJ3, hk3⟩ | ⟨rfl, hJx3⟩)
      · gi_wp2
        go_roundw
        case rel => exact ⟨q, _, by omega, rfl, rfl, by rw [HJ.out]; exact hJ3, hnx.trans hk3⟩
        case measure => simp [intOf]
      · gi_wp2
        refine bodyPost_ret (results_none rfl _ _ _) rfl ?_
        refine ⟨⟨_, rfl⟩, .inr ⟨_, ⟨(zs.take q).reverse, ?_⟩, hJx3⟩⟩
        rw [← HJ.out, dn_snd zs (zs.length - q) q (by omega), ← List.reverse_append, List.take_append_drop]

set_option maxHeartbeats 1000000 in
theorem back_in (F : Fence) (n : Nat) (h5 : F.fn 67) (hro : F.round = none) (a : Option Addr) (len cap : Nat) (w : World) :
    CallsIn F n Tryz.prog 67 #[.slice a len cap] w fun e w' => e = .returned (.func (.func 75) #[] #[.pointer (some ⟨w.heap.size, 0, none⟩)]) ∧ w' = w.alloc (.cells #[.slice a len cap] 33) := by
  refine callsIn_of_wp Tryz.func67 rfl h5 ?_ hro
  simp only [Tryz.ntmps67, List.size_toArray, List.length_cons, List.length_nil, Nat.reduceAdd, Nat.reduceSub, Array.replicate_succ, Array.replicate_zero, List.push_toArray, List.append_toArray, List.nil_append, List.cons_append]
  gi_wp2
  go_ret
  exact ⟨rfl, rfl⟩

theorem back_stops (F : Fence) (n : Nat) (h7 : F.fn 75) (hro : F.round = none) (hn : 1 ≤ n) (Bs n₀ : Nat) (sv : Value) (zs : List Int) (w : World) (hBs : Bs < w.heap.size) (hn₀ : n₀ ≤ w.heap.size)
    (hc : w.cell? ⟨Bs, 0, none⟩ = some sv) (hI : IntsAt n₀ w sv zs) :
    SeqStopsK F n Tryz.prog 75 #[.pointer (some ⟨Bs, 0, none⟩)] encKV (KpB n₀ Bs) (fun ys => ys.map Prod.snd = zs.reverse) (fun pre => ∃ q, zs.reverse = pre.map Prod.snd ++ q) zs.length w := fun l J Jx W hW _ _ hY h0 =>
  back1_in F n h7 hro hn l Bs n₀ sv zs J Jx hY W ((hW.cell (p := ⟨Bs, 0, none⟩) hBs).trans hc) (hI.below (hW.mono hn₀)) h0
end Go.Proofs.YtgmnihofkpjboaaGreatDoor
