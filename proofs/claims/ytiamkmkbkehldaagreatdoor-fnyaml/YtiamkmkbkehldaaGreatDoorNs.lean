/-
  The program's checks of one node.
-/
import Derived.Test.YtiamkmkbkehldaaGreatDoorSpc3
import Derived.Deep.Light
import Derived.RangeFuncBox
import Derived.RangeFuncNested
import Derived.RangeFuncBound
import Derived.RangeFuncCalls
import Derived.RangeFuncLeaves
import Derived.Shelf.Abstract
import Derived.WalkKit
import Derived.OwnWalkIn
import Derived.TacticsInMore
import Derived.LoopNIn
import Derived.LoopIn
import Derived.Test.YtiamkmkbkehldaaGreatDoorPhase
import Derived.Test.YtiamkmkbkehldaaGreatDoorProg
import Derived.Test.YtiamkmkbkehldaaGreatDoorVal
namespace Go.Proofs.YtiamkmkbkehldaaGreatDoor
open Go.RowKit
set_option linter.unusedSimpArgs false
set_option linter.unusedVariables false

set_option maxHeartbeats 800000 in
theorem textOk_any (s : ByteArray) (w : World) (hs : s.size ≤ 140737488355328) :
    Calls Tryz.prog 110 #[.string s] w fun e w' => e = .returned (.bool (textB s)) ∧ w' = w := by
  by_cases h60 : 60 < s.size
  · have H : Hid (textB s = false) := by unfold textB Hid; simp; omega
    have h' : (60 : Int) < (s.size : Int) := by omega
    go_enter Tryz.func110, Tryz.ntmps110
    go_wp2
    go_ret
    exact ⟨ret_bool H.out.symm, rfl⟩
  have h' : ¬ (60 : Int) < (s.size : Int) := by omega
  go_enter Tryz.func110, Tryz.ntmps110
  go_wp2
  go_loop [9] (fun i => ∃ k : Nat, k ≤ s.size ∧ i = .int .i64 k ∧ low s k) (fun i => s.size - (intOf i).toNat)
  case atStart => exact ⟨0, Nat.zero_le _, rfl, fun j _ h => by omega⟩
  case round =>
    obtain ⟨k, hk, rfl, hlow⟩ := hrel
    by_cases hlt : k < s.size
    · by_cases hc : s[k].toNat ≤ 127
      · have H : Hid (low s (k + 1)) := low_succ hlt hlow hc
        have hc' : ¬ (127 : Int) < (s[k].toNat : Int) := by omega
        go_wp2
        go_round
        case rel => exact ⟨k + 1, by omega, by go_num, H.out⟩
        case measure => simp [intOf]; omega
      · have hc' : (127 : Int) < (s[k].toNat : Int) := by omega
        have H : Hid (textB s = false) := textB_high hlt (by omega)
        go_wp2
        go_ret
        exact ⟨ret_bool H.out.symm, rfl⟩
    · obtain rfl : k = s.size := by omega
      have H : Hid (textB s = decide (s.size ≤ 60)) := textB_of_low hlow
      go_wp2
      go_ret
      exact ⟨ret_bool (by rw [H.out]; simp; omega), rfl⟩

set_option maxHeartbeats 1600000 in
theorem keysRise_any (B : Nat) (v : Value) (l : List ByteArray) (w : World) (h : StrsAt B w v l) :
    Calls Tryz.prog 111 #[v] w fun e w' => e = .returned (.bool (riseB l)) ∧ w' = w := by
  obtain ⟨hkn, hks, a1, c1, rfl, hcell⟩ := h
  go_enter Tryz.func111, Tryz.ntmps111
  go_wp2_with fail
  go_loopw [7] (fun i wr => ∃ k : Nat, k ≤ l.length ∧ i = .int .i64 k ∧ (∀ j, j < k → riseAt l j = true) ∧ wr = w) (fun i _ => l.length - (intOf i).toNat)
  case atStart => exact ⟨0, Nat.zero_le _, rfl, fun j hj => by omega, rfl⟩
  case round =>
    obtain ⟨k, hkl, rfl, hrise, rfl⟩ := hrel
    by_cases hlt : k < l.length
    · obtain ⟨b, o, rfl, hbB, hc⟩ := hcell (by omega)
      have hck := hc k hlt
      have hs := hks k hlt
      by_cases ht : textB (keyAt l k) = true
      · by_cases h0 : k = 0
        · have HR : Hid (∀ j, j < k + 1 → riseAt l j = true) := fun j hj => by
            obtain rfl : j = k := by omega
            simp only [riseAt, ht, h0, decide_true, Bool.true_or, Bool.and_true]
            rw [h0] at ht
            exact ht
          have hd : ¬ (0 : Int) < (k : Int) := by omega
          have HX := hideIt h0
          clear hrise hc hcell h0
          go_wp2_with fail
          refine (textOk_any _ _ hs).mono ?_
          rintro e w1 ⟨rfl, rfl⟩
          go_wp2_with fail
          go_roundw
          case rel => exact ⟨k + 1, by omega, by go_num, HR.out, by trivial⟩
          case measure => simp [intOf]; omega
        · have hcm := hc (k - 1) (by omega)
          have hd : (0 : Int) < (k : Int) := by omega
          have p0 : ((k : Int) - 1).toNat = k - 1 := by omega
          by_cases hl : Op.bytesLess (keyAt l (k - 1)).toList (keyAt l k).toList = true
          · have HR : Hid (∀ j, j < k + 1 → riseAt l j = true) := fun j hj => by
              by_cases e : j = k
              · subst e; simp [riseAt, ht, lessB, hl]
              · exact hrise j (by omega)
            clear hrise hc hcell
            go_wp2_with fail
            refine (textOk_any _ _ hs).mono ?_
            rintro e w1 ⟨rfl, rfl⟩
            go_wp2_with fail
            go_roundw
            case rel => exact ⟨k + 1, by omega, by go_num, HR.out, by trivial⟩
            case measure => simp [intOf]; omega
          · have HR : Hid (riseB l = false) := riseB_false hlt (by simp [riseAt, ht, lessB, hl]; omega)
            have hl' : Op.bytesLess (keyAt l (k - 1)).toList (keyAt l k).toList = false := by simpa using hl
            clear hrise hc hcell hl
            go_wp2_with fail
            refine (textOk_any _ _ hs).mono ?_
            rintro e w1 ⟨rfl, rfl⟩
            go_wp2_with fail
            go_ret
            exact ⟨ret_bool HR.out.symm, rfl⟩
      · have HR : Hid (riseB l = false) := riseB_false hlt (by simp [riseAt, ht])
        have ht' : textB (keyAt l k) = false := by simpa using ht
        clear hrise hc hcell ht
        go_wp2_with fail
        refine (textOk_any _ _ hs).mono ?_
        rintro e w1 ⟨rfl, rfl⟩
        go_wp2_with fail
        go_ret
        exact ⟨ret_bool HR.out.symm, rfl⟩
    · obtain rfl : k = l.length := by omega
      have HR : Hid (riseB l = true) := riseB_true hrise
      clear hrise hcell
      go_wp2_with fail
      go_ret
      exact ⟨ret_bool HR.out.symm, rfl⟩

set_option maxHeartbeats 3200000 in
theorem unnamedZero_any (B : Nat) (x : VN) (ka ki : Value) (w : World) (h : NodeIn B w x ka ki) :
    Calls Tryz.prog 54 #[.agg #[.int .i64 x.kind, .int .i64 x.n, .string x.s, ka, ki]] w fun e w' => e = .returned (.bool (unnamedB x)) ∧ Below w.heap.size w w' := by
  obtain ⟨_, _, a1, c1, e1, _⟩ := h.keys
  obtain ⟨_, _, a2, c2, e2, _⟩ := h.kids
  subst e1 e2
  clear h
  go_enter Tryz.func54, Tryz.ntmps54
  go_wp2_with fail
  all_goals
    go_ret
    refine ⟨ret_bool ?_, (Below.refl _ _).alloc (Nat.le_refl _) _⟩
    go_light
    simp_all [unnamedB]

set_option maxHeartbeats 3200000 in
theorem namedOk_any (B : Nat) (x : VN) (ka ki : Value) (w : World) (h : NodeIn B w x ka ki) (hB : B ≤ w.heap.size) :
    Calls Tryz.prog 55 #[.agg #[.int .i64 x.kind, .int .i64 x.n, .string x.s, ka, ki]] w fun e w' => e = .returned (.bool (namedB x)) ∧ Below w.heap.size w w' := by
  have hsz := h.size
  have HK := hideIt h.keys
  obtain ⟨_, _, a1, c1, e1, _⟩ := h.keys
  obtain ⟨_, _, a2, c2, e2, _⟩ := h.kids
  subst e1 e2
  clear h
  have hw1 : ∀ o, Below w.heap.size w (w.alloc o) := fun o => (Below.refl _ _).alloc (Nat.le_refl _) o
  go_enter Tryz.func55, Tryz.ntmps55
  go_wp2_with (first
    | (go_at_call 110; refine (textOk_any _ _ hsz).mono ?_; rintro e w' ⟨rfl, rfl⟩)
    | (go_at_call 111; refine (keysRise_any B _ x.keys _ (HK.out.below ((hw1 _).mono hB))).mono ?_; rintro e w' ⟨rfl, rfl⟩))
  all_goals
    go_ret
    refine ⟨ret_bool ?_, hw1 _⟩
    go_light
    simp_all [namedB] <;> first | omega | (intro _; omega) | (intro g; exfalso; omega) | (rw [Bool.eq_iff_iff]; simp; omega)
end Go.Proofs.YtiamkmkbkehldaaGreatDoor

/-
  slices.Backward over a slice of numbers: its function value hands the numbers over from the last one to the first.
-/
namespace Go.Proofs.YtiamkmkbkehldaaGreatDoor
open Go.RowKit Go.Shelf
set_option linter.unusedSimpArgs false
set_option linter.unusedVariables false

attribute [local go_sem] Oper.semAt_some

/-- What has come when r are still to come. -/
def dn (zs : List Int) (r : Nat) : List (Nat × Int) := ((List.range' r (zs.length - r)).reverse).map fun j => (j, intAt zs j)

theorem dn_end (zs : List Int) : dn zs zs.length = [] := by simp [dn]
theorem dn_step (zs : List Int) (r : Nat) (h : r < zs.length) : dn zs r = dn zs (r + 1) ++ [(r, intAt zs r)] := by
  unfold dn
  obtain ⟨m, hm⟩ : ∃ m, zs.length - r = m + 1 := ⟨zs.length - r - 1, by omega⟩
  rw [hm, List.range'_succ, show zs.length - (r + 1) = m by omega]
  simp
theorem dn_snd (zs : List Int) : ∀ k r, zs.length = r + k → (dn zs r).map Prod.snd = (zs.drop r).reverse := by
  intro k
  induction k with
  | zero => intro r h; rw [show r = zs.length by omega, dn_end]; simp
  | succ k ih =>
    intro r h
    rw [dn_step zs r (by omega), List.map_append, ih (r + 1) (by omega), List.drop_eq_getElem_cons (by omega : r < zs.length), List.reverse_cons]
    simp [intAt, show r < zs.length by omega]
theorem dn_len (zs : List Int) (r : Nat) (h : r ≤ zs.length) : (dn zs r).length = zs.length - r := by simp [dn]

/-- What a round must keep for the iterator: what lies below B, and the variable that holds the slice. -/
def KpB (B Bs : Nat) (W W' : World) : Prop := Below B W W' ∧ W'.cell? ⟨Bs, 0, none⟩ = W.cell? ⟨Bs, 0, none⟩
theorem KpB.trans {B Bs : Nat} {X Y Z : World} (h : KpB B Bs X Y) (k : KpB B Bs Y Z) : KpB B Bs X Z := ⟨h.1.trans k.1, k.2.trans h.2⟩
theorem KpB.refl (B Bs : Nat) (W : World) : KpB B Bs W W := ⟨Below.refl _ _, rfl⟩

def encKV (x : Nat × Int) : Array Value := #[.int .i64 (x.1 : Int), .int .i64 x.2]

set_option maxRecDepth 100000 in
set_option maxHeartbeats 2000000 in
theorem back1_in (F : Fence) (n : Nat) (h7 : F.fn 160) (hro : F.round = none) (hn : 1 ≤ n) (l Bs n₀ : Nat) (sv : Value) (zs : List Int) (J Jx : List (Nat × Int) → World → Prop)
    (hY : ∀ pre x W, J pre W → pre.length < zs.length → YieldAt F (n - 1) Tryz.prog l (encKV x) W fun e W' =>
      (e = .returned (.bool true) ∧ J (pre ++ [x]) W' ∧ KpB n₀ Bs W W') ∨ (e = .returned (.bool false) ∧ Jx (pre ++ [x]) W'))
    (W : World) (hBs : W.cell? ⟨Bs, 0, none⟩ = some sv) (hI : IntsAt n₀ W sv zs) (h0 : J [] W) :
    CallsIn F n Tryz.prog 160 #[.func (.yield l) #[] #[], .pointer (some ⟨Bs, 0, none⟩)] W fun e W' => (∃ v, e = .returned v) ∧
      ((∃ ys, ys.map Prod.snd = zs.reverse ∧ J ys W') ∨ (∃ pre, (∃ q, zs.reverse = pre.map Prod.snd ++ q) ∧ Jx pre W')) := by
  obtain ⟨hlen, hbd, a, cap, rfl, hcell⟩ := hI
  refine callsIn_of_wp Tryz.func160 rfl h7 ?_ hro
  simp only [Tryz.ntmps160, List.size_toArray, List.length_cons, List.length_nil, Nat.reduceAdd, Nat.reduceSub, Array.replicate_succ, Array.replicate_zero, List.push_toArray, List.append_toArray, List.nil_append, List.cons_append]
  gi_wp2
  gi_loopw [3] (fun i wr => ∃ (r : Nat) (z : Int), r ≤ zs.length ∧ i = .int .i64 z ∧ z = (r : Int) - 1 ∧ J (dn zs r) wr ∧ KpB n₀ Bs W wr) (fun i _ => (intOf i + 1).toNat)
  case atStart => exact ⟨zs.length, _, Nat.le_refl _, rfl, rfl, by rw [dn_end]; exact h0, KpB.refl _ _ _⟩
  case round =>
    obtain ⟨r, z, hr, rfl, hz, hJs, hnx⟩ := hrel
    have hbx : wr.cell? ⟨Bs, 0, none⟩ = some (.slice a zs.length cap) := hnx.2.trans hBs
    by_cases hr0 : r = 0
    · subst hr0
      obtain rfl : z = -1 := by omega
      clear hz hcell
      gi_wp2
      go_end0
      exact ⟨⟨_, rfl⟩, .inl ⟨_, by have := dn_snd zs zs.length 0 (by omega); simpa using this, hJs⟩⟩
    · obtain ⟨q, rfl⟩ : ∃ q, r = q + 1 := ⟨r - 1, by omega⟩
      obtain rfl : z = (q : Int) := by omega
      obtain ⟨b, o, rfl, hb, hc⟩ := hcell (by omega)
      have hcx : wr.cell? ⟨b, o + q, none⟩ = some (.int .i64 (intAt zs q)) := (hnx.1.cell (p := ⟨b, o + q, none⟩) hb).trans (hc q (by omega))
      obtain ⟨fn, tmps, assign, body, hy, hR⟩ := hY _ (q, intAt zs q) wr hJs (by rw [dn_len zs _ (by omega)]; omega)
      have HJ : Hid (dn zs q = dn zs (q + 1) ++ [(q, intAt zs q)]) := dn_step zs q (by omega)
      unfold encKV at hy
      dsimp only at hy
      have hql : (q : Int) < (zs.length : Int) := by omega
      clear hz hc hcell hY hr0
      gi_wp2
      refine hR.mono ?_
      rintro e W3 (⟨rfl, hJ3, hk3⟩ | ⟨rfl, hJx3⟩)
      · gi_wp2
        go_roundw
        case rel => exact ⟨q, _, by omega, rfl, rfl, by rw [HJ.out]; exact hJ3, hnx.trans hk3⟩
        case measure => simp [intOf]
      · gi_wp2
        refine bodyPost_ret (results_none rfl _ _ _) rfl ?_
        refine ⟨⟨_, rfl⟩, .inr ⟨_, ⟨(zs.take q).reverse, ?_⟩, hJx3⟩⟩
        rw [← HJ.out, dn_snd zs (zs.length - q) q (by omega), ← List.reverse_append, List.take_append_drop]

set_option maxHeartbeats 1000000 in
theorem back_in (F : Fence) (n : Nat) (h5 : F.fn 112) (hro : F.round = none) (a : Option Addr) (len cap : Nat) (w : World) :
    CallsIn F n Tryz.prog 112 #[.slice a len cap] w fun e w' => e = .returned (.func (.func 160) #[] #[.pointer (some ⟨w.heap.size, 0, none⟩)]) ∧ w' = w.alloc (.cells #[.slice a len cap] 71) := by
  refine callsIn_of_wp Tryz.func112 rfl h5 ?_ hro
  simp only [Tryz.ntmps112, List.size_toArray, List.length_cons, List.length_nil, Nat.reduceAdd, Nat.reduceSub, Array.replicate_succ, Array.replicate_zero, List.push_toArray, List.append_toArray, List.nil_append, List.cons_append]
  gi_wp2
  go_ret
  exact ⟨rfl, rfl⟩

theorem back_stops (F : Fence) (n : Nat) (h7 : F.fn 160) (hro : F.round = none) (hn : 1 ≤ n) (Bs n₀ : Nat) (sv : Value) (zs : List Int) (w : World) (hBs : Bs < w.heap.size) (hn₀ : n₀ ≤ w.heap.size)
    (hc : w.cell? ⟨Bs, 0, none⟩ = some sv) (hI : IntsAt n₀ w sv zs) :
    SeqStopsK F n Tryz.prog 160 #[.pointer (some ⟨Bs, 0, none⟩)] encKV (KpB n₀ Bs) (fun ys => ys.map Prod.snd = zs.reverse) (fun pre => ∃ q, zs.reverse = pre.map Prod.snd ++ q) zs.length w := fun l J Jx W hW _ _ hY h0 =>
  back1_in F n h7 hro hn l Bs n₀ sv zs J Jx hY W ((hW.cell (p := ⟨Bs, 0, none⟩) hBs).trans hc) (hI.below (hW.mono hn₀)) h0
end Go.Proofs.YtiamkmkbkehldaaGreatDoor

/-
  The tables of the program's check of all nodes, in memory.
-/
namespace Go.Proofs.YtiamkmkbkehldaaGreatDoor
open Go.RowKit Go.Shelf
set_option linter.unusedSimpArgs false
set_option linter.unusedVariables false

def rootK (K : Nat → List Int) (N : Nat) (D : Int) : Bool := match tr K (N - 1) with
  | some p => decide (p.1 = 0) && decide ((p.2 : Int) ≤ D)
  | none => false
def standB (K : Nat → List Int) (N : Nat) (D : Int) : Bool := ((List.range N).all fun i => (tr K i).isSome) && rootK K N D


/-- The tables, the variables that hold them and the answer, from block s on. -/
structure Tab (s N : Nat) (W : World) (f g : Nat → Int) (rv : Bool) : Prop where
  res : Boxed W s 4 (.bool rv)
  row1 : W.rowIs (s + 1) 2 N (fun j => .int .i64 (f j))
  box1 : Boxed W (s + 1 + 1) 71 (.slice (some ⟨s + 1, 0, none⟩) N N)
  row2 : W.rowIs (s + 1 + 1 + 1) 2 N (fun j => .int .i64 (g j))
  box2 : Boxed W (s + 1 + 1 + 1 + 1) 71 (.slice (some ⟨s + 1 + 1 + 1, 0, none⟩) N N)

theorem rowIs_kept {W W' : World} {b t n : Nat} {f : Nat → Value} {row : Option Nat} (h : W.rowIs b t n f) (hg : W.grownBy W' row) (hr : ∀ r, row = some r → ∃ o : Obj, W.heap[r]? = some o ∧ o.isCells = false) : W'.rowIs b t n f := by
  refine h.of_block (hg.block b h.lt fun e => ?_)
  obtain ⟨c, hb, _, _⟩ := h
  obtain ⟨o, ho, hc⟩ := hr b e.symm
  rw [hb] at ho
  cases ho
  cases hc

theorem boxed_kept {W W' : World} {b t : Nat} {v : Value} {row : Option Nat} (h : Boxed W b t v) (hg : W.grownBy W' row) (hr : ∀ r, row = some r → ∃ o : Obj, W.heap[r]? = some o ∧ o.isCells = false) : Boxed W' b t v := by
  refine h.kept hg fun e => ?_
  obtain ⟨o, ho, hc⟩ := hr b e.symm
  rw [show W.heap[b]? = _ from h] at ho
  cases ho
  cases hc

theorem Tab.kept {s N : Nat} {W W' : World} {f g : Nat → Int} {rv : Bool} {row : Option Nat} (h : Tab s N W f g rv) (hg : W.grownBy W' row) (hr : ∀ r, row = some r → ∃ o : Obj, W.heap[r]? = some o ∧ o.isCells = false) : Tab s N W' f g rv :=
  ⟨boxed_kept h.res hg hr, rowIs_kept h.row1 hg hr, boxed_kept h.box1 hg hr, rowIs_kept h.row2 hg hr, boxed_kept h.box2 hg hr⟩

theorem Tab.alloc {s N : Nat} {W : World} {f g : Nat → Int} {rv : Bool} (h : Tab s N W f g rv) (o : Obj) : Tab s N (W.alloc o) f g rv :=
  ⟨h.res.alloc o, h.row1.alloc o, h.box1.alloc o, h.row2.alloc o, h.box2.alloc o⟩

theorem ne_blk {b c o : Nat} (h : b ≠ c) : b ≠ (⟨c, o, none⟩ : Addr).block := h

theorem boxed_setOther {W : World} {b t : Nat} {v : Value} (h : Boxed W b t v) {a : Addr} (hne : b ≠ a.block) (u : Value) : Boxed (W.setCell a u) b t v :=
  (Below.heap_setCell W a u b hne).trans h

theorem Tab.setH {s N : Nat} {W : World} {f g : Nat → Int} {rv : Bool} (h : Tab s N W f g rv) (k : Nat) (x : Int) : Tab s N (W.setCell ⟨s + 1 + 1 + 1, k, none⟩ (.int .i64 x)) f (fun j => if j = k then x else g j) rv :=
  ⟨boxed_setOther h.res (ne_blk (by omega)) _, h.row1.setOther (ne_blk (by omega)) _, boxed_setOther h.box1 (ne_blk (by omega)) _, (h.row2.set k _).congr (fun j _ => by by_cases e : j = k <;> simp [e]), boxed_setOther h.box2 (ne_blk (by omega)) _⟩

theorem Tab.setF {s N : Nat} {W : World} {f g : Nat → Int} {rv : Bool} (h : Tab s N W f g rv) (k : Nat) (x : Int) : Tab s N (W.setCell ⟨s + 1, k, none⟩ (.int .i64 x)) (fun j => if j = k then x else f j) g rv :=
  ⟨boxed_setOther h.res (ne_blk (by omega)) _, (h.row1.set k _).congr (fun j _ => by by_cases e : j = k <;> simp [e]), boxed_setOther h.box1 (ne_blk (by omega)) _, h.row2.setOther (ne_blk (by omega)) _, boxed_setOther h.box2 (ne_blk (by omega)) _⟩

theorem Tab.setRes {s N : Nat} {W : World} {f g : Nat → Int} {rv : Bool} (h : Tab s N W f g rv) (x : Bool) : Tab s N (W.setCell ⟨s, 0, none⟩ (.bool x)) f g x :=
  ⟨h.res.set _, h.row1.setOther (ne_blk (by omega)) _, boxed_setOther h.box1 (ne_blk (by omega)) _, h.row2.setOther (ne_blk (by omega)) _, boxed_setOther h.box2 (ne_blk (by omega)) _⟩

theorem Tab.other {s N : Nat} {W : World} {f g : Nat → Int} {rv : Bool} (h : Tab s N W f g rv) {a : Addr} (ha : s + 1 + 1 + 1 + 1 < a.block) (u : Value) : Tab s N (W.setCell a u) f g rv :=
  ⟨boxed_setOther h.res (by omega) _, h.row1.setOther (by omega) _, boxed_setOther h.box1 (by omega) _, h.row2.setOther (by omega) _, boxed_setOther h.box2 (by omega) _⟩

theorem Tab.congr {s N : Nat} {W : World} {f g f' g' : Nat → Int} {rv : Bool} (h : Tab s N W f g rv) (e1 : ∀ j, j < N → f j = f' j) (e2 : ∀ j, j < N → g j = g' j) : Tab s N W f' g' rv :=
  ⟨h.res, h.row1.congr (fun j hj => by rw [e1 j hj]), h.box1, h.row2.congr (fun j hj => by rw [e2 j hj]), h.box2⟩

theorem Tab.drew {s N : Nat} {W : World} {f g : Nat → Int} {rv : Bool} (h : Tab s N W f g rv) : Tab s N W.drew f g rv := ⟨h.res, h.row1, h.box1, h.row2, h.box2⟩

/-- Blocks in which the rounds' deferred calls would be collected: there are none. -/
def Marks (W : World) (lo : Nat) (Ds : List Nat) : Prop := Ds.Nodup ∧ ∀ D ∈ Ds, lo ≤ D ∧ W.heap[D]? = some (.deferred (some []))

theorem Marks.keeps {W W' : World} {lo : Nat} {Ds : List Nat} (h : Marks W lo Ds) (k : KeepsOthers W W') : Marks W' lo Ds :=
  ⟨h.1, fun D hD => ⟨(h.2 D hD).1, k.same D _ (h.2 D hD).2 rfl⟩⟩

def mark (D : Nat) : Deferred := { target := .collected D, args := #[] }

theorem leaves_marks {F : Fence} {n : Nat} {P : Program} {fn : Func} {tmps : Array Value} {R : Ending → World → Prop} (lo : Nat) : ∀ (Ds : List Nat) (W : World), Marks W lo Ds →
    (∀ W', Below lo W W' → (∀ b, (∀ D ∈ Ds, b ≠ D) → W'.heap[b]? = W.heap[b]?) → LeavesIn F n P fn tmps R [] .returning W') → LeavesInM F n P fn tmps R (Ds.map mark) .returning W := by
  intro Ds
  induction Ds with
  | nil => intro W _ h; exact h W (Below.refl _ _) (fun _ _ => rfl)
  | cons D Ds ih =>
    intro W hm h
    have hD := hm.2 D (by simp)
    have hnd := List.nodup_cons.1 hm.1
    refine ⟨by simp, .inl ⟨D, W.putObj D (.deferred none), rfl, run_takeDeferred hD.2, ?_⟩⟩
    have hb : Below lo W (W.putObj D (.deferred none)) := by
      refine ⟨rfl, rfl, rfl, by simp [World.putObj], fun k hk => World.putObj_heap_other (by omega)⟩
    refine ih _ ⟨hnd.2, fun D' hD' => ⟨(hm.2 D' (by simp [hD'])).1, ?_⟩⟩ ?_
    · rw [World.putObj_heap_other (fun e => hnd.1 (by rw [← e]; exact hD'))]
      exact (hm.2 D' (by simp [hD'])).2
    · intro W' hb' hsame
      refine h W' (hb.trans hb') fun b hbne => ?_
      rw [hsame b (fun D' hD' => hbne D' (by simp [hD'])), World.putObj_heap_other (hbne D (by simp))]

def fRow (K : Nat → List Int) (k j : Nat) : Int := if j < k then trF (tr K j) else 0
def hRow (K : Nat → List Int) (k j : Nat) : Int := if j < k then trD (tr K j) else 0

/-- What the kids that came say of where the node's tree begins and how deep it is. -/
def came (K : Nat → List Int) (k : Nat) (pre : List (Nat × Int)) : Option (Nat × Nat) := (pre.map Prod.snd).foldl (stepKid (tr K)) (some (k, 0))

/-- Between two kids. -/
def KidI (K : Nat → List Int) (N s sw k : Nat) (w : World) (Ds : List Nat) (pre : List (Nat × Int)) (W : World) : Prop :=
  ∃ b h : Nat, came K k pre = some (b, h) ∧ b ≤ k ∧ h ≤ k ∧ Tab s N W (fRow K k) (fun j => if j = k then (h : Int) + 1 else hRow K k j) false ∧ Boxed W sw 3 (.int .i64 k) ∧ Boxed W (sw + 1) 2 (.int .i64 b) ∧ Below s w W ∧ Marks W s Ds
/-- A kid does not stand. -/
def KidX (K : Nat → List Int) (N s sw k : Nat) (w : World) (Ds : List Nat) (c : Code) (pre : List (Nat × Int)) (W : World) : Prop :=
  c = .ret ∧ came K k pre = none ∧ Boxed W s 4 (.bool false) ∧ Below s w W ∧ Marks W s Ds

theorem came_all {K : Nat → List Int} {k b h : Nat} {xs : List (Nat × Int)} (hx : xs.map Prod.snd = (K k).reverse) (hc : came K k xs = some (b, h)) : tr K k = some (b, h + 1) := by
  unfold came at hc
  rw [hx] at hc
  rw [tr_eq, hc]
  rfl

theorem came_none {K : Nat → List Int} {k : Nat} {pre : List (Nat × Int)} (hx : ∃ q, (K k).reverse = pre.map Prod.snd ++ q) (hc : came K k pre = none) : tr K k = none := by
  obtain ⟨q, hq⟩ := hx
  unfold came at hc
  rw [tr_eq, hq, List.foldl_append, hc, fold_none]
  rfl

theorem standB_none {K : Nat → List Int} {k N : Nat} {D : Int} (hk : k < N) (h : tr K k = none) : standB K N D = false := by
  unfold standB
  rw [show ((List.range N).all fun i => (tr K i).isSome) = false from ?_, Bool.false_and]
  rw [List.all_eq_false]
  exact ⟨k, List.mem_range.2 hk, by simp [h]⟩

theorem standB_all {K : Nat → List Int} {N : Nat} {D : Int} (h : ∀ j, j < N → (tr K j).isSome = true) : standB K N D = rootK K N D := by
  unfold standB
  rw [show ((List.range N).all fun i => (tr K i).isSome) = true from ?_, Bool.true_and]
  rw [List.all_eq_true]
  exact fun j hj => h j (List.mem_range.1 hj)

theorem came_snoc {K : Nat → List Int} {k : Nat} {pre : List (Nat × Int)} {x : Nat × Int} : came K k (pre ++ [x]) = stepKid (tr K) (came K k pre) x.2 := by
  unfold came
  rw [List.map_append, List.foldl_append]
  rfl

theorem fRow_step {K : Nat → List Int} {k b h : Nat} (ht : tr K k = some (b, h)) (j : Nat) : (if j = k then (b : Int) else fRow K k j) = fRow K (k + 1) j := by
  unfold fRow
  by_cases e : j = k
  · subst e; rw [if_pos rfl, if_pos (by omega), ht]; rfl
  · rw [if_neg e]; by_cases g : j < k
    · rw [if_pos g, if_pos (by omega)]
    · rw [if_neg g, if_neg (by omega)]

theorem hRow_step {K : Nat → List Int} {k b h : Nat} (ht : tr K k = some (b, h + 1)) (j : Nat) : (if j = k then (h : Int) + 1 else hRow K k j) = hRow K (k + 1) j := by
  unfold hRow
  by_cases e : j = k
  · subst e; rw [if_pos rfl, if_pos (by omega), ht]; simp [trD]
  · rw [if_neg e]; by_cases g : j < k
    · rw [if_pos g, if_pos (by omega)]
    · rw [if_neg g, if_neg (by omega)]

theorem marks_cons {W : World} {lo D B : Nat} {Ds : List Nat} (h : Marks W lo Ds) (hlt : ∀ E ∈ Ds, E < B) (hD : B ≤ D) (hlo : lo ≤ D) (hK : W.heap[D]? = some (.deferred (some []))) : Marks W lo (D :: Ds) := by
  refine ⟨List.nodup_cons.2 ⟨fun hm => by have := hlt D hm; omega, h.1⟩, fun E hE => ?_⟩
  rcases List.mem_cons.1 hE with rfl | hE
  · exact ⟨hlo, hK⟩
  · exact h.2 E hE

theorem boxed_ne_mark {W : World} {lo b t : Nat} {v : Value} {Ds : List Nat} (hb : Boxed W b t v) (h : Marks W lo Ds) : ∀ D ∈ Ds, b ≠ D := by
  intro D hD e
  subst e
  have := (h.2 b hD).2
  rw [show W.heap[b]? = _ from hb] at this
  cases this

theorem marks_own {s B : Nat} {W W' : World} {Ds : List Nat} {row : Option Nat} (h : Marks W s Ds) (hlt : ∀ D ∈ Ds, D < B) (hg : W.grownBy W' row) (hr : ∀ r, row = some r → B ≤ r ∧ ∃ o : Obj, W.heap[r]? = some o ∧ o.isCells = false) : Marks W' s Ds :=
  ⟨h.1, fun D hD => ⟨(h.2 D hD).1, (hg.block D (Array.getElem?_eq_some_iff.1 (h.2 D hD).2).1 (fun e => by have := (hr D e.symm).1; have := hlt D hD; omega)).trans (h.2 D hD).2⟩⟩

theorem kidI_own {K : Nat → List Int} {N s sw k B : Nat} {w : World} {Ds : List Nat} (hlt : ∀ D ∈ Ds, D < B) (hs : s ≤ B) : OwnFrom B (KidI K N s sw k w Ds) := by
  rintro pre X Y row ⟨b, h, h1, h2, h3, h4, h5, h6, h7, h8⟩ hg hr
  have hr' : ∀ r, row = some r → ∃ o : Obj, X.heap[r]? = some o ∧ o.isCells = false := fun r e => (hr r e).2
  refine ⟨b, h, h1, h2, h3, h4.kept hg hr', boxed_kept h5 hg hr', boxed_kept h6 hg hr', h7.grown hg ?_ (fun r e => by have := (hr r e).1; omega), marks_own h8 hlt hg hr⟩
  have := h4.res.lt; omega

theorem kidX_own {K : Nat → List Int} {N s sw k B : Nat} {w : World} {Ds : List Nat} (hlt : ∀ D ∈ Ds, D < B) (hs : s ≤ B) (c : Code) : OwnFrom B (KidX K N s sw k w Ds c) := by
  rintro pre X Y row ⟨h1, h2, h3, h7, h8⟩ hg hr
  have hr' : ∀ r, row = some r → ∃ o : Obj, X.heap[r]? = some o ∧ o.isCells = false := fun r e => (hr r e).2
  refine ⟨h1, h2, boxed_kept h3 hg hr', h7.grown hg ?_ (fun r e => by have := (hr r e).1; omega), marks_own h8 hlt hg hr⟩
  have := h3.lt; omega

end Go.Proofs.YtiamkmkbkehldaaGreatDoor
