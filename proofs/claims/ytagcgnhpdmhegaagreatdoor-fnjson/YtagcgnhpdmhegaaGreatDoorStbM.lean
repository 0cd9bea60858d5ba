/-
  The program's sortedPlaces with strings.Compare: the places of texts, so that the texts rise.
-/
import Derived.Test.YtagcgnhpdmhegaaGreatDoorWn1
import Derived.Test.YtagcgnhpdmhegaaGreatDoorSMake
import Derived.Test.YtagcgnhpdmhegaaGreatDoorMarkM
import Derived.Test.YtagcgnhpdmhegaaGreatDoorPhase
namespace Go.Proofs.YtagcgnhpdmhegaaGreatDoor
open Go.RowKit
set_option linter.unusedSimpArgs false
set_option linter.unusedVariables false

theorem Sw.cell {g : Nat} {w w' : World} (h : Sw g w w') {b o : Nat} (hb : b < w.heap.size) (hg : b ≠ g) : w'.cell? ⟨b, o, none⟩ = w.cell? ⟨b, o, none⟩ := h.2.2.2.cell hb hg

set_option maxRecDepth 100000 in
set_option maxHeartbeats 3200000 in
theorem closure_any (B h g : Nat) (l : List ByteArray) (v : Value) (w0 : World) (hl : StrsAt B w0 v l) (h1 : w0.cell? ⟨h, 0, none⟩ = some v) (h2 : w0.cell? ⟨h + 1, 0, none⟩ = some (.func (.func 125) #[] #[])) (hh : h + 1 < w0.heap.size) (hg : h + 1 < g) (hB : B ≤ h) :
    CmpAt g l.length w0 (.pointer (some ⟨h + 1, 0, none⟩)) (.pointer (some ⟨h, 0, none⟩)) (cfK l) := by
  intro W hsw x y hx1 hx2 hy1 hy2
  obtain ⟨i, rfl⟩ : ∃ i : Nat, x = (i : Int) := ⟨x.toNat, by omega⟩
  obtain ⟨j, rfl⟩ : ∃ j : Nat, y = (j : Int) := ⟨y.toNat, by omega⟩
  obtain ⟨hln, _, a, cap, rfl, hc⟩ := hl
  obtain ⟨b, o, rfl, hb, hcc⟩ := hc (by omega)
  have d1 := (hsw.cell (show h < w0.heap.size by omega) (show h ≠ g by omega)).trans h1
  have d2 := (hsw.cell hh (show h + 1 ≠ g by omega)).trans h2
  have d3 := (hsw.cell (show b < w0.heap.size by omega) (show b ≠ g by omega)).trans (hcc i (by omega))
  have d4 := (hsw.cell (show b < w0.heap.size by omega) (show b ≠ g by omega)).trans (hcc j (by omega))
  have hi : i < l.length := by omega
  have hj : j < l.length := by omega
  have HE : Hid (cfK l (i : Int) (j : Int) = cmpS (keyAt l i) (keyAt l j)) := by rw [Hid, cfK, Int.toNat_natCast, Int.toNat_natCast]
  clear hcc hc h1 h2 hx1 hx2 hy1 hy2
  go_enter Tryz.func129, Tryz.ntmps129
  go_wp2_with fail
  go_quiet ((go_at_call 125; exact Calls.quiet_of_same (stringsCompare_any _ _ _)))
  go_wp2_with fail
  go_ret
  exact ⟨by rw [HE.out]; rfl, nq, rfl⟩

set_option maxHeartbeats 1600000 in
theorem sortStable_any (R : Int → Int → Prop) (cf : Int → Int → Int) (g N cap : Nat) (w0 : World) (c1 c2 : Value) (f : Nat → Int) (w : World) (h : AskedS R cf g N w0 c1 c2 f w) :
    Calls Tryz.prog 128 #[.slice (some ⟨g, 0, none⟩) N cap, .func (.func 129) #[] #[c1, c2]] w fun e w' => e = .returned (.tuple #[]) ∧ ∃ f', w'.rowIs g 3 N (nums f') ∧ Blk R f f' 0 N ∧ Sw g w0 w' := by
  have H := hideIt h
  have hNN := h.NN
  clear h
  go_enter Tryz.func128, Tryz.ntmps128
  go_wp2_with fail
  refine (stable_any R cf g N cap w0 c1 c2 f w H.out).mono ?_
  rintro e w1 ⟨rfl, f1, hr1, hm1, hs1⟩
  have HH := hideIt (And.intro hr1 (And.intro hm1 hs1))
  clear hr1 hm1 hs1
  go_wp2_with fail
  exact ⟨rfl, .tuple #[], results_none rfl _ _ _, rfl, f1, HH.out⟩

theorem cell_new1 (w : World) (v : Value) (t : TypeId) : (w.alloc (.cells #[v] t)).cell? ⟨w.heap.size, 0, none⟩ = some v := by
  have h := heap_alloc_new w (.cells #[v] t)
  unfold World.cell?
  simp only [h]
  rfl
theorem cell_more {w : World} {b o : Nat} {v : Value} (h : w.cell? ⟨b, o, none⟩ = some v) (hb : b < w.heap.size) (ob : Obj) : (w.alloc ob).cell? ⟨b, o, none⟩ = some v := (below_cell ((Below.refl w.heap.size w).alloc (Nat.le_refl _) ob) hb).trans h

theorem infoI : (Tryz.prog.info? 3).map (fun i => (i.zero, i.size, i.bytes)) = some (some (.int .i64 0), 1, 8) := by kernel_rfl

def fillN (k j : Nat) : Int := if j < k then (j : Int) else 0

set_option maxRecDepth 100000 in
set_option maxHeartbeats 3200000 in
theorem sortedPlaces_any (B : Nat) (v : Value) (l : List ByteArray) (w : World) (h : StrsAt B w v l) (hB : B ≤ w.heap.size) (hn : l.length ≤ 1048576) :
    Calls Tryz.prog 124 #[v, .func (.func 125) #[] #[]] w fun e w' => ∃ g f', e = .returned (.slice (some ⟨g, 0, none⟩) l.length l.length) ∧ w.heap.size ≤ g ∧ w'.rowIs g 3 l.length (nums f') ∧ Blk (RK l) (fun p => (p : Int)) f' 0 l.length ∧ Below w.heap.size w w' := by
  have H := hideIt h
  obtain ⟨_, _, a, cap, rfl, _⟩ := h
  obtain ⟨N, hN⟩ : ∃ N, l.length = N := ⟨_, rfl⟩
  have HN := hideIt hN
  rw [hN] at hn ⊢
  rw [hN] at H
  clear hN
  have hmk := run_make_row' (P := Tryz.prog) 162 3 (.int .i64 0) 8 Tryz.underlying162 infoI rfl .i64 .i64 N (by omega) (by omega)
  obtain ⟨W3, hW3⟩ : ∃ W3, W3 = ((w.alloc (.cells #[.slice a N cap] 52)).alloc (.cells #[.func (.func 125) #[] #[]] 164)).alloc (.cells (madeCells #[Value.int .i64 0] N) 3) := ⟨_, rfl⟩
  have hr0 : W3.rowIs (w.heap.size + 1 + 1) 3 N (nums (fillN 0)) := by
    have := World.rowIs_made ((w.alloc (.cells #[.slice a N cap] 52)).alloc (.cells #[.func (.func 125) #[] #[]] 164)) (.int .i64 0) N 3
    simp only [World.size_alloc] at this
    rw [hW3]
    exact this.congr fun j _ => by simp [nums, fillN]
  have d1 : W3.cell? ⟨w.heap.size, 0, none⟩ = some (.slice a N cap) := by
    rw [hW3]
    exact cell_more (cell_more (cell_new1 w _ _) (by rw [World.size_alloc]; omega) _) (by rw [World.size_alloc, World.size_alloc]; omega) _
  have d2 : W3.cell? ⟨w.heap.size + 1, 0, none⟩ = some (.func (.func 125) #[] #[]) := by
    rw [hW3]
    have := cell_new1 (w.alloc (.cells #[.slice a N cap] 52)) (.func (.func 125) #[] #[]) 164
    rw [World.size_alloc] at this
    exact cell_more this (by rw [World.size_alloc, World.size_alloc]; omega) _
  have HZ : Hid (W3.heap.size = w.heap.size + 1 + 1 + 1) := by rw [Hid, hW3]; simp
  have HBW : Hid (Below w.heap.size w W3) := by
    rw [Hid, hW3]
    exact (((Below.refl _ _).alloc (Nat.le_refl _) _).alloc (by simp) _).alloc (by simp; omega) _
  have HW3 := hideIt hW3
  have HR0 := hideIt hr0
  clear hW3 hr0
  go_enter Tryz.func124, Tryz.ntmps124
  go_wp2_with fail
  rw [← HW3.out]
  clear hmk
  go_loopw [12] (fun vi wr => ∃ k : Nat, k ≤ N ∧ vi = .int .i64 k ∧ wr.rowIs (w.heap.size + 1 + 1) 3 N (nums (fillN k)) ∧ Sw (w.heap.size + 1 + 1) W3 wr) (fun vi _ => N - (intOf vi).toNat)
  case atStart => exact ⟨0, Nat.zero_le _, rfl, HR0.out, Sw.refl _ _⟩
  case round =>
    obtain ⟨k, hk, rfl, hrow, hsw⟩ := hrel
    by_cases hlt : k < N
    · have c1 := hrow.cell hlt
      have f1 := hrow.frozen k
      have HNEW : Hid ((wr.setCell ⟨w.heap.size + 1 + 1, k, none⟩ (.int .i64 k)).rowIs (w.heap.size + 1 + 1) 3 N (nums (fillN (k + 1)))) := by
        refine (hrow.set k _).congr fun p _ => ?_
        unfold nums fillN
        by_cases e : p = k
        · subst e; rw [if_pos rfl, if_pos (by omega)]
        · rw [if_neg e]
          by_cases c : p < k
          · rw [if_pos c, if_pos (by omega)]
          · rw [if_neg c, if_neg (by omega)]
      have HSN := hideIt (hsw.set k (.int .i64 k))
      clear hrow hsw
      go_wp2_with fail
      go_roundw
      case rel => exact ⟨k + 1, by omega, by go_num, HNEW.out, HSN.out⟩
      case measure => simp [intOf]; omega
    · obtain rfl : k = N := by omega
      have HC1 := hideIt ((hsw.cell (show w.heap.size < W3.heap.size by rw [HZ.out]; omega) (by omega)).trans d1)
      have HC2 := hideIt ((hsw.cell (show w.heap.size + 1 < W3.heap.size by rw [HZ.out]; omega) (by omega)).trans d2)
      have HSZ : Hid (W3.heap.size ≤ wr.heap.size) := hsw.2.2.2.1
      have HBR : Hid (Below w.heap.size w wr) := HBW.out.trans (hsw.below (by omega) (by rw [HZ.out]; omega))
      have HCM : Hid (CmpAt (w.heap.size + 1 + 1) k wr (.pointer (some ⟨w.heap.size + 1, 0, none⟩)) (.pointer (some ⟨w.heap.size, 0, none⟩)) (cfK l)) := by
        have := closure_any B w.heap.size (w.heap.size + 1 + 1) l (.slice a k cap) wr (H.out.below (HBR.out.mono hB)) HC1.out HC2.out (by have := HSZ.out; rw [HZ.out] at this; omega) (by omega) hB
        rw [HN.out] at this
        exact this
      have HA : Hid (AskedS (RK l) (cfK l) (w.heap.size + 1 + 1) k wr (.pointer (some ⟨w.heap.size + 1, 0, none⟩)) (.pointer (some ⟨w.heap.size, 0, none⟩)) (fun p => (p : Int)) wr) :=
        ⟨rk_tot l, HCM.out, rk_cross l, hrow.congr fun p hp => by unfold nums fillN; rw [if_pos hp], Sw.refl _ _, fun p hp => ⟨by omega, by omega⟩, hn, fun p q h1 h2 => by omega⟩
      clear hrow hsw d1 d2
      go_wp2_with fail
      refine (sortStable_any (RK l) (cfK l) (w.heap.size + 1 + 1) k k wr _ _ (fun p => (p : Int)) wr HA.out).mono ?_
      rintro e w2 ⟨rfl, f2, hr2, hb2, hs2⟩
      have HFIN := hideIt (And.intro hr2 (And.intro hb2 (HBR.out.trans (hs2.below (by omega) (by have := HSZ.out; rw [HZ.out] at this; omega)))))
      clear hr2 hb2 hs2
      go_wp2_with fail
      go_ret
      exact ⟨_, f2, rfl, by omega, HFIN.out⟩
end Go.Proofs.YtagcgnhpdmhegaaGreatDoor

/-
  Parts as pointers: how a tree of parts lies in memory, each part between two blocks, its rows its own. No walk.
-/
namespace Go.Proofs.YtagcgnhpdmhegaaGreatDoor
open Go.RowKit
set_option linter.unusedSimpArgs false
set_option linter.unusedVariables false

/-- The blocks of one part itself. -/
def POwn (p : Nat) (ks it : Value) (x : Nat) : Prop := x = p ∨ ks.ownBlock = some x ∨ it.ownBlock = some x

theorem own_same {w w' : World} {base e s n : Nat} {v : Value} {xs : List Value} (h : w.ownsRow base e s v n xs) (hb : ∀ x, v.ownBlock = some x → w'.heap[x]? = w.heap[x]?) : w'.ownsRow base e s v n xs := by
  refine ⟨h.1, ?_⟩
  rcases h.2 with hn | ⟨g, cap, cur, rfl, hg, hgg, rest⟩
  · exact .inl hn
  · exact .inr ⟨g, cap, cur, rfl, hg, (hb g rfl).trans hgg, rest⟩

end Go.Proofs.YtagcgnhpdmhegaaGreatDoor

/-
  The program's sortedMap: keys and items in the keys' order. What its rounds leave in memory.
-/
namespace Go.Proofs.YtagcgnhpdmhegaaGreatDoor
open Go.RowKit
set_option linter.unusedSimpArgs false
set_option linter.unusedVariables false

/-- The keys, and the items, at the first k places. -/
def keysTo (l : List ByteArray) (f : Nat → Int) (k : Nat) : List Value := (List.range k).map fun j => .string (keyAt l (f j).toNat)
def itemsTo (V : Nat → Value) (f : Nat → Int) (k : Nat) : List Value := (List.range k).map fun j => V (f j).toNat
theorem keysTo_succ (l : List ByteArray) (f : Nat → Int) (k : Nat) : keysTo l f (k + 1) = keysTo l f k ++ [.string (keyAt l (f k).toNat)] := by simp [keysTo, List.range_succ]
theorem itemsTo_succ (V : Nat → Value) (f : Nat → Int) (k : Nat) : itemsTo V f (k + 1) = itemsTo V f k ++ [V (f k).toNat] := by simp [itemsTo, List.range_succ]

/-- The map's two rows, from block base on, n keys and m items; its variable lies in block q, which was there in w1. -/
structure SM (q base : Nat) (w1 wr : World) (n m : Nat) (ks is : List Value) (kv iv : Value) : Prop where
  row : wr.rowIs q 87 2 (fun j => if j = 0 then kv else iv)
  rk : wr.ownsRow base 9 1 kv n ks
  ri : wr.ownsRow base 36 1 iv m is
  sw : Sw q w1 wr
  bs : base ≤ w1.heap.size
  qb : q < base

theorem SM.c0 {q base n m : Nat} {w1 wr : World} {ks is : List Value} {kv iv : Value} (h : SM q base w1 wr n m ks is kv iv) : wr.cell? ⟨q, 0, none⟩ = some kv := h.row.cell (by omega)
theorem SM.c1 {q base n m : Nat} {w1 wr : World} {ks is : List Value} {kv iv : Value} (h : SM q base w1 wr n m ks is kv iv) : wr.cell? ⟨q, 1, none⟩ = some iv := h.row.cell (i := 1) (by omega)

theorem SM.drew {q base n m : Nat} {w1 wr : World} {ks is : List Value} {kv iv : Value} (h : SM q base w1 wr n m ks is kv iv) : SM q base w1 wr.drew n m ks is kv iv := ⟨h.row, h.rk, h.ri, h.sw.drew, h.bs, h.qb⟩

theorem SM.size {q base n m : Nat} {w1 wr : World} {ks is : List Value} {kv iv : Value} (h : SM q base w1 wr n m ks is kv iv) : w1.heap.size ≤ wr.heap.size := h.sw.2.2.2.1

theorem sw_grown {q base : Nat} {w1 wr w5 : World} {o : Obj} {row : Option Nat} (h : Sw q w1 wr) (hg : (wr.alloc o).grownBy w5 row) (hr : ∀ x, row = some x → w1.heap.size ≤ x) : Sw q w1 w5 := by
  have hb : Below w1.heap.size wr w5 := ((Below.refl _ _).alloc h.2.2.2.1 o).grown hg (by have := h.2.2.2.1; simp; omega) (fun x hx => hr x hx)
  exact ⟨hb.os.trans h.1, hb.tape.trans h.2.1, hb.output.trans h.2.2.1, Nat.le_trans h.2.2.2.1 hb.size, fun c h1 h2 => (hb.block c h1).trans (h.2.2.2.2 c h1 h2)⟩

/-- One more key. -/
theorem SM.key {q base n m : Nat} {w1 wr w5 : World} {ks is : List Value} {kv iv kv' u : Value} {o : Obj} (h : SM q base w1 wr n m ks is kv iv) (hb : base = w1.heap.size)
    (hg : (wr.alloc o).grownBy w5 kv.ownBlock) (hown : w5.ownsRow base 9 1 kv' (n + 1) (ks ++ [u])) : SM q base w1 (w5.setCell ⟨q, 0, none⟩ kv') (n + 1) m (ks ++ [u]) is kv' iv := by
  have hz := h.size
  have hqb := h.qb
  have far : ∀ x, x < wr.heap.size → kv.ownBlock ≠ some x → w5.heap[x]? = wr.heap[x]? := fun x hx hne => (hg.block x (by simp; omega) (fun e => hne e.symm)).trans (Below.block ((Below.refl wr.heap.size wr).alloc (Nat.le_refl _) o) x hx)
  have hkq : kv.ownBlock ≠ some q := fun e => by have := (h.rk.lt q e).1; omega
  have hrow5 : w5.rowIs q 87 2 (fun j => if j = 0 then kv else iv) := h.row.of_block (far q h.row.lt hkq)
  have hri5 : w5.ownsRow base 36 1 iv m is := own_same h.ri (fun x hx => by
    refine far x (h.ri.lt x hx).2 (fun e => ?_)
    rcases own_apart h.rk h.ri (by decide) with e2 | e2
    · rw [e2] at e; cases e
    · exact e2 (by rw [e, hx]))
  refine ⟨(hrow5.set 0 kv').congr fun j _ => ?_, ?_, ?_, ?_, h.bs, h.qb⟩
  · by_cases e : j = 0
    · rw [if_pos e, if_pos e]
    · rw [if_neg e, if_neg e, if_neg e]
  · exact own_set hown kv' (fun x hx e => by have := (hown.lt x hx).1; omega)
  · exact own_set hri5 kv' (fun x hx e => by have := (h.ri.lt x hx).1; omega)
  · exact (sw_grown (base := base) h.sw hg (fun x hx => by have := (h.rk.lt x hx).1; omega)).set 0 kv'

/-- One more item. -/
theorem SM.item {q base n m : Nat} {w1 wr w5 : World} {ks is : List Value} {kv iv iv' u : Value} {o : Obj} (h : SM q base w1 wr n m ks is kv iv) (hb : base = w1.heap.size)
    (hg : (wr.alloc o).grownBy w5 iv.ownBlock) (hown : w5.ownsRow base 36 1 iv' (m + 1) (is ++ [u])) : SM q base w1 (w5.setCell ⟨q, 1, none⟩ iv') n (m + 1) ks (is ++ [u]) kv iv' := by
  have hz := h.size
  have hqb := h.qb
  have far : ∀ x, x < wr.heap.size → iv.ownBlock ≠ some x → w5.heap[x]? = wr.heap[x]? := fun x hx hne => (hg.block x (by simp; omega) (fun e => hne e.symm)).trans (Below.block ((Below.refl wr.heap.size wr).alloc (Nat.le_refl _) o) x hx)
  have hkq : iv.ownBlock ≠ some q := fun e => by have := (h.ri.lt q e).1; omega
  have hrow5 : w5.rowIs q 87 2 (fun j => if j = 0 then kv else iv) := h.row.of_block (far q h.row.lt hkq)
  have hrk5 : w5.ownsRow base 9 1 kv n ks := own_same h.rk (fun x hx => by
    refine far x (h.rk.lt x hx).2 (fun e => ?_)
    rcases own_apart h.rk h.ri (by decide) with e2 | e2
    · rw [e2] at hx; cases hx
    · exact e2 (by rw [e, hx]))
  refine ⟨(hrow5.set 1 iv').congr fun j hj => ?_, ?_, ?_, ?_, h.bs, h.qb⟩
  · by_cases e : j = 1
    · rw [if_pos e, if_neg (by omega)]
    · rw [if_neg e, if_pos (by omega), if_pos (by omega)]
  · exact own_set hrk5 iv' (fun x hx e => by have := (h.rk.lt x hx).1; omega)
  · exact own_set hown iv' (fun x hx e => by have := (hown.lt x hx).1; omega)
  · exact (sw_grown (base := base) h.sw hg (fun x hx => by have := (h.ri.lt x hx).1; omega)).set 1 iv'
end Go.Proofs.YtagcgnhpdmhegaaGreatDoor
