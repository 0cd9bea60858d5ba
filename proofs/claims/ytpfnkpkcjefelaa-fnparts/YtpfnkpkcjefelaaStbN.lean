/-
  The program's sortedPlaces with strings.Compare: the places of texts, so that the texts rise.
-/
import Derived.Test.YtpfnkpkcjefelaaSortQ
import Derived.Test.YtpfnkpkcjefelaaPT
import Derived.Test.YtpfnkpkcjefelaaStepC
namespace Go.Proofs.Ytpfnkpkcjefelaa
open Go.RowKit
set_option linter.unusedSimpArgs false
set_option linter.unusedVariables false

theorem Sw.cell {g : Nat} {w w' : World} (h : Sw g w w') {b o : Nat} (hb : b < w.heap.size) (hg : b ≠ g) : w'.cell? ⟨b, o, none⟩ = w.cell? ⟨b, o, none⟩ := h.2.2.2.cell hb hg

set_option maxRecDepth 100000 in
set_option maxHeartbeats 3200000 in
theorem closure_any (B h g : Nat) (l : List ByteArray) (v : Value) (w0 : World) (hl : StrsAt B w0 v l) (h1 : w0.cell? ⟨h, 0, none⟩ = some v) (h2 : w0.cell? ⟨h + 1, 0, none⟩ = some (.func (.func 86) #[] #[])) (hh : h + 1 < w0.heap.size) (hg : h + 1 < g) (hB : B ≤ h) :
    CmpAt g l.length w0 (.pointer (some ⟨h + 1, 0, none⟩)) (.pointer (some ⟨h, 0, none⟩)) (cfK l) := by
  intro W hsw x y hx1 hx2 hy1 hy2
  obtain ⟨i, rfl⟩ : ∃ i : Nat, x = (i : Int) := ⟨x.toNat, by omega⟩
  obtain ⟨j, rfl⟩ : ∃ j : Nat, y = (j : Int) := ⟨y.toNat, by omega⟩
  obtain ⟨hln, _, a, cap, rfl, hc⟩ := hl
  obtain ⟨b, o, rfl, hb, hcc⟩ := hc (by omega)
  have d1 := (hsw.cell (show h < w0.heap.size by omega) (show h ≠ g by omega)).trans h1
  have d2 := (hsw.cell hh (show h + 1 ≠ g by omega)).trans h2
  have d3 := (hsw.cell (show b < w0.heap.size by omega) (show b ≠ g by omega)).trans (hcc i (by omega))
  have d4 := (hsw.cell (show b < w0.heap.size by omega) (show b ≠ g by omega)).trans (hcc j (by omega))
  have hi : i < l.length := by omega
  have hj : j < l.length := by omega
  have HE : Hid (cfK l (i : Int) (j : Int) = cmpS (keyAt l i) (keyAt l j)) := by rw [Hid, cfK, Int.toNat_natCast, Int.toNat_natCast]
  clear hcc hc h1 h2 hx1 hx2 hy1 hy2
  go_enter Try.func116, Try.ntmps116
  go_wp2_with fail
  go_quiet ((go_at_call 86; exact Calls.quiet_of_same (stringsCompare_any _ _ _)))
  go_wp2_with fail
  go_ret
  exact ⟨by rw [HE.out]; rfl, nq, rfl⟩

set_option maxHeartbeats 1600000 in
theorem sortStable_any (R : Int → Int → Prop) (cf : Int → Int → Int) (g N cap : Nat) (w0 : World) (c1 c2 : Value) (f : Nat → Int) (w : World) (h : AskedS R cf g N w0 c1 c2 f w) :
    Calls Try.prog 115 #[.slice (some ⟨g, 0, none⟩) N cap, .func (.func 116) #[] #[c1, c2]] w fun e w' => e = .returned (.tuple #[]) ∧ ∃ f', w'.rowIs g 3 N (nums f') ∧ Blk R f f' 0 N ∧ Sw g w0 w' := by
  have H := hideIt h
  have hNN := h.NN
  clear h
  go_enter Try.func115, Try.ntmps115
  go_wp2_with fail
  refine (stable_any R cf g N cap w0 c1 c2 f w H.out).mono ?_
  rintro e w1 ⟨rfl, f1, hr1, hm1, hs1⟩
  have HH := hideIt (And.intro hr1 (And.intro hm1 hs1))
  clear hr1 hm1 hs1
  go_wp2_with fail
  exact ⟨rfl, .tuple #[], results_none rfl _ _ _, rfl, f1, HH.out⟩

theorem cell_new1 (w : World) (v : Value) (t : TypeId) : (w.alloc (.cells #[v] t)).cell? ⟨w.heap.size, 0, none⟩ = some v := by
  have h := heap_alloc_new w (.cells #[v] t)
  unfold World.cell?
  simp only [h]
  rfl
theorem cell_more {w : World} {b o : Nat} {v : Value} (h : w.cell? ⟨b, o, none⟩ = some v) (hb : b < w.heap.size) (ob : Obj) : (w.alloc ob).cell? ⟨b, o, none⟩ = some v := (below_cell ((Below.refl w.heap.size w).alloc (Nat.le_refl _) ob) hb).trans h

theorem infoI : (Try.prog.info? 3).map (fun i => (i.zero, i.size, i.bytes)) = some (some (.int .i64 0), 1, 8) := by kernel_rfl

def fillN (k j : Nat) : Int := if j < k then (j : Int) else 0

set_option maxRecDepth 100000 in
set_option maxHeartbeats 3200000 in
theorem sortedPlaces_any (B : Nat) (v : Value) (l : List ByteArray) (w : World) (h : StrsAt B w v l) (hB : B ≤ w.heap.size) (hn : l.length ≤ 1048576) :
    Calls Try.prog 95 #[v, .func (.func 86) #[] #[]] w fun e w' => ∃ g f', e = .returned (.slice (some ⟨g, 0, none⟩) l.length l.length) ∧ w.heap.size ≤ g ∧ w'.rowIs g 3 l.length (nums f') ∧ Blk (RK l) (fun p => (p : Int)) f' 0 l.length ∧ Below w.heap.size w w' := by
  have H := hideIt h
  obtain ⟨_, _, a, cap, rfl, _⟩ := h
  obtain ⟨N, hN⟩ : ∃ N, l.length = N := ⟨_, rfl⟩
  have HN := hideIt hN
  rw [hN] at hn ⊢
  rw [hN] at H
  clear hN
  have hmk := run_make_row' (P := Try.prog) 136 3 (.int .i64 0) 8 Try.underlying136 infoI rfl .i64 .i64 N (by omega) (by omega)
  obtain ⟨W3, hW3⟩ : ∃ W3, W3 = ((w.alloc (.cells #[.slice a N cap] 38)).alloc (.cells #[.func (.func 86) #[] #[]] 125)).alloc (.cells (madeCells #[Value.int .i64 0] N) 3) := ⟨_, rfl⟩
  have hr0 : W3.rowIs (w.heap.size + 1 + 1) 3 N (nums (fillN 0)) := by
    have := World.rowIs_made ((w.alloc (.cells #[.slice a N cap] 38)).alloc (.cells #[.func (.func 86) #[] #[]] 125)) (.int .i64 0) N 3
    simp only [World.size_alloc] at this
    rw [hW3]
    exact this.congr fun j _ => by simp [nums, fillN]
  have d1 : W3.cell? ⟨w.heap.size, 0, none⟩ = some (.slice a N cap) := by
    rw [hW3]
    exact cell_more (cell_more (cell_new1 w _ _) (by rw [World.size_alloc]; omega) _) (by rw [World.size_alloc, World.size_alloc]; omega) _
  have d2 : W3.cell? ⟨w.heap.size + 1, 0, none⟩ = some (.func (.func 86) #[] #[]) := by
    rw [hW3]
    have := cell_new1 (w.alloc (.cells #[.slice a N cap] 38)) (.func (.func 86) #[] #[]) 125
    rw [World.size_alloc] at this
    exact cell_more this (by rw [World.size_alloc, World.size_alloc]; omega) _
  have HZ : Hid (W3.heap.size = w.heap.size + 1 + 1 + 1) := by rw [Hid, hW3]; simp
  have HBW : Hid (Below w.heap.size w W3) := by
    rw [Hid, hW3]
    exact (((Below.refl _ _).alloc (Nat.le_refl _) _).alloc (by simp) _).alloc (by simp; omega) _
  have HW3 := hideIt hW3
  have HR0 := hideIt hr0
  clear hW3 hr0
  go_enter Try.func95, Try.ntmps95
  go_wp2_with fail
  rw [← HW3.out]
  clear hmk
  go_loopw [12] (fun vi wr => ∃ k : Nat, k ≤ N ∧ vi = .int .i64 k ∧ wr.rowIs (w.heap.size + 1 + 1) 3 N (nums (fillN k)) ∧ Sw (w.heap.size + 1 + 1) W3 wr) (fun vi _ => N - (intOf vi).toNat)
  case atStart => exact ⟨0, Nat.zero_le _, rfl, HR0.out, Sw.refl _ _⟩
  case round =>
    obtain ⟨k, hk, rfl, hrow, hsw⟩ := hrel
    by_cases hlt : k < N
    · have c1 := hrow.cell hlt
      have f1 := hrow.frozen k
      have HNEW : Hid ((wr.setCell ⟨w.heap.size + 1 + 1, k, none⟩ (.int .i64 k)).rowIs (w.heap.size + 1 + 1) 3 N (nums (fillN (k + 1)))) := by
        refine (hrow.set k _).congr fun p _ => ?_
        unfold nums fillN
        by_cases e : p = k
        · subst e; rw [if_pos rfl, if_pos (by omega)]
        · rw [if_neg e]
          by_cases c : p < k
          · rw [if_pos c, if_pos (by omega)]
          · rw [if_neg c, if_neg (by omega)]
      have HSN := hideIt (hsw.set k (.int .i64 k))
      clear hrow hsw
      go_wp2_with fail
      go_roundw
      case rel => exact ⟨k + 1, by omega, by go_num, HNEW.out, HSN.out⟩
      case measure => simp [intOf]; omega
    · obtain rfl : k = N := by omega
      have HC1 := hideIt ((hsw.cell (show w.heap.size < W3.heap.size by rw [HZ.out]; omega) (by omega)).trans d1)
      have HC2 := hideIt ((hsw.cell (show w.heap.size + 1 < W3.heap.size by rw [HZ.out]; omega) (by omega)).trans d2)
      have HSZ : Hid (W3.heap.size ≤ wr.heap.size) := hsw.2.2.2.1
      have HBR : Hid (Below w.heap.size w wr) := HBW.out.trans (hsw.below (by omega) (by rw [HZ.out]; omega))
      have HCM : Hid (CmpAt (w.heap.size + 1 + 1) k wr (.pointer (some ⟨w.heap.size + 1, 0, none⟩)) (.pointer (some ⟨w.heap.size, 0, none⟩)) (cfK l)) := by
        have := closure_any B w.heap.size (w.heap.size + 1 + 1) l (.slice a k cap) wr (H.out.below (HBR.out.mono hB)) HC1.out HC2.out (by have := HSZ.out; rw [HZ.out] at this; omega) (by omega) hB
        rw [HN.out] at this
        exact this
      have HA : Hid (AskedS (RK l) (cfK l) (w.heap.size + 1 + 1) k wr (.pointer (some ⟨w.heap.size + 1, 0, none⟩)) (.pointer (some ⟨w.heap.size, 0, none⟩)) (fun p => (p : Int)) wr) :=
        ⟨rk_tot l, HCM.out, rk_cross l, hrow.congr fun p hp => by unfold nums fillN; rw [if_pos hp], Sw.refl _ _, fun p hp => ⟨by omega, by omega⟩, hn, fun p q h1 h2 => by omega⟩
      clear hrow hsw d1 d2
      go_wp2_with fail
      refine (sortStable_any (RK l) (cfK l) (w.heap.size + 1 + 1) k k wr _ _ (fun p => (p : Int)) wr HA.out).mono ?_
      rintro e w2 ⟨rfl, f2, hr2, hb2, hs2⟩
      have HFIN := hideIt (And.intro hr2 (And.intro hb2 (HBR.out.trans (hs2.below (by omega) (by have := HSZ.out; rw [HZ.out] at this; omega)))))
      clear hr2 hb2 hs2
      go_wp2_with fail
      go_ret
      exact ⟨_, f2, rfl, by omega, HFIN.out⟩
end Go.Proofs.Ytpfnkpkcjefelaa

/-
  The program's sortedMap: keys and items in the keys' order. What its rounds leave in memory.
-/
namespace Go.Proofs.Ytpfnkpkcjefelaa
open Go.RowKit
set_option linter.unusedSimpArgs false
set_option linter.unusedVariables false

/-- The keys, and the items, at the first k places. -/
def keysTo (l : List ByteArray) (f : Nat → Int) (k : Nat) : List Value := (List.range k).map fun j => .string (keyAt l (f j).toNat)
def itemsTo (V : Nat → Value) (f : Nat → Int) (k : Nat) : List Value := (List.range k).map fun j => V (f j).toNat
theorem keysTo_succ (l : List ByteArray) (f : Nat → Int) (k : Nat) : keysTo l f (k + 1) = keysTo l f k ++ [.string (keyAt l (f k).toNat)] := by simp [keysTo, List.range_succ]
theorem itemsTo_succ (V : Nat → Value) (f : Nat → Int) (k : Nat) : itemsTo V f (k + 1) = itemsTo V f k ++ [V (f k).toNat] := by simp [itemsTo, List.range_succ]

/-- The map's two rows, from block base on, n keys and m items; its variable lies in block q, which was there in w1. -/
structure SM (q base : Nat) (w1 wr : World) (n m : Nat) (ks is : List Value) (kv iv : Value) : Prop where
  row : wr.rowIs q 95 2 (fun j => if j = 0 then kv else iv)
  rk : wr.ownsRow base 9 1 kv n ks
  ri : wr.ownsRow base 73 1 iv m is
  sw : Sw q w1 wr
  bs : base ≤ w1.heap.size
  qb : q < base

theorem SM.c0 {q base n m : Nat} {w1 wr : World} {ks is : List Value} {kv iv : Value} (h : SM q base w1 wr n m ks is kv iv) : wr.cell? ⟨q, 0, none⟩ = some kv := h.row.cell (by omega)
theorem SM.c1 {q base n m : Nat} {w1 wr : World} {ks is : List Value} {kv iv : Value} (h : SM q base w1 wr n m ks is kv iv) : wr.cell? ⟨q, 1, none⟩ = some iv := h.row.cell (i := 1) (by omega)

theorem SM.drew {q base n m : Nat} {w1 wr : World} {ks is : List Value} {kv iv : Value} (h : SM q base w1 wr n m ks is kv iv) : SM q base w1 wr.drew n m ks is kv iv := ⟨h.row, h.rk, h.ri, h.sw.drew, h.bs, h.qb⟩

theorem SM.size {q base n m : Nat} {w1 wr : World} {ks is : List Value} {kv iv : Value} (h : SM q base w1 wr n m ks is kv iv) : w1.heap.size ≤ wr.heap.size := h.sw.2.2.2.1

theorem sw_grown {q base : Nat} {w1 wr w5 : World} {o : Obj} {row : Option Nat} (h : Sw q w1 wr) (hg : (wr.alloc o).grownBy w5 row) (hr : ∀ x, row = some x → w1.heap.size ≤ x) : Sw q w1 w5 := by
  have hb : Below w1.heap.size wr w5 := ((Below.refl _ _).alloc h.2.2.2.1 o).grown hg (by have := h.2.2.2.1; simp; omega) (fun x hx => hr x hx)
  exact ⟨hb.os.trans h.1, hb.tape.trans h.2.1, hb.output.trans h.2.2.1, Nat.le_trans h.2.2.2.1 hb.size, fun c h1 h2 => (hb.block c h1).trans (h.2.2.2.2 c h1 h2)⟩

/-- One more key. -/
theorem SM.key {q base n m : Nat} {w1 wr w5 : World} {ks is : List Value} {kv iv kv' u : Value} {o : Obj} (h : SM q base w1 wr n m ks is kv iv) (hb : base = w1.heap.size)
    (hg : (wr.alloc o).grownBy w5 kv.ownBlock) (hown : w5.ownsRow base 9 1 kv' (n + 1) (ks ++ [u])) : SM q base w1 (w5.setCell ⟨q, 0, none⟩ kv') (n + 1) m (ks ++ [u]) is kv' iv := by
  have hz := h.size
  have hqb := h.qb
  have far : ∀ x, x < wr.heap.size → kv.ownBlock ≠ some x → w5.heap[x]? = wr.heap[x]? := fun x hx hne => (hg.block x (by simp; omega) (fun e => hne e.symm)).trans (Below.block ((Below.refl wr.heap.size wr).alloc (Nat.le_refl _) o) x hx)
  have hkq : kv.ownBlock ≠ some q := fun e => by have := (h.rk.lt q e).1; omega
  have hrow5 : w5.rowIs q 95 2 (fun j => if j = 0 then kv else iv) := h.row.of_block (far q h.row.lt hkq)
  have hri5 : w5.ownsRow base 73 1 iv m is := own_same h.ri (fun x hx => by
    refine far x (h.ri.lt x hx).2 (fun e => ?_)
    rcases own_apart h.rk h.ri (by decide) with e2 | e2
    · rw [e2] at e; cases e
    · exact e2 (by rw [e, hx]))
  refine ⟨(hrow5.set 0 kv').congr fun j _ => ?_, ?_, ?_, ?_, h.bs, h.qb⟩
  · by_cases e : j = 0
    · rw [if_pos e, if_pos e]
    · rw [if_neg e, if_neg e, if_neg e]
  · exact own_set hown kv' (fun x hx e => by have := (hown.lt x hx).1; omega)
  · exact own_set hri5 kv' (fun x hx e => by have := (h.ri.lt x hx).1; omega)
  · exact (sw_grown (base := base) h.sw hg (fun x hx => by have := (h.rk.lt x hx).1; omega)).set 0 kv'

/-- One more item. -/
theorem SM.item {q base n m : Nat} {w1 wr w5 : World} {ks is : List Value} {kv iv iv' u : Value} {o : Obj} (h : SM q base w1 wr n m ks is kv iv) (hb : base = w1.heap.size)
    (hg : (wr.alloc o).grownBy w5 iv.ownBlock) (hown : w5.ownsRow base 73 1 iv' (m + 1) (is ++ [u])) : SM q base w1 (w5.setCell ⟨q, 1, none⟩ iv') n (m + 1) ks (is ++ [u]) kv iv' := by
  have hz := h.size
  have hqb := h.qb
  have far : ∀ x, x < wr.heap.size → iv.ownBlock ≠ some x → w5.heap[x]? = wr.heap[x]? := fun x hx hne => (hg.block x (by simp; omega) (fun e => hne e.symm)).trans (Below.block ((Below.refl wr.heap.size wr).alloc (Nat.le_refl _) o) x hx)
  have hkq : iv.ownBlock ≠ some q := fun e => by have := (h.ri.lt q e).1; omega
  have hrow5 : w5.rowIs q 95 2 (fun j => if j = 0 then kv else iv) := h.row.of_block (far q h.row.lt hkq)
  have hrk5 : w5.ownsRow base 9 1 kv n ks := own_same h.rk (fun x hx => by
    refine far x (h.rk.lt x hx).2 (fun e => ?_)
    rcases own_apart h.rk h.ri (by decide) with e2 | e2
    · rw [e2] at hx; cases hx
    · exact e2 (by rw [e, hx]))
  refine ⟨(hrow5.set 1 iv').congr fun j hj => ?_, ?_, ?_, ?_, h.bs, h.qb⟩
  · by_cases e : j = 1
    · rw [if_pos e, if_neg (by omega)]
    · rw [if_neg e, if_pos (by omega), if_pos (by omega)]
  · exact own_set hrk5 iv' (fun x hx e => by have := (h.rk.lt x hx).1; omega)
  · exact own_set hown iv' (fun x hx e => by have := (hown.lt x hx).1; omega)
  · exact (sw_grown (base := base) h.sw hg (fun x hx => by have := (h.ri.lt x hx).1; omega)).set 1 iv'
end Go.Proofs.Ytpfnkpkcjefelaa

/-
  The program's sortedMap: it gives the keys and the items in the keys' order.
-/
namespace Go.Proofs.Ytpfnkpkcjefelaa
open Go.RowKit
set_option linter.unusedSimpArgs false
set_option linter.unusedVariables false

theorem infoS1 : (Try.prog.info? 9).map (fun i => (i.zero, i.size, i.bytes)) = some (some (.string ByteArray.empty), 1, 16) := by kernel_rfl
theorem infoV1 : (Try.prog.info? 73).map (fun i => (i.zero, i.size, i.bytes)) = some (some .nilIface, 1, 16) := by kernel_rfl

/-- A row of values, as it is read. -/
def ItsAt (w : World) (iv : Value) (N : Nat) (V : Nat → Value) : Prop := ∃ a cap, iv = .slice a N cap ∧ (0 < N → ∃ b, a = some ⟨b, 0, none⟩ ∧ b < w.heap.size ∧ ∀ j, j < N → w.cell? ⟨b, j, none⟩ = some (V j) ∧ ∃ t x, V j = .iface t x)

set_option maxRecDepth 100000 in
set_option maxHeartbeats 8000000 in
theorem sortedMap_any (B : Nat) (kv iv : Value) (l : List ByteArray) (V : Nat → Value) (w : World) (hk : StrsAt B w kv l) (hi : ItsAt w iv l.length V) (hB : B ≤ w.heap.size) (hn : l.length ≤ 10000) :
    Calls Try.prog 67 #[kv, iv] w fun e w' => ∃ f k2 i2, e = .returned (.agg #[k2, i2]) ∧ Blk (RK l) (fun p => (p : Int)) f 0 l.length ∧ w'.ownsRow w.heap.size 9 1 k2 l.length (keysTo l f l.length) ∧ w'.ownsRow w.heap.size 73 1 i2 l.length (itemsTo V f l.length) ∧ Below w.heap.size w w' := by
  have HK := hideIt hk
  have HI := hideIt hi
  obtain ⟨_, hks, ak, ck, rfl, hkc⟩ := hk
  obtain ⟨ai, ci, rfl, hic⟩ := hi
  have HKC := hideIt hkc
  have HIC := hideIt hic
  clear hkc hic
  obtain ⟨N, hN⟩ : ∃ N, l.length = N := ⟨_, rfl⟩
  have HN := hideIt hN
  have HKS := hideIt hks
  rw [hN] at hn HKC HIC ⊢
  rw [hN] at HK
  clear hN hks
  obtain ⟨j0, hj0, hy0, hs0, hb0⟩ := info_parts infoS1
  obtain ⟨j1, hj1, hy1, hs1, hb1'⟩ := info_parts infoV1
  obtain ⟨W2, hW2⟩ : ∃ W2, W2 = (w.alloc (.cells #[.slice none 0 0, .slice none 0 0] 95)).alloc (.cells #[.slice none 0 0, .slice none 0 0] 95) := ⟨_, rfl⟩
  have hr2 : W2.rowIs (w.heap.size + 1) 95 2 (fun j => if j = 0 then .slice none 0 0 else .slice none 0 0) := by
    have := World.rowIs_alloc (w.alloc (.cells #[.slice none 0 0, .slice none 0 0] 95)) #[.slice none 0 0, .slice none 0 0] 95 (fun _ => .slice none 0 0) (fun i hi => by
      match i, hi with
      | 0, _ => rfl
      | 1, _ => rfl)
    rw [World.size_alloc] at this
    rw [hW2]
    exact this.congr fun j _ => by simp
  have hr3 : W2.rowIs w.heap.size 95 2 (fun _ => .slice none 0 0) := by
    have := World.rowIs_alloc w #[.slice none 0 0, .slice none 0 0] 95 (fun _ => .slice none 0 0) (fun i hi => by
      match i, hi with
      | 0, _ => rfl
      | 1, _ => rfl)
    rw [hW2]
    exact this.alloc _
  have HR3 := hideIt hr3
  clear hr3
  have hz2 : W2.heap.size = w.heap.size + 1 + 1 := by rw [hW2, World.size_alloc, World.size_alloc]
  have hbw : Below w.heap.size w W2 := by
    rw [hW2]
    exact ((Below.refl _ _).alloc (Nat.le_refl _) _).alloc (by rw [World.size_alloc]; omega) _
  have HW2 := hideIt hW2
  have HR2 := hideIt hr2
  have HZ2 := hideIt hz2
  have HBW := hideIt hbw
  clear hW2 hr2 hz2 hbw
  go_enter Try.func67, Try.ntmps67
  go_wp2_with fail
  rw [← HW2.out]
  refine (sortedPlaces_any B _ l W2 (HK.out.below (HBW.out.mono hB)) (by rw [HZ2.out]; omega) (by rw [HN.out]; omega)).mono ?_
  rintro e w1 ⟨g, f, rfl, hg, hrow, hblk, hb1⟩
  rw [HN.out] at hrow hblk ⊢
  rw [HZ2.out] at hg
  have HROW := hideIt hrow
  have HBLK := hideIt hblk
  have hgl := hrow.lt
  have z1 := hb1.size
  rw [HZ2.out] at z1
  have HR4 := hideIt (rowIs_below HR3.out hb1 (by rw [HZ2.out]; omega))
  have HB1 : Hid (Below w.heap.size w w1) := HBW.out.trans (hb1.mono (by rw [HZ2.out]; omega))
  have HS0 : Hid (SM (w.heap.size + 1) w1.heap.size w1 w1 0 0 [] [] (.slice none 0 0) (.slice none 0 0)) := ⟨rowIs_below HR2.out hb1 (by rw [HZ2.out]; omega), World.ownsRow_nil _ _ _ _, World.ownsRow_nil _ _ _ _, Sw.refl _ _, Nat.le_refl _, by omega⟩
  clear hrow hblk hb1
  go_wp2_with fail
  go_loopw [11] (fun vi wr => ∃ (k : Nat) (kv iv : Value), k ≤ N ∧ vi = .int .i64 k ∧ SM (w.heap.size + 1) w1.heap.size w1 wr k k (keysTo l f k) (itemsTo V f k) kv iv) (fun vi _ => N - (intOf vi).toNat)
  case atStart => exact ⟨0, _, _, Nat.zero_le _, rfl, HS0.out⟩
  case round =>
    obtain ⟨k, kv, iv, hk, rfl, hsm⟩ := hrel
    clear HS0
    have HSM := hideIt hsm
    obtain ⟨a3, c3, e3⟩ := own_slice hsm.rk
    obtain ⟨a4, c4, e4⟩ := own_slice hsm.ri
    subst e3 e4
    have q0 := hsm.c0
    have q1 := hsm.c1
    have fq := hsm.row.frozen
    have hql := hsm.row.lt
    have zr := hsm.size
    by_cases hlt : k < N
    case neg =>
      obtain rfl : k = N := by omega
      have HBR : Hid (Below w.heap.size w wr) := HB1.out.trans (hsm.sw.below (by omega) (by omega))
      have hr5 : wr.rowIs w.heap.size 95 2 (fun _ => .slice none 0 0) := HR4.out.of_block (hsm.sw.2.2.2.2 w.heap.size (by omega) (by show ¬ w.heap.size = w.heap.size + 1; omega))
      have y0 := hr5.cell (i := 0) (by omega)
      have y1 := hr5.cell (i := 1) (by omega)
      have fy := hr5.frozen
      have hne : w.heap.size ≠ w.heap.size + 1 := by omega
      have HK2 := hideIt (own_mono (own_set (o := 1) (own_set (o := 0) hsm.rk (b := w.heap.size) (.slice a3 k c3) (fun x hx => by have := (hsm.rk.lt x hx).1; omega)) (b := w.heap.size) (.slice a4 k c4) (fun x hx => by have := (hsm.rk.lt x hx).1; omega)) (show w.heap.size ≤ w1.heap.size by omega))
      have HI2 := hideIt (own_mono (own_set (o := 1) (own_set (o := 0) hsm.ri (b := w.heap.size) (.slice a3 k c3) (fun x hx => by have := (hsm.ri.lt x hx).1; omega)) (b := w.heap.size) (.slice a4 k c4) (fun x hx => by have := (hsm.ri.lt x hx).1; omega)) (show w.heap.size ≤ w1.heap.size by omega))
      clear hsm hr5
      go_wp2_with fail
      refine bodyPost_ret (v := .agg #[.slice a3 k c3, .slice a4 k c4]) (by simp [results, Try.results67, go_sem, y0, y1, hne]) rfl ⟨f, _, _, rfl, HBLK.out, HK2.out, HI2.out, ?_⟩
      exact (HBR.out.setCell (p := ⟨w.heap.size, 0, none⟩) (Nat.le_refl _) _).setCell (p := ⟨w.heap.size, 1, none⟩) (Nat.le_refl _) _
    case pos =>
    obtain ⟨p, p1, p2, p3⟩ := HBLK.out.1 k (Nat.zero_le _) hlt
    have hfk : f k = (p : Int) := p3
    obtain ⟨bK, oK, rfl, hbK, hcK⟩ := HKC.out (by omega)
    obtain ⟨bI, rfl, hbI, hcI⟩ := HIC.out (by omega)
    obtain ⟨hcI1, tI, xI, eI⟩ := hcI p (by omega)
    have d1 : wr.cell? ⟨g, k, none⟩ = some (.int .i64 (p : Int)) := by
      rw [hsm.sw.cell hgl (by omega), HROW.out.cell hlt]
      unfold nums
      rw [hfk]
    have d2 : wr.cell? ⟨bK, oK + p, none⟩ = some (.string (keyAt l p)) := by
      rw [hsm.sw.cell (by omega) (by omega), below_cell HB1.out (by omega)]
      exact hcK p (by omega)
    have d3 : wr.cell? ⟨bI, p, none⟩ = some (.iface tI xI) := by
      rw [hsm.sw.cell (by omega) (by omega), below_cell HB1.out hbI, hcI1, eI]
    have HD3 : Hid (w1.cell? ⟨bI, p, none⟩ = some (.iface tI xI)) := by rw [Hid, below_cell HB1.out hbI, hcI1, eI]
    have hpN : p < N := by omega
    have HKS1 : Hid (keysTo l f (k + 1) = keysTo l f k ++ [.string (keyAt l p)]) := by rw [Hid, keysTo_succ, hfk, Int.toNat_natCast]
    have HIT1 : Hid (itemsTo V f (k + 1) = itemsTo V f k ++ [.iface tI xI]) := by rw [Hid, itemsTo_succ, hfk, Int.toNat_natCast, eI]
    clear hcK hcI hcI1 p3 hfk hsm
    obtain ⟨s, hs⟩ : ∃ s, keyAt l p = s := ⟨_, rfl⟩
    rw [hs] at d2 HKS1
    clear hs
    have HRK : Hid ((wr.drew.alloc (.cells #[.string s] 9)).ownsRow w1.heap.size 9 1 (.slice a3 k c3) k (keysTo l f k)) := own_below HSM.out.rk (((Below.refl wr.heap.size wr).drew).alloc (Nat.le_refl _) _) (fun x hx => (HSM.out.rk.lt x hx).2)
    have HNW : Hid (∀ j u, [Value.string s][j]? = some u → (wr.drew.alloc (.cells #[.string s] 9)).cell? ((⟨wr.heap.size, 0, none⟩ : Addr).add j) = some u) := World.news_of_block (cs := #[.string s]) (t := 9) (fr := (0, 0)) (heap_alloc_new wr.drew _)
    have hone : ∀ u ∈ [Value.string s], u.oneCell' = true := fun u hu => by simp at hu; subst hu; rfl
    have hml : k + 1 ≤ maxLen := by unfold maxLen; omega
    have hby : (k + 1) * 16 ≤ 140737488355328 := by omega
    have hbs : w1.heap.size ≤ (wr.drew.alloc (.cells #[.string s] 9)).heap.size := by simp; omega
    have htop : (wr.drew.alloc (.cells #[.string s] 9)).heap.size = wr.heap.size + 1 := by simp
    have HQK : Hid ((Value.slice a3 k c3).ownBlock ≠ some (w.heap.size + 1)) := fun e => by have := (HSM.out.rk.lt _ e).1; omega
    have x0 : (wr.drew.alloc (.cells #[.string s] 9)).cell? ⟨w.heap.size + 1, 0, none⟩ = some (.slice a3 k c3) := cell_more q0 hql _
    have HX0 := hideIt x0
    have HF0 : Hid ((wr.drew.alloc (.cells #[.string s] 9)).frozen? ⟨w.heap.size + 1, 0, none⟩ = false) := (((Below.refl wr.heap.size wr).drew.alloc (Nat.le_refl _) _).frozen (p := ⟨w.heap.size + 1, 0, none⟩) hql).trans (fq 0)
    clear x0
    go_wp2_with fail
    go_region_law
      (refine step_append_lies _ (by rfl) _ _ _ (by rfl) w1.heap.size 9 j0 (.string ByteArray.empty) 1 16 Try.underlying38 hj0 hy0 hs0 hb0 rfl (by omega) (.slice a3 k c3) k (keysTo l f k) (by rfl) HRK.out ⟨wr.heap.size, 0, none⟩ 1 1 [.string s] (by rfl) (by rfl) HNW.out hone (by omega) hml hby hbs (wr.heap.size + 1) htop ?_; intro g5 cap5 w5 hown hgrow hat hlt5; have hS3 : w5.cell? ⟨w.heap.size + 1, 0, none⟩ = some (.slice a3 k c3) := (World.grownBy.cell_far hgrow ⟨w.heap.size + 1, 0, none⟩ (by simp; omega) (Ne.symm HQK.out)).trans HX0.out; have hf3 : w5.frozen? ⟨w.heap.size + 1, 0, none⟩ = false := (World.grownBy.frozen_far hgrow ⟨w.heap.size + 1, 0, none⟩ (by simp; omega) (Ne.symm HQK.out)).trans HF0.out)
    all_goals
      have HG5 : Hid ((wr.drew.alloc (.cells #[.string s] 9)).grownBy w5 (Value.slice a3 k c3).ownBlock) := hgrow
      have HSK := hideIt (HSM.out.drew.key rfl HG5.out hown)
      generalize w5.setCell ⟨w.heap.size + 1, 0, none⟩ (Value.slice (some ⟨g5, 0, none⟩) (k + 1) cap5) = W6 at HSK ⊢
      clear HG5 hgrow hown hat hlt5 hS3 hf3 HRK HNW hone hbs htop HQK HX0 HF0 q0 q1 fq hql zr d1 d2 d3 HSM
      have q1 := HSK.out.c1
      have fq := HSK.out.row.frozen
      have hql := HSK.out.row.lt
      have zr := HSK.out.size
      have d3 : W6.cell? ⟨bI, p, none⟩ = some (.iface tI xI) := (HSK.out.sw.cell (by omega) (by omega)).trans HD3.out
      have HRI : Hid ((W6.drew.alloc (.cells #[.iface tI xI] 73)).ownsRow w1.heap.size 73 1 (.slice a4 k c4) k (itemsTo V f k)) := own_below HSK.out.ri (((Below.refl W6.heap.size W6).drew).alloc (Nat.le_refl _) _) (fun x hx => (HSK.out.ri.lt x hx).2)
      have HNW : Hid (∀ j u, [Value.iface tI xI][j]? = some u → (W6.drew.alloc (.cells #[.iface tI xI] 73)).cell? ((⟨W6.heap.size, 0, none⟩ : Addr).add j) = some u) := World.news_of_block (cs := #[.iface tI xI]) (t := 73) (fr := (0, 0)) (heap_alloc_new W6.drew _)
      have hone : ∀ u ∈ [Value.iface tI xI], u.oneCell' = true := fun u hu => by simp at hu; subst hu; rfl
      have hbs : w1.heap.size ≤ (W6.drew.alloc (.cells #[.iface tI xI] 73)).heap.size := by simp; omega
      have htop : (W6.drew.alloc (.cells #[.iface tI xI] 73)).heap.size = W6.heap.size + 1 := by simp
      have HQI : Hid ((Value.slice a4 k c4).ownBlock ≠ some (w.heap.size + 1)) := fun e => by have := (HSK.out.ri.lt _ e).1; omega
      have HX1 : Hid ((W6.drew.alloc (.cells #[.iface tI xI] 73)).cell? ⟨w.heap.size + 1, 1, none⟩ = some (.slice a4 k c4)) := cell_more q1 hql _
      have HF1 : Hid ((W6.drew.alloc (.cells #[.iface tI xI] 73)).frozen? ⟨w.heap.size + 1, 1, none⟩ = false) := (((Below.refl W6.heap.size W6).drew.alloc (Nat.le_refl _) _).frozen (p := ⟨w.heap.size + 1, 1, none⟩) hql).trans (fq 1)
      go_wp2_with fail
      go_region_law
        (refine step_append_lies _ (by rfl) _ _ _ (by rfl) w1.heap.size 73 j1 .nilIface 1 16 Try.underlying85 hj1 hy1 hs1 hb1' rfl (by omega) (.slice a4 k c4) k (itemsTo V f k) (by rfl) HRI.out ⟨W6.heap.size, 0, none⟩ 1 1 [.iface tI xI] (by rfl) (by rfl) HNW.out hone (by omega) hml hby hbs (W6.heap.size + 1) htop ?_; intro g7 cap7 w7 hown hgrow hat hlt7; have hS3 : w7.cell? ⟨w.heap.size + 1, 1, none⟩ = some (.slice a4 k c4) := (World.grownBy.cell_far hgrow ⟨w.heap.size + 1, 1, none⟩ (by simp; omega) (Ne.symm HQI.out)).trans HX1.out; have hf3 : w7.frozen? ⟨w.heap.size + 1, 1, none⟩ = false := (World.grownBy.frozen_far hgrow ⟨w.heap.size + 1, 1, none⟩ (by simp; omega) (Ne.symm HQI.out)).trans HF1.out)
      all_goals
        have HG7 : Hid ((W6.drew.alloc (.cells #[.iface tI xI] 73)).grownBy w7 (Value.slice a4 k c4).ownBlock) := hgrow
        have HSN := hideIt (HSK.out.drew.item rfl HG7.out hown)
        rw [← HKS1.out, ← HIT1.out] at HSN
        clear HG7 hgrow hown
        go_wp2_with fail
        go_roundw
        case rel => exact ⟨k + 1, _, _, by omega, by go_num, HSN.out⟩
        case measure => simp [intOf]; omega
end Go.Proofs.Ytpfnkpkcjefelaa
