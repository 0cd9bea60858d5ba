/-
  The program's sortedMap: keys and items in the keys' order. What its rounds leave in memory.
-/
import Derived.Test.YthoeockngjmipaaStbD
import Derived.Test.YthoeockngjmipaaPT
import Derived.Test.YthoeockngjmipaaStepC
import Derived.Test.YthoeockngjmipaaVsOf
import Derived.Test.YthoeockngjmipaaMapP
namespace Go.Proofs.Ythoeockngjmipaa
open Go.RowKit
set_option linter.unusedSimpArgs false
set_option linter.unusedVariables false

/-- The keys, and the items, at the first k places. -/
def keysTo (l : List ByteArray) (f : Nat → Int) (k : Nat) : List Value := (List.range k).map fun j => .string (keyAt l (f j).toNat)
def itemsTo (V : Nat → Value) (f : Nat → Int) (k : Nat) : List Value := (List.range k).map fun j => V (f j).toNat
theorem keysTo_succ (l : List ByteArray) (f : Nat → Int) (k : Nat) : keysTo l f (k + 1) = keysTo l f k ++ [.string (keyAt l (f k).toNat)] := by simp [keysTo, List.range_succ]
theorem itemsTo_succ (V : Nat → Value) (f : Nat → Int) (k : Nat) : itemsTo V f (k + 1) = itemsTo V f k ++ [V (f k).toNat] := by simp [itemsTo, List.range_succ]

/-- The map's two rows, from block base on, n keys and m items; its variable lies in block q, which was there in w1. -/
structure SM (q base : Nat) (w1 wr : World) (n m : Nat) (ks is : List Value) (kv iv : Value) : Prop where
  row : wr.rowIs q 100 2 (fun j => if j = 0 then kv else iv)
  rk : wr.ownsRow base 9 1 kv n ks
  ri : wr.ownsRow base 69 1 iv m is
  sw : Sw q w1 wr
  bs : base ≤ w1.heap.size
  qb : q < base

theorem SM.c0 {q base n m : Nat} {w1 wr : World} {ks is : List Value} {kv iv : Value} (h : SM q base w1 wr n m ks is kv iv) : wr.cell? ⟨q, 0, none⟩ = some kv := h.row.cell (by omega)
theorem SM.c1 {q base n m : Nat} {w1 wr : World} {ks is : List Value} {kv iv : Value} (h : SM q base w1 wr n m ks is kv iv) : wr.cell? ⟨q, 1, none⟩ = some iv := h.row.cell (i := 1) (by omega)

theorem SM.drew {q base n m : Nat} {w1 wr : World} {ks is : List Value} {kv iv : Value} (h : SM q base w1 wr n m ks is kv iv) : SM q base w1 wr.drew n m ks is kv iv := ⟨h.row, h.rk, h.ri, h.sw.drew, h.bs, h.qb⟩

theorem SM.size {q base n m : Nat} {w1 wr : World} {ks is : List Value} {kv iv : Value} (h : SM q base w1 wr n m ks is kv iv) : w1.heap.size ≤ wr.heap.size := h.sw.2.2.2.1

theorem sw_grown {q base : Nat} {w1 wr w5 : World} {o : Obj} {row : Option Nat} (h : Sw q w1 wr) (hg : (wr.alloc o).grownBy w5 row) (hr : ∀ x, row = some x → w1.heap.size ≤ x) : Sw q w1 w5 := by
  have hb : Below w1.heap.size wr w5 := ((Below.refl _ _).alloc h.2.2.2.1 o).grown hg (by have := h.2.2.2.1; simp; omega) (fun x hx => hr x hx)
  exact ⟨hb.os.trans h.1, hb.tape.trans h.2.1, hb.output.trans h.2.2.1, Nat.le_trans h.2.2.2.1 hb.size, fun c h1 h2 => (hb.block c h1).trans (h.2.2.2.2 c h1 h2)⟩

/-- One more key. -/
theorem SM.key {q base n m : Nat} {w1 wr w5 : World} {ks is : List Value} {kv iv kv' u : Value} {o : Obj} (h : SM q base w1 wr n m ks is kv iv) (hb : base = w1.heap.size)
    (hg : (wr.alloc o).grownBy w5 kv.ownBlock) (hown : w5.ownsRow base 9 1 kv' (n + 1) (ks ++ [u])) : SM q base w1 (w5.setCell ⟨q, 0, none⟩ kv') (n + 1) m (ks ++ [u]) is kv' iv := by
  have hz := h.size
  have hqb := h.qb
  have far : ∀ x, x < wr.heap.size → kv.ownBlock ≠ some x → w5.heap[x]? = wr.heap[x]? := fun x hx hne => (hg.block x (by simp; omega) (fun e => hne e.symm)).trans (Below.block ((Below.refl wr.heap.size wr).alloc (Nat.le_refl _) o) x hx)
  have hkq : kv.ownBlock ≠ some q := fun e => by have := (h.rk.lt q e).1; omega
  have hrow5 : w5.rowIs q 100 2 (fun j => if j = 0 then kv else iv) := h.row.of_block (far q h.row.lt hkq)
  have hri5 : w5.ownsRow base 69 1 iv m is := own_same h.ri (fun x hx => by
    refine far x (h.ri.lt x hx).2 (fun e => ?_)
    rcases own_apart h.rk h.ri (by decide) with e2 | e2
    · rw [e2] at e; cases e
    · exact e2 (by rw [e, hx]))
  refine ⟨(hrow5.set 0 kv').congr fun j _ => ?_, ?_, ?_, ?_, h.bs, h.qb⟩
  · by_cases e : j = 0
    · rw [if_pos e, if_pos e]
    · rw [if_neg e, if_neg e, if_neg e]
  · exact own_set hown kv' (fun x hx e => by have := (hown.lt x hx).1; omega)
  · exact own_set hri5 kv' (fun x hx e => by have := (h.ri.lt x hx).1; omega)
  · exact (sw_grown (base := base) h.sw hg (fun x hx => by have := (h.rk.lt x hx).1; omega)).set 0 kv'

/-- One more item. -/
theorem SM.item {q base n m : Nat} {w1 wr w5 : World} {ks is : List Value} {kv iv iv' u : Value} {o : Obj} (h : SM q base w1 wr n m ks is kv iv) (hb : base = w1.heap.size)
    (hg : (wr.alloc o).grownBy w5 iv.ownBlock) (hown : w5.ownsRow base 69 1 iv' (m + 1) (is ++ [u])) : SM q base w1 (w5.setCell ⟨q, 1, none⟩ iv') n (m + 1) ks (is ++ [u]) kv iv' := by
  have hz := h.size
  have hqb := h.qb
  have far : ∀ x, x < wr.heap.size → iv.ownBlock ≠ some x → w5.heap[x]? = wr.heap[x]? := fun x hx hne => (hg.block x (by simp; omega) (fun e => hne e.symm)).trans (Below.block ((Below.refl wr.heap.size wr).alloc (Nat.le_refl _) o) x hx)
  have hkq : iv.ownBlock ≠ some q := fun e => by have := (h.ri.lt q e).1; omega
  have hrow5 : w5.rowIs q 100 2 (fun j => if j = 0 then kv else iv) := h.row.of_block (far q h.row.lt hkq)
  have hrk5 : w5.ownsRow base 9 1 kv n ks := own_same h.rk (fun x hx => by
    refine far x (h.rk.lt x hx).2 (fun e => ?_)
    rcases own_apart h.rk h.ri (by decide) with e2 | e2
    · rw [e2] at hx; cases hx
    · exact e2 (by rw [e, hx]))
  refine ⟨(hrow5.set 1 iv').congr fun j hj => ?_, ?_, ?_, ?_, h.bs, h.qb⟩
  · by_cases e : j = 1
    · rw [if_pos e, if_neg (by omega)]
    · rw [if_neg e, if_pos (by omega), if_pos (by omega)]
  · exact own_set hrk5 iv' (fun x hx e => by have := (h.rk.lt x hx).1; omega)
  · exact own_set hown iv' (fun x hx e => by have := (hown.lt x hx).1; omega)
  · exact (sw_grown (base := base) h.sw hg (fun x hx => by have := (h.ri.lt x hx).1; omega)).set 1 iv'
end Go.Proofs.Ythoeockngjmipaa

/-
  The program's sortedMap: it gives the keys and the items in the keys' order.
-/
namespace Go.Proofs.Ythoeockngjmipaa
open Go.RowKit
set_option linter.unusedSimpArgs false
set_option linter.unusedVariables false

theorem infoS1 : (Try.prog.info? 9).map (fun i => (i.zero, i.size, i.bytes)) = some (some (.string ByteArray.empty), 1, 16) := by kernel_rfl
theorem infoV1 : (Try.prog.info? 69).map (fun i => (i.zero, i.size, i.bytes)) = some (some .nilIface, 1, 16) := by kernel_rfl

/-- A row of values, as it is read. -/
def ItsAt (w : World) (iv : Value) (N : Nat) (V : Nat → Value) : Prop := ∃ a cap, iv = .slice a N cap ∧ (0 < N → ∃ b, a = some ⟨b, 0, none⟩ ∧ b < w.heap.size ∧ ∀ j, j < N → w.cell? ⟨b, j, none⟩ = some (V j) ∧ ∃ t x, V j = .iface t x)

set_option maxRecDepth 100000 in
set_option maxHeartbeats 8000000 in
theorem sortedMap_any (B : Nat) (kv iv : Value) (l : List ByteArray) (V : Nat → Value) (w : World) (hk : StrsAt B w kv l) (hi : ItsAt w iv l.length V) (hB : B ≤ w.heap.size) (hn : l.length ≤ 80) :
    Calls Try.prog 67 #[kv, iv] w fun e w' => ∃ f k2 i2, e = .returned (.agg #[k2, i2]) ∧ Blk (RK l) (fun p => (p : Int)) f 0 l.length ∧ w'.ownsRow w.heap.size 9 1 k2 l.length (keysTo l f l.length) ∧ w'.ownsRow w.heap.size 69 1 i2 l.length (itemsTo V f l.length) ∧ Below w.heap.size w w' := by
  have HK := hideIt hk
  have HI := hideIt hi
  obtain ⟨_, hks, ak, ck, rfl, hkc⟩ := hk
  obtain ⟨ai, ci, rfl, hic⟩ := hi
  have HKC := hideIt hkc
  have HIC := hideIt hic
  clear hkc hic
  obtain ⟨N, hN⟩ : ∃ N, l.length = N := ⟨_, rfl⟩
  have HN := hideIt hN
  have HKS := hideIt hks
  rw [hN] at hn HKC HIC ⊢
  rw [hN] at HK
  clear hN hks
  obtain ⟨j0, hj0, hy0, hs0, hb0⟩ := info_parts infoS1
  obtain ⟨j1, hj1, hy1, hs1, hb1'⟩ := info_parts infoV1
  obtain ⟨W2, hW2⟩ : ∃ W2, W2 = (w.alloc (.cells #[.slice none 0 0, .slice none 0 0] 100)).alloc (.cells #[.slice none 0 0, .slice none 0 0] 100) := ⟨_, rfl⟩
  have hr2 : W2.rowIs (w.heap.size + 1) 100 2 (fun j => if j = 0 then .slice none 0 0 else .slice none 0 0) := by
    have := World.rowIs_alloc (w.alloc (.cells #[.slice none 0 0, .slice none 0 0] 100)) #[.slice none 0 0, .slice none 0 0] 100 (fun _ => .slice none 0 0) (fun i hi => by
      match i, hi with
      | 0, _ => rfl
      | 1, _ => rfl)
    rw [World.size_alloc] at this
    rw [hW2]
    exact this.congr fun j _ => by simp
  have hr3 : W2.rowIs w.heap.size 100 2 (fun _ => .slice none 0 0) := by
    have := World.rowIs_alloc w #[.slice none 0 0, .slice none 0 0] 100 (fun _ => .slice none 0 0) (fun i hi => by
      match i, hi with
      | 0, _ => rfl
      | 1, _ => rfl)
    rw [hW2]
    exact this.alloc _
  have HR3 := hideIt hr3
  clear hr3
  have hz2 : W2.heap.size = w.heap.size + 1 + 1 := by rw [hW2, World.size_alloc, World.size_alloc]
  have hbw : Below w.heap.size w W2 := by
    rw [hW2]
    exact ((Below.refl _ _).alloc (Nat.le_refl _) _).alloc (by rw [World.size_alloc]; omega) _
  have HW2 := hideIt hW2
  have HR2 := hideIt hr2
  have HZ2 := hideIt hz2
  have HBW := hideIt hbw
  clear hW2 hr2 hz2 hbw
  go_enter Try.func67, Try.ntmps67
  go_wp2_with fail
  rw [← HW2.out]
  refine (sortedPlaces_any B _ l W2 (HK.out.below (HBW.out.mono hB)) (by rw [HZ2.out]; omega) (by rw [HN.out]; omega)).mono ?_
  rintro e w1 ⟨g, f, rfl, hg, hrow, hblk, hb1⟩
  rw [HN.out] at hrow hblk ⊢
  rw [HZ2.out] at hg
  have HROW := hideIt hrow
  have HBLK := hideIt hblk
  have hgl := hrow.lt
  have z1 := hb1.size
  rw [HZ2.out] at z1
  have HR4 := hideIt (rowIs_below HR3.out hb1 (by rw [HZ2.out]; omega))
  have HB1 : Hid (Below w.heap.size w w1) := HBW.out.trans (hb1.mono (by rw [HZ2.out]; omega))
  have HS0 : Hid (SM (w.heap.size + 1) w1.heap.size w1 w1 0 0 [] [] (.slice none 0 0) (.slice none 0 0)) := ⟨rowIs_below HR2.out hb1 (by rw [HZ2.out]; omega), World.ownsRow_nil _ _ _ _, World.ownsRow_nil _ _ _ _, Sw.refl _ _, Nat.le_refl _, by omega⟩
  clear hrow hblk hb1
  go_wp2_with fail
  go_loopw [11] (fun vi wr => ∃ (k : Nat) (kv iv : Value), k ≤ N ∧ vi = .int .i64 k ∧ SM (w.heap.size + 1) w1.heap.size w1 wr k k (keysTo l f k) (itemsTo V f k) kv iv) (fun vi _ => N - (intOf vi).toNat)
  case atStart => exact ⟨0, _, _, Nat.zero_le _, rfl, HS0.out⟩
  case round =>
    obtain ⟨k, kv, iv, hk, rfl, hsm⟩ := hrel
    clear HS0
    have HSM := hideIt hsm
    obtain ⟨a3, c3, e3⟩ := own_slice hsm.rk
    obtain ⟨a4, c4, e4⟩ := own_slice hsm.ri
    subst e3 e4
    have q0 := hsm.c0
    have q1 := hsm.c1
    have fq := hsm.row.frozen
    have hql := hsm.row.lt
    have zr := hsm.size
    by_cases hlt : k < N
    case neg =>
      obtain rfl : k = N := by omega
      have HBR : Hid (Below w.heap.size w wr) := HB1.out.trans (hsm.sw.below (by omega) (by omega))
      have hr5 : wr.rowIs w.heap.size 100 2 (fun _ => .slice none 0 0) := HR4.out.of_block (hsm.sw.2.2.2.2 w.heap.size (by omega) (by show ¬ w.heap.size = w.heap.size + 1; omega))
      have y0 := hr5.cell (i := 0) (by omega)
      have y1 := hr5.cell (i := 1) (by omega)
      have fy := hr5.frozen
      have hne : w.heap.size ≠ w.heap.size + 1 := by omega
      have HK2 := hideIt (own_mono (own_set (o := 1) (own_set (o := 0) hsm.rk (b := w.heap.size) (.slice a3 k c3) (fun x hx => by have := (hsm.rk.lt x hx).1; omega)) (b := w.heap.size) (.slice a4 k c4) (fun x hx => by have := (hsm.rk.lt x hx).1; omega)) (show w.heap.size ≤ w1.heap.size by omega))
      have HI2 := hideIt (own_mono (own_set (o := 1) (own_set (o := 0) hsm.ri (b := w.heap.size) (.slice a3 k c3) (fun x hx => by have := (hsm.ri.lt x hx).1; omega)) (b := w.heap.size) (.slice a4 k c4) (fun x hx => by have := (hsm.ri.lt x hx).1; omega)) (show w.heap.size ≤ w1.heap.size by omega))
      clear hsm hr5
      go_wp2_with fail
      refine bodyPost_ret (v := .agg #[.slice a3 k c3, .slice a4 k c4]) (by simp [results, Try.results67, go_sem, y0, y1, hne]) rfl ⟨f, _, _, rfl, HBLK.out, HK2.out, HI2.out, ?_⟩
      exact (HBR.out.setCell (p := ⟨w.heap.size, 0, none⟩) (Nat.le_refl _) _).setCell (p := ⟨w.heap.size, 1, none⟩) (Nat.le_refl _) _
    case pos =>
    obtain ⟨p, p1, p2, p3⟩ := HBLK.out.1 k (Nat.zero_le _) hlt
    have hfk : f k = (p : Int) := p3
    obtain ⟨bK, oK, rfl, hbK, hcK⟩ := HKC.out (by omega)
    obtain ⟨bI, rfl, hbI, hcI⟩ := HIC.out (by omega)
    obtain ⟨hcI1, tI, xI, eI⟩ := hcI p (by omega)
    have d1 : wr.cell? ⟨g, k, none⟩ = some (.int .i64 (p : Int)) := by
      rw [hsm.sw.cell hgl (by omega), HROW.out.cell hlt]
      unfold nums
      rw [hfk]
    have d2 : wr.cell? ⟨bK, oK + p, none⟩ = some (.string (keyAt l p)) := by
      rw [hsm.sw.cell (by omega) (by omega), below_cell HB1.out (by omega)]
      exact hcK p (by omega)
    have d3 : wr.cell? ⟨bI, p, none⟩ = some (.iface tI xI) := by
      rw [hsm.sw.cell (by omega) (by omega), below_cell HB1.out hbI, hcI1, eI]
    have HD3 : Hid (w1.cell? ⟨bI, p, none⟩ = some (.iface tI xI)) := by rw [Hid, below_cell HB1.out hbI, hcI1, eI]
    have hpN : p < N := by omega
    have HKS1 : Hid (keysTo l f (k + 1) = keysTo l f k ++ [.string (keyAt l p)]) := by rw [Hid, keysTo_succ, hfk, Int.toNat_natCast]
    have HIT1 : Hid (itemsTo V f (k + 1) = itemsTo V f k ++ [.iface tI xI]) := by rw [Hid, itemsTo_succ, hfk, Int.toNat_natCast, eI]
    clear hcK hcI hcI1 p3 hfk hsm
    obtain ⟨s, hs⟩ : ∃ s, keyAt l p = s := ⟨_, rfl⟩
    rw [hs] at d2 HKS1
    clear hs
    have HRK : Hid ((wr.drew.alloc (.cells #[.string s] 9)).ownsRow w1.heap.size 9 1 (.slice a3 k c3) k (keysTo l f k)) := own_below HSM.out.rk (((Below.refl wr.heap.size wr).drew).alloc (Nat.le_refl _) _) (fun x hx => (HSM.out.rk.lt x hx).2)
    have HNW : Hid (∀ j u, [Value.string s][j]? = some u → (wr.drew.alloc (.cells #[.string s] 9)).cell? ((⟨wr.heap.size, 0, none⟩ : Addr).add j) = some u) := World.news_of_block (cs := #[.string s]) (t := 9) (fr := (0, 0)) (heap_alloc_new wr.drew _)
    have hone : ∀ u ∈ [Value.string s], u.oneCell' = true := fun u hu => by simp at hu; subst hu; rfl
    have hml : k + 1 ≤ maxLen := by unfold maxLen; omega
    have hby : (k + 1) * 16 ≤ 140737488355328 := by omega
    have hbs : w1.heap.size ≤ (wr.drew.alloc (.cells #[.string s] 9)).heap.size := by simp; omega
    have htop : (wr.drew.alloc (.cells #[.string s] 9)).heap.size = wr.heap.size + 1 := by simp
    have HQK : Hid ((Value.slice a3 k c3).ownBlock ≠ some (w.heap.size + 1)) := fun e => by have := (HSM.out.rk.lt _ e).1; omega
    have x0 : (wr.drew.alloc (.cells #[.string s] 9)).cell? ⟨w.heap.size + 1, 0, none⟩ = some (.slice a3 k c3) := cell_more q0 hql _
    have HX0 := hideIt x0
    have HF0 : Hid ((wr.drew.alloc (.cells #[.string s] 9)).frozen? ⟨w.heap.size + 1, 0, none⟩ = false) := (((Below.refl wr.heap.size wr).drew.alloc (Nat.le_refl _) _).frozen (p := ⟨w.heap.size + 1, 0, none⟩) hql).trans (fq 0)
    clear x0
    go_wp2_with fail
    go_region_law
      (refine step_append_lies _ (by rfl) _ _ _ (by rfl) w1.heap.size 9 j0 (.string ByteArray.empty) 1 16 Try.underlying38 hj0 hy0 hs0 hb0 rfl (by omega) (.slice a3 k c3) k (keysTo l f k) (by rfl) HRK.out ⟨wr.heap.size, 0, none⟩ 1 1 [.string s] (by rfl) (by rfl) HNW.out hone (by omega) hml hby hbs (wr.heap.size + 1) htop ?_; intro g5 cap5 w5 hown hgrow hat hlt5; have hS3 : w5.cell? ⟨w.heap.size + 1, 0, none⟩ = some (.slice a3 k c3) := (World.grownBy.cell_far hgrow ⟨w.heap.size + 1, 0, none⟩ (by simp; omega) (Ne.symm HQK.out)).trans HX0.out; have hf3 : w5.frozen? ⟨w.heap.size + 1, 0, none⟩ = false := (World.grownBy.frozen_far hgrow ⟨w.heap.size + 1, 0, none⟩ (by simp; omega) (Ne.symm HQK.out)).trans HF0.out)
    all_goals
      have HG5 : Hid ((wr.drew.alloc (.cells #[.string s] 9)).grownBy w5 (Value.slice a3 k c3).ownBlock) := hgrow
      have HSK := hideIt (HSM.out.drew.key rfl HG5.out hown)
      generalize w5.setCell ⟨w.heap.size + 1, 0, none⟩ (Value.slice (some ⟨g5, 0, none⟩) (k + 1) cap5) = W6 at HSK ⊢
      clear HG5 hgrow hown hat hlt5 hS3 hf3 HRK HNW hone hbs htop HQK HX0 HF0 q0 q1 fq hql zr d1 d2 d3 HSM
      have q1 := HSK.out.c1
      have fq := HSK.out.row.frozen
      have hql := HSK.out.row.lt
      have zr := HSK.out.size
      have d3 : W6.cell? ⟨bI, p, none⟩ = some (.iface tI xI) := (HSK.out.sw.cell (by omega) (by omega)).trans HD3.out
      have HRI : Hid ((W6.drew.alloc (.cells #[.iface tI xI] 69)).ownsRow w1.heap.size 69 1 (.slice a4 k c4) k (itemsTo V f k)) := own_below HSK.out.ri (((Below.refl W6.heap.size W6).drew).alloc (Nat.le_refl _) _) (fun x hx => (HSK.out.ri.lt x hx).2)
      have HNW : Hid (∀ j u, [Value.iface tI xI][j]? = some u → (W6.drew.alloc (.cells #[.iface tI xI] 69)).cell? ((⟨W6.heap.size, 0, none⟩ : Addr).add j) = some u) := World.news_of_block (cs := #[.iface tI xI]) (t := 69) (fr := (0, 0)) (heap_alloc_new W6.drew _)
      have hone : ∀ u ∈ [Value.iface tI xI], u.oneCell' = true := fun u hu => by simp at hu; subst hu; rfl
      have hbs : w1.heap.size ≤ (W6.drew.alloc (.cells #[.iface tI xI] 69)).heap.size := by simp; omega
      have htop : (W6.drew.alloc (.cells #[.iface tI xI] 69)).heap.size = W6.heap.size + 1 := by simp
      have HQI : Hid ((Value.slice a4 k c4).ownBlock ≠ some (w.heap.size + 1)) := fun e => by have := (HSK.out.ri.lt _ e).1; omega
      have HX1 : Hid ((W6.drew.alloc (.cells #[.iface tI xI] 69)).cell? ⟨w.heap.size + 1, 1, none⟩ = some (.slice a4 k c4)) := cell_more q1 hql _
      have HF1 : Hid ((W6.drew.alloc (.cells #[.iface tI xI] 69)).frozen? ⟨w.heap.size + 1, 1, none⟩ = false) := (((Below.refl W6.heap.size W6).drew.alloc (Nat.le_refl _) _).frozen (p := ⟨w.heap.size + 1, 1, none⟩) hql).trans (fq 1)
      go_wp2_with fail
      go_region_law
        (refine step_append_lies _ (by rfl) _ _ _ (by rfl) w1.heap.size 69 j1 .nilIface 1 16 Try.underlying95 hj1 hy1 hs1 hb1' rfl (by omega) (.slice a4 k c4) k (itemsTo V f k) (by rfl) HRI.out ⟨W6.heap.size, 0, none⟩ 1 1 [.iface tI xI] (by rfl) (by rfl) HNW.out hone (by omega) hml hby hbs (W6.heap.size + 1) htop ?_; intro g7 cap7 w7 hown hgrow hat hlt7; have hS3 : w7.cell? ⟨w.heap.size + 1, 1, none⟩ = some (.slice a4 k c4) := (World.grownBy.cell_far hgrow ⟨w.heap.size + 1, 1, none⟩ (by simp; omega) (Ne.symm HQI.out)).trans HX1.out; have hf3 : w7.frozen? ⟨w.heap.size + 1, 1, none⟩ = false := (World.grownBy.frozen_far hgrow ⟨w.heap.size + 1, 1, none⟩ (by simp; omega) (Ne.symm HQI.out)).trans HF1.out)
      all_goals
        have HG7 : Hid ((W6.drew.alloc (.cells #[.iface tI xI] 69)).grownBy w7 (Value.slice a4 k c4).ownBlock) := hgrow
        have HSN := hideIt (HSK.out.drew.item rfl HG7.out hown)
        rw [← HKS1.out, ← HIT1.out] at HSN
        clear HG7 hgrow hown
        go_wp2_with fail
        go_roundw
        case rel => exact ⟨k + 1, _, _, by omega, by go_num, HSN.out⟩
        case measure => simp [intOf]; omega
end Go.Proofs.Ythoeockngjmipaa

/-
  impl.MapOf: as the specification's.
-/
namespace Go.Proofs.Ythoeockngjmipaa
open Go.RowKit
set_option linter.unusedSimpArgs false
set_option linter.unusedVariables false

theorem Vals.its {B base : Nat} {w : World} {v : Value} {m : Nat} {L : Nat → List VN} {V : Nat → Value} {lo hi : Nat → Nat} (h : Vals B base w v m L V lo hi) (hB : B ≤ base) (hm : m ≤ 80) (hok : ∀ i, i < m → okB (L i) = true) :
    ItsAt w v m V ∧ ∀ j, j < m → TreeAt w.heap.size w 80 (rootT (L j)) (V j) := by
  have hit := h.items hB hm hok
  rw [kidsL_len] at hit
  obtain ⟨_, a, cap, e, hx⟩ := hit
  subst e
  have key : ∀ b, a = some ⟨b, 0, none⟩ → 0 < m → ∀ j, j < m → w.cell? ⟨b, j, none⟩ = some (V j) := fun b hb hp j hj => by
    obtain ⟨g, c, e, _, _⟩ := h.row.form hp
    rw [hb] at e
    cases e
    have := h.row
    rw [hb] at this
    rw [this.cellAt j (by omega)]
    simp [hj]
  refine ⟨⟨a, cap, rfl, fun hp => ?_⟩, fun j hj => ?_⟩
  · obtain ⟨b, rfl, hb, hc⟩ := hx hp
    refine ⟨b, rfl, hb, fun j hj => ⟨key b rfl hp j hj, ?_⟩⟩
    obtain ⟨t, x, h1, _⟩ := hc j hj
    rw [key b rfl hp j hj] at h1
    injection h1 with h1
    exact ⟨t, x, h1⟩
  · obtain ⟨b, rfl, hb, hc⟩ := hx (by omega)
    obtain ⟨t, x, h1, h2⟩ := hc j hj
    rw [key b rfl (by omega) j hj] at h1
    injection h1 with h1
    rw [kidsL_at L hj] at h2
    rw [h1]; exact h2

/-- The map that came out, as a tree. -/
theorem map_tree {w1 w2 : World} {l : List ByteArray} {L : Nat → List VN} {V : Nat → Value} {f : Nat → Int} {m : Nat} {k2 i2 : Value} (hm : m ≤ 80) (hl : l.length = m) (hks : ∀ i, i < l.length → (keyAt l i).size ≤ 140737488355328)
    (hv : ∀ j, j < m → (∃ t x, V j = .iface t x) ∧ TreeAt w1.heap.size w1 80 (rootT (L j)) (V j)) (hf : Blk (RK l) (fun p => (p : Int)) f 0 m) (hk : w2.ownsRow w1.heap.size 9 1 k2 m (keysTo l f m)) (hi : w2.ownsRow w1.heap.size 69 1 i2 m (itemsTo V f m)) (hb : Below w1.heap.size w1 w2) :
    TreeAt w2.heap.size w2 81 (.mk 6 0 ByteArray.empty (keysF l f m) (kidsL (permL L f) m)) (.iface 100 (.agg #[k2, i2])) := by
  have hp : ∀ j, j < m → (f j).toNat < m := fun j hj => by
    obtain ⟨q, q1, q2, q3⟩ := hf.1 j (Nat.zero_le _) hj
    simp only at q3
    omega
  have hkl : (keysF l f m).length = m := by simp [keysF]
  refine Or.inr (Or.inr (Or.inr (Or.inr (Or.inr ⟨rfl, rfl, rfl, k2, i2, rfl, ?_, ?_⟩))))
  · refine own_strs (base := w1.heap.size) ?_ (by omega) (fun i hi => ?_)
    · rw [hkl]
      have : (keysF l f m).map Value.string = keysTo l f m := by simp [keysF, keysTo]
      rw [this]; exact hk
    · rw [hkl] at hi
      rw [keysF_at hi]
      exact hks _ (by have := hp i hi; omega)
  · rw [kidsL_len]
    obtain ⟨a, c, e⟩ := own_slice hi
    subst e
    refine ⟨by omega, a, c, rfl, fun h0 => ?_⟩
    obtain ⟨g, c', e, _, hg⟩ := hi.form h0
    cases e
    refine ⟨g, rfl, hg, fun j hj => ?_⟩
    obtain ⟨⟨t, x, e1⟩, ht⟩ := hv _ (hp j hj)
    refine ⟨t, x, ?_, ?_⟩
    · rw [hi.cellAt j (by omega)]
      simp [itemsTo, hj, e1]
    · show TreeAt w2.heap.size w2 80 (kidT (kidsL (permL L f) m) j) (.iface t x)
      rw [kidsL_at _ hj]
      rw [e1] at ht
      exact TreeAt.keep (fun c hc => hb.block c hc) hb.size ht

set_option maxRecDepth 100000 in
set_option maxHeartbeats 3200000 in
theorem implMapOf_any (B : Nat) (kv u : Value) (l : List ByteArray) (m : Nat) (L : Nat → List VN) (w : World) (hk : StrsAt B w kv l) (hu : RowsAt B w u m L) (hB : B ≤ w.heap.size) (hf : ∀ i, i < m → ∀ j, j < (L i).length → Fits (nodeAt (L i) j)) :
    Calls Try.prog 25 #[kv, u] w fun e w' => ∃ r base KV IV, e = .returned (.tuple #[r, .bool (mapB l L m)]) ∧ w.heap.size ≤ base ∧ base ≤ w'.heap.size ∧ Nest base w' r (mapNs l L m) KV IV ∧ Below w.heap.size w w' := by
  have HK := hideIt hk
  have HU := hideIt hu
  obtain ⟨hkn, _, ak, ck, rfl, _⟩ := hk
  obtain ⟨_, au, cu, rfl, _⟩ := hu
  have HMB : Hid (mapB l L m = (allB L m && decide (m ≤ 80) && decide (l.length = m) && (match sortNs l L m with | none => false | some vs => okB vs))) := rfl
  have HMN : Hid (mapNs l L m = if mapB l L m = true then (sortNs l L m).getD [] else []) := rfl
  obtain ⟨N, hN⟩ : ∃ N, l.length = N := ⟨_, rfl⟩
  have HN := hideIt hN
  rw [hN] at hkn HK ⊢
  clear hN
  go_enter Try.func25, Try.ntmps25
  go_wp2_with fail
  refine (valuesOf_any B _ m L _ HU.out hB).mono ?_
  rintro e w1 ⟨v, V, lo, hi, rfl, hyes, hno, hb1⟩
  have z1 := hb1.size
  cases ok1 : (allB L m && decide (m ≤ 80))
  · obtain rfl := hno ok1
    have HNO : Hid (mapB l L m = false) := by rw [Hid, HMB.out, ok1]; rfl
    clear hyes hno ok1
    go_wp2_with fail
    go_ret2
    exact ⟨.slice none 0 0, w.heap.size, fun _ => undef, fun _ => undef, by rw [HNO.out]; rfl, Nat.le_refl _, z1, by rw [HMN.out, HNO.out]; exact Nest.nil _ _ _ _, hb1⟩
  · have hv := hyes ok1
    have hall : allB L m = true ∧ m ≤ 80 := by simpa using ok1
    have hm := hall.2
    have HOK := hideIt (allB_yes hall.1)
    have HIT := hideIt (hv.its hB hm HOK.out)
    obtain ⟨av, cv, ev⟩ := own_slice hv.row
    subst ev
    have HA1 := hideIt ok1
    clear hyes hno hall hv ok1
    by_cases hNm : N = m
    case neg =>
      have hne : ((N : Int) != (m : Int)) = true := by rw [bne_iff_ne]; omega
      have HNO : Hid (mapB l L m = false) := by rw [Hid, HMB.out, HN.out]; simp [hNm]
      clear hNm
      go_wp2_with fail
      go_ret2
      exact ⟨.slice none 0 0, w.heap.size, fun _ => undef, fun _ => undef, by rw [HNO.out]; rfl, Nat.le_refl _, z1, by rw [HMN.out, HNO.out]; exact Nest.nil _ _ _ _, hb1⟩
    case pos =>
    subst hNm
    have hne : ((N : Int) != (N : Int)) = false := by simp
    have HITS : Hid (ItsAt w1 (.slice av N cv) l.length V) := by rw [Hid, HN.out]; exact HIT.out.1
    have HB1 := hideIt hb1
    clear hb1
    go_wp2_with fail
    refine (sortedMap_any B _ _ l V w1 (by have := HK.out.below (HB1.out.mono hB); exact this) HITS.out (by omega) (by rw [HN.out]; exact hm)).mono ?_
    rintro e w2 ⟨f, k2, i2, rfl, hblk, hk2, hi2, hb2⟩
    rw [HN.out] at hk2 hi2
    have HSAME := hideIt (map_same HA1.out HN.out hblk)
    rw [HN.out] at hblk
    have z2 := hb2.size
    have HTR := hideIt (map_tree hm HN.out HK.out.2.1 (fun j hj => ⟨by
      obtain ⟨a, c, e, hx⟩ := HIT.out.1
      obtain ⟨b, _, _, hc⟩ := hx (by omega)
      exact (hc j hj).2, HIT.out.2 j hj⟩) hblk hk2 hi2 hb2)
    have HOK2 : Hid (∀ i, i < N → okB (permL L f i) = true) := fun i hi => by
      obtain ⟨q, q1, q2, q3⟩ := hblk.1 i (Nat.zero_le _) hi
      exact HOK.out _ (by simp only at q3; omega)
    have HF2 : Hid (∀ i, i < N → ∀ j, j < (permL L f i).length → Fits (nodeAt (permL L f i) j)) := fun i hi j hj => by
      obtain ⟨q, q1, q2, q3⟩ := hblk.1 i (Nat.zero_le _) hi
      exact hf _ (by simp only at q3; omega) j hj
    have HNI := hideIt (make_nice hm HOK2.out HF2.out (kind := 6) (by omega) (by omega) (keys := keysF l f N) (by simp [keysF]; omega) (fun i hi => by
      have hi' : i < N := by simpa [keysF] using hi
      rw [keysF_at hi']
      obtain ⟨q, q1, q2, q3⟩ := hblk.1 i (Nat.zero_le _) hi'
      exact HK.out.2.1 _ (by rw [HN.out]; simp only at q3; omega)))
    have HLL := hideIt (lay_list 6 (keysF l f N) (permL L f) N HOK2.out)
    obtain ⟨ak2, ck2, ek2⟩ := own_slice hk2
    obtain ⟨ai2, ci2, ei2⟩ := own_slice hi2
    subst ek2 ei2
    have HB2 := hideIt (HB1.out.trans (hb2.mono z1))
    clear hblk hk2 hi2 hb2
    go_wp2_with fail
    refine (rightNodes_any 81 _ _ (makeNs 6 (keysF l f N) (permL L f) N) _ HTR.out HLL.out (by have := HNI.out.1; omega) (fun i hi => (HNI.out.2 i hi).1)).mono ?_
    rintro e w3 ⟨r, base, KV, IV, rfl, hb0, hb01, hn3, hb3⟩
    have HN3 := hideIt hn3
    obtain ⟨ar, cr, er⟩ := own_slice hn3.row
    obtain ⟨M, hM⟩ : ∃ M, (rightNs (makeNs 6 (keysF l f N) (permL L f) N)).length = M := ⟨_, rfl⟩
    rw [hM] at er
    subst er
    have HB3 := hideIt (HB2.out.trans (hb3.mono (by omega)))
    clear hn3 hb3 hM
    go_wp2_with fail
    go_ret2
    exact ⟨.slice ar M cr, base, KV, IV, by rw [HSAME.out.1]; rfl, by omega, by omega, by rw [HSAME.out.2]; exact HN3.out, HB3.out⟩
end Go.Proofs.Ythoeockngjmipaa
