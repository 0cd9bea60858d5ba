/-
  The program's sortedMap: it gives the keys and the items in the keys' order.
-/
import Derived.Test.YtiamkmkbkehldaaGreatDoorStbM
import Derived.Test.YtiamkmkbkehldaaGreatDoorRdM
import Derived.Test.YtiamkmkbkehldaaGreatDoorIJs
import Derived.Test.YtiamkmkbkehldaaGreatDoorSMake
namespace Go.Proofs.YtiamkmkbkehldaaGreatDoor
open Go.RowKit
set_option linter.unusedSimpArgs false
set_option linter.unusedVariables false

theorem infoS1 : (Tryz.prog.info? 9).map (fun i => (i.zero, i.size, i.bytes)) = some (some (.string ByteArray.empty), 1, 16) := by kernel_rfl
theorem infoV1 : (Tryz.prog.info? 45).map (fun i => (i.zero, i.size, i.bytes)) = some (some .nilIface, 1, 16) := by kernel_rfl

/-- A row of values, as it is read. -/
def ItsAt (w : World) (iv : Value) (N : Nat) (V : Nat → Value) : Prop := ∃ a cap, iv = .slice a N cap ∧ (0 < N → ∃ b, a = some ⟨b, 0, none⟩ ∧ b < w.heap.size ∧ ∀ j, j < N → w.cell? ⟨b, j, none⟩ = some (V j) ∧ ∃ t x, V j = .iface t x)

set_option maxRecDepth 100000 in
set_option maxHeartbeats 8000000 in
theorem sortedMap_any (B : Nat) (kv iv : Value) (l : List ByteArray) (V : Nat → Value) (w : World) (hk : StrsAt B w kv l) (hi : ItsAt w iv l.length V) (hB : B ≤ w.heap.size) (hn : l.length ≤ 10000) :
    Calls Tryz.prog 150 #[kv, iv] w fun e w' => ∃ f k2 i2, e = .returned (.agg #[k2, i2]) ∧ Blk (RK l) (fun p => (p : Int)) f 0 l.length ∧ w'.ownsRow w.heap.size 9 1 k2 l.length (keysTo l f l.length) ∧ w'.ownsRow w.heap.size 45 1 i2 l.length (itemsTo V f l.length) ∧ Below w.heap.size w w' := by
  have HK := hideIt hk
  have HI := hideIt hi
  obtain ⟨_, hks, ak, ck, rfl, hkc⟩ := hk
  obtain ⟨ai, ci, rfl, hic⟩ := hi
  have HKC := hideIt hkc
  have HIC := hideIt hic
  clear hkc hic
  obtain ⟨N, hN⟩ : ∃ N, l.length = N := ⟨_, rfl⟩
  have HN := hideIt hN
  have HKS := hideIt hks
  rw [hN] at hn HKC HIC ⊢
  rw [hN] at HK
  clear hN hks
  obtain ⟨j0, hj0, hy0, hs0, hb0⟩ := info_parts infoS1
  obtain ⟨j1, hj1, hy1, hs1, hb1'⟩ := info_parts infoV1
  obtain ⟨W2, hW2⟩ : ∃ W2, W2 = (w.alloc (.cells #[.slice none 0 0, .slice none 0 0] 119)).alloc (.cells #[.slice none 0 0, .slice none 0 0] 119) := ⟨_, rfl⟩
  have hr2 : W2.rowIs (w.heap.size + 1) 119 2 (fun j => if j = 0 then .slice none 0 0 else .slice none 0 0) := by
    have := World.rowIs_alloc (w.alloc (.cells #[.slice none 0 0, .slice none 0 0] 119)) #[.slice none 0 0, .slice none 0 0] 119 (fun _ => .slice none 0 0) (fun i hi => by
      match i, hi with
      | 0, _ => rfl
      | 1, _ => rfl)
    rw [World.size_alloc] at this
    rw [hW2]
    exact this.congr fun j _ => by simp
  have hr3 : W2.rowIs w.heap.size 119 2 (fun _ => .slice none 0 0) := by
    have := World.rowIs_alloc w #[.slice none 0 0, .slice none 0 0] 119 (fun _ => .slice none 0 0) (fun i hi => by
      match i, hi with
      | 0, _ => rfl
      | 1, _ => rfl)
    rw [hW2]
    exact this.alloc _
  have HR3 := hideIt hr3
  clear hr3
  have hz2 : W2.heap.size = w.heap.size + 1 + 1 := by rw [hW2, World.size_alloc, World.size_alloc]
  have hbw : Below w.heap.size w W2 := by
    rw [hW2]
    exact ((Below.refl _ _).alloc (Nat.le_refl _) _).alloc (by rw [World.size_alloc]; omega) _
  have HW2 := hideIt hW2
  have HR2 := hideIt hr2
  have HZ2 := hideIt hz2
  have HBW := hideIt hbw
  clear hW2 hr2 hz2 hbw
  go_enter Tryz.func150, Tryz.ntmps150
  go_wp2_with fail
  rw [← HW2.out]
  refine (sortedPlaces_any B _ l W2 (HK.out.below (HBW.out.mono hB)) (by rw [HZ2.out]; omega) (by rw [HN.out]; omega)).mono ?_
  rintro e w1 ⟨g, f, rfl, hg, hrow, hblk, hb1⟩
  rw [HN.out] at hrow hblk ⊢
  rw [HZ2.out] at hg
  have HROW := hideIt hrow
  have HBLK := hideIt hblk
  have hgl := hrow.lt
  have z1 := hb1.size
  rw [HZ2.out] at z1
  have HR4 := hideIt (rowIs_below HR3.out hb1 (by rw [HZ2.out]; omega))
  have HB1 : Hid (Below w.heap.size w w1) := HBW.out.trans (hb1.mono (by rw [HZ2.out]; omega))
  have HS0 : Hid (SM (w.heap.size + 1) w1.heap.size w1 w1 0 0 [] [] (.slice none 0 0) (.slice none 0 0)) := ⟨rowIs_below HR2.out hb1 (by rw [HZ2.out]; omega), World.ownsRow_nil _ _ _ _, World.ownsRow_nil _ _ _ _, Sw.refl _ _, Nat.le_refl _, by omega⟩
  clear hrow hblk hb1
  go_wp2_with fail
  go_loopw [11] (fun vi wr => ∃ (k : Nat) (kv iv : Value), k ≤ N ∧ vi = .int .i64 k ∧ SM (w.heap.size + 1) w1.heap.size w1 wr k k (keysTo l f k) (itemsTo V f k) kv iv) (fun vi _ => N - (intOf vi).toNat)
  case atStart => exact ⟨0, _, _, Nat.zero_le _, rfl, HS0.out⟩
  case round =>
    obtain ⟨k, kv, iv, hk, rfl, hsm⟩ := hrel
    clear HS0
    have HSM := hideIt hsm
    obtain ⟨a3, c3, e3⟩ := own_slice hsm.rk
    obtain ⟨a4, c4, e4⟩ := own_slice hsm.ri
    subst e3 e4
    have q0 := hsm.c0
    have q1 := hsm.c1
    have fq := hsm.row.frozen
    have hql := hsm.row.lt
    have zr := hsm.size
    by_cases hlt : k < N
    case neg =>
      obtain rfl : k = N := by omega
      have HBR : Hid (Below w.heap.size w wr) := HB1.out.trans (hsm.sw.below (by omega) (by omega))
      have hr5 : wr.rowIs w.heap.size 119 2 (fun _ => .slice none 0 0) := HR4.out.of_block (hsm.sw.2.2.2.2 w.heap.size (by omega) (by show ¬ w.heap.size = w.heap.size + 1; omega))
      have y0 := hr5.cell (i := 0) (by omega)
      have y1 := hr5.cell (i := 1) (by omega)
      have fy := hr5.frozen
      have hne : w.heap.size ≠ w.heap.size + 1 := by omega
      have HK2 := hideIt (own_mono (own_set (o := 1) (own_set (o := 0) hsm.rk (b := w.heap.size) (.slice a3 k c3) (fun x hx => by have := (hsm.rk.lt x hx).1; omega)) (b := w.heap.size) (.slice a4 k c4) (fun x hx => by have := (hsm.rk.lt x hx).1; omega)) (show w.heap.size ≤ w1.heap.size by omega))
      have HI2 := hideIt (own_mono (own_set (o := 1) (own_set (o := 0) hsm.ri (b := w.heap.size) (.slice a3 k c3) (fun x hx => by have := (hsm.ri.lt x hx).1; omega)) (b := w.heap.size) (.slice a4 k c4) (fun x hx => by have := (hsm.ri.lt x hx).1; omega)) (show w.heap.size ≤ w1.heap.size by omega))
      clear hsm hr5
      go_wp2_with fail
      refine bodyPost_ret (v := .agg #[.slice a3 k c3, .slice a4 k c4]) (by simp [results, Tryz.results150, go_sem, y0, y1, hne]) rfl ⟨f, _, _, rfl, HBLK.out, HK2.out, HI2.out, ?_⟩
      exact (HBR.out.setCell (p := ⟨w.heap.size, 0, none⟩) (Nat.le_refl _) _).setCell (p := ⟨w.heap.size, 1, none⟩) (Nat.le_refl _) _
    case pos =>
    obtain ⟨p, p1, p2, p3⟩ := HBLK.out.1 k (Nat.zero_le _) hlt
    have hfk : f k = (p : Int) := p3
    obtain ⟨bK, oK, rfl, hbK, hcK⟩ := HKC.out (by omega)
    obtain ⟨bI, rfl, hbI, hcI⟩ := HIC.out (by omega)
    obtain ⟨hcI1, tI, xI, eI⟩ := hcI p (by omega)
    have d1 : wr.cell? ⟨g, k, none⟩ = some (.int .i64 (p : Int)) := by
      rw [hsm.sw.cell hgl (by omega), HROW.out.cell hlt]
      unfold nums
      rw [hfk]
    have d2 : wr.cell? ⟨bK, oK + p, none⟩ = some (.string (keyAt l p)) := by
      rw [hsm.sw.cell (by omega) (by omega), below_cell HB1.out (by omega)]
      exact hcK p (by omega)
    have d3 : wr.cell? ⟨bI, p, none⟩ = some (.iface tI xI) := by
      rw [hsm.sw.cell (by omega) (by omega), below_cell HB1.out hbI, hcI1, eI]
    have HD3 : Hid (w1.cell? ⟨bI, p, none⟩ = some (.iface tI xI)) := by rw [Hid, below_cell HB1.out hbI, hcI1, eI]
    have hpN : p < N := by omega
    have HKS1 : Hid (keysTo l f (k + 1) = keysTo l f k ++ [.string (keyAt l p)]) := by rw [Hid, keysTo_succ, hfk, Int.toNat_natCast]
    have HIT1 : Hid (itemsTo V f (k + 1) = itemsTo V f k ++ [.iface tI xI]) := by rw [Hid, itemsTo_succ, hfk, Int.toNat_natCast, eI]
    clear hcK hcI hcI1 p3 hfk hsm
    obtain ⟨s, hs⟩ : ∃ s, keyAt l p = s := ⟨_, rfl⟩
    rw [hs] at d2 HKS1
    clear hs
    have HRK : Hid ((wr.drew.alloc (.cells #[.string s] 9)).ownsRow w1.heap.size 9 1 (.slice a3 k c3) k (keysTo l f k)) := own_below HSM.out.rk (((Below.refl wr.heap.size wr).drew).alloc (Nat.le_refl _) _) (fun x hx => (HSM.out.rk.lt x hx).2)
    have HNW : Hid (∀ j u, [Value.string s][j]? = some u → (wr.drew.alloc (.cells #[.string s] 9)).cell? ((⟨wr.heap.size, 0, none⟩ : Addr).add j) = some u) := World.news_of_block (cs := #[.string s]) (t := 9) (fr := (0, 0)) (heap_alloc_new wr.drew _)
    have hone : ∀ u ∈ [Value.string s], u.oneCell' = true := fun u hu => by simp at hu; subst hu; rfl
    have hml : k + 1 ≤ maxLen := by unfold maxLen; omega
    have hby : (k + 1) * 16 ≤ 140737488355328 := by omega
    have hbs : w1.heap.size ≤ (wr.drew.alloc (.cells #[.string s] 9)).heap.size := by simp; omega
    have htop : (wr.drew.alloc (.cells #[.string s] 9)).heap.size = wr.heap.size + 1 := by simp
    have HQK : Hid ((Value.slice a3 k c3).ownBlock ≠ some (w.heap.size + 1)) := fun e => by have := (HSM.out.rk.lt _ e).1; omega
    have x0 : (wr.drew.alloc (.cells #[.string s] 9)).cell? ⟨w.heap.size + 1, 0, none⟩ = some (.slice a3 k c3) := cell_more q0 hql _
    have HX0 := hideIt x0
    have HF0 : Hid ((wr.drew.alloc (.cells #[.string s] 9)).frozen? ⟨w.heap.size + 1, 0, none⟩ = false) := (((Below.refl wr.heap.size wr).drew.alloc (Nat.le_refl _) _).frozen (p := ⟨w.heap.size + 1, 0, none⟩) hql).trans (fq 0)
    clear x0
    go_wp2_with fail
    go_region_law
      (refine step_append_lies _ (by rfl) _ _ _ (by rfl) w1.heap.size 9 j0 (.string ByteArray.empty) 1 16 Tryz.underlying70 hj0 hy0 hs0 hb0 rfl (by omega) (.slice a3 k c3) k (keysTo l f k) (by rfl) HRK.out ⟨wr.heap.size, 0, none⟩ 1 1 [.string s] (by rfl) (by rfl) HNW.out hone (by omega) hml hby hbs (wr.heap.size + 1) htop ?_; intro g5 cap5 w5 hown hgrow hat hlt5; have hS3 : w5.cell? ⟨w.heap.size + 1, 0, none⟩ = some (.slice a3 k c3) := (World.grownBy.cell_far hgrow ⟨w.heap.size + 1, 0, none⟩ (by simp; omega) (Ne.symm HQK.out)).trans HX0.out; have hf3 : w5.frozen? ⟨w.heap.size + 1, 0, none⟩ = false := (World.grownBy.frozen_far hgrow ⟨w.heap.size + 1, 0, none⟩ (by simp; omega) (Ne.symm HQK.out)).trans HF0.out)
    all_goals
      have HG5 : Hid ((wr.drew.alloc (.cells #[.string s] 9)).grownBy w5 (Value.slice a3 k c3).ownBlock) := hgrow
      have HSK := hideIt (HSM.out.drew.key rfl HG5.out hown)
      generalize w5.setCell ⟨w.heap.size + 1, 0, none⟩ (Value.slice (some ⟨g5, 0, none⟩) (k + 1) cap5) = W6 at HSK ⊢
      clear HG5 hgrow hown hat hlt5 hS3 hf3 HRK HNW hone hbs htop HQK HX0 HF0 q0 q1 fq hql zr d1 d2 d3 HSM
      have q1 := HSK.out.c1
      have fq := HSK.out.row.frozen
      have hql := HSK.out.row.lt
      have zr := HSK.out.size
      have d3 : W6.cell? ⟨bI, p, none⟩ = some (.iface tI xI) := (HSK.out.sw.cell (by omega) (by omega)).trans HD3.out
      have HRI : Hid ((W6.drew.alloc (.cells #[.iface tI xI] 45)).ownsRow w1.heap.size 45 1 (.slice a4 k c4) k (itemsTo V f k)) := own_below HSK.out.ri (((Below.refl W6.heap.size W6).drew).alloc (Nat.le_refl _) _) (fun x hx => (HSK.out.ri.lt x hx).2)
      have HNW : Hid (∀ j u, [Value.iface tI xI][j]? = some u → (W6.drew.alloc (.cells #[.iface tI xI] 45)).cell? ((⟨W6.heap.size, 0, none⟩ : Addr).add j) = some u) := World.news_of_block (cs := #[.iface tI xI]) (t := 45) (fr := (0, 0)) (heap_alloc_new W6.drew _)
      have hone : ∀ u ∈ [Value.iface tI xI], u.oneCell' = true := fun u hu => by simp at hu; subst hu; rfl
      have hbs : w1.heap.size ≤ (W6.drew.alloc (.cells #[.iface tI xI] 45)).heap.size := by simp; omega
      have htop : (W6.drew.alloc (.cells #[.iface tI xI] 45)).heap.size = W6.heap.size + 1 := by simp
      have HQI : Hid ((Value.slice a4 k c4).ownBlock ≠ some (w.heap.size + 1)) := fun e => by have := (HSK.out.ri.lt _ e).1; omega
      have HX1 : Hid ((W6.drew.alloc (.cells #[.iface tI xI] 45)).cell? ⟨w.heap.size + 1, 1, none⟩ = some (.slice a4 k c4)) := cell_more q1 hql _
      have HF1 : Hid ((W6.drew.alloc (.cells #[.iface tI xI] 45)).frozen? ⟨w.heap.size + 1, 1, none⟩ = false) := (((Below.refl W6.heap.size W6).drew.alloc (Nat.le_refl _) _).frozen (p := ⟨w.heap.size + 1, 1, none⟩) hql).trans (fq 1)
      go_wp2_with fail
      go_region_law
        (refine step_append_lies _ (by rfl) _ _ _ (by rfl) w1.heap.size 45 j1 .nilIface 1 16 Tryz.underlying54 hj1 hy1 hs1 hb1' rfl (by omega) (.slice a4 k c4) k (itemsTo V f k) (by rfl) HRI.out ⟨W6.heap.size, 0, none⟩ 1 1 [.iface tI xI] (by rfl) (by rfl) HNW.out hone (by omega) hml hby hbs (W6.heap.size + 1) htop ?_; intro g7 cap7 w7 hown hgrow hat hlt7; have hS3 : w7.cell? ⟨w.heap.size + 1, 1, none⟩ = some (.slice a4 k c4) := (World.grownBy.cell_far hgrow ⟨w.heap.size + 1, 1, none⟩ (by simp; omega) (Ne.symm HQI.out)).trans HX1.out; have hf3 : w7.frozen? ⟨w.heap.size + 1, 1, none⟩ = false := (World.grownBy.frozen_far hgrow ⟨w.heap.size + 1, 1, none⟩ (by simp; omega) (Ne.symm HQI.out)).trans HF1.out)
      all_goals
        have HG7 : Hid ((W6.drew.alloc (.cells #[.iface tI xI] 45)).grownBy w7 (Value.slice a4 k c4).ownBlock) := hgrow
        have HSN := hideIt (HSK.out.drew.item rfl HG7.out hown)
        rw [← HKS1.out, ← HIT1.out] at HSN
        clear HG7 hgrow hown
        go_wp2_with fail
        go_roundw
        case rel => exact ⟨k + 1, _, _, by omega, by go_num, HSN.out⟩
        case measure => simp [intOf]; omega
end Go.Proofs.YtiamkmkbkehldaaGreatDoor

/-
  The program's readItems and readPairs, over whatever reads a value.
-/
namespace Go.Proofs.YtiamkmkbkehldaaGreatDoor
open Go.RowKit
set_option linter.unusedSimpArgs false
set_option linter.unusedVariables false

/-- While values (and keys) are gathered: two rows of one's own, the trees beside them. -/
structure Its (w wr : World) (f : Nat) (it kv : Value) (ts : List VT) (xs : List Value) (ks : List ByteArray) : Prop where
  row : wr.ownsRow w.heap.size 45 1 it ts.length xs
  len : xs.length = ts.length
  krow : wr.ownsRow w.heap.size 9 1 kv ks.length (ks.map Value.string)
  trees : ∀ j, j < ts.length → ∃ ty x, xs[j]? = some (.iface ty x) ∧ TreeP (fun b => NewB w wr b ∧ it.ownBlock ≠ some b ∧ kv.ownBlock ≠ some b) wr f (kidT ts j) (.iface ty x)
theorem Its.nil (w : World) (f : Nat) : Its w w f (.slice none 0 0) (.slice none 0 0) [] [] [] :=
  ⟨World.ownsRow_nil _ _ _ _, rfl, World.ownsRow_nil _ _ _ _, fun j hj => absurd hj (by simp)⟩
theorem from_but {rb base : Nat} {a b : World} (h : But rb a b) (hr : rb < base) : From base a b := ⟨h.size, fun c h1 h2 => h.block c h2 (by omega)⟩
theorem Its.read {w wr w2 : World} {f rb : Nat} {it kv : Value} {ts : List VT} {xs : List Value} {ks : List ByteArray} (h : Its w wr f it kv ts xs ks) (hb : But rb wr w2) (hr : rb < w.heap.size) : Its w w2 f it kv ts xs ks := by
  refine ⟨own_from h.row (from_but hb hr), h.len, own_from h.krow (from_but hb hr), fun j hj => ?_⟩
  obtain ⟨ty, x, h1, h2⟩ := h.trees j hj
  exact ⟨ty, x, h1, h2.keep (fun b hb' => hb.block b hb'.1.2 (by have := hb'.1.1; omega)) (fun b hb' => ⟨⟨hb'.1.1, Nat.lt_of_lt_of_le hb'.1.2 hb.size⟩, hb'.2⟩)⟩
theorem kid_snoc_last (l : List VT) (t : VT) : kidT (l ++ [t]) l.length = t := by simp [kidT]
theorem kid_snoc_old {l : List VT} {t : VT} {j : Nat} (h : j < l.length) : kidT (l ++ [t]) j = kidT l j := by simp [kidT, List.getElem?_append_left h]
theorem Its.item {w wr w2 w5 : World} {f : Nat} {it kv v' : Value} {ts : List VT} {xs : List Value} {ks : List ByteArray} {t : VT} {ty : TypeId} {x : Value} {o : Obj} (h : Its w w2 f it kv ts xs ks) (hwr : w.heap.size ≤ wr.heap.size) (hit : ∀ b, it.ownBlock = some b → b < wr.heap.size) (hkv : ∀ b, kv.ownBlock = some b → b < wr.heap.size)
    (ht : TreeP (NewB wr w2) w2 f t (.iface ty x)) (hown : w5.ownsRow w.heap.size 45 1 v' (ts.length + 1) (xs ++ [.iface ty x])) (hg : (w2.alloc o).grownBy w5 it.ownBlock) (hat : v'.ownBlock = it.ownBlock ∨ v'.ownBlock = some (w2.heap.size + 1)) :
    Its w w5 f v' kv (ts ++ [t]) (xs ++ [.iface ty x]) ks := by
  have hg1 : w2.grownBy w5 it.ownBlock := (World.grownBy_alloc w2 o _).trans hg
  have hz : w2.heap.size ≤ w5.heap.size := hg1.size
  have hv : ∀ b, b < w2.heap.size → it.ownBlock ≠ some b → v'.ownBlock ≠ some b := fun b hb hne e => by
    rcases hat with h1 | h1
    · exact hne (h1 ▸ e)
    · rw [h1] at e
      simp at e
      omega
  refine ⟨by rw [List.length_append]; exact hown, by simp [h.len], h.krow.kept hg1 (own_apart h.krow h.row (by decide)), fun j hj => ?_⟩
  rw [List.length_append, List.length_cons, List.length_nil] at hj
  by_cases e : j < ts.length
  · obtain ⟨ty', x', h1, h2⟩ := h.trees j e
    refine ⟨ty', x', by rw [List.getElem?_append_left (by have := h.len; omega)]; exact h1, ?_⟩
    rw [kid_snoc_old e]
    exact h2.keep (fun b hb' => hg1.block b hb'.1.2 (fun e' => hb'.2.1 e'.symm)) (fun b hb' => ⟨⟨hb'.1.1, Nat.lt_of_lt_of_le hb'.1.2 hz⟩, hv b hb'.1.2 hb'.2.1, hb'.2.2⟩)
  · obtain rfl : j = ts.length := by omega
    refine ⟨ty, x, by rw [List.getElem?_append_right (by have := h.len; omega)]; simp [h.len], ?_⟩
    rw [kid_snoc_last]
    exact ht.keep (fun b hb' => hg1.block b hb'.2 (fun e' => by have := hit b e'.symm; have := hb'.1; omega)) (fun b hb' => ⟨⟨Nat.le_trans hwr hb'.1, Nat.lt_of_lt_of_le hb'.2 hz⟩, hv b hb'.2 (fun e' => by have := hit b e'; have := hb'.1; omega), fun e' => by have := hkv b e'; have := hb'.1; omega⟩)
theorem Its.key {w w2 w5 : World} {f : Nat} {it kv v' : Value} {ts : List VT} {xs : List Value} {ks : List ByteArray} {s : ByteArray} {o : Obj} (h : Its w w2 f it kv ts xs ks)
    (hown : w5.ownsRow w.heap.size 9 1 v' (ks.length + 1) (ks.map Value.string ++ [.string s])) (hg : (w2.alloc o).grownBy w5 kv.ownBlock) (hat : v'.ownBlock = kv.ownBlock ∨ v'.ownBlock = some (w2.heap.size + 1)) :
    Its w w5 f it v' ts xs (ks ++ [s]) := by
  have hg1 : w2.grownBy w5 kv.ownBlock := (World.grownBy_alloc w2 o _).trans hg
  have hz : w2.heap.size ≤ w5.heap.size := hg1.size
  refine ⟨h.row.kept hg1 (own_apart h.row h.krow (by decide)), h.len, by rw [List.length_append, List.map_append]; exact hown, fun j hj => ?_⟩
  obtain ⟨ty', x', h1, h2⟩ := h.trees j hj
  refine ⟨ty', x', h1, h2.keep (fun b hb' => hg1.block b hb'.1.2 (fun e' => hb'.2.2 e'.symm)) (fun b hb' => ⟨⟨hb'.1.1, Nat.lt_of_lt_of_le hb'.1.2 hz⟩, hb'.2.1, fun e => ?_⟩)⟩
  rcases hat with h3 | h3
  · exact hb'.2.2 (h3 ▸ e)
  · rw [h3] at e
    simp at e
    have := hb'.1.2
    omega
theorem Its.alloc {w wr : World} {f : Nat} {it kv : Value} {ts : List VT} {xs : List Value} {ks : List ByteArray} (h : Its w wr f it kv ts xs ks) (o : Obj) : Its w (wr.alloc o) f it kv ts xs ks := by
  have hb : Below wr.heap.size wr (wr.alloc o) := (Below.refl _ _).alloc (Nat.le_refl _) _
  refine ⟨h.row.alloc _, h.len, h.krow.alloc _, fun j hj => ?_⟩
  obtain ⟨ty, x, h1, h2⟩ := h.trees j hj
  exact ⟨ty, x, h1, h2.keep (fun b hb' => hb.block b hb'.1.2) (fun b hb' => ⟨⟨hb'.1.1, Nat.lt_of_lt_of_le hb'.1.2 hb.size⟩, hb'.2⟩)⟩
/-- The list of what was gathered. -/
theorem Its.list {w wr : World} {f : Nat} {it kv : Value} {ts : List VT} {xs : List Value} {ks : List ByteArray} (h : Its w wr f it kv ts xs ks) (hn : ts.length ≤ 100000) : TreeP (NewB w wr) wr (f + 1) (listT ts) (.iface 174 (.agg #[it])) := by
  refine .inr (.inr (.inr (.inr (.inl ⟨rfl, rfl, rfl, rfl, it, rfl, hn, ?_⟩))))
  obtain ⟨a, c, e⟩ := own_slice h.row
  refine ⟨a, c, e, fun hp => ?_⟩
  obtain ⟨g, cap, e2, hge, hlt⟩ := h.row.form hp
  have ea : a = some ⟨g, 0, none⟩ := by rw [e2] at e; injection e with e _ _; exact e.symm
  refine ⟨g, ea, ⟨hge, hlt⟩, fun j hj => ?_⟩
  obtain ⟨ty, x, h1, h2⟩ := h.trees j hj
  refine ⟨ty, x, ?_, h2.keep (fun b _ => rfl) (fun b hb' => hb'.1)⟩
  have := h.row
  rw [e2] at this
  rw [this.cellAt j (by omega)]
  exact h1
theorem But.grown {rb base : Nat} {w a b : World} {row : Option Nat} (h : But rb w a) (hg : a.grownBy b row) (hr : ∀ x, row = some x → w.heap.size ≤ x) : But rb w b :=
  ⟨hg.os.trans h.os, hg.tape.trans h.tape, hg.output.trans h.output, Nat.le_trans h.size hg.size, fun c hc hn => (hg.block c (Nat.lt_of_lt_of_le hc h.size) (fun e => by have := hr c e.symm; omega)).trans (h.block c hc hn)⟩
theorem BrAt.grown {w a b : World} {rb q : Nat} {s : ByteArray} {row : Option Nat} (h : BrAt a rb s q) (hg : a.grownBy b row) (hr : ∀ x, row = some x → rb < x) : BrAt b rb s q :=
  h.keep (hg.block rb h.lt (fun e => by have := hr rb e.symm; omega)) hg.size

end Go.Proofs.YtiamkmkbkehldaaGreatDoor
