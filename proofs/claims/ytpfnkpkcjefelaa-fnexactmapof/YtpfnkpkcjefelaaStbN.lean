/-
  The program's sortedMap: it gives the keys and the items in the keys' order.
-/
import Derived.Test.YtpfnkpkcjefelaaStbM
namespace Go.Proofs.Ytpfnkpkcjefelaa
open Go.RowKit
set_option linter.unusedSimpArgs false
set_option linter.unusedVariables false

theorem infoS1 : (Try.prog.info? 9).map (fun i => (i.zero, i.size, i.bytes)) = some (some (.string ByteArray.empty), 1, 16) := by kernel_rfl
theorem infoV1 : (Try.prog.info? 73).map (fun i => (i.zero, i.size, i.bytes)) = some (some .nilIface, 1, 16) := by kernel_rfl

/-- A row of values, as it is read. -/
def ItsAt (w : World) (iv : Value) (N : Nat) (V : Nat → Value) : Prop := ∃ a cap, iv = .slice a N cap ∧ (0 < N → ∃ b, a = some ⟨b, 0, none⟩ ∧ b < w.heap.size ∧ ∀ j, j < N → w.cell? ⟨b, j, none⟩ = some (V j) ∧ ∃ t x, V j = .iface t x)

set_option maxRecDepth 100000 in
set_option maxHeartbeats 8000000 in
theorem sortedMap_any (B : Nat) (kv iv : Value) (l : List ByteArray) (V : Nat → Value) (w : World) (hk : StrsAt B w kv l) (hi : ItsAt w iv l.length V) (hB : B ≤ w.heap.size) (hn : l.length ≤ 10000) :
    Calls Try.prog 67 #[kv, iv] w fun e w' => ∃ f k2 i2, e = .returned (.agg #[k2, i2]) ∧ Blk (RK l) (fun p => (p : Int)) f 0 l.length ∧ w'.ownsRow w.heap.size 9 1 k2 l.length (keysTo l f l.length) ∧ w'.ownsRow w.heap.size 73 1 i2 l.length (itemsTo V f l.length) ∧ Below w.heap.size w w' := by
  have HK := hideIt hk
  have HI := hideIt hi
  obtain ⟨_, hks, ak, ck, rfl, hkc⟩ := hk
  obtain ⟨ai, ci, rfl, hic⟩ := hi
  have HKC := hideIt hkc
  have HIC := hideIt hic
  clear hkc hic
  obtain ⟨N, hN⟩ : ∃ N, l.length = N := ⟨_, rfl⟩
  have HN := hideIt hN
  have HKS := hideIt hks
  rw [hN] at hn HKC HIC ⊢
  rw [hN] at HK
  clear hN hks
  obtain ⟨j0, hj0, hy0, hs0, hb0⟩ := info_parts infoS1
  obtain ⟨j1, hj1, hy1, hs1, hb1'⟩ := info_parts infoV1
  obtain ⟨W2, hW2⟩ : ∃ W2, W2 = (w.alloc (.cells #[.slice none 0 0, .slice none 0 0] 95)).alloc (.cells #[.slice none 0 0, .slice none 0 0] 95) := ⟨_, rfl⟩
  have hr2 : W2.rowIs (w.heap.size + 1) 95 2 (fun j => if j = 0 then .slice none 0 0 else .slice none 0 0) := by
    have := World.rowIs_alloc (w.alloc (.cells #[.slice none 0 0, .slice none 0 0] 95)) #[.slice none 0 0, .slice none 0 0] 95 (fun _ => .slice none 0 0) (fun i hi => by
      match i, hi with
      | 0, _ => rfl
      | 1, _ => rfl)
    rw [World.size_alloc] at this
    rw [hW2]
    exact this.congr fun j _ => by simp
  have hr3 : W2.rowIs w.heap.size 95 2 (fun _ => .slice none 0 0) := by
    have := World.rowIs_alloc w #[.slice none 0 0, .slice none 0 0] 95 (fun _ => .slice none 0 0) (fun i hi => by
      match i, hi with
      | 0, _ => rfl
      | 1, _ => rfl)
    rw [hW2]
    exact this.alloc _
  have HR3 := hideIt hr3
  clear hr3
  have hz2 : W2.heap.size = w.heap.size + 1 + 1 := by rw [hW2, World.size_alloc, World.size_alloc]
  have hbw : Below w.heap.size w W2 := by
    rw [hW2]
    exact ((Below.refl _ _).alloc (Nat.le_refl _) _).alloc (by rw [World.size_alloc]; omega) _
  have HW2 := hideIt hW2
  have HR2 := hideIt hr2
  have HZ2 := hideIt hz2
  have HBW := hideIt hbw
  clear hW2 hr2 hz2 hbw
  go_enter Try.func67, Try.ntmps67
  go_wp2_with fail
  rw [← HW2.out]
  refine (sortedPlaces_any B _ l W2 (HK.out.below (HBW.out.mono hB)) (by rw [HZ2.out]; omega) (by rw [HN.out]; omega)).mono ?_
  rintro e w1 ⟨g, f, rfl, hg, hrow, hblk, hb1⟩
  rw [HN.out] at hrow hblk ⊢
  rw [HZ2.out] at hg
  have HROW := hideIt hrow
  have HBLK := hideIt hblk
  have hgl := hrow.lt
  have z1 := hb1.size
  rw [HZ2.out] at z1
  have HR4 := hideIt (rowIs_below HR3.out hb1 (by rw [HZ2.out]; omega))
  have HB1 : Hid (Below w.heap.size w w1) := HBW.out.trans (hb1.mono (by rw [HZ2.out]; omega))
  have HS0 : Hid (SM (w.heap.size + 1) w1.heap.size w1 w1 0 0 [] [] (.slice none 0 0) (.slice none 0 0)) := ⟨rowIs_below HR2.out hb1 (by rw [HZ2.out]; omega), World.ownsRow_nil _ _ _ _, World.ownsRow_nil _ _ _ _, Sw.refl _ _, Nat.le_refl _, by omega⟩
  clear hrow hblk hb1
  go_wp2_with fail
  go_loopw [11] (fun vi wr => ∃ (k : Nat) (kv iv : Value), k ≤ N ∧ vi = .int .i64 k ∧ SM (w.heap.size + 1) w1.heap.size w1 wr k k (keysTo l f k) (itemsTo V f k) kv iv) (fun vi _ => N - (intOf vi).toNat)
  case atStart => exact ⟨0, _, _, Nat.zero_le _, rfl, HS0.out⟩
  case round =>
    obtain ⟨k, kv, iv, hk, rfl, hsm⟩ := hrel
    clear HS0
    have HSM := hideIt hsm
    obtain ⟨a3, c3, e3⟩ := own_slice hsm.rk
    obtain ⟨a4, c4, e4⟩ := own_slice hsm.ri
    subst e3 e4
    have q0 := hsm.c0
    have q1 := hsm.c1
    have fq := hsm.row.frozen
    have hql := hsm.row.lt
    have zr := hsm.size
    by_cases hlt : k < N
    case neg =>
      obtain rfl : k = N := by omega
      have HBR : Hid (Below w.heap.size w wr) := HB1.out.trans (hsm.sw.below (by omega) (by omega))
      have hr5 : wr.rowIs w.heap.size 95 2 (fun _ => .slice none 0 0) := HR4.out.of_block (hsm.sw.2.2.2.2 w.heap.size (by omega) (by show ¬ w.heap.size = w.heap.size + 1; omega))
      have y0 := hr5.cell (i := 0) (by omega)
      have y1 := hr5.cell (i := 1) (by omega)
      have fy := hr5.frozen
      have hne : w.heap.size ≠ w.heap.size + 1 := by omega
      have HK2 := hideIt (own_mono (own_set (o := 1) (own_set (o := 0) hsm.rk (b := w.heap.size) (.slice a3 k c3) (fun x hx => by have := (hsm.rk.lt x hx).1; omega)) (b := w.heap.size) (.slice a4 k c4) (fun x hx => by have := (hsm.rk.lt x hx).1; omega)) (show w.heap.size ≤ w1.heap.size by omega))
      have HI2 := hideIt (own_mono (own_set (o := 1) (own_set (o := 0) hsm.ri (b := w.heap.size) (.slice a3 k c3) (fun x hx => by have := (hsm.ri.lt x hx).1; omega)) (b := w.heap.size) (.slice a4 k c4) (fun x hx => by have := (hsm.ri.lt x hx).1; omega)) (show w.heap.size ≤ w1.heap.size by omega))
      clear hsm hr5
      go_wp2_with fail
      refine bodyPost_ret (v := .agg #[.slice a3 k c3, .slice a4 k c4]) (by simp [results, Try.results67, go_sem, y0, y1, hne]) rfl ⟨f, _, _, rfl, HBLK.out, HK2.out, HI2.out, ?_⟩
      exact (HBR.out.setCell (p := ⟨w.heap.size, 0, none⟩) (Nat.le_refl _) _).setCell (p := ⟨w.heap.size, 1, none⟩) (Nat.le_refl _) _
    case pos =>
    obtain ⟨p, p1, p2, p3⟩ := HBLK.out.1 k (Nat.zero_le _) hlt
    have hfk : f k = (p : Int) := p3
    obtain ⟨bK, oK, rfl, hbK, hcK⟩ := HKC.out (by omega)
    obtain ⟨bI, rfl, hbI, hcI⟩ := HIC.out (by omega)
    obtain ⟨hcI1, tI, xI, eI⟩ := hcI p (by omega)
    have d1 : wr.cell? ⟨g, k, none⟩ = some (.int .i64 (p : Int)) := by
      rw [hsm.sw.cell hgl (by omega), HROW.out.cell hlt]
      unfold nums
      rw [hfk]
    have d2 : wr.cell? ⟨bK, oK + p, none⟩ = some (.string (keyAt l p)) := by
      rw [hsm.sw.cell (by omega) (by omega), below_cell HB1.out (by omega)]
      exact hcK p (by omega)
    have d3 : wr.cell? ⟨bI, p, none⟩ = some (.iface tI xI) := by
      rw [hsm.sw.cell (by omega) (by omega), below_cell HB1.out hbI, hcI1, eI]
    have HD3 : Hid (w1.cell? ⟨bI, p, none⟩ = some (.iface tI xI)) := by rw [Hid, below_cell HB1.out hbI, hcI1, eI]
    have hpN : p < N := by omega
    have HKS1 : Hid (keysTo l f (k + 1) = keysTo l f k ++ [.string (keyAt l p)]) := by rw [Hid, keysTo_succ, hfk, Int.toNat_natCast]
    have HIT1 : Hid (itemsTo V f (k + 1) = itemsTo V f k ++ [.iface tI xI]) := by rw [Hid, itemsTo_succ, hfk, Int.toNat_natCast, eI]
    clear hcK hcI hcI1 p3 hfk hsm
    obtain ⟨s, hs⟩ : ∃ s, keyAt l p = s := ⟨_, rfl⟩
    rw [hs] at d2 HKS1
    clear hs
    have HRK : Hid ((wr.drew.alloc (.cells #[.string s] 9)).ownsRow w1.heap.size 9 1 (.slice a3 k c3) k (keysTo l f k)) := own_below HSM.out.rk (((Below.refl wr.heap.size wr).drew).alloc (Nat.le_refl _) _) (fun x hx => (HSM.out.rk.lt x hx).2)
    have HNW : Hid (∀ j u, [Value.string s][j]? = some u → (wr.drew.alloc (.cells #[.string s] 9)).cell? ((⟨wr.heap.size, 0, none⟩ : Addr).add j) = some u) := World.news_of_block (cs := #[.string s]) (t := 9) (fr := (0, 0)) (heap_alloc_new wr.drew _)
    have hone : ∀ u ∈ [Value.string s], u.oneCell' = true := fun u hu => by simp at hu; subst hu; rfl
    have hml : k + 1 ≤ maxLen := by unfold maxLen; omega
    have hby : (k + 1) * 16 ≤ 140737488355328 := by omega
    have hbs : w1.heap.size ≤ (wr.drew.alloc (.cells #[.string s] 9)).heap.size := by simp; omega
    have htop : (wr.drew.alloc (.cells #[.string s] 9)).heap.size = wr.heap.size + 1 := by simp
    have HQK : Hid ((Value.slice a3 k c3).ownBlock ≠ some (w.heap.size + 1)) := fun e => by have := (HSM.out.rk.lt _ e).1; omega
    have x0 : (wr.drew.alloc (.cells #[.string s] 9)).cell? ⟨w.heap.size + 1, 0, none⟩ = some (.slice a3 k c3) := cell_more q0 hql _
    have HX0 := hideIt x0
    have HF0 : Hid ((wr.drew.alloc (.cells #[.string s] 9)).frozen? ⟨w.heap.size + 1, 0, none⟩ = false) := (((Below.refl wr.heap.size wr).drew.alloc (Nat.le_refl _) _).frozen (p := ⟨w.heap.size + 1, 0, none⟩) hql).trans (fq 0)
    clear x0
    go_wp2_with fail
    go_region_law
      (refine step_append_lies _ (by rfl) _ _ _ (by rfl) w1.heap.size 9 j0 (.string ByteArray.empty) 1 16 Try.underlying38 hj0 hy0 hs0 hb0 rfl (by omega) (.slice a3 k c3) k (keysTo l f k) (by rfl) HRK.out ⟨wr.heap.size, 0, none⟩ 1 1 [.string s] (by rfl) (by rfl) HNW.out hone (by omega) hml hby hbs (wr.heap.size + 1) htop ?_; intro g5 cap5 w5 hown hgrow hat hlt5; have hS3 : w5.cell? ⟨w.heap.size + 1, 0, none⟩ = some (.slice a3 k c3) := (World.grownBy.cell_far hgrow ⟨w.heap.size + 1, 0, none⟩ (by simp; omega) (Ne.symm HQK.out)).trans HX0.out; have hf3 : w5.frozen? ⟨w.heap.size + 1, 0, none⟩ = false := (World.grownBy.frozen_far hgrow ⟨w.heap.size + 1, 0, none⟩ (by simp; omega) (Ne.symm HQK.out)).trans HF0.out)
    all_goals
      have HG5 : Hid ((wr.drew.alloc (.cells #[.string s] 9)).grownBy w5 (Value.slice a3 k c3).ownBlock) := hgrow
      have HSK := hideIt (HSM.out.drew.key rfl HG5.out hown)
      generalize w5.setCell ⟨w.heap.size + 1, 0, none⟩ (Value.slice (some ⟨g5, 0, none⟩) (k + 1) cap5) = W6 at HSK ⊢
      clear HG5 hgrow hown hat hlt5 hS3 hf3 HRK HNW hone hbs htop HQK HX0 HF0 q0 q1 fq hql zr d1 d2 d3 HSM
      have q1 := HSK.out.c1
      have fq := HSK.out.row.frozen
      have hql := HSK.out.row.lt
      have zr := HSK.out.size
      have d3 : W6.cell? ⟨bI, p, none⟩ = some (.iface tI xI) := (HSK.out.sw.cell (by omega) (by omega)).trans HD3.out
      have HRI : Hid ((W6.drew.alloc (.cells #[.iface tI xI] 73)).ownsRow w1.heap.size 73 1 (.slice a4 k c4) k (itemsTo V f k)) := own_below HSK.out.ri (((Below.refl W6.heap.size W6).drew).alloc (Nat.le_refl _) _) (fun x hx => (HSK.out.ri.lt x hx).2)
      have HNW : Hid (∀ j u, [Value.iface tI xI][j]? = some u → (W6.drew.alloc (.cells #[.iface tI xI] 73)).cell? ((⟨W6.heap.size, 0, none⟩ : Addr).add j) = some u) := World.news_of_block (cs := #[.iface tI xI]) (t := 73) (fr := (0, 0)) (heap_alloc_new W6.drew _)
      have hone : ∀ u ∈ [Value.iface tI xI], u.oneCell' = true := fun u hu => by simp at hu; subst hu; rfl
      have hbs : w1.heap.size ≤ (W6.drew.alloc (.cells #[.iface tI xI] 73)).heap.size := by simp; omega
      have htop : (W6.drew.alloc (.cells #[.iface tI xI] 73)).heap.size = W6.heap.size + 1 := by simp
      have HQI : Hid ((Value.slice a4 k c4).ownBlock ≠ some (w.heap.size + 1)) := fun e => by have := (HSK.out.ri.lt _ e).1; omega
      have HX1 : Hid ((W6.drew.alloc (.cells #[.iface tI xI] 73)).cell? ⟨w.heap.size + 1, 1, none⟩ = some (.slice a4 k c4)) := cell_more q1 hql _
      have HF1 : Hid ((W6.drew.alloc (.cells #[.iface tI xI] 73)).frozen? ⟨w.heap.size + 1, 1, none⟩ = false) := (((Below.refl W6.heap.size W6).drew.alloc (Nat.le_refl _) _).frozen (p := ⟨w.heap.size + 1, 1, none⟩) hql).trans (fq 1)
      go_wp2_with fail
      go_region_law
        (refine step_append_lies _ (by rfl) _ _ _ (by rfl) w1.heap.size 73 j1 .nilIface 1 16 Try.underlying85 hj1 hy1 hs1 hb1' rfl (by omega) (.slice a4 k c4) k (itemsTo V f k) (by rfl) HRI.out ⟨W6.heap.size, 0, none⟩ 1 1 [.iface tI xI] (by rfl) (by rfl) HNW.out hone (by omega) hml hby hbs (W6.heap.size + 1) htop ?_; intro g7 cap7 w7 hown hgrow hat hlt7; have hS3 : w7.cell? ⟨w.heap.size + 1, 1, none⟩ = some (.slice a4 k c4) := (World.grownBy.cell_far hgrow ⟨w.heap.size + 1, 1, none⟩ (by simp; omega) (Ne.symm HQI.out)).trans HX1.out; have hf3 : w7.frozen? ⟨w.heap.size + 1, 1, none⟩ = false := (World.grownBy.frozen_far hgrow ⟨w.heap.size + 1, 1, none⟩ (by simp; omega) (Ne.symm HQI.out)).trans HF1.out)
      all_goals
        have HG7 : Hid ((W6.drew.alloc (.cells #[.iface tI xI] 73)).grownBy w7 (Value.slice a4 k c4).ownBlock) := hgrow
        have HSN := hideIt (HSK.out.drew.item rfl HG7.out hown)
        rw [← HKS1.out, ← HIT1.out] at HSN
        clear HG7 hgrow hown
        go_wp2_with fail
        go_roundw
        case rel => exact ⟨k + 1, _, _, by omega, by go_num, HSN.out⟩
        case measure => simp [intOf]; omega
end Go.Proofs.Ytpfnkpkcjefelaa
