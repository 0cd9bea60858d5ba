import Derived.Test.YtcidjhnogldgmaaGreatDoorPick
import Derived.Test.YtcidjhnogldgmaaGreatDoorTOk
import Derived.Lib.ItoaNum
import Derived.Test.YtcidjhnogldgmaaGreatDoorRd
import Derived.Test.YtcidjhnogldgmaaGreatDoorSpc3
import Derived.Test.YtcidjhnogldgmaaGreatDoorProg
import Derived.Deep.QuietTactic
import Derived.BigQuiet
import Derived.WalkSmall
namespace Go.Proofs.YtcidjhnogldgmaaGreatDoor
open Go.RowKit
set_option linter.unusedSimpArgs false
set_option linter.unusedVariables false
end Go.Proofs.YtcidjhnogldgmaaGreatDoor

namespace Go.Proofs.YtcidjhnogldgmaaGreatDoor
open Go.RowKit
set_option linter.unusedSimpArgs false
set_option linter.unusedVariables false
end Go.Proofs.YtcidjhnogldgmaaGreatDoor

namespace Go.Proofs.YtcidjhnogldgmaaGreatDoor
open Go.RowKit
set_option linter.unusedSimpArgs false
set_option linter.unusedVariables false
def lenK (x : VN) : Option Int :=
  if x.kind = 1 then some 0
  else if x.kind = 3 then some (max x.n (-x.n))
  else if x.kind = 4 then some (x.s.size : Int)
  else if x.kind = 5 ∨ x.kind = 6 then some (x.kids.length : Int)
  else none
def rootN (vs : List VN) : VN := nodeAt vs (vs.length - 1)
def oneNs (o : Option Int) : List VN := match o with
  | some n => leafN 3 n ByteArray.empty
  | none => []
def kindC (o : Option Int) : Int := match o with
  | some _ => 0
  | none => 2
def lenNs (vs : List VN) : List VN := if okB vs = true then oneNs (lenK (rootN vs)) else []
def lenC (vs : List VN) : Int := if okB vs = true then kindC (lenK (rootN vs)) else 1
theorem leaf_few (n : Int) (h1 : -9223372036854775808 ≤ n) (h2 : n ≤ 9223372036854775807) : Few (leafN 3 n ByteArray.empty) ∧ ∀ i, i < (leafN 3 n ByteArray.empty).length → Fits (nodeAt (leafN 3 n ByteArray.empty) i) := by
  have h0 : ∀ i, i < (leafN 3 n ByteArray.empty).length → i = 0 := fun i hi => by simp [leafN] at hi; omega
  refine ⟨⟨by simp [leafN], fun i hi => ?_⟩, fun i hi => ?_⟩
  · obtain rfl := h0 i hi
    exact ⟨by simp [leafN, nodeAt], by simp [leafN, nodeAt]⟩
  · obtain rfl := h0 i hi
    refine ⟨by simp [leafN, nodeAt], fun i hi => absurd hi (by simp [leafN, nodeAt]), by simp [leafN, nodeAt], fun i hi => absurd hi (by simp [leafN, nodeAt]), by simp [leafN, nodeAt], by simp [leafN, nodeAt], by simp [leafN, nodeAt], by simpa [leafN, nodeAt] using h1, by simpa [leafN, nodeAt] using h2⟩
theorem none_few : Few ([] : List VN) ∧ ∀ i, i < ([] : List VN).length → Fits (nodeAt [] i) := ⟨⟨by simp, fun i hi => absurd hi (by simp)⟩, fun i hi => absurd hi (by simp)⟩
theorem root_says {vs : List VN} (hok : okB vs = true) : (rootN vs).kind = 1 ∨ (rootN vs).kind = 2 ∨ ((rootN vs).kind = 3 ∧ -1000000000000000 ≤ (rootN vs).n ∧ (rootN vs).n ≤ 1000000000000000) ∨ ((rootN vs).kind = 4 ∧ (rootN vs).s.size ≤ 60) ∨ ((rootN vs).kind = 5 ∧ (rootN vs).kids.length ≤ 80) ∨ ((rootN vs).kind = 6 ∧ (rootN vs).kids.length ≤ 80) := by
  obtain ⟨p1, p2, _, p4⟩ := okB_parts hok
  have hn := (p2 (vs.length - 1) (by omega)).1
  have hk := p4 (vs.length - 1) (by omega)
  have hk' : (rootN vs).kids.length ≤ 80 := by unfold rootN; omega
  change nodeB (rootN vs) = true at hn
  unfold nodeB namedB at hn
  simp only [Bool.and_eq_true] at hn
  have h2 := hn.2
  by_cases k1 : (rootN vs).kind = 1
  · exact Or.inl k1
  by_cases k2 : (rootN vs).kind = 2
  · exact Or.inr (Or.inl k2)
  by_cases k3 : (rootN vs).kind = 3
  · simp [k3] at h2; exact Or.inr (Or.inr (Or.inl ⟨k3, by omega, by omega⟩))
  by_cases k4 : (rootN vs).kind = 4
  · simp [k4, textB] at h2; exact Or.inr (Or.inr (Or.inr (Or.inl ⟨k4, h2.1⟩)))
  by_cases k5 : (rootN vs).kind = 5
  · exact Or.inr (Or.inr (Or.inr (Or.inr (Or.inl ⟨k5, hk'⟩))))
  by_cases k6 : (rootN vs).kind = 6
  · exact Or.inr (Or.inr (Or.inr (Or.inr (Or.inr ⟨k6, hk'⟩))))
  simp [k1, k2, k3, k4, k5, k6] at h2
theorem len_range {vs : List VN} (hok : okB vs = true) {n : Int} (h : lenK (rootN vs) = some n) : 0 ≤ n ∧ n ≤ 1000000000000000 := by
  unfold lenK at h
  rcases root_says hok with k | k | ⟨k, a, b⟩ | ⟨k, a⟩ | ⟨k, a⟩ | ⟨k, a⟩ <;> simp [k] at h <;> omega
theorem len_few (vs : List VN) : Few (lenNs vs) ∧ ∀ i, i < (lenNs vs).length → Fits (nodeAt (lenNs vs) i) := by
  unfold lenNs
  split
  · rename_i hok
    cases h : lenK (rootN vs) with
    | none => exact none_few
    | some n =>
      have := len_range hok h
      exact leaf_few n (by omega) (by omega)
  · exact none_few
end Go.Proofs.YtcidjhnogldgmaaGreatDoor

namespace Go.Proofs.YtcidjhnogldgmaaGreatDoor
open Go.RowKit
set_option linter.unusedSimpArgs false
set_option linter.unusedVariables false
theorem Mid.keepB {base : Nat} {w wr : World} {nb : Nat} {v0 v kv : Value} {ns acc : List VN} {ks : List Int} {cs : List Value} {KV0 IV0 KV IV : Nat → Value} {B : Nat} (h : Mid base w wr nb v0 v kv ns acc ks cs KV0 IV0 KV IV) (hB : B ≤ base) : ∀ k, k < B → wr.heap[k]? = w.heap[k]? :=
  fun k hk => h.frame.block k (by have := h.hbase; omega) (fun e => by have := h.v0b k e.symm; omega)
def LaysAll (B base f : Nat) : Prop :=
  ∀ (t : VT) (x v : Value) (ns : List VN) (KV IV : Nat → Value) (w : World), Nest base w v ns KV IV → TreeAt B w f t x → base ≤ w.heap.size → ns.length + (layT f t ns.length).length ≤ 100000 →
    Calls Tryz.prog 21 #[v, x] w fun e w' => ∃ v' KV' IV', e = .returned v' ∧ Laid base w w' v v' ns (layT f t ns.length) KV IV KV' IV'
theorem node_after {base : Nat} {w w3 w5 : World} {nb : Nat} {v0 v kv : Value} {ns acc : List VN} {ks : List Int} {cs : List Value} {KV0 IV0 KV IV : Nat → Value} {o : Obj} (h : Mid base w w3 nb v0 v kv ns acc ks cs KV0 IV0 KV IV) (hg : (w3.alloc o).grownBy w5 kv.ownBlock) :
    w5.ownsRow w.heap.size 32 5 (.slice (some ⟨nb, 0, none⟩) 1 1) 1 cs :=
  h.node.kept ((World.grownBy_alloc w3 o _).trans hg) (own_apart h.node h.kids (by decide))
set_option maxRecDepth 100000 in
set_option maxHeartbeats 6400000 in
theorem withNodes_list (B base f : Nat) (hB : B ≤ base) (ih : LaysAll B base f) (kids : List VT) (it v : Value) (ns : List VN) (KV IV : Nat → Value) (w : World) (hit : TItems B w it kids.length (fun j u => TreeAt B w f (kidT kids j) u)) (h : Nest base w v ns KV IV) (hb : base ≤ w.heap.size) (hn : ns.length + (accT f ns.length kids kids.length).length + 1 ≤ 100000) :
    Calls Tryz.prog 21 #[v, .iface 107 (.agg #[it])] w fun e w' => ∃ v' KV' IV', e = .returned v' ∧ Laid base w w' v v' ns (accT f ns.length kids kids.length ++ [{ kind := 5, n := 0, s := ByteArray.empty, keys := [], kids := ksT f ns.length kids kids.length }]) KV IV KV' IV' := by
  have H := hideIt h
  obtain ⟨av, cv, rfl⟩ := own_slice h.row
  clear h
  obtain ⟨hm0, ai, ci, rfl, hx⟩ := hit
  have HX := hideIt hx
  have IH := hideIt ih
  clear hx ih
  have ta0 := ta_list_bool
  have ta1 := ta_list_int
  have ta2 := ta_list_text
  have ta3 := ta_list_map
  obtain ⟨i0, hi0, hz0, hs0, hy0⟩ := info_parts infoNode
  obtain ⟨i2, hi2, hz2, hs2, hy2⟩ := info_parts infoInt
  go_enter Tryz.func21, Tryz.ntmps21
  go_wp2_with fail
  refine (kind5_any _ _ _ _).mono ?_
  rintro e w1 ⟨rfl, hb1⟩
  have HB1 := hideIt hb1
  go_wp2_with fail
  refine (parts5_any _ _ _ _).mono ?_
  rintro e w2 ⟨rfl, hb2⟩
  have HM := hideIt (Mid.start H.out hb HB1.out hb2)
  have z2 : w1.heap.size < w2.heap.size := by have := hb2.size; simp at this; omega
  clear hb1 hb2
  go_wp2_with fail
  go_loopw [0, 18] (fun o i wr => ∃ (k : Nat) (kv : Value) (KV' IV' : Nat → Value), k ≤ kids.length ∧ i = .int .i64 k ∧ Mid base w wr w1.heap.size (.slice av ns.length cv) o kv ns (accT f ns.length kids k) (ksT f ns.length kids k) [.int .i64 5, .int .i64 0, .string ⟨#[]⟩, .slice none 0 0, kv] KV IV KV' IV') (fun _ i _ => kids.length - (intOf i).toNat)
  case atStart => exact ⟨0, _, _, _, Nat.zero_le _, rfl, by rw [accT_zero, ksT_zero]; exact HM.out⟩
  case round =>
    obtain ⟨k, kv, KV', IV', hk, rfl, hm⟩ := hrel
    clear HM z2
    have HM := hideIt hm
    obtain ⟨ao, co, ho⟩ := own_slice hm.nest.row
    obtain ⟨M, hM⟩ : ∃ M, (ns ++ accT f ns.length kids k).length = M := ⟨_, rfl⟩
    have HMM := hideIt hM
    have hacc := accT_le f ns.length kids k
    rw [hM] at ho
    subst ho
    have hfs := hm.frame.size
    have hM1 : M + 1 ≤ 100000 := by rw [← hM, List.length_append]; omega
    clear hm hM
    by_cases hlt : k < kids.length
    · obtain ⟨b, rfl, hbB, hc⟩ := HX.out (by omega)
      obtain ⟨t, x, hck, htr⟩ := hc k hlt
      have hck' : wr.cell? ⟨b, k, none⟩ = some (.iface t x) := (World.cell?_of_block (HM.out.keepB hB b hbB)).trans hck
      have HT := hideIt (TreeAt.keep (HM.out.keepB hB) (Nat.le_refl _) htr)
      have hacc1 := accT_le f ns.length kids (k + 1)
      have HA := hideIt (accT_succ f ns.length hlt)
      have HL0 : Hid ((ns ++ accT f ns.length kids k).length = ns.length + (accT f ns.length kids k).length) := List.length_append
      clear hc hck htr
      go_wp2_with fail
      refine (IH.out (kidT kids k) (.iface t x) _ (ns ++ accT f ns.length kids k) KV' IV' wr HM.out.nest HT.out (by omega) (by rw [HL0.out]; rw [HA.out, List.length_append] at hacc1; omega)).mono ?_
      rintro e w3 ⟨v3, KV3, IV3, rfl, hl⟩
      have hm3 := HM.out.laid hl
      rw [HL0.out, ← HA.out] at hm3
      have HM3 := hideIt hm3
      obtain ⟨a3, c3, h3⟩ := own_slice hm3.nest.row
      obtain ⟨L, hL⟩ : ∃ L, (ns ++ accT f ns.length kids (k + 1)).length = L := ⟨_, rfl⟩
      rw [hL] at h3
      subst h3
      have hL1 : L ≤ 100000 := by rw [← hL, List.length_append]; omega
      have HKS : Hid (ksT f ns.length kids (k + 1) = ksT f ns.length kids k ++ [(L : Int) - 1]) := by rw [Hid, ksT_succ f ns.length hlt, ← hL, List.length_append]
      have hkl := ksT_len f ns.length kids hk
      have HKL := hideIt hkl
      have y4 : w3.cell? ⟨w1.heap.size, 4, none⟩ = some kv := HM3.out.node.cellAt 4 (by omega)
      have hL0 : 1 ≤ L := by
        have := layT_pos HT.out (ns.length + (accT f ns.length kids k).length)
        rw [← hL, HA.out, List.length_append, List.length_append]
        omega
      have HK3 := hideIt HM3.out.kids
      obtain ⟨ak, ck, hkv⟩ := own_slice HK3.out
      rw [HKL.out] at hkv
      subst hkv
      have HZ3 := hideIt HM3.out.frame.size
      clear hm3 hl hL hkl hacc hacc1
      go_wp2_with (at_builtin; refine wpList_append_own_at _ rfl _ _ 30 rfl w.heap.size 2 i2 (.int .i64 0) 1 8 Tryz.underlying30 hi2 hz2 hs2 hy2 rfl (by decide) _ _ _ rfl (HK3.out.alloc _) ⟨w3.heap.size, 0, none⟩ 1 1 [.int .i64 ((L : Int) - 1)] rfl rfl ?c1 ?c2 ?c3 ?c4 ?c5 ?_)
      case c1 => exact cell_one_new _ _ _
      case c2 => intro u hu; simp at hu; subst hu; rfl
      case c3 => rw [HKL.out]; simp [maxLen]; omega
      case c4 => rw [HKL.out]; omega
      case c5 => have := HZ3.out; simp; omega
      intro kv' w5 hown hgrow _ hat
      obtain ⟨ak', ck', hk'⟩ := own_slice hown
      rw [HKL.out] at hk'
      subst hk'
      have n5 := node_after HM3.out hgrow
      have x4 : w5.cell? ⟨w1.heap.size, 4, none⟩ = some (.slice ak k ck) := n5.cellAt 4 (by omega)
      have f4 : w5.frozen? ⟨w1.heap.size, 4, none⟩ = false := n5.frozenAt 4
      have HMK := hideIt (HM3.out.kid hown hgrow (by simpa using hat))
      clear hown hgrow hat n5
      go_wp2_with fail
      go_roundw
      case rel => exact ⟨k + 1, _, KV3, IV3, by omega, by go_num, by rw [HKS.out]; exact HMK.out⟩
      case measure => simp [intOf]; omega
    · obtain rfl : k = kids.length := by omega
      have y0 : wr.cell? ⟨w1.heap.size, 0, none⟩ = some (.int .i64 5) := HM.out.node.cellAt 0 (by omega)
      have y1 : wr.cell? ⟨w1.heap.size, 1, none⟩ = some (.int .i64 0) := HM.out.node.cellAt 1 (by omega)
      have y2 : wr.cell? ⟨w1.heap.size, 2, none⟩ = some (.string ⟨#[]⟩) := HM.out.node.cellAt 2 (by omega)
      have y3 : wr.cell? ⟨w1.heap.size, 3, none⟩ = some (.slice none 0 0) := HM.out.node.cellAt 3 (by omega)
      have y4 : wr.cell? ⟨w1.heap.size, 4, none⟩ = some kv := HM.out.node.cellAt 4 (by omega)
      have HN := hideIt (HM.out.nest.row.alloc (.cells #[.int .i64 5, .int .i64 0, .string ⟨#[]⟩, .slice none 0 0, kv] 32))
      rw [HMM.out] at HN
      have h1 : kv.oneCell' = true := by obtain ⟨a, c, rfl⟩ := own_slice HM.out.kids; rfl
      go_wp2_with (at_builtin; refine wpList_append_own_at _ rfl _ _ 24 rfl base 32 i0 zeroNode 5 80 Tryz.underlying24 hi0 hz0 hs0 hy0 rfl (by decide) _ _ _ rfl HN.out ⟨wr.heap.size, 0, none⟩ 1 1 [.int .i64 5, .int .i64 0, .string ⟨#[]⟩, .slice none 0 0, kv] rfl rfl ?c1 ?c2 ?c3 ?c4 ?c5 ?_)
      case c1 => exact news5 _ _ _ _ _ _
      case c2 => intro u hu; simp at hu; rcases hu with rfl | rfl | rfl | rfl | rfl <;> first | rfl | exact h1
      case c3 => unfold maxLen; omega
      case c4 => omega
      case c5 => simp; omega
      intro v' w6 hown hgrow _ hat
      have HL := hideIt (Mid.fin (x := { kind := 5, n := 0, s := ⟨#[]⟩, keys := [], kids := ksT f ns.length kids kids.length }) HM.out rfl (World.ownsRow_nil _ _ _ _) (fun j _ y hy => by simp [Value.ownBlock] at hy) (by rw [HMM.out]; exact hown) hgrow hat)
      clear hown hgrow hat
      go_wp2_with fail
      go_ret
      exact ⟨_, _, _, rfl, HL.out⟩
end Go.Proofs.YtcidjhnogldgmaaGreatDoor

namespace Go.Proofs.YtcidjhnogldgmaaGreatDoor
open Go.RowKit
set_option linter.unusedSimpArgs false
set_option linter.unusedVariables false
set_option maxRecDepth 100000 in
set_option maxHeartbeats 6400000 in
theorem withNodes_map (B base f : Nat) (hB : B ≤ base) (ih : LaysAll B base f) (keys : List ByteArray) (kids : List VT) (kv0 it v : Value) (ns : List VN) (KV IV : Nat → Value) (w : World) (hks : StrsAt B w kv0 keys) (hit : TItems B w it kids.length (fun j u => TreeAt B w f (kidT kids j) u)) (h : Nest base w v ns KV IV) (hb : base ≤ w.heap.size) (hn : ns.length + (accT f ns.length kids kids.length).length + 1 ≤ 100000) :
    Calls Tryz.prog 21 #[v, .iface 96 (.agg #[kv0, it])] w fun e w' => ∃ v' KV' IV', e = .returned v' ∧ Laid base w w' v v' ns (accT f ns.length kids kids.length ++ [{ kind := 6, n := 0, s := ByteArray.empty, keys := keys, kids := ksT f ns.length kids kids.length }]) KV IV KV' IV' := by
  have H := hideIt h
  obtain ⟨av, cv, rfl⟩ := own_slice h.row
  clear h
  obtain ⟨hm0, ai, ci, rfl, hx⟩ := hit
  have HX := hideIt hx
  have HKS0 := hideIt hks
  obtain ⟨hkn, _, aK, cK, rfl, _⟩ := hks
  have IH := hideIt ih
  clear hx ih
  have ta0 := ta_map_bool
  have ta1 := ta_map_int
  have ta2 := ta_map_text
  have ta3 := ta_map_map
  obtain ⟨i0, hi0, hz0, hs0, hy0⟩ := info_parts infoNode
  obtain ⟨i1, hi1, hz1, hs1, hy1⟩ := info_parts infoStr
  obtain ⟨i2, hi2, hz2, hs2, hy2⟩ := info_parts infoInt
  go_enter Tryz.func21, Tryz.ntmps21
  go_wp2_with fail
  refine (kind6_any _ _ _ _ _ _ _).mono ?_
  rintro e w1 ⟨rfl, hb1⟩
  have HB1 := hideIt hb1
  go_wp2_with fail
  refine (parts6_any _ _ _ _ _ _ _).mono ?_
  rintro e w2 ⟨rfl, hb2⟩
  have HM := hideIt (Mid.start H.out hb HB1.out hb2)
  have z2 : w1.heap.size < w2.heap.size := by have := hb2.size; simp at this; omega
  clear hb1 hb2
  go_wp2_with fail
  go_loopw [0, 18] (fun o i wr => ∃ (k : Nat) (kv : Value) (KV' IV' : Nat → Value), k ≤ kids.length ∧ i = .int .i64 k ∧ Mid base w wr w1.heap.size (.slice av ns.length cv) o kv ns (accT f ns.length kids k) (ksT f ns.length kids k) [.int .i64 6, .int .i64 0, .string ⟨#[]⟩, .slice none 0 0, kv] KV IV KV' IV') (fun _ i _ => kids.length - (intOf i).toNat)
  case atStart => exact ⟨0, _, _, _, Nat.zero_le _, rfl, by rw [accT_zero, ksT_zero]; exact HM.out⟩
  case round =>
    obtain ⟨k, kv, KV', IV', hk, rfl, hm⟩ := hrel
    clear HM z2
    have HM := hideIt hm
    obtain ⟨ao, co, ho⟩ := own_slice hm.nest.row
    obtain ⟨M, hM⟩ : ∃ M, (ns ++ accT f ns.length kids k).length = M := ⟨_, rfl⟩
    have HMM := hideIt hM
    have hacc := accT_le f ns.length kids k
    rw [hM] at ho
    subst ho
    have hfs := hm.frame.size
    have hM1 : M + 1 ≤ 100000 := by rw [← hM, List.length_append]; omega
    clear hm hM
    by_cases hlt : k < kids.length
    · obtain ⟨b, rfl, hbB, hc⟩ := HX.out (by omega)
      obtain ⟨t, x, hck, htr⟩ := hc k hlt
      have hck' : wr.cell? ⟨b, k, none⟩ = some (.iface t x) := (World.cell?_of_block (HM.out.keepB hB b hbB)).trans hck
      have HT := hideIt (TreeAt.keep (HM.out.keepB hB) (Nat.le_refl _) htr)
      have hacc1 := accT_le f ns.length kids (k + 1)
      have HA := hideIt (accT_succ f ns.length hlt)
      have HL0 : Hid ((ns ++ accT f ns.length kids k).length = ns.length + (accT f ns.length kids k).length) := List.length_append
      clear hc hck htr
      go_wp2_with fail
      refine (IH.out (kidT kids k) (.iface t x) _ (ns ++ accT f ns.length kids k) KV' IV' wr HM.out.nest HT.out (by omega) (by rw [HL0.out]; rw [HA.out, List.length_append] at hacc1; omega)).mono ?_
      rintro e w3 ⟨v3, KV3, IV3, rfl, hl⟩
      have hm3 := HM.out.laid hl
      rw [HL0.out, ← HA.out] at hm3
      have HM3 := hideIt hm3
      obtain ⟨a3, c3, h3⟩ := own_slice hm3.nest.row
      obtain ⟨L, hL⟩ : ∃ L, (ns ++ accT f ns.length kids (k + 1)).length = L := ⟨_, rfl⟩
      rw [hL] at h3
      subst h3
      have hL1 : L ≤ 100000 := by rw [← hL, List.length_append]; omega
      have HKS : Hid (ksT f ns.length kids (k + 1) = ksT f ns.length kids k ++ [(L : Int) - 1]) := by rw [Hid, ksT_succ f ns.length hlt, ← hL, List.length_append]
      have hkl := ksT_len f ns.length kids hk
      have HKL := hideIt hkl
      have y4 : w3.cell? ⟨w1.heap.size, 4, none⟩ = some kv := HM3.out.node.cellAt 4 (by omega)
      have hL0 : 1 ≤ L := by
        have := layT_pos HT.out (ns.length + (accT f ns.length kids k).length)
        rw [← hL, HA.out, List.length_append, List.length_append]
        omega
      have HK3 := hideIt HM3.out.kids
      obtain ⟨ak, ck, hkv⟩ := own_slice HK3.out
      rw [HKL.out] at hkv
      subst hkv
      have HZ3 := hideIt HM3.out.frame.size
      clear hm3 hl hL hkl hacc hacc1
      go_wp2_with (at_builtin; refine wpList_append_own_at _ rfl _ _ 30 rfl w.heap.size 2 i2 (.int .i64 0) 1 8 Tryz.underlying30 hi2 hz2 hs2 hy2 rfl (by decide) _ _ _ rfl (HK3.out.alloc _) ⟨w3.heap.size, 0, none⟩ 1 1 [.int .i64 ((L : Int) - 1)] rfl rfl ?c1 ?c2 ?c3 ?c4 ?c5 ?_)
      case c1 => exact cell_one_new _ _ _
      case c2 => intro u hu; simp at hu; subst hu; rfl
      case c3 => rw [HKL.out]; simp [maxLen]; omega
      case c4 => rw [HKL.out]; omega
      case c5 => have := HZ3.out; simp; omega
      intro kv' w5 hown hgrow _ hat
      obtain ⟨ak', ck', hk'⟩ := own_slice hown
      rw [HKL.out] at hk'
      subst hk'
      have n5 := node_after HM3.out hgrow
      have x4 : w5.cell? ⟨w1.heap.size, 4, none⟩ = some (.slice ak k ck) := n5.cellAt 4 (by omega)
      have f4 : w5.frozen? ⟨w1.heap.size, 4, none⟩ = false := n5.frozenAt 4
      have HMK := hideIt (HM3.out.kid hown hgrow (by simpa using hat))
      clear hown hgrow hat n5
      go_wp2_with fail
      go_roundw
      case rel => exact ⟨k + 1, _, KV3, IV3, by omega, by go_num, by rw [HKS.out]; exact HMK.out⟩
      case measure => simp [intOf]; omega
    · obtain rfl : k = kids.length := by omega
      have zw := (HM.out.node.lt _ rfl).2
      have y3 : wr.cell? ⟨w1.heap.size, 3, none⟩ = some (.slice none 0 0) := HM.out.node.cellAt 3 (by omega)
      have HSRC : Hid (0 < keys.length → ∃ ad, aK = some ad ∧ ∀ j u, (keys.map Value.string)[j]? = some u → (wr.alloc (.cells #[.slice aK keys.length cK, .slice ai kids.length ci] 96)).cell? (ad.add j) = some u) := by
        intro hp
        obtain ⟨_, _, aK', cK', e, hck⟩ := HKS0.out
        cases e
        obtain ⟨bk, ok, rfl, hbk, hcc⟩ := hck hp
        refine ⟨_, rfl, fun j u hj => ?_⟩
        have hj' : j < keys.length := by have := (List.getElem?_eq_some_iff.1 hj).1; simpa using this
        have hbs : bk < wr.heap.size := by omega
        rw [show (⟨bk, ok, none⟩ : Addr).add j = ⟨bk, ok + j, none⟩ by simp [Addr.add], below_cell ((Below.refl _ wr).alloc (Nat.le_refl _) _) hbs, World.cell?_of_block (HM.out.keepB hB bk hbk), hcc j hj']
        simp [hj', keyAt] at hj ⊢
        exact hj
      go_wp2_with (at_builtin; refine wpList_append_src rfl _ _ 29 rfl w.heap.size 9 i1 (.string ByteArray.empty) 1 16 Tryz.underlying29 hi1 hz1 hs1 hy1 rfl (by decide) _ 0 [] rfl (World.ownsRow_nil _ _ _ _) aK keys.length cK (keys.map .string) rfl (by simp) HSRC.out ?c2 ?c3 ?c4 ?c5 ?_)
      case c2 => intro u hu; first | rfl | (obtain ⟨q, _, rfl⟩ := List.mem_map.1 hu; rfl)
      case c3 => unfold maxLen; omega
      case c4 => omega
      case c5 => first | omega | (simp; omega)
      intro vk w5 hk2 hg2 hat2
      (try simp only [Nat.zero_add, List.nil_append] at hk2)
      have hm5 := (HM.out.grow (World.grownBy_alloc wr _ none)).grow hg2
      have hkr := hk2.kept (hm5.node.stored 3 vk).2 (own_apart hk2 hm5.node (by decide))
      have HKR := hideIt hkr
      have HM6 := hideIt (hm5.put 3 vk)
      have HFK : Hid (∀ j, j < ns.length + (accT f ns.length kids kids.length).length → ∀ y, vk.ownBlock = some y → (KV' j).ownBlock ≠ some y) := by
        intro j hj y hy e
        have h1 := ((HM.out.nest.rk j (by simpa using hj)).lt y e).2
        rcases hat2 with e2 | e2
        · rw [e2] at hy; simp [Value.ownBlock] at hy
        · rw [e2] at hy; simp at hy; omega
      obtain ⟨ak, ck, hvk⟩ := own_slice hk2
      subst hvk
      have x3 : w5.cell? ⟨w1.heap.size, 3, none⟩ = some (.slice none 0 0) := hm5.node.cellAt 3 (by omega)
      have f3 : w5.frozen? ⟨w1.heap.size, 3, none⟩ = false := hm5.node.frozenAt 3
      have hs5 := hm5.frame.size
      have X0 : (w5.setCell ⟨w1.heap.size, 3, none⟩ (.slice ak keys.length ck)).cell? ⟨w1.heap.size, 0, none⟩ = some (.int .i64 6) := HM6.out.node.cellAt 0 (by omega)
      have X1 : (w5.setCell ⟨w1.heap.size, 3, none⟩ (.slice ak keys.length ck)).cell? ⟨w1.heap.size, 1, none⟩ = some (.int .i64 0) := HM6.out.node.cellAt 1 (by omega)
      have X2 : (w5.setCell ⟨w1.heap.size, 3, none⟩ (.slice ak keys.length ck)).cell? ⟨w1.heap.size, 2, none⟩ = some (.string ⟨#[]⟩) := HM6.out.node.cellAt 2 (by omega)
      have X3 : (w5.setCell ⟨w1.heap.size, 3, none⟩ (.slice ak keys.length ck)).cell? ⟨w1.heap.size, 3, none⟩ = some (.slice ak keys.length ck) := HM6.out.node.cellAt 3 (by omega)
      have X4 : (w5.setCell ⟨w1.heap.size, 3, none⟩ (.slice ak keys.length ck)).cell? ⟨w1.heap.size, 4, none⟩ = some kv := HM6.out.node.cellAt 4 (by omega)
      have HN := hideIt (HM6.out.nest.row.alloc (.cells #[.int .i64 6, .int .i64 0, .string ⟨#[]⟩, .slice ak keys.length ck, kv] 32))
      rw [HMM.out] at HN
      have h1 : kv.oneCell' = true := by obtain ⟨a, c, rfl⟩ := own_slice HM.out.kids; rfl
      clear hm5 hkr hk2 hg2 hat2 y3
      go_wp2_with (at_builtin; refine wpList_append_own_at _ rfl _ _ 24 rfl base 32 i0 zeroNode 5 80 Tryz.underlying24 hi0 hz0 hs0 hy0 rfl (by decide) _ _ _ rfl HN.out ⟨w5.heap.size, 0, none⟩ 1 1 [.int .i64 6, .int .i64 0, .string ⟨#[]⟩, .slice ak keys.length ck, kv] rfl rfl ?c1 ?c2 ?c3 ?c4 ?c5 ?_)
      case c1 => exact news5_at _ _ _ _ _ _ _ (by simp)
      case c2 => intro u hu; simp at hu; rcases hu with rfl | rfl | rfl | rfl | rfl <;> first | rfl | exact h1
      case c3 => unfold maxLen; omega
      case c4 => omega
      case c5 => simp; omega
      intro v' w6 hown hgrow _ hat
      have HL := hideIt (Mid.fin (x := { kind := 6, n := 0, s := ⟨#[]⟩, keys := keys, kids := ksT f ns.length kids kids.length }) HM6.out rfl HKR.out HFK.out (by rw [HMM.out]; exact hown) hgrow (by simpa using hat))
      clear hown hgrow hat
      go_wp2_with fail
      go_ret
      exact ⟨_, _, _, rfl, HL.out⟩
theorem withNodes_any (B base : Nat) (hB : B ≤ base) : ∀ f, LaysAll B base f := by
  intro f
  induction f with
  | zero => intro t x v ns KV IV w _ h; exact h.elim
  | succ f ih =>
    intro t x v ns KV IV w hnest h hb hn
    obtain ⟨kind, n, s, keys, kids⟩ := t
    rw [layT_eq] at hn ⊢
    rcases h with ⟨rfl, rfl, rfl, rfl, rfl, rfl⟩ | ⟨rfl, rfl, rfl, rfl, rfl⟩ | ⟨rfl, rfl, rfl, rfl, rfl⟩ | ⟨rfl, rfl, rfl, rfl, rfl⟩ | ⟨rfl, rfl, rfl, rfl, it, rfl, hi⟩ | ⟨rfl, rfl, rfl, ks, it, rfl, hs, hi⟩
    · have := withNodes_null base v ns KV IV w hnest hb (by simp at hn; omega)
      simpa [accT, ksT, layKidsT] using this
    · have := withNodes_bool n base v ns KV IV w hnest hb (by simp at hn; omega)
      simpa [accT, ksT, layKidsT] using this
    · have := withNodes_int n base v ns KV IV w hnest hb (by simp at hn; omega)
      simpa [accT, ksT, layKidsT] using this
    · have := withNodes_text s base v ns KV IV w hnest hb (by simp at hn; omega)
      simpa [accT, ksT, layKidsT] using this
    · exact withNodes_list B base f hB ih kids it v ns KV IV w hi hnest hb (by simp at hn; omega)
    · exact withNodes_map B base f hB ih keys kids ks it v ns KV IV w hs hi hnest hb (by simp at hn; omega)
end Go.Proofs.YtcidjhnogldgmaaGreatDoor

namespace Go.Proofs.YtcidjhnogldgmaaGreatDoor
open Go.RowKit
set_option linter.unusedSimpArgs false
set_option linter.unusedVariables false
theorem bytes_lt (x : List UInt8) : ∀ y : List UInt8, Op.bytesLess x y = true ↔ x < y := by
  induction x with
  | nil => intro y; cases y <;> simp [Op.bytesLess]
  | cons a x ih =>
    intro y
    cases y with
    | nil => simp [Op.bytesLess]
    | cons b y =>
      have h := ih y
      rw [List.cons_lt_cons_iff, ← h]
      by_cases h1 : a < b <;> by_cases h2 : a = b <;> simp [Op.bytesLess, h1, h2]
theorem less_iff (a b : ByteArray) : lessB a b = true ↔ a.toList < b.toList := bytes_lt _ _
theorem less_trans {a b c : ByteArray} (h1 : lessB a b = true) (h2 : lessB b c = true) : lessB a c = true := by
  rw [less_iff] at *; exact List.lt_trans h1 h2
def Rise (l : List ByteArray) : Prop := ∀ i j, i < j → j < l.length → lessB (keyAt l i) (keyAt l j) = true
theorem riseB_rise {l : List ByteArray} (h : riseB l = true) : Rise l := by
  unfold riseB at h
  rw [List.all_eq_true] at h
  have h1 : ∀ j, j < l.length → 0 < j → lessB (keyAt l (j - 1)) (keyAt l j) = true := by
    intro j hj h0
    have := h j (List.mem_range.2 hj)
    unfold riseAt at this
    simp only [Bool.and_eq_true, Bool.or_eq_true, decide_eq_true_eq] at this
    rcases this.2 with e | e
    · omega
    · exact e
  intro i j hij hj
  induction j with
  | zero => omega
  | succ j ih =>
    have h2 := h1 (j + 1) hj (by omega)
    rw [Nat.add_sub_cancel] at h2
    by_cases e : i = j
    · subst e; exact h2
    · exact less_trans (ih (by omega) (by omega)) h2
def posK (l : List ByteArray) (key : ByteArray) : Nat := (l.takeWhile fun k => lessB k key).length
def hasK (l : List ByteArray) (key : ByteArray) : Bool := decide (posK l key < l.length) && decide ((keyAt l (posK l key)).toList = key.toList)
theorem take_len {p : ByteArray → Bool} : ∀ {l : List ByteArray} {i : Nat}, i ≤ l.length → (∀ j, j < i → p (keyAt l j) = true) → (i < l.length → p (keyAt l i) = false) → (l.takeWhile p).length = i := by
  intro l
  induction l with
  | nil => intro i hi _ _; simp at hi; subst hi; rfl
  | cons a l ih =>
    intro i hi h1 h2
    cases i with
    | zero =>
      have := h2 (by simp)
      simp [keyAt] at this
      simp [List.takeWhile_cons, this]
    | succ i =>
      have ha := h1 0 (by omega)
      simp [keyAt] at ha
      rw [List.takeWhile_cons, if_pos ha, List.length_cons]
      rw [ih (i := i) (by simp at hi; omega) (fun j hj => by have := h1 (j + 1) (by omega); simpa [keyAt] using this) (fun hl => by have := h2 (by simp; omega); simpa [keyAt] using this)]
theorem posK_eq {l : List ByteArray} {key : ByteArray} {i : Nat} (hi : i ≤ l.length) (h1 : ∀ j, j < i → lessB (keyAt l j) key = true) (h2 : i < l.length → lessB (keyAt l i) key = false) : posK l key = i := take_len hi h1 h2
theorem posK_spec {l : List ByteArray} (key : ByteArray) : posK l key ≤ l.length ∧ (∀ j, j < posK l key → lessB (keyAt l j) key = true) ∧ (posK l key < l.length → lessB (keyAt l (posK l key)) key = false) := by
  unfold posK
  induction l with
  | nil => exact ⟨by simp, fun j hj => absurd hj (by simp), fun h => absurd h (by simp)⟩
  | cons a l ih =>
    cases h : lessB a key
    · rw [List.takeWhile_cons, h]
      refine ⟨by simp, fun j hj => absurd hj (by simp), fun _ => ?_⟩
      simpa [keyAt] using h
    · rw [List.takeWhile_cons, h]
      simp only [if_true, List.length_cons]
      refine ⟨by omega, fun j hj => ?_, fun hl => ?_⟩
      · cases j with
        | zero => simpa [keyAt] using h
        | succ j => have := ih.2.1 j (by omega); simpa [keyAt] using this
      · have := ih.2.2 (by omega); simpa [keyAt] using this
end Go.Proofs.YtcidjhnogldgmaaGreatDoor

namespace Go.Proofs.YtcidjhnogldgmaaGreatDoor
open Go.RowKit
set_option linter.unusedSimpArgs false
set_option linter.unusedVariables false
def sortIn (ks : List ByteArray) : Nat → Option (List ByteArray × List Nat)
  | 0 => some ([], [])
  | i + 1 => match sortIn ks i with
    | none => none
    | some (ns, ps) => if hasK ns (keyAt ks i) = true then none else some (ns.take (posK ns (keyAt ks i)) ++ [keyAt ks i] ++ ns.drop (posK ns (keyAt ks i)), ps.take (posK ns (keyAt ks i)) ++ [i] ++ ps.drop (posK ns (keyAt ks i)))
theorem sortIn_len {ks : List ByteArray} : ∀ {i : Nat} {ns : List ByteArray} {ps : List Nat}, sortIn ks i = some (ns, ps) → ns.length = i ∧ ps.length = i := by
  intro i
  induction i with
  | zero => intro ns ps h; simp [sortIn] at h; obtain ⟨rfl, rfl⟩ := h; exact ⟨rfl, rfl⟩
  | succ i ih =>
    intro ns ps h
    rw [sortIn] at h
    split at h
    · cases h
    · rename_i ns0 ps0 h0
      obtain ⟨h1, h2⟩ := ih h0
      split at h
      · cases h
      · injection h with h
        injection h with e1 e2
        subst e1 e2
        have := (posK_spec (l := ns0) (keyAt ks i)).1
        simp
        omega
theorem sortIn_mem {ks : List ByteArray} : ∀ {i : Nat} {ns : List ByteArray} {ps : List Nat}, sortIn ks i = some (ns, ps) → ∀ x ∈ ps, x < i := by
  intro i
  induction i with
  | zero => intro ns ps h; simp [sortIn] at h; obtain ⟨rfl, rfl⟩ := h; simp
  | succ i ih =>
    intro ns ps h
    rw [sortIn] at h
    split at h
    · cases h
    · rename_i ns0 ps0 h0
      split at h
      · cases h
      · injection h with h
        injection h with e1 e2
        subst e1 e2
        intro x hx
        simp only [List.mem_append, List.mem_singleton] at hx
        rcases hx with (hx | hx) | hx
        · have := ih h0 x (List.mem_of_mem_take hx); omega
        · omega
        · have := ih h0 x (List.mem_of_mem_drop hx); omega
theorem sortIn_none {ks : List ByteArray} {i j : Nat} (h : sortIn ks i = none) (hij : i ≤ j) : sortIn ks j = none := by
  obtain ⟨d, rfl⟩ : ∃ d, j = i + d := ⟨j - i, by omega⟩
  clear hij
  induction d with
  | zero => exact h
  | succ d ih => rw [← Nat.add_assoc, sortIn, ih]
theorem sortIn_put {ks : List ByteArray} {i j : Nat} {ns : List ByteArray} {ps : List Nat} (h : sortIn ks i = some (ns, ps)) (hj : posK ns (keyAt ks i) = j) (hn : hasK ns (keyAt ks i) = false) : sortIn ks (i + 1) = some (ns.take j ++ [keyAt ks i] ++ ns.drop j, ps.take j ++ [i] ++ ps.drop j) := by
  rw [sortIn, h]
  simp only [hn, hj]
  rfl
theorem sortIn_twice {ks : List ByteArray} {i : Nat} {ns : List ByteArray} {ps : List Nat} (h : sortIn ks i = some (ns, ps)) (hn : hasK ns (keyAt ks i) = true) : sortIn ks (i + 1) = none := by
  rw [sortIn, h]
  simp only [hn]
  rfl
theorem hasK_at {l : List ByteArray} {key : ByteArray} {j : Nat} (hj : posK l key = j) : hasK l key = (decide (j < l.length) && decide ((keyAt l j).toList = key.toList)) := by unfold hasK; rw [hj]
theorem keyAt_mapGet {l : List ByteArray} {j : Nat} (hj : j < l.length) : (l.map Value.string)[j]? = some (.string (keyAt l j)) := by
  rw [List.getElem?_map, List.getElem?_eq_getElem hj]
  simp [keyAt, hj]
def CellsAt (B : Nat) (w : World) (v : Value) (m : Nat) (cs : Nat → Value) : Prop :=
  ∃ a cap, v = .slice a m cap ∧ (∀ i, i < m → ∃ a n c, cs i = .slice a n c) ∧ (0 < m → ∃ b o, a = some ⟨b, o, none⟩ ∧ b < B ∧ ∀ i, i < m → w.cell? ⟨b, o + i, none⟩ = some (cs i))
theorem own_some {w : World} {base e s n x : Nat} {v : Value} {xs : List Value} (h : w.ownsRow base e s v n xs) (hx : v.ownBlock = some x) : ∃ cap, v = .slice (some ⟨x, 0, none⟩) n cap ∧ n ≤ cap := by
  rcases h.2 with ⟨rfl, _⟩ | ⟨g, cap, cur, rfl, _, _, hnc, _⟩
  · simp [Value.ownBlock] at hx
  · simp [Value.ownBlock] at hx
    subst hx
    exact ⟨cap, rfl, hnc⟩
theorem elemStr : Tryz.prog.elem 29 = 9 := by kernel_rfl
theorem elemRow : Tryz.prog.elem 33 = 24 := by kernel_rfl
theorem sizeStr (w : World) : (sizeOf 9).run Tryz.prog w = .ok 1 w := by
  obtain ⟨i, hi, hz, hs, hy⟩ := info_parts infoStr
  simp [sizeOf, typeInfo, hi, hs]
theorem infoRowV : (Tryz.prog.info? 24).map (fun i => (i.zero, i.size, i.bytes)) = some (some (.slice none 0 0), 1, 24) := by kernel_rfl
theorem sizeRow (w : World) : (sizeOf 24).run Tryz.prog w = .ok 1 w := by
  obtain ⟨i, hi, hz, hs, hy⟩ := info_parts infoRowV
  simp [sizeOf, typeInfo, hi, hs]
theorem sliced_to (g j cap : Nat) : sliced (some ⟨g, 0, none⟩) 0 j cap 1 = .slice (some ⟨g, 0, none⟩) j cap := by
  unfold sliced
  split
  · rename_i h; subst h; simp
  · simp [Addr.add]
theorem sliced_from (g j n cap : Nat) : ∃ ad, sliced (some ⟨g, 0, none⟩) j n cap 1 = .slice (some ad) (n - j) (cap - j) ∧ (j < n → n ≤ cap → ad = ⟨g, j, none⟩) := by
  unfold sliced
  split
  · rename_i h; subst h; exact ⟨_, rfl, fun h1 h2 => by omega⟩
  · exact ⟨_, rfl, fun _ _ => by simp [Addr.add]; intro h; exact h.symm⟩
theorem strs_to (g n cap j : Nat) (hj : j ≤ cap) (w : World) : (Instr.slice 29 (.slice (some ⟨g, 0, none⟩) n cap) none (some (.int .i64 (j : Int))) none).run Tryz.prog w = .ok (.slice (some ⟨g, 0, none⟩) j cap) w := by
  rw [run_slice_h (P := Tryz.prog) (w := w) 29 (some ⟨g, 0, none⟩) n cap (by rw [elemStr]; exact Tryz.underlying29) .i64 j (by omega) (by omega), elemStr, sizeStr]
  simp only [Result.andThen, Int.toNat_natCast, sliced_to]
theorem rows_to (g n cap j : Nat) (hj : j ≤ cap) (w : World) : (Instr.slice 33 (.slice (some ⟨g, 0, none⟩) n cap) none (some (.int .i64 (j : Int))) none).run Tryz.prog w = .ok (.slice (some ⟨g, 0, none⟩) j cap) w := by
  rw [run_slice_h (P := Tryz.prog) (w := w) 33 (some ⟨g, 0, none⟩) n cap (by rw [elemRow]; exact Tryz.underlying33) .i64 j (by omega) (by omega), elemRow, sizeRow]
  simp only [Result.andThen, Int.toNat_natCast, sliced_to]
theorem strs_from (g n cap j : Nat) (hj : j ≤ n) : ∃ ad, (∀ w, (Instr.slice 29 (.slice (some ⟨g, 0, none⟩) n cap) (some (.int .i64 (j : Int))) none none).run Tryz.prog w = .ok (.slice (some ad) (n - j) (cap - j)) w) ∧ (j < n → n ≤ cap → ad = ⟨g, j, none⟩) := by
  obtain ⟨ad, h1, h2⟩ := sliced_from g j n cap
  refine ⟨ad, fun w => ?_, h2⟩
  rw [run_slice_l (P := Tryz.prog) (w := w) 29 (some ⟨g, 0, none⟩) n cap (by rw [elemStr]; exact Tryz.underlying29) .i64 j (by omega) (by omega), elemStr, sizeStr]
  simp only [Result.andThen, Int.toNat_natCast, h1]
theorem rows_from (g n cap j : Nat) (hj : j ≤ n) : ∃ ad, (∀ w, (Instr.slice 33 (.slice (some ⟨g, 0, none⟩) n cap) (some (.int .i64 (j : Int))) none none).run Tryz.prog w = .ok (.slice (some ad) (n - j) (cap - j)) w) ∧ (j < n → n ≤ cap → ad = ⟨g, j, none⟩) := by
  obtain ⟨ad, h1, h2⟩ := sliced_from g j n cap
  refine ⟨ad, fun w => ?_, h2⟩
  rw [run_slice_l (P := Tryz.prog) (w := w) 33 (some ⟨g, 0, none⟩) n cap (by rw [elemRow]; exact Tryz.underlying33) .i64 j (by omega) (by omega), elemRow, sizeRow]
  simp only [Result.andThen, Int.toNat_natCast, h1]
end Go.Proofs.YtcidjhnogldgmaaGreatDoor

namespace Go.Proofs.YtcidjhnogldgmaaGreatDoor
open Go.RowKit
set_option linter.unusedSimpArgs false
set_option linter.unusedVariables false
def allB (L : Nat → List VN) (m : Nat) : Bool := (List.range m).all fun i => okB (L i)
theorem allB_yes {L : Nat → List VN} {m : Nat} (h : allB L m = true) : ∀ i, i < m → okB (L i) = true := fun i hi => by
  unfold allB at h; rw [List.all_eq_true] at h; exact h i (List.mem_range.2 hi)
theorem allB_of {L : Nat → List VN} {m : Nat} (h : ∀ i, i < m → okB (L i) = true) : allB L m = true := by
  unfold allB; rw [List.all_eq_true]; exact fun i hi => h i (List.mem_range.1 hi)
theorem RowsAt.below {B : Nat} {w w' : World} {v : Value} {m : Nat} {L : Nat → List VN} (h : RowsAt B w v m L) (hb : Below B w w') : RowsAt B w' v m L := by
  obtain ⟨h1, a, c, e, h2⟩ := h
  refine ⟨h1, a, c, e, fun hp => ?_⟩
  obtain ⟨b, ea, hbB, h3⟩ := h2 hp
  refine ⟨b, ea, hbB, fun i hi => ?_⟩
  obtain ⟨r, e2, hn⟩ := h3 i hi
  exact ⟨r, (below_cell hb hbB).trans e2, hn.below hb⟩
end Go.Proofs.YtcidjhnogldgmaaGreatDoor

namespace Go.Proofs.YtcidjhnogldgmaaGreatDoor
open Go.RowKit
set_option linter.unusedSimpArgs false
set_option linter.unusedVariables false
theorem infoRow : (Tryz.prog.info? 24).map (fun i => (i.zero, i.size, i.bytes)) = some (some (.slice none 0 0), 1, 24) := by kernel_rfl
def rootKids (vs : List VN) : List Int := (nodeAt vs (vs.length - 1)).kids
def PL (vs : List VN) (i : Nat) : List VN := partOf vs (intAt (rootKids vs) i).toNat
def partsN (vs : List VN) : Nat := if okB vs = true then (rootKids vs).length else 0
theorem root_kid {vs : List VN} (hok : okB vs = true) {k : Nat} (hk : k < (rootKids vs).length) : ∃ q : Nat, intAt (rootKids vs) k = (q : Int) ∧ q + 1 < vs.length := by
  obtain ⟨p1, p2, _, _⟩ := okB_parts hok
  have := kidsIn_get (p2 (vs.length - 1) (by omega)).2 hk
  refine ⟨(intAt (rootKids vs) k).toNat, ?_, ?_⟩
  · unfold rootKids; omega
  · unfold rootKids; omega
theorem PL_few {vs : List VN} (hf : ∀ i, i < vs.length → Fits (nodeAt vs i)) : partsN vs ≤ 80 ∧ ∀ i, i < partsN vs → Few (PL vs i) ∧ ∀ j, j < (PL vs i).length → Fits (nodeAt (PL vs i) j) := by
  unfold partsN
  by_cases hok : okB vs = true
  · rw [if_pos hok]
    obtain ⟨p1, _, _, p4⟩ := okB_parts hok
    refine ⟨by have := p4 (vs.length - 1) (by omega); unfold rootKids; omega, fun i hi => ?_⟩
    obtain ⟨q, hq, hql⟩ := root_kid hok hi
    have e : PL vs i = partOf vs q := by unfold PL; rw [hq]; simp
    rw [e]
    have hp := part_fits hok hf (m := q) (by omega)
    exact ⟨⟨(lay_part hok (Nat.lt_succ_self q) (by omega)).2, fun j hj => (hp j hj).2⟩, fun j hj => (hp j hj).1⟩
  · rw [if_neg hok]
    exact ⟨by omega, fun i hi => absurd hi (by omega)⟩
end Go.Proofs.YtcidjhnogldgmaaGreatDoor

namespace Go.Proofs.YtcidjhnogldgmaaGreatDoor
open Go.RowKit
set_option linter.unusedSimpArgs false
set_option linter.unusedVariables false
theorem shift_add (a b : Int) (x : VN) : shiftN a (shiftN b x) = shiftN (a + b) x := by
  unfold shiftN
  simp only [List.map_map]
  congr 1
  apply List.map_congr_left
  intro y _
  simp only [Function.comp]
  omega
theorem shift_zero (x : VN) : shiftN 0 x = x := by
  unfold shiftN
  cases x
  simp
theorem layT_shift : ∀ (f : Nat) (t : VT) (sh : Nat), layT f t sh = (layT f t 0).map (shiftN (sh : Int)) := by
  intro f
  induction f with
  | zero => intro t sh; rfl
  | succ f ih =>
    intro t sh
    obtain ⟨kind, n, s, keys, kids⟩ := t
    have hk : ∀ k, k ≤ kids.length → accT f sh kids k = (accT f 0 kids k).map (shiftN (sh : Int)) ∧ ksT f sh kids k = (ksT f 0 kids k).map (· + (sh : Int)) := by
      intro k
      induction k with
      | zero => intro _; rw [accT_zero, accT_zero, ksT_zero, ksT_zero]; exact ⟨rfl, rfl⟩
      | succ k ihk =>
        intro hk
        obtain ⟨h1, h2⟩ := ihk (by omega)
        have hl : (accT f sh kids k).length = (accT f 0 kids k).length := by rw [h1, List.length_map]
        have ha : accT f sh kids (k + 1) = (accT f 0 kids (k + 1)).map (shiftN (sh : Int)) := by
          rw [accT_succ f sh (by omega), accT_succ f 0 (by omega), List.map_append, h1, List.length_map, ih _ (sh + (accT f 0 kids k).length), ih _ (0 + (accT f 0 kids k).length), List.map_map]
          congr 1
          apply List.map_congr_left
          intro x _
          simp only [Function.comp, shift_add]
          congr 1
          omega
        refine ⟨ha, ?_⟩
        rw [ksT_succ f sh (by omega), ksT_succ f 0 (by omega), List.map_append, h2, ha, List.length_map]
        congr 1
        simp only [List.map_cons, List.map_nil, List.cons.injEq, and_true]
        omega
    obtain ⟨h1, h2⟩ := hk _ (Nat.le_refl _)
    rw [layT_eq, layT_eq, List.map_append, h1, h2]
    rfl
theorem acc_cat (f : Nat) (kids : List VT) : ∀ k, k ≤ kids.length → accT f 0 kids k = catNs (fun i => layT f (kidT kids i) 0) k ∧ ksT f 0 kids k = catKs (fun i => layT f (kidT kids i) 0) k := by
  intro k
  induction k with
  | zero => intro _; exact ⟨accT_zero _ _ _, ksT_zero _ _ _⟩
  | succ k ih =>
    intro hk
    obtain ⟨h1, h2⟩ := ih (by omega)
    have ha : accT f 0 kids (k + 1) = catNs (fun i => layT f (kidT kids i) 0) (k + 1) := by
      rw [accT_succ f 0 (by omega), catNs, h1, Nat.zero_add, layT_shift f _ (catNs _ k).length]
    refine ⟨ha, ?_⟩
    rw [ksT_succ f 0 (by omega), catKs, h2, ha, Nat.zero_add]
theorem layT_more : ∀ {f g : Nat} {t : VT}, FullT f t → f ≤ g → ∀ sh, layT g t sh = layT f t sh := by
  intro f
  induction f with
  | zero => intro g t h; exact h.elim
  | succ f ih =>
    intro g t h hfg sh
    obtain ⟨g, rfl⟩ : ∃ g', g = g' + 1 := ⟨g - 1, by omega⟩
    obtain ⟨kind, n, s, keys, kids⟩ := t
    have hk : ∀ k, k ≤ kids.length → accT g sh kids k = accT f sh kids k ∧ ksT g sh kids k = ksT f sh kids k := by
      intro k
      induction k with
      | zero => intro _; rw [accT_zero, accT_zero, ksT_zero, ksT_zero]; exact ⟨rfl, rfl⟩
      | succ k ihk =>
        intro hk
        obtain ⟨h1, h2⟩ := ihk (by omega)
        have ha : accT g sh kids (k + 1) = accT f sh kids (k + 1) := by rw [accT_succ g sh (by omega), accT_succ f sh (by omega), h1, ih (h k (by omega)) (by omega)]
        exact ⟨ha, by rw [ksT_succ g sh (by omega), ksT_succ f sh (by omega), h2, ha]⟩
    obtain ⟨h1, h2⟩ := hk _ (Nat.le_refl _)
    rw [layT_eq, layT_eq, h1, h2]
theorem hiK_le {F : VT → Nat} {kids : List VT} : ∀ {m j : Nat}, j < m → F (kidT kids j) ≤ hiK F kids m := by
  intro m
  induction m with
  | zero => intro j h; omega
  | succ m ih =>
    intro j h
    rw [hiK]
    by_cases e : j = m
    · subst e; omega
    · have := ih (j := j) (by omega); omega
theorem hiK_bound {F : VT → Nat} {kids : List VT} {h : Nat} : ∀ {m : Nat}, (∀ j, j < m → F (kidT kids j) ≤ h) → hiK F kids m ≤ h := by
  intro m
  induction m with
  | zero => intro _; simp [hiK]
  | succ m ih =>
    intro hj
    rw [hiK]
    have := ih (fun j h => hj j (by omega))
    have := hj m (by omega)
    omega
end Go.Proofs.YtcidjhnogldgmaaGreatDoor

namespace Go.Proofs.YtcidjhnogldgmaaGreatDoor
open Go.RowKit
set_option linter.unusedSimpArgs false
set_option linter.unusedVariables false
theorem good_tree {vs : List VN} (hok : okB vs = true) : ∀ f i, i < vs.length → i < f → goodT f (treeOf vs f i) := by
  intro f
  induction f with
  | zero => intro i _ h; omega
  | succ f ih =>
    intro i hi hf
    obtain ⟨_, p2, _, _⟩ := okB_parts hok
    rw [treeOf]
    refine ⟨?_, fun j hj => ?_⟩
    · have := (p2 i hi).1
      rw [nodeT_eq] at this
      rw [List.length_map]
      exact this
    · rw [List.length_map] at hj
      have hki := kidsIn_get (p2 i hi).2 hj
      rw [kidT_map hj]
      exact ih _ (by omega) (by omega)
theorem whole_len {vs : List VN} (hok : okB vs = true) : (layT vs.length (treeOf vs vs.length (vs.length - 1)) 0).length = vs.length := by
  obtain ⟨p1, _⟩ := okB_parts hok
  obtain ⟨h, htr⟩ := root_first hok
  rw [← lay_tree, lay_run vs vs.length (vs.length - 1) 0 0 h (by omega) htr]
  unfold run
  rw [List.length_map, List.length_range']
  omega
theorem whole_lay {vs : List VN} (hok : okB vs = true) : layT vs.length (treeOf vs vs.length (vs.length - 1)) 0 = vs := by
  obtain ⟨p1, _⟩ := okB_parts hok
  obtain ⟨h, htr⟩ := root_first hok
  rw [← lay_tree, lay_run vs vs.length (vs.length - 1) 0 0 h (by omega) htr]
  rw [show vs.length - 1 + 1 - 0 = vs.length by omega, show (((0 : Nat) : Int) - ((0 : Nat) : Int)) = 0 by omega, run_all]
  have : (shiftN 0) = id := by funext x; exact shift_zero x
  rw [this, List.map_id]
theorem acc_at {f sh : Nat} {kids : List VT} {vs : List VN} {x : VN} (hk : ∀ j, j < (accT f sh kids kids.length ++ [x]).length → nodeAt vs (sh + j) = nodeAt (accT f sh kids kids.length ++ [x]) j) {k : Nat} (hkl : k < kids.length) :
    ∀ j, j < (layT f (kidT kids k) (sh + (accT f sh kids k).length)).length → nodeAt vs (sh + (accT f sh kids k).length + j) = nodeAt (layT f (kidT kids k) (sh + (accT f sh kids k).length)) j := by
  intro j hj
  have hlen : (accT f sh kids (k + 1)).length = (accT f sh kids k).length + (layT f (kidT kids k) (sh + (accT f sh kids k).length)).length := by rw [accT_succ f sh hkl, List.length_append]
  obtain ⟨t1, ht1⟩ := accT_pre f sh kids (show k + 1 ≤ kids.length by omega) (Nat.le_refl _)
  have hl1 := congrArg List.length ht1
  rw [List.length_append] at hl1
  have := hk ((accT f sh kids k).length + j) (by rw [List.length_append]; omega)
  rw [nodeAt_left (by omega), ht1, nodeAt_left (by omega), accT_succ f sh hkl, nodeAt_right (by omega)] at this
  rw [Nat.add_assoc, this, Nat.add_sub_cancel_left]
theorem tree_back : ∀ {f : Nat} {t : VT}, FullT f t → ∀ (vs : List VN) (sh g : Nat), f ≤ g → (∀ j, j < (layT f t sh).length → nodeAt vs (sh + j) = nodeAt (layT f t sh) j) → treeOf vs g (sh + (layT f t sh).length - 1) = t := by
  intro f
  induction f with
  | zero => intro t h; exact h.elim
  | succ f ih =>
    intro t h vs sh g hg hk
    obtain ⟨g, rfl⟩ : ∃ k, g = k + 1 := ⟨g - 1, by omega⟩
    obtain ⟨kind, n, s, keys, kids⟩ := t
    rw [layT_eq] at hk ⊢
    have hroot := hk (accT f sh kids kids.length).length (by rw [List.length_append, List.length_cons]; omega)
    rw [nodeAt_right (Nat.le_refl _), Nat.sub_self] at hroot
    have hroot' : nodeAt vs (sh + (accT f sh kids kids.length).length) = { kind := kind, n := n, s := s, keys := keys, kids := ksT f sh kids kids.length } := hroot
    rw [List.length_append, List.length_cons, List.length_nil, show sh + ((accT f sh kids kids.length).length + (0 + 1)) - 1 = sh + (accT f sh kids kids.length).length by omega, treeOf, hroot']
    have hf : ∀ k, k ≤ kids.length → (ksT f sh kids k).map (fun x => treeOf vs g x.toNat) = kids.take k := by
      intro k
      induction k with
      | zero => intro _; rw [ksT_zero]; rfl
      | succ k ihk =>
        intro hkl
        have hlen : (accT f sh kids (k + 1)).length = (accT f sh kids k).length + (layT f (kidT kids k) (sh + (accT f sh kids k).length)).length := by rw [accT_succ f sh (by omega), List.length_append]
        rw [ksT_succ f sh (by omega), List.map_append, ihk (by omega), take_kid (by omega)]
        have e := ih (h k (by omega)) vs (sh + (accT f sh kids k).length) g (by omega) (acc_at hk (by omega))
        congr 1
        rw [List.map_cons, List.map_nil, show (((sh + (accT f sh kids (k + 1)).length : Nat) : Int) - 1).toNat = sh + (accT f sh kids k).length + (layT f (kidT kids k) (sh + (accT f sh kids k).length)).length - 1 by omega, e]
    dsimp only
    rw [hf _ (Nat.le_refl _), List.take_length]
end Go.Proofs.YtcidjhnogldgmaaGreatDoor

namespace Go.Proofs.YtcidjhnogldgmaaGreatDoor
open Go.RowKit
set_option linter.unusedSimpArgs false
set_option linter.unusedVariables false
theorem rise_at {keys : List ByteArray} (hr : riseB keys = true) {j : Nat} (hj : j < keys.length) : textB (keyAt keys j) = true ∧ (0 < j → lessB (keyAt keys (j - 1)) (keyAt keys j) = true) := by
  have := List.all_eq_true.1 hr j (List.mem_range.2 hj)
  unfold riseAt at this
  simp only [Bool.and_eq_true, Bool.or_eq_true, decide_eq_true_eq] at this
  exact ⟨this.1, fun h => this.2.resolve_left (by omega)⟩
theorem empty_is {s : ByteArray} (h : s.toList = []) : s = ByteArray.empty := by
  exact str_eq (by rw [h, ByteArray.toList_eq]; rfl)
theorem nodeT_says {kind n : Int} {s : ByteArray} {keys : List ByteArray} {m : Nat} (h : nodeT kind n s keys m = true) :
    (kind = 1 ∧ n = 0 ∧ s = ByteArray.empty ∧ keys = [] ∧ m = 0) ∨ (kind = 2 ∧ (n = 0 ∨ n = 1) ∧ s = ByteArray.empty ∧ keys = [] ∧ m = 0) ∨ (kind = 3 ∧ (-1000000000000000 ≤ n ∧ n ≤ 1000000000000000) ∧ s = ByteArray.empty ∧ keys = [] ∧ m = 0) ∨
    (kind = 4 ∧ n = 0 ∧ s.size ≤ 60 ∧ keys = [] ∧ m = 0) ∨ (kind = 5 ∧ n = 0 ∧ s = ByteArray.empty ∧ keys = []) ∨ (kind = 6 ∧ n = 0 ∧ s = ByteArray.empty ∧ keys.length = m ∧ riseB keys = true) := by
  unfold nodeT nodeB unnamedB namedB at h
  simp only [Bool.and_eq_true, List.length_replicate] at h
  obtain ⟨⟨⟨⟨u1, u2⟩, u3⟩, u4⟩, v⟩ := h
  by_cases k1 : kind = 1
  · subst k1; simp at u1 u2 u3 u4; exact .inl ⟨rfl, u1, empty_is u2, u3, u4⟩
  by_cases k2 : kind = 2
  · subst k2; simp at u2 u3 u4 v; exact .inr (.inl ⟨rfl, v, empty_is u2, u3, u4⟩)
  by_cases k3 : kind = 3
  · subst k3; simp at u2 u3 u4 v; exact .inr (.inr (.inl ⟨rfl, v, empty_is u2, u3, u4⟩))
  by_cases k4 : kind = 4
  · subst k4; simp [textB] at u1 u3 u4 v; exact .inr (.inr (.inr (.inl ⟨rfl, u1, v.1, u3, u4⟩)))
  by_cases k5 : kind = 5
  · subst k5; simp at u1 u2 u3; exact .inr (.inr (.inr (.inr (.inl ⟨rfl, u1, empty_is u2, u3⟩))))
  by_cases k6 : kind = 6
  · subst k6; simp at u1 u2 v; exact .inr (.inr (.inr (.inr (.inr ⟨rfl, u1, empty_is u2, v.1, v.2⟩))))
  simp [k1, k2, k3, k4, k5, k6] at v
end Go.Proofs.YtcidjhnogldgmaaGreatDoor

namespace Go.Proofs.YtcidjhnogldgmaaGreatDoor
open Go.RowKit
set_option linter.unusedSimpArgs false
set_option linter.unusedVariables false
theorem cat_sumT (f : Nat) (kids : List VT) : ∀ k, k ≤ kids.length → (catNs (fun i => layT f (kidT kids i) 0) k).length = ((kids.take k).map fun t => (layT f t 0).length).sum := by
  intro k
  induction k with
  | zero => intro _; rfl
  | succ k ih =>
    intro hk
    rw [catNs_len, ih (by omega), take_kid (by omega), List.map_append, List.sum_append]
    simp
theorem lay_sum (f : Nat) (kind n : Int) (s : ByteArray) (keys : List ByteArray) (kids : List VT) : (layT (f + 1) (.mk kind n s keys kids) 0).length = (kids.map fun t => (layT f t 0).length).sum + 1 := by
  rw [layT_eq, (acc_cat f kids _ (Nat.le_refl _)).1, List.length_append, cat_sumT f kids _ (Nat.le_refl _), List.take_length]
  rfl
end Go.Proofs.YtcidjhnogldgmaaGreatDoor

namespace Go.Proofs.YtcidjhnogldgmaaGreatDoor
open Go.RowKit
set_option linter.unusedSimpArgs false
set_option linter.unusedVariables false
end Go.Proofs.YtcidjhnogldgmaaGreatDoor

namespace Go.Proofs.YtcidjhnogldgmaaGreatDoor
open Go.RowKit
set_option linter.unusedSimpArgs false
set_option linter.unusedVariables false
def FitT : Nat → VT → Prop
  | 0, _ => False
  | f + 1, .mk kind n s keys kids => (1 ≤ kind ∧ kind ≤ 6) ∧ (-9223372036854775808 ≤ n ∧ n ≤ 9223372036854775807) ∧ s.size ≤ 100000 ∧ keys.length ≤ 100000 ∧ (∀ i, i < keys.length → (keyAt keys i).size ≤ 100000) ∧ kids.length ≤ 100000 ∧ ∀ j, j < kids.length → FitT f (kidT kids j)
theorem ksT_get (f sh : Nat) {l : List VT} : ∀ {m j : Nat}, j < m → m ≤ l.length → intAt (ksT f sh l m) j = ((sh + (accT f sh l (j + 1)).length : Nat) : Int) - 1 := by
  intro m
  induction m with
  | zero => intro j h; omega
  | succ m ih =>
    intro j hj hm
    have hl := ksT_len f sh l (k := m) (by omega)
    rw [ksT_succ f sh (by omega)]
    by_cases e : j < m
    · have := ih e (by omega)
      unfold intAt at this ⊢
      rw [List.getD_eq_getElem?_getD, List.getElem?_append_left (by omega), ← List.getD_eq_getElem?_getD]
      exact this
    · obtain rfl : j = m := by omega
      unfold intAt
      rw [List.getD_eq_getElem?_getD, List.getElem?_append_right (by omega), hl, Nat.sub_self]
      rfl
theorem fits_lay : ∀ {f : Nat} {t : VT}, FitT f t → ∀ sh, sh + (layT f t sh).length ≤ 1000000 → ∀ j, j < (layT f t sh).length → Fits (nodeAt (layT f t sh) j) := by
  intro f
  induction f with
  | zero => intro t h; exact h.elim
  | succ f ih =>
    intro t h sh hn
    obtain ⟨kind, n, s, keys, kids⟩ := t
    obtain ⟨h1, h2, h3, h4, h5, h6, h7⟩ := h
    rw [layT_eq] at hn ⊢
    rw [List.length_append, List.length_cons, List.length_nil] at hn ⊢
    have ha := acc_nodes f sh kids Fits kids.length (Nat.le_refl _)
    have hall : ∀ j, j < (accT f sh kids kids.length).length → Fits (nodeAt (accT f sh kids kids.length) j) := ha.2 (fun i hi => by
      refine ih (h7 i hi) _ ?_
      have hle := accT_le f sh kids (i + 1)
      rw [accT_succ f sh hi, List.length_append] at hle
      omega)
    intro j hj
    by_cases e : j < (accT f sh kids kids.length).length
    · rw [nodeAt_left e]; exact hall j e
    · obtain rfl : j = (accT f sh kids kids.length).length := by omega
      rw [nodeAt_right (Nat.le_refl _), Nat.sub_self]
      have hkl := ksT_len f sh kids (Nat.le_refl _)
      refine ⟨by show keys.length ≤ _; omega, fun i hi => by have := h5 i hi; show (keyAt keys i).size ≤ _; omega, by show (ksT f sh kids kids.length).length ≤ _; omega, fun i hi => ?_, by show s.size ≤ _; omega, by show _ ≤ kind; omega, by show kind ≤ _; omega, by show _ ≤ n; omega, by show n ≤ _; omega⟩
      have hi' : i < kids.length := by have : i < (ksT f sh kids kids.length).length := hi; omega
      have := ksT_get f sh (l := kids) hi' (Nat.le_refl _)
      have hle := accT_le f sh kids (i + 1)
      show -9223372036854775808 ≤ intAt (ksT f sh kids kids.length) i ∧ intAt (ksT f sh kids kids.length) i ≤ 9223372036854775807
      rw [this]
      omega
end Go.Proofs.YtcidjhnogldgmaaGreatDoor

namespace Go.Proofs.YtcidjhnogldgmaaGreatDoor
open Go.RowKit
set_option linter.unusedSimpArgs false
set_option linter.unusedVariables false
theorem sum_ge {F : VT → Nat} : ∀ {l : List VT}, (∀ j, j < l.length → 1 ≤ F (kidT l j)) → l.length ≤ (l.map F).sum ∧ ∀ j, j < l.length → F (kidT l j) ≤ (l.map F).sum := by
  intro l
  induction l with
  | nil => intro _; exact ⟨by simp, fun j hj => absurd hj (by simp)⟩
  | cons x l ih =>
    intro h
    have h0 : 1 ≤ F x := h 0 (by simp)
    obtain ⟨h1, h2⟩ := ih (fun j hj => h (j + 1) (by simp; omega))
    rw [List.map_cons, List.sum_cons, List.length_cons]
    refine ⟨by omega, fun j hj => ?_⟩
    cases j with
    | zero => show F x ≤ _; omega
    | succ j =>
      have : F (kidT l j) ≤ (l.map F).sum := h2 j (by simp at hj; omega)
      show F (kidT l j) ≤ _
      omega
theorem good_fit : ∀ {f : Nat} {t : VT}, goodT f t → (layT f t 0).length ≤ 100000 → FitT f t := by
  intro f
  induction f with
  | zero => intro t h; exact h.elim
  | succ f ih =>
    intro t h hl
    obtain ⟨kind, n, s, keys, kids⟩ := t
    rw [lay_sum] at hl
    obtain ⟨s1, s2⟩ := sum_ge (F := fun t => (layT f t 0).length) (l := kids) (fun j hj => layT_len (h.2 j hj).full 0)
    have hk : kids.length ≤ 100000 := by omega
    have hem : ByteArray.empty.size = 0 := rfl
    have hkids : ∀ j, j < kids.length → FitT f (kidT kids j) := fun j hj => ih (h.2 j hj) (by have := s2 j hj; omega)
    rcases nodeT_says h.1 with ⟨a1, a2, a3, a4, _⟩ | ⟨a1, a2, a3, a4, _⟩ | ⟨a1, a2, a3, a4, _⟩ | ⟨a1, a2, a3, a4, _⟩ | ⟨a1, a2, a3, a4⟩ | ⟨a1, a2, a3, a4, a5⟩
    · exact ⟨by omega, by omega, by rw [a3]; omega, by rw [a4]; simp, fun i hi => by rw [a4] at hi; simp at hi, hk, hkids⟩
    · exact ⟨by omega, by omega, by rw [a3]; omega, by rw [a4]; simp, fun i hi => by rw [a4] at hi; simp at hi, hk, hkids⟩
    · exact ⟨by omega, by omega, by rw [a3]; omega, by rw [a4]; simp, fun i hi => by rw [a4] at hi; simp at hi, hk, hkids⟩
    · exact ⟨by omega, by omega, by omega, by rw [a4]; simp, fun i hi => by rw [a4] at hi; simp at hi, hk, hkids⟩
    · exact ⟨by omega, by omega, by rw [a3]; omega, by rw [a4]; simp, fun i hi => by rw [a4] at hi; simp at hi, hk, hkids⟩
    · refine ⟨by omega, by omega, by rw [a3]; omega, by omega, fun i hi => ?_, hk, hkids⟩
      have := (rise_at a5 hi).1
      unfold textB at this
      simp only [Bool.and_eq_true, decide_eq_true_eq] at this
      omega
theorem good_fits {f : Nat} {t : VT} (h : goodT f t) (hl : (layT f t 0).length ≤ 100000) : ∀ j, j < (layT f t 0).length → Fits (nodeAt (layT f t 0) j) := fits_lay (good_fit h hl) 0 (by omega)
end Go.Proofs.YtcidjhnogldgmaaGreatDoor

namespace Go.Proofs.YtcidjhnogldgmaaGreatDoor
open Go.RowKit
set_option linter.unusedSimpArgs false
set_option linter.unusedVariables false
theorem cmpNaN_any (s : ByteArray) (w : World) : Calls Tryz.prog 186 #[.string s] w fun e w' => e = .returned (.bool false) ∧ w' = w := by
  have f3 : (s.toList == s.toList) = true := by simp
  go_enter Tryz.func186, Tryz.ntmps186
  go_wp2_with fail
  go_ret
  exact ⟨by simp, rfl⟩
theorem slNaN_any (s : ByteArray) (w : World) : Calls Tryz.prog 172 #[.string s] w fun e w' => e = .returned (.bool false) ∧ w' = w := by
  have f3 : (s.toList == s.toList) = true := by simp
  go_enter Tryz.func172, Tryz.ntmps172
  go_wp2_with fail
  go_ret
  exact ⟨by simp, rfl⟩
theorem cmpLess_any (a b : ByteArray) (w : World) : Calls Tryz.prog 171 #[.string a, .string b] w fun e w' => e = .returned (.bool (lessB a b)) ∧ w' = w := by
  go_enter Tryz.func171, Tryz.ntmps171
  go_wp2_with (go_at_call 186; refine (cmpNaN_any _ _).mono ?_; rintro e w' ⟨rfl, rfl⟩)
  go_ret
  exact ⟨rfl, rfl⟩
set_option maxRecDepth 100000 in
set_option maxHeartbeats 1600000 in
theorem search_any (B : Nat) (v : Value) (l : List ByteArray) (key : ByteArray) (w : World) (h : StrsAt B w v l) (hr : Rise l) (hl : l.length ≤ 1048576) :
    Calls Tryz.prog 158 #[v, .string key] w fun e w' => e = .returned (.tuple #[.int .i64 (posK l key : Nat), .bool (hasK l key)]) ∧ w' = w := by
  obtain ⟨_, _, a, cap, rfl, hc⟩ := h
  have HC := hideIt hc
  have HR := hideIt hr
  clear hc hr
  go_enter Tryz.func158, Tryz.ntmps158
  go_wp2_with fail
  go_loop [7, 8, 9] (fun p q _ => ∃ i j : Nat, i ≤ j ∧ j ≤ l.length ∧ p = .int .i64 i ∧ q = .int .i64 j ∧ Hid (∀ t, t < i → lessB (keyAt l t) key = true) ∧ Hid (j < l.length → lessB (keyAt l j) key = false)) (fun p q _ => (intOf q).toNat - (intOf p).toNat)
  case atStart => exact ⟨0, l.length, Nat.zero_le _, Nat.le_refl _, rfl, rfl, fun t ht => by omega, fun h => absurd h (by omega)⟩
  case round =>
    obtain ⟨i, j, hij, hjl, rfl, rfl, HL, HG⟩ := hrel
    by_cases hlt : i < j
    · obtain ⟨b, o, rfl, hbB, hcc⟩ := HC.out (by omega)
      obtain ⟨h, hh⟩ : ∃ h : Nat, h = (i + j) / 2 := ⟨_, rfl⟩
      have h1 : i ≤ h := by omega
      have h2 : h < j := by omega
      have hck := hcc h (by omega)
      have p0 : ((i : Int) + (j : Int)) / 2 = (h : Int) := by omega
      have hhl : h < l.length := by omega
      clear hcc hh
      go_wp2_with fail
      refine (cmpLess_any _ _ _).mono ?_
      rintro e w1 ⟨rfl, rfl⟩
      cases hle : lessB (keyAt l h) key
      · have HG2 : Hid (h < l.length → lessB (keyAt l h) key = false) := fun _ => hle
        go_wp2_with fail
        go_round
        case rel => exact ⟨i, h, h1, by omega, rfl, rfl, HL, HG2⟩
        case measure => simp [intOf]; omega
      · have HL2 : Hid (∀ t, t < h + 1 → lessB (keyAt l t) key = true) := fun t ht => by
          by_cases e : t = h
          · subst e; exact hle
          · exact less_trans (HR.out t h (by omega) hhl) hle
        go_wp2_with fail
        go_round
        case rel => exact ⟨h + 1, j, by omega, hjl, by go_num, rfl, HL2, HG⟩
        case measure => simp [intOf]; omega
    · obtain rfl : i = j := by omega
      have HP := hideIt (posK_eq hjl HL.out HG.out)
      by_cases hil : i < l.length
      · obtain ⟨b, o, rfl, hbB, hcc⟩ := HC.out (by omega)
        have hck := hcc i hil
        by_cases he : (keyAt l i).toList = key.toList
        · have HH : Hid (hasK l key = true) := by unfold Hid hasK; rw [HP.out]; simp [hil, he]
          have hz : ((keyAt l i).toList == key.toList) = true := by simp [he]
          clear hcc
          go_wp2_with fail
          go_ret2
          exact ⟨by rw [HH.out, HP.out]; rfl, rfl⟩
        · have HH : Hid (hasK l key = false) := by unfold Hid hasK; rw [HP.out]; simp [hil, he]
          have hz : ((keyAt l i).toList == key.toList) = false := by simpa using he
          clear hcc
          go_wp2_with (go_at_call 172; refine (slNaN_any _ _).mono ?_; rintro e w' ⟨rfl, rfl⟩)
          go_ret2
          exact ⟨by rw [HH.out, HP.out]; rfl, rfl⟩
      · have HH : Hid (hasK l key = false) := by unfold Hid hasK; rw [HP.out]; simp [hil]
        have hil' : ¬ ((i : Int) < (l.length : Int)) := by omega
        go_wp2_with fail
        go_ret2
        exact ⟨by rw [HH.out, HP.out]; rfl, rfl⟩
end Go.Proofs.YtcidjhnogldgmaaGreatDoor

namespace Go.Proofs.YtcidjhnogldgmaaGreatDoor
open Go.RowKit
set_option linter.unusedSimpArgs false
set_option linter.unusedVariables false
end Go.Proofs.YtcidjhnogldgmaaGreatDoor

namespace Go.Proofs.YtcidjhnogldgmaaGreatDoor
open Go.RowKit
theorem Nest.low {base base' : Nat} {w : World} {v : Value} {vs : List VN} {KV IV : Nat → Value} (h : Nest base w v vs KV IV) (hb : base' ≤ base) : Nest base' w v vs KV IV :=
  ⟨own_mono h.row hb, fun i hi => own_mono (h.rk i hi) hb, fun i hi => own_mono (h.ri i hi) hb, h.dkk, h.dii⟩
end Go.Proofs.YtcidjhnogldgmaaGreatDoor

namespace Go.Proofs.YtcidjhnogldgmaaGreatDoor
open Go.RowKit
set_option linter.unusedSimpArgs false
set_option linter.unusedVariables false
theorem strs_one (l : List ByteArray) : ∀ u ∈ l.map Value.string, u.oneCell' = true := by
  intro u hu
  obtain ⟨x, _, rfl⟩ := List.mem_map.1 hu
  rfl
def SortedAs (base : Nat) (w w' : World) (cs : Nat → Value) (e : Ending) : Option (List ByteArray × List Nat) → Prop
  | none => e = .returned (.tuple #[.slice none 0 0, .slice none 0 0, .bool false])
  | some (ns, ps) => ∃ nv lv, e = .returned (.tuple #[nv, lv, .bool true]) ∧ w'.ownsRow base 9 1 nv ns.length (ns.map .string) ∧ w'.ownsRow base 24 1 lv ps.length (ps.map cs)
set_option maxRecDepth 100000 in
set_option maxHeartbeats 6400000 in
theorem l1Sorted_any (B : Nat) (kv u : Value) (ks : List ByteArray) (cs : Nat → Value) (w : World) (h : StrsAt B w kv ks) (hu : CellsAt B w u ks.length cs) (hB : B ≤ w.heap.size) (hm : ks.length ≤ 1048576) :
    Calls Tryz.prog 46 #[kv, u] w fun e w' => SortedAs w.heap.size w w' cs e (sortIn ks ks.length) ∧ Below w.heap.size w w' := by
  obtain ⟨_, _, ak, ck, rfl, hck⟩ := h
  obtain ⟨au, cu, rfl, hcs, hcu⟩ := hu
  have HCK := hideIt hck
  have HCU := hideIt hcu
  have HCS := hideIt hcs
  clear hck hcu hcs
  obtain ⟨i1, hi1, hzz1, hs1, hy1⟩ := info_parts infoStr
  obtain ⟨i2, hi2, hzz2, hs2, hy2⟩ := info_parts infoRowV
  obtain ⟨m, hmm⟩ : ∃ m, ks.length = m := ⟨_, rfl⟩
  have HMM := hideIt hmm
  rw [hmm] at hm HCK HCU HCS ⊢
  clear hmm
  have HN0 : Hid (((w.alloc (.cells #[] 9)).alloc (.cells #[] 24)).ownsRow w.heap.size 9 1 (.slice (some ⟨w.heap.size, 0, none⟩) 0 0) 0 (([] : List ByteArray).map .string)) := (World.ownsRow_lit (base := w.heap.size) w #[] 0 (Nat.le_refl _) (by simp [maxLen]) rfl).alloc _
  have HL0 : Hid (((w.alloc (.cells #[] 9)).alloc (.cells #[] 24)).ownsRow w.heap.size 24 1 (.slice (some ⟨w.heap.size + 1, 0, none⟩) 0 0) 0 (([] : List Nat).map cs)) := by
    have := World.ownsRow_lit (base := w.heap.size) (e := 24) (size := 1) (w.alloc (.cells #[] 9)) #[] 0 (by simp) (by simp [maxLen]) rfl
    simpa [Hid] using this
  have HON : Hid (∀ l : List Nat, (∀ i ∈ l, i < m) → ∀ u ∈ l.map cs, u.oneCell' = true) := by
    intro l hl u hu
    obtain ⟨i, hi, rfl⟩ := List.mem_map.1 hu
    obtain ⟨a, n, c, e⟩ := HCS.out i (hl i hi)
    rw [e]; rfl
  go_enter Tryz.func46, Tryz.ntmps46
  go_wp2_with fail
  go_loopw [7, 8, 9] (fun nv lv i wr => ∃ (k gn gl cn cl : Nat) (ns : List ByteArray) (ps : List Nat), k ≤ m ∧ i = .int .i64 k ∧ nv = .slice (some ⟨gn, 0, none⟩) k cn ∧ lv = .slice (some ⟨gl, 0, none⟩) k cl ∧ k ≤ cn ∧ k ≤ cl ∧ gn < wr.heap.size ∧ gl < wr.heap.size ∧ sortIn ks k = some (ns, ps) ∧ wr.ownsRow w.heap.size 9 1 (.slice (some ⟨gn, 0, none⟩) k cn) k (ns.map .string) ∧ wr.ownsRow w.heap.size 24 1 (.slice (some ⟨gl, 0, none⟩) k cl) k (ps.map cs) ∧ Below w.heap.size w wr) (fun _ _ i _ => m - (intOf i).toNat)
  case atStart => exact ⟨0, w.heap.size, w.heap.size + 1, 0, 0, [], [], Nat.zero_le _, rfl, rfl, rfl, Nat.le_refl _, Nat.le_refl _, by simp; omega, by simp, rfl, HN0.out, HL0.out, ((Below.refl _ _).alloc (Nat.le_refl _) _).alloc (by simp) _⟩
  case round =>
    obtain ⟨k, gn, gl, cn, cl, ns, ps, hk, rfl, rfl, rfl, hcn, hcl, hgn, hgl, hso, hnr, hlr, hbl⟩ := hrel
    have HSO := hideIt hso
    have HN := hideIt hnr
    have HL := hideIt hlr
    have HLN := hideIt (sortIn_len hso)
    have HPM := hideIt (sortIn_mem hso)
    have zs := hbl.size
    clear HN0 HL0 hso hnr hlr
    obtain ⟨W0, hW0⟩ : ∃ W0, W0 = wr := ⟨_, rfl⟩
    subst hW0
    by_cases hlt : k < m
    · obtain ⟨bk, ok, rfl, hbk, hck⟩ := HCK.out (by omega)
      have ck0 := (below_cell (o := ok + k) hbl (show bk < w.heap.size by omega)).trans (hck k hlt)
      obtain ⟨key, hkey⟩ : ∃ key, keyAt ks k = key := ⟨_, rfl⟩
      have HKEY := hideIt hkey
      rw [hkey] at ck0
      clear hck hkey
      go_wp2_with fail
      go_loopw [10] (fun a wq => ∃ (j : Nat), j ≤ k ∧ a = .int .i64 j ∧ Hid (∀ t, t < j → lessB (keyAt ns t) key = true) ∧ Below W0.heap.size W0 wq) (fun a _ => k - (intOf a).toNat)
      case atStart => exact ⟨0, Nat.zero_le _, rfl, fun t ht => by omega, Below.refl _ _⟩
      case round =>
        obtain ⟨j, hjk, rfl, HLT, hbq⟩ := hrel
        have zq0 := hbq.size
        have dk0 := (below_cell hbq (by omega)).trans ck0
        by_cases hins : (j < k ∧ lessB (keyAt ns j) key = false ∧ ¬ (keyAt ns j).toList = key.toList) ∨ ¬ j < k
        case pos =>
          rcases hins with ⟨hj, hle, he⟩ | hj
          all_goals
            first
            | have hle' : Op.bytesLess (keyAt ns j).toList key.toList = false := hle
              have dn0 : wr.cell? ⟨gn, j, none⟩ = some (.string (keyAt ns j)) := by
                rw [below_cell hbq (by omega), HN.out.cellAt j (by omega)]
                exact keyAt_mapGet (by rw [HLN.out.1]; exact hj)
              have HPO : Hid (posK ns key = j) := posK_eq (by rw [HLN.out.1]; exact hjk) HLT.out (fun _ => hle)
              have HHK := hideIt (hasK_at HPO.out)
              clear hle
              go_wp2_with fail
              go_quiet (fail)
              have hbq1 := below_drewN hbq nq
              have en0 : (wr.drewN nq).cell? ⟨gn, j, none⟩ = some (.string (keyAt ns j)) := (below_cell (below_drewN (Below.refl wr.heap.size wr) nq) (by omega)).trans dn0
              have ek0 : (wr.drewN nq).cell? ⟨bk, ok + k, none⟩ = some (.string key) := (below_cell (below_drewN (Below.refl wr.heap.size wr) nq) (by omega)).trans dk0
              clear dn0 dk0
              generalize wr.drewN nq = W1 at hbq1 en0 ek0 ⊢
              clear nq
              have hz : ((keyAt ns j).toList == key.toList) = false := by simpa using he
              have HNO : Hid (hasK ns key = false) := by rw [Hid, HHK.out]; simp [he]
              clear he
              go_wp2_with fail
              go_quiet (fail)
              have hbQ := below_drewN hbq1 nq
              clear en0 ek0
              generalize W1.drewN nq = WQ at hbQ ⊢
              clear nq hbq1
            | have HPO : Hid (posK ns key = j) := posK_eq (by rw [HLN.out.1]; exact hjk) HLT.out (fun h => absurd h (by rw [HLN.out.1]; omega))
              have HNO : Hid (hasK ns key = false) := by rw [Hid, hasK_at HPO.out, HLN.out.1]; simp [hj]
              go_wp2_with fail
              go_quiet (fail)
              have hbq1 := below_drewN hbq nq
              generalize wr.drewN nq = W1 at hbq1 ⊢
              clear nq dk0
              go_wp2_with fail
              go_quiet (fail)
              have hbQ := below_drewN hbq1 nq
              generalize W1.drewN nq = WQ at hbQ ⊢
              clear nq hbq1
            -- the key and the row are put in their place
            have zq := hbQ.size
            have zw : w.heap.size ≤ WQ.heap.size := Nat.le_trans zs zq
            have hgnQ : gn < WQ.heap.size := by omega
            have hglQ : gl < WQ.heap.size := by omega
            have HNQ := hideIt (own_below HN.out hbQ (fun y hy => (HN.out.lt y hy).2))
            have HLQ := hideIt (own_below HL.out hbQ (fun y hy => (HL.out.lt y hy).2))
            have HBQ := hideIt (hbl.trans (hbQ.mono zs))
            obtain ⟨bu, ou, rfl, hbu, hcu⟩ := HCU.out (by omega)
            have HUK := hideIt ((below_cell HBQ.out (show bu < w.heap.size by omega)).trans (hcu k hlt))
            obtain ⟨ax, nx, cx, hcx⟩ := HCS.out k hlt
            have HCX := hideIt hcx
            rw [hcx] at HUK
            have HKK : Hid (WQ.cell? ⟨bk, ok + k, none⟩ = some (.string key)) := (below_cell hbQ (by omega)).trans ck0
            obtain ⟨ad1, hf1, ha1⟩ := strs_from gn k cn j hjk
            obtain ⟨ad2, hf2, ha2⟩ := rows_from gl k cl j hjk
            have hz1 := strs_to gn k cn j (by omega)
            have hz2 := rows_to gl k cl j (by omega)
            have HA1 := hideIt ha1
            have HA2 := hideIt ha2
            have HSI : Hid (sortIn ks (k + 1) = some (ns.take j ++ [keyAt ks k] ++ ns.drop j, ps.take j ++ [k] ++ ps.drop j)) := sortIn_put HSO.out (by rw [HKEY.out]; exact HPO.out) (by rw [HKEY.out]; exact HNO.out)
            have hkm : k ≤ 1048576 := by omega
            have hkj : j + 1 + (k - j) = k + 1 := by omega
            have HKJ := hideIt hkj
            clear hcu hcx ha1 ha2 hkj hbQ
            have HS1 : Hid (0 < j → ∃ ad', some (⟨gn, 0, none⟩ : Addr) = some ad' ∧ ∀ i x, ((ns.take j).map Value.string)[i]? = some x → (WQ.alloc (.cells #[] 9)).cell? (ad'.add i) = some x) := by
              intro _
              refine ⟨_, rfl, fun i x hi => ?_⟩
              have hij : i < j := by have := (List.getElem?_eq_some_iff.1 hi).1; simp at this; omega
              have ea : (⟨gn, 0, none⟩ : Addr).add i = ⟨gn, i, none⟩ := by unfold Addr.add; split <;> simp_all
              rw [ea, below_cell ((Below.refl WQ.heap.size WQ).alloc (Nat.le_refl _) _) hgnQ, HNQ.out.cellAt i (by omega)]
              rw [List.map_take, List.getElem?_take] at hi
              simpa [hij] using hi
            have HW1 : Hid ((WQ.alloc (.cells #[] 9)).ownsRow WQ.heap.size 9 1 (.slice (some ⟨WQ.heap.size, 0, none⟩) 0 0) 0 []) := by
              have := World.ownsRow_lit (base := WQ.heap.size) (e := 9) (size := 1) WQ #[] 0 (Nat.le_refl _) (by simp [maxLen]) rfl
              simpa [Hid] using this
            go_wp2_with (at_builtin; refine wpList_append_src rfl _ _ 29 rfl WQ.heap.size 9 i1 (.string ByteArray.empty) 1 16 Tryz.underlying29 hi1 hzz1 hs1 hy1 rfl (by decide) _ 0 [] rfl HW1.out (some ⟨gn, 0, none⟩) j cn ((ns.take j).map Value.string) rfl ?c1 HS1.out ?c2 ?c3 ?c4 ?c5 ?_)
            case c1 => simp [HLN.out.1]; omega
            case c2 => exact strs_one _
            case c3 => unfold maxLen; omega
            case c4 => omega
            case c5 => simp
            intro va wa howna hga hata
            (try simp only [Nat.zero_add, List.nil_append] at howna)
            have hBa : Below WQ.heap.size WQ wa := ((Below.refl WQ.heap.size WQ).alloc (Nat.le_refl _) _).grown hga (by simp) (fun r hr => by simp [Value.ownBlock] at hr; omega)
            have za := hBa.size
            have hka : wa.cell? ⟨bk, ok + k, none⟩ = some (.string key) := (below_cell hBa (by omega)).trans HKK.out
            have HBA := hideIt hBa
            have HOA := hideIt howna
            obtain ⟨xa, hxa⟩ : ∃ xa, va.ownBlock = some xa := by
              rcases hata with e | e
              · exact ⟨_, e⟩
              · exact ⟨_, e⟩
            obtain ⟨ca, ea, _⟩ := own_some howna hxa
            subst ea
            clear howna hga hata hxa hBa HW1 HS1
            go_wp2_with (at_builtin; refine wpList_append_own_at _ rfl _ _ 29 rfl WQ.heap.size 9 i1 (.string ByteArray.empty) 1 16 Tryz.underlying29 hi1 hzz1 hs1 hy1 rfl (by decide) _ _ _ rfl (HOA.out.alloc _) ⟨wa.heap.size, 0, none⟩ 1 1 [.string key] rfl rfl ?c1 ?c2 ?c3 ?c4 ?c5 ?_)
            case c1 => exact cell_one_new _ _ _
            case c2 => intro u hu; simp at hu; subst hu; rfl
            case c3 => unfold maxLen; omega
            case c4 => omega
            case c5 => simp; omega
            intro vb wb hownb hgb hnb hatb
            have hBb : Below WQ.heap.size WQ wb := (HBA.out.alloc za _).grown hgb (by simp; omega) (fun r hr => (HOA.out.lt r hr).1)
            have zb := hBb.size
            have HBB := hideIt hBb
            have HOB := hideIt hownb
            obtain ⟨xb, hxb⟩ : ∃ xb, vb.ownBlock = some xb := by
              rcases hatb with e | e
              · exact ⟨_, e⟩
              · exact ⟨_, e⟩
            obtain ⟨cb, eb, _⟩ := own_some hownb hxb
            subst eb
            clear hownb hgb hnb hatb hxb hBb HBA HOA hka
            have HS3 : Hid (0 < k - j → ∃ ad', some ad1 = some ad' ∧ ∀ i x, ((ns.drop j).map Value.string)[i]? = some x → wb.cell? (ad'.add i) = some x) := by
              intro hp
              refine ⟨_, rfl, fun i x hi => ?_⟩
              have hij : i < k - j := by have := (List.getElem?_eq_some_iff.1 hi).1; simp [HLN.out.1] at this; omega
              rw [HA1.out (by omega) hcn]
              have ea : (⟨gn, j, none⟩ : Addr).add i = ⟨gn, j + i, none⟩ := by unfold Addr.add; split <;> simp_all
              rw [ea, below_cell HBB.out hgnQ, HNQ.out.cellAt (j + i) (by omega)]
              rw [List.map_drop, List.getElem?_drop] at hi
              exact hi
            go_wp2_with (at_builtin; refine wpList_append_src rfl _ _ 29 rfl WQ.heap.size 9 i1 (.string ByteArray.empty) 1 16 Tryz.underlying29 hi1 hzz1 hs1 hy1 rfl (by decide) _ (j + 1) _ rfl HOB.out (some ad1) (k - j) (cn - j) ((ns.drop j).map Value.string) rfl ?c1 HS3.out ?c2 ?c3 ?c4 ?c5 ?_)
            case c1 => simp [HLN.out.1]
            case c2 => exact strs_one _
            case c3 => unfold maxLen; omega
            case c4 => omega
            case c5 => exact zb
            intro vc wc hownc hgc hatc
            have hBc : Below WQ.heap.size WQ wc := HBB.out.grown hgc zb (fun r hr => (HOB.out.lt r hr).1)
            have zc := hBc.size
            have HBC := hideIt hBc
            rw [HKJ.out] at hownc
            have HOC : Hid (wc.ownsRow WQ.heap.size 9 1 vc (k + 1) ((ns.take j ++ [key] ++ ns.drop j).map Value.string)) := by rw [Hid]; simpa [List.map_append, List.map_take, List.map_drop] using hownc
            obtain ⟨xc, hxc⟩ : ∃ xc, vc.ownBlock = some xc := by
              rcases hatc with e | e
              · exact ⟨_, e⟩
              · exact ⟨_, e⟩
            obtain ⟨cc, ec, hcc⟩ := own_some hownc hxc
            subst ec
            have hxcl : xc < wc.heap.size := (hownc.lt xc rfl).2
            clear hownc hgc hatc hxc hBc HBB HOB HS3
            have HW2 : Hid ((wc.alloc (.cells #[] 24)).ownsRow wc.heap.size 24 1 (.slice (some ⟨wc.heap.size, 0, none⟩) 0 0) 0 []) := by
              have := World.ownsRow_lit (base := wc.heap.size) (e := 24) (size := 1) wc #[] 0 (Nat.le_refl _) (by simp [maxLen]) rfl
              simpa [Hid] using this
            have HS4 : Hid (0 < j → ∃ ad', some (⟨gl, 0, none⟩ : Addr) = some ad' ∧ ∀ i x, ((ps.take j).map cs)[i]? = some x → (wc.alloc (.cells #[] 24)).cell? (ad'.add i) = some x) := by
              intro _
              refine ⟨_, rfl, fun i x hi => ?_⟩
              have hij : i < j := by have := (List.getElem?_eq_some_iff.1 hi).1; simp at this; omega
              have ea : (⟨gl, 0, none⟩ : Addr).add i = ⟨gl, i, none⟩ := by unfold Addr.add; split <;> simp_all
              rw [ea, below_cell (HBC.out.alloc zc _) hglQ, HLQ.out.cellAt i (by omega)]
              rw [List.map_take, List.getElem?_take] at hi
              simpa [hij] using hi
            go_wp2_with (at_builtin; refine wpList_append_src rfl _ _ 33 rfl wc.heap.size 24 i2 (.slice none 0 0) 1 24 Tryz.underlying33 hi2 hzz2 hs2 hy2 rfl (by decide) _ 0 [] rfl HW2.out (some ⟨gl, 0, none⟩) j cl ((ps.take j).map cs) rfl ?c1 HS4.out ?c2 ?c3 ?c4 ?c5 ?_)
            case c1 => simp [HLN.out.2]; omega
            case c2 => exact HON.out _ (fun i hi => Nat.lt_of_lt_of_le (HPM.out i (List.mem_of_mem_take hi)) hk)
            case c3 => unfold maxLen; omega
            case c4 => omega
            case c5 => simp
            intro vd wd hownd hgd hatd
            (try simp only [Nat.zero_add, List.nil_append] at hownd)
            have hBd : Below wc.heap.size wc wd := ((Below.refl wc.heap.size wc).alloc (Nat.le_refl _) _).grown hgd (by simp) (fun r hr => by simp [Value.ownBlock] at hr; omega)
            have zd := hBd.size
            have hud : wd.cell? ⟨bu, ou + k, none⟩ = some (.slice ax nx cx) := (below_cell hBd (by omega)).trans ((below_cell HBC.out (by omega)).trans HUK.out)
            have HBD := hideIt hBd
            have HOD := hideIt hownd
            obtain ⟨xd, hxd⟩ : ∃ xd, vd.ownBlock = some xd := by
              rcases hatd with e | e
              · exact ⟨_, e⟩
              · exact ⟨_, e⟩
            obtain ⟨cd, ed, _⟩ := own_some hownd hxd
            subst ed
            clear hownd hgd hatd hxd hBd HW2 HS4
            go_wp2_with (at_builtin; refine wpList_append_own_at _ rfl _ _ 33 rfl wc.heap.size 24 i2 (.slice none 0 0) 1 24 Tryz.underlying33 hi2 hzz2 hs2 hy2 rfl (by decide) _ _ _ rfl (HOD.out.alloc _) ⟨wd.heap.size, 0, none⟩ 1 1 [.slice ax nx cx] rfl rfl ?c1 ?c2 ?c3 ?c4 ?c5 ?_)
            case c1 => exact cell_one_new _ _ _
            case c2 => intro u hu; simp at hu; subst hu; rfl
            case c3 => unfold maxLen; omega
            case c4 => omega
            case c5 => simp; omega
            intro ve we howne hge hne hate
            have hBe : Below wc.heap.size wc we := (HBD.out.alloc zd _).grown hge (by simp; omega) (fun r hr => (HOD.out.lt r hr).1)
            have ze := hBe.size
            have HBE := hideIt hBe
            have HOE := hideIt howne
            obtain ⟨xe, hxe⟩ : ∃ xe, ve.ownBlock = some xe := by
              rcases hate with e | e
              · exact ⟨_, e⟩
              · exact ⟨_, e⟩
            obtain ⟨ce, ee, _⟩ := own_some howne hxe
            subst ee
            clear howne hge hne hate hxe hBe HBD HOD hud
            have HS6 : Hid (0 < k - j → ∃ ad', some ad2 = some ad' ∧ ∀ i x, ((ps.drop j).map cs)[i]? = some x → we.cell? (ad'.add i) = some x) := by
              intro hp
              refine ⟨_, rfl, fun i x hi => ?_⟩
              have hij : i < k - j := by have := (List.getElem?_eq_some_iff.1 hi).1; simp [HLN.out.2] at this; omega
              rw [HA2.out (by omega) hcl]
              have ea : (⟨gl, j, none⟩ : Addr).add i = ⟨gl, j + i, none⟩ := by unfold Addr.add; split <;> simp_all
              rw [ea, below_cell HBE.out (by omega), below_cell HBC.out hglQ, HLQ.out.cellAt (j + i) (by omega)]
              rw [List.map_drop, List.getElem?_drop] at hi
              exact hi
            go_wp2_with (at_builtin; refine wpList_append_src rfl _ _ 33 rfl wc.heap.size 24 i2 (.slice none 0 0) 1 24 Tryz.underlying33 hi2 hzz2 hs2 hy2 rfl (by decide) _ (j + 1) _ rfl HOE.out (some ad2) (k - j) (cl - j) ((ps.drop j).map cs) rfl ?c1 HS6.out ?c2 ?c3 ?c4 ?c5 ?_)
            case c1 => simp [HLN.out.2]
            case c2 => exact HON.out _ (fun i hi => Nat.lt_of_lt_of_le (HPM.out i (List.mem_of_mem_drop hi)) hk)
            case c3 => unfold maxLen; omega
            case c4 => omega
            case c5 => exact ze
            intro vf wf hownf hgf hatf
            have hBf : Below wc.heap.size wc wf := HBE.out.grown hgf ze (fun r hr => (HOE.out.lt r hr).1)
            have zf := hBf.size
            rw [HKJ.out] at hownf
            have HOF : Hid (wf.ownsRow wc.heap.size 24 1 vf (k + 1) ((ps.take j ++ [k] ++ ps.drop j).map cs)) := by rw [Hid]; simpa [List.map_append, List.map_take, List.map_drop, HCX.out] using hownf
            obtain ⟨xf, hxf⟩ : ∃ xf, vf.ownBlock = some xf := by
              rcases hatf with e | e
              · exact ⟨_, e⟩
              · exact ⟨_, e⟩
            obtain ⟨cf, ef, hcf⟩ := own_some hownf hxf
            subst ef
            have hxfl : xf < wf.heap.size := (hownf.lt xf rfl).2
            have HOC2 : Hid (wf.ownsRow w.heap.size 9 1 (.slice (some ⟨xc, 0, none⟩) (k + 1) cc) (k + 1) ((ns.take j ++ [key] ++ ns.drop j).map Value.string)) := own_mono (own_below HOC.out hBf (fun y hy => (HOC.out.lt y hy).2)) zw
            have HOF2 := hideIt (own_mono HOF.out (show w.heap.size ≤ wc.heap.size by omega))
            have HBF := hideIt (HBQ.out.trans ((HBC.out.trans (hBf.mono zc)).mono zw))
            have hSI := HSI.out
            rw [HKEY.out] at hSI
            have HSI2 := hideIt hSI
            clear hownf hgf hatf hxf hBf HBE HOE HS6 hSI
            go_wp2_with fail
            go_roundw
            case rel => exact ⟨k + 1, xc, xf, cc, cf, _, _, by omega, by go_num, rfl, rfl, hcc, hcf, by omega, hxfl, HSI2.out, HOC2.out, HOF2.out, HBF.out⟩
            case measure => simp [intOf]; omega
        case neg =>
          have hj : j < k := Classical.byContradiction fun e => hins (.inr e)
          have dn0 : wr.cell? ⟨gn, j, none⟩ = some (.string (keyAt ns j)) := by
            rw [below_cell hbq (by omega), HN.out.cellAt j (by omega)]
            exact keyAt_mapGet (by rw [HLN.out.1]; exact hj)
          cases hle : lessB (keyAt ns j) key
          · have hle' : Op.bytesLess (keyAt ns j).toList key.toList = false := hle
            have HPO : Hid (posK ns key = j) := posK_eq (by rw [HLN.out.1]; exact hjk) HLT.out (fun _ => hle)
            have HHK := hideIt (hasK_at HPO.out)
            clear hle
            go_wp2_with fail
            go_quiet (fail)
            have hbq1 := below_drewN hbq nq
            have en0 : (wr.drewN nq).cell? ⟨gn, j, none⟩ = some (.string (keyAt ns j)) := (below_cell (below_drewN (Below.refl wr.heap.size wr) nq) (by omega)).trans dn0
            have ek0 : (wr.drewN nq).cell? ⟨bk, ok + k, none⟩ = some (.string key) := (below_cell (below_drewN (Below.refl wr.heap.size wr) nq) (by omega)).trans dk0
            clear dn0 dk0
            generalize wr.drewN nq = W1 at hbq1 en0 ek0 ⊢
            clear nq
            by_cases he : (keyAt ns j).toList = key.toList
            · have hz : ((keyAt ns j).toList == key.toList) = true := by simp [he]
              have HNO : Hid (hasK ns key = true) := by rw [Hid, HHK.out, HLN.out.1]; simp [hj, he]
              clear he
              go_wp2_with fail
              go_quiet (fail)
              go_wp2_with fail
              go_ret3
              exact ⟨by rw [sortIn_none (sortIn_twice HSO.out (by rw [HKEY.out]; exact HNO.out)) (show k + 1 ≤ m by omega)]; rfl, hbl.trans ((below_drewN hbq1 nq).mono zs)⟩
            · exact absurd (.inl ⟨hj, by assumption, he⟩) hins
          · have hle' : Op.bytesLess (keyAt ns j).toList key.toList = true := hle
            have HLT2 : Hid (∀ t, t < j + 1 → lessB (keyAt ns t) key = true) := fun t ht => by
              by_cases e : t = j
              · subst e; exact hle
              · exact HLT.out t (by omega)
            clear hle
            go_wp2_with fail
            go_quiet (fail)
            go_wp2_with fail
            go_roundw
            case rel => exact ⟨j + 1, by omega, by go_num, HLT2.out, below_drewN hbq nq⟩
            case measure => simp [intOf]; omega
    · obtain rfl : k = m := by omega
      have HLN2 := hideIt HLN.out
      go_wp2_with fail
      go_ret3
      exact ⟨by rw [HSO.out]; exact ⟨_, _, rfl, by rw [HLN.out.1]; exact HN.out, by rw [HLN.out.2]; exact HL.out⟩, hbl⟩
end Go.Proofs.YtcidjhnogldgmaaGreatDoor

namespace Go.Proofs.YtcidjhnogldgmaaGreatDoor
open Go.RowKit
set_option linter.unusedSimpArgs false
set_option linter.unusedVariables false
set_option maxHeartbeats 800000 in
theorem l1NumberX (n : Int) (w : World) : Calls Tryz.prog 33 #[.int .i64 n] w fun e w' => ∃ r KV IV, e = .returned r ∧ Nest w.heap.size w' r (leafN 3 n ByteArray.empty) KV IV ∧ Below w.heap.size w w' := by
  go_enter Tryz.func33, Tryz.ntmps33
  go_wp2_with fail
  go_ret
  exact ⟨_, _, _, rfl, leaf_nest w 3 n _, (Below.refl _ _).alloc (Nat.le_refl _) _⟩
set_option maxRecDepth 100000 in
set_option maxHeartbeats 3200000 in
theorem l8Length_any (B : Nat) (v : Value) (vs : List VN) (w : World) (h : NodesAt B w v vs) (hB : B ≤ w.heap.size) (hok : okB vs = true) :
    Calls Tryz.prog 18 #[v] w fun e w' => ∃ r base KV IV, e = .returned (.tuple #[r, .int .i64 (kindC (lenK (rootN vs)))]) ∧ w.heap.size ≤ base ∧ Nest base w' r (oneNs (lenK (rootN vs))) KV IV ∧ Below w.heap.size w w' := by
  have HRS := hideIt (root_says hok)
  obtain ⟨hlen, av, cap, rfl, hcell⟩ := h
  obtain ⟨p1, _, _, _⟩ := okB_parts hok
  obtain ⟨b0, o0, rfl, hb0, hc⟩ := hcell (by omega)
  obtain ⟨ka, ki, hn⟩ := hc (vs.length - 1) (by omega)
  obtain ⟨x, hx⟩ : ∃ x, rootN vs = x := ⟨_, rfl⟩
  have hx' : nodeAt vs (vs.length - 1) = x := hx
  rw [hx'] at hn
  rw [hx] at HRS ⊢
  have HK : Hid (lenK x = lenK x) := rfl
  obtain ⟨M, hM⟩ : ∃ M, vs.length = M := ⟨_, rfl⟩
  rw [hM] at hn p1 hlen ⊢
  obtain ⟨_, _, aK, cK, eK, _⟩ := hn.inn.keys
  obtain ⟨_, _, aI, cI, eI, _⟩ := hn.inn.kids
  subst eK eI
  have c0 := hn.c0
  have c1 := hn.c1
  have c2 := hn.c2
  have c3 := hn.c3
  have c4 := hn.c4
  have p0 : ((M : Int) - 1).toNat = M - 1 := by omega
  obtain ⟨p1a, p1b⟩ := p1
  clear hcell hc hn hx hx' hM hok HK
  obtain ⟨W, hW⟩ : ∃ W, w.alloc (.cells #[.int .i64 x.kind, .int .i64 x.n, .string x.s, .slice aK x.keys.length cK, .slice aI x.kids.length cI] 32) = W := ⟨_, rfl⟩
  have r0 : W.cell? ⟨w.heap.size, 0, none⟩ = some (.int .i64 x.kind) := by rw [← hW]; simp
  have r1 : W.cell? ⟨w.heap.size, 1, none⟩ = some (.int .i64 x.n) := by rw [← hW]; simp
  have r2 : W.cell? ⟨w.heap.size, 2, none⟩ = some (.string x.s) := by rw [← hW]; simp
  have r4 : W.cell? ⟨w.heap.size, 4, none⟩ = some (.slice aI x.kids.length cI) := by rw [← hW]; simp
  have rz : w.heap.size < W.heap.size := by rw [← hW]; simp
  have HW := hideIt hW
  have HBW : Hid (Below w.heap.size w W) := by rw [Hid, ← hW]; exact (Below.refl _ _).alloc (Nat.le_refl _) _
  clear hW
  have HRST := hideIt (And.intro r0 (And.intro r1 (And.intro r2 r4)))
  clear r0 r1 r2 r4
  have HAL : Hid (w.alloc (.cells #[.int .i64 x.kind, .int .i64 x.n, .string x.s, .slice aK x.keys.length cK, .slice aI x.kids.length cI] 32) = W) := HW.out
  rcases HRS.out with k | k | ⟨k, n1, n2⟩ | ⟨k, n1⟩ | ⟨k, n1⟩ | ⟨k, n1⟩
  · have HL : Hid (lenK x = some (0)) := by unfold Hid lenK; simp [k]
    rw [HL.out]
    rw [k] at c0 HAL HRST
    clear k HRS
    have hzz : w.heap.size ≤ (w.alloc (.cells #[.int .i64 1, .int .i64 x.n, .string x.s, .slice aK x.keys.length cK, .slice aI x.kids.length cI] 32)).heap.size := by simp
    go_enter Tryz.func18, Tryz.ntmps18
    go_wp2_with fail
    refine (l1NumberX (0) _).mono ?_
    rintro e w2 ⟨r, KV, IV, rfl, hn, hb⟩
    have HN := hideIt hn
    obtain ⟨ar, cr, er⟩ := own_slice hn.row
    simp only [leafN, List.length_cons, List.length_nil] at er
    subst er
    have HB2 : Hid (Below w.heap.size w w2) := ((Below.refl _ _).alloc (Nat.le_refl _) _).trans (hb.mono (by simp))
    clear hn hb
    go_wp2_with fail
    go_ret2
    exact ⟨_, _, KV, IV, rfl, hzz, HN.out, HB2.out⟩
  · have HL : Hid (lenK x = none) := by unfold Hid lenK; simp [k]
    rw [HL.out]
    rw [k] at c0 HAL HRST
    clear k HRS
    go_enter Tryz.func18, Tryz.ntmps18
    go_wp2_with fail
    go_ret2
    exact ⟨_, w.heap.size, fun _ => undef, fun _ => undef, rfl, Nat.le_refl _, Nest.nil _ _ _ _, (Below.refl _ _).alloc (Nat.le_refl _) _⟩
  · by_cases hs : x.n < -x.n
    · have HL : Hid (lenK x = some (-x.n)) := by unfold Hid lenK; simp [k]; omega
      rw [HL.out]
      rw [k] at c0 HAL HRST
      clear k HRS
      have hzz : w.heap.size ≤ (w.alloc (.cells #[.int .i64 3, .int .i64 x.n, .string x.s, .slice aK x.keys.length cK, .slice aI x.kids.length cI] 32)).heap.size := by simp
      go_enter Tryz.func18, Tryz.ntmps18
      go_wp2_with fail
      refine (l1NumberX (-x.n) _).mono ?_
      rintro e w2 ⟨r, KV, IV, rfl, hn, hb⟩
      have HN := hideIt hn
      obtain ⟨ar, cr, er⟩ := own_slice hn.row
      simp only [leafN, List.length_cons, List.length_nil] at er
      subst er
      have HB2 : Hid (Below w.heap.size w w2) := ((Below.refl _ _).alloc (Nat.le_refl _) _).trans (hb.mono (by simp))
      clear hn hb
      go_wp2_with fail
      go_ret2
      exact ⟨_, _, KV, IV, rfl, hzz, HN.out, HB2.out⟩
    · have HL : Hid (lenK x = some (x.n)) := by unfold Hid lenK; simp [k]; omega
      rw [HL.out]
      rw [k] at c0 HAL HRST
      clear k HRS
      have hzz : w.heap.size ≤ (w.alloc (.cells #[.int .i64 3, .int .i64 x.n, .string x.s, .slice aK x.keys.length cK, .slice aI x.kids.length cI] 32)).heap.size := by simp
      go_enter Tryz.func18, Tryz.ntmps18
      go_wp2_with fail
      refine (l1NumberX (x.n) _).mono ?_
      rintro e w2 ⟨r, KV, IV, rfl, hn, hb⟩
      have HN := hideIt hn
      obtain ⟨ar, cr, er⟩ := own_slice hn.row
      simp only [leafN, List.length_cons, List.length_nil] at er
      subst er
      have HB2 : Hid (Below w.heap.size w w2) := ((Below.refl _ _).alloc (Nat.le_refl _) _).trans (hb.mono (by simp))
      clear hn hb
      go_wp2_with fail
      go_ret2
      exact ⟨_, _, KV, IV, rfl, hzz, HN.out, HB2.out⟩
  · have HL : Hid (lenK x = some ((x.s.size : Int))) := by unfold Hid lenK; simp [k]
    rw [HL.out]
    rw [k] at c0 HAL HRST
    clear k HRS
    have hzz : w.heap.size ≤ (w.alloc (.cells #[.int .i64 4, .int .i64 x.n, .string x.s, .slice aK x.keys.length cK, .slice aI x.kids.length cI] 32)).heap.size := by simp
    go_enter Tryz.func18, Tryz.ntmps18
    go_wp2_with fail
    refine (l1NumberX ((x.s.size : Int)) _).mono ?_
    rintro e w2 ⟨r, KV, IV, rfl, hn, hb⟩
    have HN := hideIt hn
    obtain ⟨ar, cr, er⟩ := own_slice hn.row
    simp only [leafN, List.length_cons, List.length_nil] at er
    subst er
    have HB2 : Hid (Below w.heap.size w w2) := ((Below.refl _ _).alloc (Nat.le_refl _) _).trans (hb.mono (by simp))
    clear hn hb
    go_wp2_with fail
    go_ret2
    exact ⟨_, _, KV, IV, rfl, hzz, HN.out, HB2.out⟩
  · have HL : Hid (lenK x = some ((x.kids.length : Int))) := by unfold Hid lenK; simp [k]
    rw [HL.out]
    rw [k] at c0 HAL HRST
    clear k HRS
    have hzz : w.heap.size ≤ (w.alloc (.cells #[.int .i64 5, .int .i64 x.n, .string x.s, .slice aK x.keys.length cK, .slice aI x.kids.length cI] 32)).heap.size := by simp
    go_enter Tryz.func18, Tryz.ntmps18
    go_wp2_with fail
    refine (l1NumberX ((x.kids.length : Int)) _).mono ?_
    rintro e w2 ⟨r, KV, IV, rfl, hn, hb⟩
    have HN := hideIt hn
    obtain ⟨ar, cr, er⟩ := own_slice hn.row
    simp only [leafN, List.length_cons, List.length_nil] at er
    subst er
    have HB2 : Hid (Below w.heap.size w w2) := ((Below.refl _ _).alloc (Nat.le_refl _) _).trans (hb.mono (by simp))
    clear hn hb
    go_wp2_with fail
    go_ret2
    exact ⟨_, _, KV, IV, rfl, hzz, HN.out, HB2.out⟩
  · have HL : Hid (lenK x = some ((x.kids.length : Int))) := by unfold Hid lenK; simp [k]
    rw [HL.out]
    rw [k] at c0 HAL HRST
    clear k HRS
    have hzz : w.heap.size ≤ (w.alloc (.cells #[.int .i64 6, .int .i64 x.n, .string x.s, .slice aK x.keys.length cK, .slice aI x.kids.length cI] 32)).heap.size := by simp
    go_enter Tryz.func18, Tryz.ntmps18
    go_wp2_with fail
    refine (l1NumberX ((x.kids.length : Int)) _).mono ?_
    rintro e w2 ⟨r, KV, IV, rfl, hn, hb⟩
    have HN := hideIt hn
    obtain ⟨ar, cr, er⟩ := own_slice hn.row
    simp only [leafN, List.length_cons, List.length_nil] at er
    subst er
    have HB2 : Hid (Below w.heap.size w w2) := ((Below.refl _ _).alloc (Nat.le_refl _) _).trans (hb.mono (by simp))
    clear hn hb
    go_wp2_with fail
    go_ret2
    exact ⟨_, _, KV, IV, rfl, hzz, HN.out, HB2.out⟩
set_option maxRecDepth 100000 in
set_option maxHeartbeats 1600000 in
theorem specLengthOf_any (B : Nat) (v : Value) (vs : List VN) (w : World) (h : NodesAt B w v vs) (hB : B ≤ w.heap.size) :
    Calls Tryz.prog 7 #[v] w fun e w' => ∃ r base KV IV, e = .returned (.tuple #[r, .int .i64 (lenC vs)]) ∧ w.heap.size ≤ base ∧ Nest base w' r (lenNs vs) KV IV ∧ Below w.heap.size w w' := by
  have HV := hideIt h
  obtain ⟨_, a, cap, rfl, _⟩ := h
  have HLN : Hid (lenNs vs = if okB vs = true then oneNs (lenK (rootN vs)) else []) := rfl
  have HLC : Hid (lenC vs = if okB vs = true then kindC (lenK (rootN vs)) else 1) := rfl
  go_enter Tryz.func7, Tryz.ntmps7
  go_wp2_with fail
  refine (specOk_any B _ vs _ HV.out hB).mono ?_
  rintro e w1 ⟨rfl, hb1⟩
  have z1 := hb1.size
  cases ok1 : okB vs
  · go_wp2_with fail
    go_ret2
    exact ⟨_, w.heap.size, fun _ => undef, fun _ => undef, by rw [HLC.out, ok1]; rfl, Nat.le_refl _, by rw [HLN.out, ok1]; exact Nest.nil _ _ _ _, hb1⟩
  · have HN1 := hideIt (HV.out.below (hb1.mono hB))
    have HB1 := hideIt hb1
    clear hb1
    go_wp2_with fail
    refine (l8Length_any B _ vs w1 HN1.out (by omega) ok1).mono ?_
    rintro e w2 ⟨r, base, KV, IV, rfl, hbase, hn, hb2⟩
    have HN := hideIt hn
    have HB2 := hideIt (HB1.out.trans (hb2.mono z1))
    obtain ⟨ar, cr, er⟩ := own_slice hn.row
    obtain ⟨L, hL⟩ : ∃ L, (oneNs (lenK (rootN vs))).length = L := ⟨_, rfl⟩
    rw [hL] at er
    subst er
    obtain ⟨C, hC⟩ : ∃ C, kindC (lenK (rootN vs)) = C := ⟨_, rfl⟩
    have HC := hideIt hC
    rw [hC]
    clear hn hb2 hL hC
    go_wp2_with fail
    go_ret2
    exact ⟨_, base, KV, IV, by rw [HLC.out, ok1, if_pos rfl, HC.out]; rfl, by omega, by rw [HLN.out, ok1, if_pos rfl]; exact HN.out, HB2.out⟩
end Go.Proofs.YtcidjhnogldgmaaGreatDoor
