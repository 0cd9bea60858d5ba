/-
  impl.withNodes at a list, if it does as it should at the list's parts.
-/
import Derived.Test.YtgmnihofkpjboaaDoorWn1
namespace Go.Proofs.YtgmnihofkpjboaaDoor
open Go.RowKit
set_option linter.unusedSimpArgs false
set_option linter.unusedVariables false

theorem Mid.keepB {base : Nat} {w wr : World} {nb : Nat} {v0 v kv : Value} {ns acc : List VN} {ks : List Int} {cs : List Value} {KV0 IV0 KV IV : Nat → Value} {B : Nat} (h : Mid base w wr nb v0 v kv ns acc ks cs KV0 IV0 KV IV) (hB : B ≤ base) : ∀ k, k < B → wr.heap[k]? = w.heap[k]? :=
  fun k hk => h.frame.block k (by have := h.hbase; omega) (fun e => by have := h.v0b k e.symm; omega)

/-- withNodes does as it should at trees of that height. -/
def LaysAll (B base f : Nat) : Prop :=
  ∀ (t : VT) (x v : Value) (ns : List VN) (KV IV : Nat → Value) (w : World), Nest base w v ns KV IV → TreeAt B w f t x → base ≤ w.heap.size → ns.length + (layT f t ns.length).length ≤ 100000 →
    Calls Tryd.prog 50 #[v, x] w fun e w' => ∃ v' KV' IV', e = .returned v' ∧ Laid base w w' v v' ns (layT f t ns.length) KV IV KV' IV'

theorem node_after {base : Nat} {w w3 w5 : World} {nb : Nat} {v0 v kv : Value} {ns acc : List VN} {ks : List Int} {cs : List Value} {KV0 IV0 KV IV : Nat → Value} {o : Obj} (h : Mid base w w3 nb v0 v kv ns acc ks cs KV0 IV0 KV IV) (hg : (w3.alloc o).grownBy w5 kv.ownBlock) :
    w5.ownsRow w.heap.size 41 5 (.slice (some ⟨nb, 0, none⟩) 1 1) 1 cs :=
  h.node.kept ((World.grownBy_alloc w3 o _).trans hg) (own_apart h.node h.kids (by decide))

set_option maxRecDepth 100000 in
set_option maxHeartbeats 6400000 in
theorem withNodes_list (B base f : Nat) (hB : B ≤ base) (ih : LaysAll B base f) (kids : List VT) (it v : Value) (ns : List VN) (KV IV : Nat → Value) (w : World) (hit : TItems B w it kids.length (fun j u => TreeAt B w f (kidT kids j) u)) (h : Nest base w v ns KV IV) (hb : base ≤ w.heap.size) (hn : ns.length + (accT f ns.length kids kids.length).length + 1 ≤ 100000) :
    Calls Tryd.prog 50 #[v, .iface 97 (.agg #[it])] w fun e w' => ∃ v' KV' IV', e = .returned v' ∧ Laid base w w' v v' ns (accT f ns.length kids kids.length ++ [{ kind := 5, n := 0, s := ByteArray.empty, keys := [], kids := ksT f ns.length kids kids.length }]) KV IV KV' IV' := by
  have H := hideIt h
  obtain ⟨av, cv, rfl⟩ := own_slice h.row
  clear h
  obtain ⟨hm0, ai, ci, rfl, hx⟩ := hit
  have HX := hideIt hx
  have IH := hideIt ih
  clear hx ih
  have ta0 := ta_list_bool
  have ta1 := ta_list_int
  have ta2 := ta_list_text
  have ta3 := ta_list_map
  obtain ⟨i0, hi0, hz0, hs0, hy0⟩ := info_parts infoNode
  obtain ⟨i2, hi2, hz2, hs2, hy2⟩ := info_parts infoInt
  go_enter Tryd.func50, Tryd.ntmps50
  go_wp2_with fail
  refine (kind5_any _ _ _ _).mono ?_
  rintro e w1 ⟨rfl, hb1⟩
  have HB1 := hideIt hb1
  go_wp2_with fail
  refine (parts5_any _ _ _ _).mono ?_
  rintro e w2 ⟨rfl, hb2⟩
  have HM := hideIt (Mid.start H.out hb HB1.out hb2)
  have z2 : w1.heap.size < w2.heap.size := by have := hb2.size; simp at this; omega
  clear hb1 hb2
  go_wp2_with fail
  go_loopw [0, 18] (fun o i wr => ∃ (k : Nat) (kv : Value) (KV' IV' : Nat → Value), k ≤ kids.length ∧ i = .int .i64 k ∧ Mid base w wr w1.heap.size (.slice av ns.length cv) o kv ns (accT f ns.length kids k) (ksT f ns.length kids k) [.int .i64 5, .int .i64 0, .string ⟨#[]⟩, .slice none 0 0, kv] KV IV KV' IV') (fun _ i _ => kids.length - (intOf i).toNat)
  case atStart => exact ⟨0, _, _, _, Nat.zero_le _, rfl, by rw [accT_zero, ksT_zero]; exact HM.out⟩
  case round =>
    obtain ⟨k, kv, KV', IV', hk, rfl, hm⟩ := hrel
    clear HM z2
    have HM := hideIt hm
    obtain ⟨ao, co, ho⟩ := own_slice hm.nest.row
    obtain ⟨M, hM⟩ : ∃ M, (ns ++ accT f ns.length kids k).length = M := ⟨_, rfl⟩
    have HMM := hideIt hM
    have hacc := accT_le f ns.length kids k
    rw [hM] at ho
    subst ho
    have hfs := hm.frame.size
    have hM1 : M + 1 ≤ 100000 := by rw [← hM, List.length_append]; omega
    clear hm hM
    by_cases hlt : k < kids.length
    · obtain ⟨b, rfl, hbB, hc⟩ := HX.out (by omega)
      obtain ⟨t, x, hck, htr⟩ := hc k hlt
      have hck' : wr.cell? ⟨b, k, none⟩ = some (.iface t x) := (World.cell?_of_block (HM.out.keepB hB b hbB)).trans hck
      have HT := hideIt (TreeAt.keep (HM.out.keepB hB) (Nat.le_refl _) htr)
      have hacc1 := accT_le f ns.length kids (k + 1)
      have HA := hideIt (accT_succ f ns.length hlt)
      have HL0 : Hid ((ns ++ accT f ns.length kids k).length = ns.length + (accT f ns.length kids k).length) := List.length_append
      clear hc hck htr
      go_wp2_with fail
      refine (IH.out (kidT kids k) (.iface t x) _ (ns ++ accT f ns.length kids k) KV' IV' wr HM.out.nest HT.out (by omega) (by rw [HL0.out]; rw [HA.out, List.length_append] at hacc1; omega)).mono ?_
      rintro e w3 ⟨v3, KV3, IV3, rfl, hl⟩
      have hm3 := HM.out.laid hl
      rw [HL0.out, ← HA.out] at hm3
      have HM3 := hideIt hm3
      obtain ⟨a3, c3, h3⟩ := own_slice hm3.nest.row
      obtain ⟨L, hL⟩ : ∃ L, (ns ++ accT f ns.length kids (k + 1)).length = L := ⟨_, rfl⟩
      rw [hL] at h3
      subst h3
      have hL1 : L ≤ 100000 := by rw [← hL, List.length_append]; omega
      have HKS : Hid (ksT f ns.length kids (k + 1) = ksT f ns.length kids k ++ [(L : Int) - 1]) := by rw [Hid, ksT_succ f ns.length hlt, ← hL, List.length_append]
      have hkl := ksT_len f ns.length kids hk
      have HKL := hideIt hkl
      have y4 : w3.cell? ⟨w1.heap.size, 4, none⟩ = some kv := HM3.out.node.cellAt 4 (by omega)
      have hL0 : 1 ≤ L := by
        have := layT_pos HT.out (ns.length + (accT f ns.length kids k).length)
        rw [← hL, HA.out, List.length_append, List.length_append]
        omega
      have HK3 := hideIt HM3.out.kids
      obtain ⟨ak, ck, hkv⟩ := own_slice HK3.out
      rw [HKL.out] at hkv
      subst hkv
      have HZ3 := hideIt HM3.out.frame.size
      clear hm3 hl hL hkl hacc hacc1
      go_wp2_with (at_builtin; refine wpList_append_own_at _ rfl _ _ 37 rfl w.heap.size 2 i2 (.int .i64 0) 1 8 Tryd.underlying37 hi2 hz2 hs2 hy2 rfl (by decide) _ _ _ rfl (HK3.out.alloc _) ⟨w3.heap.size, 0, none⟩ 1 1 [.int .i64 ((L : Int) - 1)] rfl rfl ?c1 ?c2 ?c3 ?c4 ?c5 ?_)
      case c1 => exact cell_one_new _ _ _
      case c2 => intro u hu; simp at hu; subst hu; rfl
      case c3 => rw [HKL.out]; simp [maxLen]; omega
      case c4 => rw [HKL.out]; omega
      case c5 => have := HZ3.out; simp; omega
      intro kv' w5 hown hgrow _ hat
      obtain ⟨ak', ck', hk'⟩ := own_slice hown
      rw [HKL.out] at hk'
      subst hk'
      have n5 := node_after HM3.out hgrow
      have x4 : w5.cell? ⟨w1.heap.size, 4, none⟩ = some (.slice ak k ck) := n5.cellAt 4 (by omega)
      have f4 : w5.frozen? ⟨w1.heap.size, 4, none⟩ = false := n5.frozenAt 4
      have HMK := hideIt (HM3.out.kid hown hgrow (by simpa using hat))
      clear hown hgrow hat n5
      go_wp2_with fail
      go_roundw
      case rel => exact ⟨k + 1, _, KV3, IV3, by omega, by go_num, by rw [HKS.out]; exact HMK.out⟩
      case measure => simp [intOf]; omega
    · obtain rfl : k = kids.length := by omega
      have y0 : wr.cell? ⟨w1.heap.size, 0, none⟩ = some (.int .i64 5) := HM.out.node.cellAt 0 (by omega)
      have y1 : wr.cell? ⟨w1.heap.size, 1, none⟩ = some (.int .i64 0) := HM.out.node.cellAt 1 (by omega)
      have y2 : wr.cell? ⟨w1.heap.size, 2, none⟩ = some (.string ⟨#[]⟩) := HM.out.node.cellAt 2 (by omega)
      have y3 : wr.cell? ⟨w1.heap.size, 3, none⟩ = some (.slice none 0 0) := HM.out.node.cellAt 3 (by omega)
      have y4 : wr.cell? ⟨w1.heap.size, 4, none⟩ = some kv := HM.out.node.cellAt 4 (by omega)
      have HN := hideIt (HM.out.nest.row.alloc (.cells #[.int .i64 5, .int .i64 0, .string ⟨#[]⟩, .slice none 0 0, kv] 41))
      rw [HMM.out] at HN
      have h1 : kv.oneCell' = true := by obtain ⟨a, c, rfl⟩ := own_slice HM.out.kids; rfl
      go_wp2_with (at_builtin; refine wpList_append_own_at _ rfl _ _ 25 rfl base 41 i0 zeroNode 5 80 Tryd.underlying25 hi0 hz0 hs0 hy0 rfl (by decide) _ _ _ rfl HN.out ⟨wr.heap.size, 0, none⟩ 1 1 [.int .i64 5, .int .i64 0, .string ⟨#[]⟩, .slice none 0 0, kv] rfl rfl ?c1 ?c2 ?c3 ?c4 ?c5 ?_)
      case c1 => exact news5 _ _ _ _ _ _
      case c2 => intro u hu; simp at hu; rcases hu with rfl | rfl | rfl | rfl | rfl <;> first | rfl | exact h1
      case c3 => unfold maxLen; omega
      case c4 => omega
      case c5 => simp; omega
      intro v' w6 hown hgrow _ hat
      have HL := hideIt (Mid.fin (x := { kind := 5, n := 0, s := ⟨#[]⟩, keys := [], kids := ksT f ns.length kids kids.length }) HM.out rfl (World.ownsRow_nil _ _ _ _) (fun j _ y hy => by simp [Value.ownBlock] at hy) (by rw [HMM.out]; exact hown) hgrow hat)
      clear hown hgrow hat
      go_wp2_with fail
      go_ret
      exact ⟨_, _, _, rfl, HL.out⟩
end Go.Proofs.YtgmnihofkpjboaaDoor
