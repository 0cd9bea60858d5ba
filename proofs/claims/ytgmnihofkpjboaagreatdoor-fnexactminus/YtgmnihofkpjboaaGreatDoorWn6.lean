/-
  impl.withNodes at a map, if it does as it should at the map's parts; and so at every value.
-/
import Derived.Test.YtgmnihofkpjboaaGreatDoorGotP
namespace Go.Proofs.YtgmnihofkpjboaaGreatDoor
open Go.RowKit
set_option linter.unusedSimpArgs false
set_option linter.unusedVariables false

set_option maxRecDepth 100000 in
set_option maxHeartbeats 6400000 in
theorem withNodes_map (B base f : Nat) (hB : B ≤ base) (ih : LaysAll B base f) (keys : List ByteArray) (kids : List VT) (kv0 it v : Value) (ns : List VN) (KV IV : Nat → Value) (w : World) (hks : StrsAt B w kv0 keys) (hit : TItems B w it kids.length (fun j u => TreeAt B w f (kidT kids j) u)) (h : Nest base w v ns KV IV) (hb : base ≤ w.heap.size) (hn : ns.length + (accT f ns.length kids kids.length).length + 1 ≤ 100000) :
    Calls Tryz.prog 49 #[v, .iface 101 (.agg #[kv0, it])] w fun e w' => ∃ v' KV' IV', e = .returned v' ∧ Laid base w w' v v' ns (accT f ns.length kids kids.length ++ [{ kind := 6, n := 0, s := ByteArray.empty, keys := keys, kids := ksT f ns.length kids kids.length }]) KV IV KV' IV' := by
  have H := hideIt h
  obtain ⟨av, cv, rfl⟩ := own_slice h.row
  clear h
  obtain ⟨hm0, ai, ci, rfl, hx⟩ := hit
  have HX := hideIt hx
  have HKS0 := hideIt hks
  obtain ⟨hkn, _, aK, cK, rfl, _⟩ := hks
  have IH := hideIt ih
  clear hx ih
  have ta0 := ta_map_bool
  have ta1 := ta_map_int
  have ta2 := ta_map_text
  have ta3 := ta_map_map
  obtain ⟨i0, hi0, hz0, hs0, hy0⟩ := info_parts infoNode
  obtain ⟨i1, hi1, hz1, hs1, hy1⟩ := info_parts infoStr
  obtain ⟨i2, hi2, hz2, hs2, hy2⟩ := info_parts infoInt
  go_enter Tryz.func49, Tryz.ntmps49
  go_wp2_with fail
  refine (kind6_any _ _ _ _ _ _ _).mono ?_
  rintro e w1 ⟨rfl, hb1⟩
  have HB1 := hideIt hb1
  go_wp2_with fail
  refine (parts6_any _ _ _ _ _ _ _).mono ?_
  rintro e w2 ⟨rfl, hb2⟩
  have HM := hideIt (Mid.start H.out hb HB1.out hb2)
  have z2 : w1.heap.size < w2.heap.size := by have := hb2.size; simp at this; omega
  clear hb1 hb2
  go_wp2_with fail
  go_loopw [0, 18] (fun o i wr => ∃ (k : Nat) (kv : Value) (KV' IV' : Nat → Value), k ≤ kids.length ∧ i = .int .i64 k ∧ Mid base w wr w1.heap.size (.slice av ns.length cv) o kv ns (accT f ns.length kids k) (ksT f ns.length kids k) [.int .i64 6, .int .i64 0, .string ⟨#[]⟩, .slice none 0 0, kv] KV IV KV' IV') (fun _ i _ => kids.length - (intOf i).toNat)
  case atStart => exact ⟨0, _, _, _, Nat.zero_le _, rfl, by rw [accT_zero, ksT_zero]; exact HM.out⟩
  case round =>
    obtain ⟨k, kv, KV', IV', hk, rfl, hm⟩ := hrel
    clear HM z2
    have HM := hideIt hm
    obtain ⟨ao, co, ho⟩ := own_slice hm.nest.row
    obtain ⟨M, hM⟩ : ∃ M, (ns ++ accT f ns.length kids k).length = M := ⟨_, rfl⟩
    have HMM := hideIt hM
    have hacc := accT_le f ns.length kids k
    rw [hM] at ho
    subst ho
    have hfs := hm.frame.size
    have hM1 : M + 1 ≤ 100000 := by rw [← hM, List.length_append]; omega
    clear hm hM
    by_cases hlt : k < kids.length
    · obtain ⟨b, rfl, hbB, hc⟩ := HX.out (by omega)
      obtain ⟨t, x, hck, htr⟩ := hc k hlt
      have hck' : wr.cell? ⟨b, k, none⟩ = some (.iface t x) := (World.cell?_of_block (HM.out.keepB hB b hbB)).trans hck
      have HT := hideIt (TreeAt.keep (HM.out.keepB hB) (Nat.le_refl _) htr)
      have hacc1 := accT_le f ns.length kids (k + 1)
      have HA := hideIt (accT_succ f ns.length hlt)
      have HL0 : Hid ((ns ++ accT f ns.length kids k).length = ns.length + (accT f ns.length kids k).length) := List.length_append
      clear hc hck htr
      go_wp2_with fail
      refine (IH.out (kidT kids k) (.iface t x) _ (ns ++ accT f ns.length kids k) KV' IV' wr HM.out.nest HT.out (by omega) (by rw [HL0.out]; rw [HA.out, List.length_append] at hacc1; omega)).mono ?_
      rintro e w3 ⟨v3, KV3, IV3, rfl, hl⟩
      have hm3 := HM.out.laid hl
      rw [HL0.out, ← HA.out] at hm3
      have HM3 := hideIt hm3
      obtain ⟨a3, c3, h3⟩ := own_slice hm3.nest.row
      obtain ⟨L, hL⟩ : ∃ L, (ns ++ accT f ns.length kids (k + 1)).length = L := ⟨_, rfl⟩
      rw [hL] at h3
      subst h3
      have hL1 : L ≤ 100000 := by rw [← hL, List.length_append]; omega
      have HKS : Hid (ksT f ns.length kids (k + 1) = ksT f ns.length kids k ++ [(L : Int) - 1]) := by rw [Hid, ksT_succ f ns.length hlt, ← hL, List.length_append]
      have hkl := ksT_len f ns.length kids hk
      have HKL := hideIt hkl
      have y4 : w3.cell? ⟨w1.heap.size, 4, none⟩ = some kv := HM3.out.node.cellAt 4 (by omega)
      have hL0 : 1 ≤ L := by
        have := layT_pos HT.out (ns.length + (accT f ns.length kids k).length)
        rw [← hL, HA.out, List.length_append, List.length_append]
        omega
      have HK3 := hideIt HM3.out.kids
      obtain ⟨ak, ck, hkv⟩ := own_slice HK3.out
      rw [HKL.out] at hkv
      subst hkv
      have HZ3 := hideIt HM3.out.frame.size
      clear hm3 hl hL hkl hacc hacc1
      go_wp2_with (at_builtin; refine wpList_append_own_at _ rfl _ _ 33 rfl w.heap.size 2 i2 (.int .i64 0) 1 8 Tryz.underlying33 hi2 hz2 hs2 hy2 rfl (by decide) _ _ _ rfl (HK3.out.alloc _) ⟨w3.heap.size, 0, none⟩ 1 1 [.int .i64 ((L : Int) - 1)] rfl rfl ?c1 ?c2 ?c3 ?c4 ?c5 ?_)
      case c1 => exact cell_one_new _ _ _
      case c2 => intro u hu; simp at hu; subst hu; rfl
      case c3 => rw [HKL.out]; simp [maxLen]; omega
      case c4 => rw [HKL.out]; omega
      case c5 => have := HZ3.out; simp; omega
      intro kv' w5 hown hgrow _ hat
      obtain ⟨ak', ck', hk'⟩ := own_slice hown
      rw [HKL.out] at hk'
      subst hk'
      have n5 := node_after HM3.out hgrow
      have x4 : w5.cell? ⟨w1.heap.size, 4, none⟩ = some (.slice ak k ck) := n5.cellAt 4 (by omega)
      have f4 : w5.frozen? ⟨w1.heap.size, 4, none⟩ = false := n5.frozenAt 4
      have HMK := hideIt (HM3.out.kid hown hgrow (by simpa using hat))
      clear hown hgrow hat n5
      go_wp2_with fail
      go_roundw
      case rel => exact ⟨k + 1, _, KV3, IV3, by omega, by go_num, by rw [HKS.out]; exact HMK.out⟩
      case measure => simp [intOf]; omega
    · obtain rfl : k = kids.length := by omega
      have zw := (HM.out.node.lt _ rfl).2
      have y3 : wr.cell? ⟨w1.heap.size, 3, none⟩ = some (.slice none 0 0) := HM.out.node.cellAt 3 (by omega)
      have HSRC : Hid (0 < keys.length → ∃ ad, aK = some ad ∧ ∀ j u, (keys.map Value.string)[j]? = some u → (wr.alloc (.cells #[.slice aK keys.length cK, .slice ai kids.length ci] 101)).cell? (ad.add j) = some u) := by
        intro hp
        obtain ⟨_, _, aK', cK', e, hck⟩ := HKS0.out
        cases e
        obtain ⟨bk, ok, rfl, hbk, hcc⟩ := hck hp
        refine ⟨_, rfl, fun j u hj => ?_⟩
        have hj' : j < keys.length := by have := (List.getElem?_eq_some_iff.1 hj).1; simpa using this
        have hbs : bk < wr.heap.size := by omega
        rw [show (⟨bk, ok, none⟩ : Addr).add j = ⟨bk, ok + j, none⟩ by simp [Addr.add], below_cell ((Below.refl _ wr).alloc (Nat.le_refl _) _) hbs, World.cell?_of_block (HM.out.keepB hB bk hbk), hcc j hj']
        simp [hj', keyAt] at hj ⊢
        exact hj
      go_wp2_with (at_builtin; refine wpList_append_src rfl _ _ 32 rfl w.heap.size 9 i1 (.string ByteArray.empty) 1 16 Tryz.underlying32 hi1 hz1 hs1 hy1 rfl (by decide) _ 0 [] rfl (World.ownsRow_nil _ _ _ _) aK keys.length cK (keys.map .string) rfl (by simp) HSRC.out ?c2 ?c3 ?c4 ?c5 ?_)
      case c2 => intro u hu; first | rfl | (obtain ⟨q, _, rfl⟩ := List.mem_map.1 hu; rfl)
      case c3 => unfold maxLen; omega
      case c4 => omega
      case c5 => first | omega | (simp; omega)
      intro vk w5 hk2 hg2 hat2
      (try simp only [Nat.zero_add, List.nil_append] at hk2)
      have hm5 := (HM.out.grow (World.grownBy_alloc wr _ none)).grow hg2
      have hkr := hk2.kept (hm5.node.stored 3 vk).2 (own_apart hk2 hm5.node (by decide))
      have HKR := hideIt hkr
      have HM6 := hideIt (hm5.put 3 vk)
      have HFK : Hid (∀ j, j < ns.length + (accT f ns.length kids kids.length).length → ∀ y, vk.ownBlock = some y → (KV' j).ownBlock ≠ some y) := by
        intro j hj y hy e
        have h1 := ((HM.out.nest.rk j (by simpa using hj)).lt y e).2
        rcases hat2 with e2 | e2
        · rw [e2] at hy; simp [Value.ownBlock] at hy
        · rw [e2] at hy; simp at hy; omega
      obtain ⟨ak, ck, hvk⟩ := own_slice hk2
      subst hvk
      have x3 : w5.cell? ⟨w1.heap.size, 3, none⟩ = some (.slice none 0 0) := hm5.node.cellAt 3 (by omega)
      have f3 : w5.frozen? ⟨w1.heap.size, 3, none⟩ = false := hm5.node.frozenAt 3
      have hs5 := hm5.frame.size
      have X0 : (w5.setCell ⟨w1.heap.size, 3, none⟩ (.slice ak keys.length ck)).cell? ⟨w1.heap.size, 0, none⟩ = some (.int .i64 6) := HM6.out.node.cellAt 0 (by omega)
      have X1 : (w5.setCell ⟨w1.heap.size, 3, none⟩ (.slice ak keys.length ck)).cell? ⟨w1.heap.size, 1, none⟩ = some (.int .i64 0) := HM6.out.node.cellAt 1 (by omega)
      have X2 : (w5.setCell ⟨w1.heap.size, 3, none⟩ (.slice ak keys.length ck)).cell? ⟨w1.heap.size, 2, none⟩ = some (.string ⟨#[]⟩) := HM6.out.node.cellAt 2 (by omega)
      have X3 : (w5.setCell ⟨w1.heap.size, 3, none⟩ (.slice ak keys.length ck)).cell? ⟨w1.heap.size, 3, none⟩ = some (.slice ak keys.length ck) := HM6.out.node.cellAt 3 (by omega)
      have X4 : (w5.setCell ⟨w1.heap.size, 3, none⟩ (.slice ak keys.length ck)).cell? ⟨w1.heap.size, 4, none⟩ = some kv := HM6.out.node.cellAt 4 (by omega)
      have HN := hideIt (HM6.out.nest.row.alloc (.cells #[.int .i64 6, .int .i64 0, .string ⟨#[]⟩, .slice ak keys.length ck, kv] 37))
      rw [HMM.out] at HN
      have h1 : kv.oneCell' = true := by obtain ⟨a, c, rfl⟩ := own_slice HM.out.kids; rfl
      clear hm5 hkr hk2 hg2 hat2 y3
      go_wp2_with (at_builtin; refine wpList_append_own_at _ rfl _ _ 24 rfl base 37 i0 zeroNode 5 80 Tryz.underlying24 hi0 hz0 hs0 hy0 rfl (by decide) _ _ _ rfl HN.out ⟨w5.heap.size, 0, none⟩ 1 1 [.int .i64 6, .int .i64 0, .string ⟨#[]⟩, .slice ak keys.length ck, kv] rfl rfl ?c1 ?c2 ?c3 ?c4 ?c5 ?_)
      case c1 => exact news5_at _ _ _ _ _ _ _ (by simp)
      case c2 => intro u hu; simp at hu; rcases hu with rfl | rfl | rfl | rfl | rfl <;> first | rfl | exact h1
      case c3 => unfold maxLen; omega
      case c4 => omega
      case c5 => simp; omega
      intro v' w6 hown hgrow _ hat
      have HL := hideIt (Mid.fin (x := { kind := 6, n := 0, s := ⟨#[]⟩, keys := keys, kids := ksT f ns.length kids kids.length }) HM6.out rfl HKR.out HFK.out (by rw [HMM.out]; exact hown) hgrow (by simpa using hat))
      clear hown hgrow hat
      go_wp2_with fail
      go_ret
      exact ⟨_, _, _, rfl, HL.out⟩

/-- withNodes at every value. -/
theorem withNodes_any (B base : Nat) (hB : B ≤ base) : ∀ f, LaysAll B base f := by
  intro f
  induction f with
  | zero => intro t x v ns KV IV w _ h; exact h.elim
  | succ f ih =>
    intro t x v ns KV IV w hnest h hb hn
    obtain ⟨kind, n, s, keys, kids⟩ := t
    rw [layT_eq] at hn ⊢
    rcases h with ⟨rfl, rfl, rfl, rfl, rfl, rfl⟩ | ⟨rfl, rfl, rfl, rfl, rfl⟩ | ⟨rfl, rfl, rfl, rfl, rfl⟩ | ⟨rfl, rfl, rfl, rfl, rfl⟩ | ⟨rfl, rfl, rfl, rfl, it, rfl, hi⟩ | ⟨rfl, rfl, rfl, ks, it, rfl, hs, hi⟩
    · have := withNodes_null base v ns KV IV w hnest hb (by simp at hn; omega)
      simpa [accT, ksT, layKidsT] using this
    · have := withNodes_bool n base v ns KV IV w hnest hb (by simp at hn; omega)
      simpa [accT, ksT, layKidsT] using this
    · have := withNodes_int n base v ns KV IV w hnest hb (by simp at hn; omega)
      simpa [accT, ksT, layKidsT] using this
    · have := withNodes_text s base v ns KV IV w hnest hb (by simp at hn; omega)
      simpa [accT, ksT, layKidsT] using this
    · exact withNodes_list B base f hB ih kids it v ns KV IV w hi hnest hb (by simp at hn; omega)
    · exact withNodes_map B base f hB ih keys kids ks it v ns KV IV w hs hi hnest hb (by simp at hn; omega)
end Go.Proofs.YtgmnihofkpjboaaGreatDoor
