/-
  impl.withNodes at a map, if it does as it should at the map's parts; and so at every value.
-/
import Derived.Test.YtpfnkpkcjefelaaWn5
import Derived.Test.YtpfnkpkcjefelaaKp
namespace Go.Proofs.Ytpfnkpkcjefelaa
open Go.RowKit
set_option linter.unusedSimpArgs false
set_option linter.unusedVariables false

set_option maxRecDepth 100000 in
set_option maxHeartbeats 6400000 in
theorem withNodes_map (B base f : Nat) (hB : B ≤ base) (ih : LaysAll B base f) (keys : List ByteArray) (kids : List VT) (kv0 it v : Value) (ns : List VN) (KV IV : Nat → Value) (w : World) (hks : StrsAt B w kv0 keys) (hit : TItems B w it kids.length (fun j u => TreeAt B w f (kidT kids j) u)) (h : Nest base w v ns KV IV) (hb : base ≤ w.heap.size) (hn : ns.length + (accT f ns.length kids kids.length).length + 1 ≤ 100000) :
    Calls Try.prog 61 #[v, .iface 95 (.agg #[kv0, it])] w fun e w' => ∃ v' KV' IV', e = .returned v' ∧ Laid base w w' v v' ns (accT f ns.length kids kids.length ++ [{ kind := 6, n := 0, s := ByteArray.empty, keys := keys, kids := ksT f ns.length kids kids.length }]) KV IV KV' IV' := by
  have H := hideIt h
  obtain ⟨av, cv, rfl⟩ := own_slice h.row
  clear h
  obtain ⟨hm0, ai, ci, rfl, hx⟩ := hit
  have HX := hideIt hx
  have HKS0 := hideIt hks
  obtain ⟨hkn, _, aK, cK, rfl, _⟩ := hks
  have IH := hideIt ih
  clear hx ih
  have ta0 := ta_map_bool
  have ta1 := ta_map_int
  have ta2 := ta_map_text
  have ta3 := ta_map_map
  obtain ⟨i0, hi0, hz0, hs0, hy0⟩ := info_parts infoNode
  obtain ⟨i1, hi1, hz1, hs1, hy1⟩ := info_parts infoStr
  obtain ⟨i2, hi2, hz2, hs2, hy2⟩ := info_parts infoInt
  go_enter Try.func61, Try.ntmps61
  go_wp2_with fail
  refine (kind6_any _ _ _ _ _ _ _).mono ?_
  rintro e w1 ⟨rfl, hb1⟩
  have HB1 := hideIt hb1
  go_wp2_with fail
  refine (parts6_any _ _ _ _ _ _ _).mono ?_
  rintro e w2 ⟨rfl, hb2⟩
  have HM := hideIt (Mid.start H.out hb HB1.out hb2)
  have z2 : w1.heap.size < w2.heap.size := by have := hb2.size; simp at this; omega
  clear hb1 hb2
  go_wp2_with fail
  go_loopw [0, 18] (fun o i wr => ∃ (k : Nat) (kv : Value) (KV' IV' : Nat → Value), k ≤ kids.length ∧ i = .int .i64 k ∧ Mid base w wr w1.heap.size (.slice av ns.length cv) o kv ns (accT f ns.length kids k) (ksT f ns.length kids k) [.int .i64 6, .int .i64 0, .string ⟨#[]⟩, .slice none 0 0, kv] KV IV KV' IV') (fun _ i _ => kids.length - (intOf i).toNat)
  case atStart => exact ⟨0, _, _, _, Nat.zero_le _, rfl, by rw [accT_zero, ksT_zero]; exact HM.out⟩
  case round =>
    obtain ⟨k, kv, KV', IV', hk, rfl, hm⟩ := hrel
    clear HM z2
    have HM := hideIt hm
    obtain ⟨ao, co, ho⟩ := own_slice hm.nest.row
    obtain ⟨M, hM⟩ : ∃ M, (ns ++ accT f ns.length kids k).length = M := ⟨_, rfl⟩
    have HMM := hideIt hM
    have hacc := accT_le f ns.length kids k
    rw [hM] at ho
    subst ho
    have hfs := hm.frame.size
    have hM1 : M + 1 ≤ 100000 := by rw [← hM, List.length_append]; omega
    clear hm hM
    by_cases hlt : k < kids.length
    · obtain ⟨b, rfl, hbB, hc⟩ := HX.out (by omega)
      obtain ⟨t, x, hck, htr⟩ := hc k hlt
      have hck' : wr.cell? ⟨b, k, none⟩ = some (.iface t x) := (World.cell?_of_block (HM.out.keepB hB b hbB)).trans hck
      have HT := hideIt (TreeAt.keep (HM.out.keepB hB) (Nat.le_refl _) htr)
      have hacc1 := accT_le f ns.length kids (k + 1)
      have HA := hideIt (accT_succ f ns.length hlt)
      have HL0 : Hid ((ns ++ accT f ns.length kids k).length = ns.length + (accT f ns.length kids k).length) := List.length_append
      clear hc hck htr
      go_wp2_with fail
      refine (IH.out (kidT kids k) (.iface t x) _ (ns ++ accT f ns.length kids k) KV' IV' wr HM.out.nest HT.out (by omega) (by rw [HL0.out]; rw [HA.out, List.length_append] at hacc1; omega)).mono ?_
      rintro e w3 ⟨v3, KV3, IV3, rfl, hl⟩
      have hm3 := HM.out.laid hl
      rw [HL0.out, ← HA.out] at hm3
      have HM3 := hideIt hm3
      obtain ⟨a3, c3, h3⟩ := own_slice hm3.nest.row
      obtain ⟨L, hL⟩ : ∃ L, (ns ++ accT f ns.length kids (k + 1)).length = L := ⟨_, rfl⟩
      rw [hL] at h3
      subst h3
      have hL1 : L ≤ 100000 := by rw [← hL, List.length_append]; omega
      have HKS : Hid (ksT f ns.length kids (k + 1) = ksT f ns.length kids k ++ [(L : Int) - 1]) := by rw [Hid, ksT_succ f ns.length hlt, ← hL, List.length_append]
      have hkl := ksT_len f ns.length kids hk
      have HKL := hideIt hkl
      have y4 : w3.cell? ⟨w1.heap.size, 4, none⟩ = some kv := HM3.out.node.cellAt 4 (by omega)
      have hL0 : 1 ≤ L := by
        have := layT_pos HT.out (ns.length + (accT f ns.length kids k).length)
        rw [← hL, HA.out, List.length_append, List.length_append]
        omega
      have HK3 := hideIt HM3.out.kids
      obtain ⟨ak, ck, hkv⟩ := own_slice HK3.out
      rw [HKL.out] at hkv
      subst hkv
      have HZ3 := hideIt HM3.out.frame.size
      clear hm3 hl hL hkl hacc hacc1
      go_wp2_with (at_builtin; refine wpList_append_own_at _ rfl _ _ 39 rfl w.heap.size 2 i2 (.int .i64 0) 1 8 Try.underlying39 hi2 hz2 hs2 hy2 rfl (by decide) _ _ _ rfl (HK3.out.alloc _) ⟨w3.heap.size, 0, none⟩ 1 1 [.int .i64 ((L : Int) - 1)] rfl rfl ?c1 ?c2 ?c3 ?c4 ?c5 ?_)
      case c1 => exact cell_one_new _ _ _
      case c2 => intro u hu; simp at hu; subst hu; rfl
      case c3 => rw [HKL.out]; simp [maxLen]; omega
      case c4 => rw [HKL.out]; omega
      case c5 => have := HZ3.out; simp; omega
      intro kv' w5 hown hgrow _ hat
      obtain ⟨ak', ck', hk'⟩ := own_slice hown
      rw [HKL.out] at hk'
      subst hk'
      have n5 := node_after HM3.out hgrow
      have x4 : w5.cell? ⟨w1.heap.size, 4, none⟩ = some (.slice ak k ck) := n5.cellAt 4 (by omega)
      have f4 : w5.frozen? ⟨w1.heap.size, 4, none⟩ = false := n5.frozenAt 4
      have HMK := hideIt (HM3.out.kid hown hgrow (by simpa using hat))
      clear hown hgrow hat n5
      go_wp2_with fail
      go_roundw
      case rel => exact ⟨k + 1, _, KV3, IV3, by omega, by go_num, by rw [HKS.out]; exact HMK.out⟩
      case measure => simp [intOf]; omega
    · obtain rfl : k = kids.length := by omega
      have zw := (HM.out.node.lt _ rfl).2
      have y3 : wr.cell? ⟨w1.heap.size, 3, none⟩ = some (.slice none 0 0) := HM.out.node.cellAt 3 (by omega)
      have HSRC : Hid (0 < keys.length → ∃ ad, aK = some ad ∧ ∀ j u, (keys.map Value.string)[j]? = some u → (wr.alloc (.cells #[.slice aK keys.length cK, .slice ai kids.length ci] 95)).cell? (ad.add j) = some u) := by
        intro hp
        obtain ⟨_, _, aK', cK', e, hck⟩ := HKS0.out
        cases e
        obtain ⟨bk, ok, rfl, hbk, hcc⟩ := hck hp
        refine ⟨_, rfl, fun j u hj => ?_⟩
        have hj' : j < keys.length := by have := (List.getElem?_eq_some_iff.1 hj).1; simpa using this
        have hbs : bk < wr.heap.size := by omega
        rw [show (⟨bk, ok, none⟩ : Addr).add j = ⟨bk, ok + j, none⟩ by simp [Addr.add], below_cell ((Below.refl _ wr).alloc (Nat.le_refl _) _) hbs, World.cell?_of_block (HM.out.keepB hB bk hbk), hcc j hj']
        simp [hj', keyAt] at hj ⊢
        exact hj
      go_wp2_with (at_builtin; refine wpList_append_src rfl _ _ 38 rfl w.heap.size 9 i1 (.string ByteArray.empty) 1 16 Try.underlying38 hi1 hz1 hs1 hy1 rfl (by decide) _ 0 [] rfl (World.ownsRow_nil _ _ _ _) aK keys.length cK (keys.map .string) rfl (by simp) HSRC.out ?c2 ?c3 ?c4 ?c5 ?_)
      case c2 => intro u hu; first | rfl | (obtain ⟨q, _, rfl⟩ := List.mem_map.1 hu; rfl)
      case c3 => unfold maxLen; omega
      case c4 => omega
      case c5 => first | omega | (simp; omega)
      intro vk w5 hk2 hg2 hat2
      (try simp only [Nat.zero_add, List.nil_append] at hk2)
      have hm5 := (HM.out.grow (World.grownBy_alloc wr _ none)).grow hg2
      have hkr := hk2.kept (hm5.node.stored 3 vk).2 (own_apart hk2 hm5.node (by decide))
      have HKR := hideIt hkr
      have HM6 := hideIt (hm5.put 3 vk)
      have HFK : Hid (∀ j, j < ns.length + (accT f ns.length kids kids.length).length → ∀ y, vk.ownBlock = some y → (KV' j).ownBlock ≠ some y) := by
        intro j hj y hy e
        have h1 := ((HM.out.nest.rk j (by simpa using hj)).lt y e).2
        rcases hat2 with e2 | e2
        · rw [e2] at hy; simp [Value.ownBlock] at hy
        · rw [e2] at hy; simp at hy; omega
      obtain ⟨ak, ck, hvk⟩ := own_slice hk2
      subst hvk
      have x3 : w5.cell? ⟨w1.heap.size, 3, none⟩ = some (.slice none 0 0) := hm5.node.cellAt 3 (by omega)
      have f3 : w5.frozen? ⟨w1.heap.size, 3, none⟩ = false := hm5.node.frozenAt 3
      have hs5 := hm5.frame.size
      have X0 : (w5.setCell ⟨w1.heap.size, 3, none⟩ (.slice ak keys.length ck)).cell? ⟨w1.heap.size, 0, none⟩ = some (.int .i64 6) := HM6.out.node.cellAt 0 (by omega)
      have X1 : (w5.setCell ⟨w1.heap.size, 3, none⟩ (.slice ak keys.length ck)).cell? ⟨w1.heap.size, 1, none⟩ = some (.int .i64 0) := HM6.out.node.cellAt 1 (by omega)
      have X2 : (w5.setCell ⟨w1.heap.size, 3, none⟩ (.slice ak keys.length ck)).cell? ⟨w1.heap.size, 2, none⟩ = some (.string ⟨#[]⟩) := HM6.out.node.cellAt 2 (by omega)
      have X3 : (w5.setCell ⟨w1.heap.size, 3, none⟩ (.slice ak keys.length ck)).cell? ⟨w1.heap.size, 3, none⟩ = some (.slice ak keys.length ck) := HM6.out.node.cellAt 3 (by omega)
      have X4 : (w5.setCell ⟨w1.heap.size, 3, none⟩ (.slice ak keys.length ck)).cell? ⟨w1.heap.size, 4, none⟩ = some kv := HM6.out.node.cellAt 4 (by omega)
      have HN := hideIt (HM6.out.nest.row.alloc (.cells #[.int .i64 6, .int .i64 0, .string ⟨#[]⟩, .slice ak keys.length ck, kv] 41))
      rw [HMM.out] at HN
      have h1 : kv.oneCell' = true := by obtain ⟨a, c, rfl⟩ := own_slice HM.out.kids; rfl
      clear hm5 hkr hk2 hg2 hat2 y3
      go_wp2_with (at_builtin; refine wpList_append_own_at _ rfl _ _ 24 rfl base 41 i0 zeroNode 5 80 Try.underlying24 hi0 hz0 hs0 hy0 rfl (by decide) _ _ _ rfl HN.out ⟨w5.heap.size, 0, none⟩ 1 1 [.int .i64 6, .int .i64 0, .string ⟨#[]⟩, .slice ak keys.length ck, kv] rfl rfl ?c1 ?c2 ?c3 ?c4 ?c5 ?_)
      case c1 => exact news5_at _ _ _ _ _ _ _ (by simp)
      case c2 => intro u hu; simp at hu; rcases hu with rfl | rfl | rfl | rfl | rfl <;> first | rfl | exact h1
      case c3 => unfold maxLen; omega
      case c4 => omega
      case c5 => simp; omega
      intro v' w6 hown hgrow _ hat
      have HL := hideIt (Mid.fin (x := { kind := 6, n := 0, s := ⟨#[]⟩, keys := keys, kids := ksT f ns.length kids kids.length }) HM6.out rfl HKR.out HFK.out (by rw [HMM.out]; exact hown) hgrow (by simpa using hat))
      clear hown hgrow hat
      go_wp2_with fail
      go_ret
      exact ⟨_, _, _, rfl, HL.out⟩

/-- withNodes at every value. -/
theorem withNodes_any (B base : Nat) (hB : B ≤ base) : ∀ f, LaysAll B base f := by
  intro f
  induction f with
  | zero => intro t x v ns KV IV w _ h; exact h.elim
  | succ f ih =>
    intro t x v ns KV IV w hnest h hb hn
    obtain ⟨kind, n, s, keys, kids⟩ := t
    rw [layT_eq] at hn ⊢
    rcases h with ⟨rfl, rfl, rfl, rfl, rfl, rfl⟩ | ⟨rfl, rfl, rfl, rfl, rfl⟩ | ⟨rfl, rfl, rfl, rfl, rfl⟩ | ⟨rfl, rfl, rfl, rfl, rfl⟩ | ⟨rfl, rfl, rfl, rfl, it, rfl, hi⟩ | ⟨rfl, rfl, rfl, ks, it, rfl, hs, hi⟩
    · have := withNodes_null base v ns KV IV w hnest hb (by simp at hn; omega)
      simpa [accT, ksT, layKidsT] using this
    · have := withNodes_bool n base v ns KV IV w hnest hb (by simp at hn; omega)
      simpa [accT, ksT, layKidsT] using this
    · have := withNodes_int n base v ns KV IV w hnest hb (by simp at hn; omega)
      simpa [accT, ksT, layKidsT] using this
    · have := withNodes_text s base v ns KV IV w hnest hb (by simp at hn; omega)
      simpa [accT, ksT, layKidsT] using this
    · exact withNodes_list B base f hB ih kids it v ns KV IV w hi hnest hb (by simp at hn; omega)
    · exact withNodes_map B base f hB ih keys kids ks it v ns KV IV w hs hi hnest hb (by simp at hn; omega)
end Go.Proofs.Ytpfnkpkcjefelaa

/-
  impl.valuesAt: the values of all nodes.
-/
namespace Go.Proofs.Ytpfnkpkcjefelaa
open Go.RowKit
set_option linter.unusedSimpArgs false
set_option linter.unusedVariables false

/-- One more value is laid. -/
theorem valStep {s N k : Nat} {w W0 W : World} {vs : List VN} {VV : Nat → Value} {u : Value} (hrow : W.rowIs s 73 N (fillI VV k)) (hall : ∀ j, j < k → ValIs s W0.heap.size W0 vs (j + 1) j (VV j)) (hk : Keep s W0.heap.size W0 W) (hsz : W0.heap.size ≤ W.heap.size) (hs : s < W0.heap.size) (hb : Below s w W)
    (hv : ValIs s W.heap.size W vs (k + 1) k u) :
    (W.setCell ⟨s, k, none⟩ u).rowIs s 73 N (fillI (fun j => if j = k then u else VV j) (k + 1)) ∧ (∀ j, j < k + 1 → ValIs s (W.setCell ⟨s, k, none⟩ u).heap.size (W.setCell ⟨s, k, none⟩ u) vs (j + 1) j (if j = k then u else VV j)) ∧ Below s w (W.setCell ⟨s, k, none⟩ u) := by
  have hsz2 : (W.setCell ⟨s, k, none⟩ u).heap.size = W.heap.size := World.size_setCell _ _ _
  refine ⟨fillI_step hrow, fun j hj => ?_, hb.setCell (Nat.le_refl _) _⟩
  by_cases e : j = k
  · subst e
    rw [if_pos rfl]
    exact ValIs.keep (Keep.setCell W u) (by omega) (by omega) hv
  · rw [if_neg e]
    exact ValIs.keep (hk.trans (Keep.setCell W u)) (by omega) (by omega) (hall j (by omega))

set_option maxRecDepth 100000 in
set_option maxHeartbeats 6400000 in
theorem valuesAt_any (B : Nat) (v : Value) (vs : List VN) (w : World) (h : NodesAt B w v vs) (hB : B ≤ w.heap.size) (hn1 : 1 ≤ vs.length) (hn80 : vs.length ≤ 80) (hok : ∀ k, k < vs.length → nodeB (nodeAt vs k) = true ∧ kidsIn vs k = true) (hkn : ∀ k, k < vs.length → (nodeAt vs k).kids.length ≤ k) :
    Calls Try.prog 62 #[v] w fun e w' => ∃ VV : Nat → Value, e = .returned (.slice (some ⟨w.heap.size, 0, none⟩) vs.length vs.length) ∧
      w'.rowIs w.heap.size 73 vs.length VV ∧ (∀ j, j < vs.length → ValIs w.heap.size w'.heap.size w' vs (j + 1) j (VV j)) ∧ Below w.heap.size w w' := by
  obtain ⟨hlen, a, cap, rfl, hcell⟩ := h
  obtain ⟨b0, o0, rfl, hb0, hc⟩ := hcell (by omega)
  clear hcell
  have HOK := hideIt hok
  have HC := hideIt hc
  clear hok hc
  have hmk := run_make_row' (P := Try.prog) 85 73 .nilIface 16 Try.underlying85 infoVal rfl .i64 .i64 vs.length (by omega) (by omega)
  obtain ⟨i0, hi, hz0, hz1, hz2⟩ := info_parts infoVal
  go_enter Try.func62, Try.ntmps62
  go_wp2_with fail
  clear hmk
  have hr0 : (w.alloc (.cells (madeCells #[Value.nilIface] vs.length) 73)).rowIs w.heap.size 73 vs.length (fillI (fun _ => undef) 0) := (World.rowIs_made w _ _ _).congr fun i _ => by simp [fillI]
  have hbz : Below w.heap.size w (w.alloc (.cells (madeCells #[Value.nilIface] vs.length) 73)) := (Below.refl _ _).alloc (Nat.le_refl _) _
  go_loopw [14] (fun i wr => ∃ (k : Nat) (VV : Nat → Value), k ≤ vs.length ∧ i = .int .i64 k ∧ wr.rowIs w.heap.size 73 vs.length (fillI VV k) ∧ (∀ j, j < k → ValIs w.heap.size wr.heap.size wr vs (j + 1) j (VV j)) ∧ Below w.heap.size w wr) (fun i _ => vs.length - (intOf i).toNat)
  case atStart => exact ⟨0, _, Nat.zero_le _, rfl, hr0, fun j hj => by omega, hbz⟩
  case round =>
    obtain ⟨k, VV, hk, rfl, hrow, hall, hbel⟩ := hrel
    obtain ⟨W0, rfl⟩ : ∃ W0, W0 = wr := ⟨_, rfl⟩
    have HA := hideIt hall
    clear hall hr0 hbz
    by_cases hlt : k < vs.length
    · obtain ⟨ka, ki, hn⟩ := HC.out k hlt
      have hn' := hn.below (hbel.mono hB) hb0
      have c0 := hn'.c0
      have c1 := hn'.c1
      have c2 := hn'.c2
      have c3 := hn'.c3
      have c4 := hn'.c4
      have hsize := hbel.size
      have hlt0 := hrow.lt
      have HK := hideIt hn.inn.keys
      obtain ⟨_, _, aK, cK, eK, _⟩ := hn'.inn.keys
      obtain ⟨hkl, hkb, aI, cI, eI, hkc⟩ := hn'.inn.kids
      subst eK eI
      have HR := hideIt hrow
      clear hn hn' hrow
      go_wp2_with fail
      have x0 : (W0.alloc (.cells #[.int .i64 (nodeAt vs k).kind, .int .i64 (nodeAt vs k).n, .string (nodeAt vs k).s, .slice aK (nodeAt vs k).keys.length cK, .slice aI (nodeAt vs k).kids.length cI] 41)).cell? ⟨W0.heap.size, 0, none⟩ = some (.int .i64 (nodeAt vs k).kind) := by simp
      have x1 : (W0.alloc (.cells #[.int .i64 (nodeAt vs k).kind, .int .i64 (nodeAt vs k).n, .string (nodeAt vs k).s, .slice aK (nodeAt vs k).keys.length cK, .slice aI (nodeAt vs k).kids.length cI] 41)).cell? ⟨W0.heap.size, 1, none⟩ = some (.int .i64 (nodeAt vs k).n) := by simp
      have x2 : (W0.alloc (.cells #[.int .i64 (nodeAt vs k).kind, .int .i64 (nodeAt vs k).n, .string (nodeAt vs k).s, .slice aK (nodeAt vs k).keys.length cK, .slice aI (nodeAt vs k).kids.length cI] 41)).cell? ⟨W0.heap.size, 2, none⟩ = some (.string (nodeAt vs k).s) := by simp
      have x3 : (W0.alloc (.cells #[.int .i64 (nodeAt vs k).kind, .int .i64 (nodeAt vs k).n, .string (nodeAt vs k).s, .slice aK (nodeAt vs k).keys.length cK, .slice aI (nodeAt vs k).kids.length cI] 41)).cell? ⟨W0.heap.size, 3, none⟩ = some (.slice aK (nodeAt vs k).keys.length cK) := by simp
      have sW1 : (W0.alloc (.cells #[.int .i64 (nodeAt vs k).kind, .int .i64 (nodeAt vs k).n, .string (nodeAt vs k).s, .slice aK (nodeAt vs k).keys.length cK, .slice aI (nodeAt vs k).kids.length cI] 41)).heap.size = W0.heap.size + 1 := by simp
      have bW1 : Below W0.heap.size W0 (W0.alloc (.cells #[.int .i64 (nodeAt vs k).kind, .int .i64 (nodeAt vs k).n, .string (nodeAt vs k).s, .slice aK (nodeAt vs k).keys.length cK, .slice aI (nodeAt vs k).kids.length cI] 41)) := (Below.refl _ _).alloc (Nat.le_refl _) _
      have rW1 := hideIt (HR.out.alloc (.cells #[.int .i64 (nodeAt vs k).kind, .int .i64 (nodeAt vs k).n, .string (nodeAt vs k).s, .slice aK (nodeAt vs k).keys.length cK, .slice aI (nodeAt vs k).kids.length cI] 41))
      generalize (W0.alloc (.cells #[.int .i64 (nodeAt vs k).kind, .int .i64 (nodeAt vs k).n, .string (nodeAt vs k).s, .slice aK (nodeAt vs k).keys.length cK, .slice aI (nodeAt vs k).kids.length cI] 41)) = W1 at *
      have HsW := hideIt sW1
      have hW1gt : W0.heap.size < W1.heap.size := by omega
      have HX := hideIt (And.intro x0 (And.intro x1 (And.intro x2 x3)))
      have hsub : Below w.heap.size w W1 := hbel.trans (bW1.mono hsize)
      clear sW1 x0 x1 x2 x3 c0 c1 c2 c3 c4
      go_loopw [6, 22] (fun it i wr => ∃ c : Nat, c ≤ (nodeAt vs k).kids.length ∧ i = .int .i64 c ∧ wr.ownsRow W1.heap.size 73 1 it c ((List.range c).map fun j => VV (intAt (nodeAt vs k).kids j).toNat) ∧ Below W1.heap.size W1 wr) (fun _ i _ => (nodeAt vs k).kids.length - (intOf i).toNat)
      case atStart => exact ⟨0, Nat.zero_le _, rfl, World.ownsRow_nil _ _ _ _, Below.refl _ _⟩
      case round =>
        obtain ⟨c, hcl, rfl, hown, hb2⟩ := hrel
        by_cases hcc : c < (nodeAt vs k).kids.length
        · obtain ⟨b1, o1, rfl, hb1', hkc1⟩ := hkc (by omega)
          have hkr := kidsIn_get (HOK.out k hlt).2 hcc
          obtain ⟨q, hq⟩ : ∃ q : Nat, intAt (nodeAt vs k).kids c = (q : Int) := ⟨(intAt (nodeAt vs k).kids c).toNat, by omega⟩
          have hqk : q < k := by omega
          have hck : wr.cell? ⟨b1, o1 + c, none⟩ = some (.int .i64 (q : Int)) := by
            rw [← hq]; exact (below_cell hb2 (by omega)).trans ((below_cell bW1 (by omega)).trans (hkc1 c hcc))
          obtain ⟨tq, xq, hvq⟩ := (HA.out q hqk).iface
          have hcq : wr.cell? ⟨w.heap.size, q, none⟩ = some (.iface tq xq) := by
            refine (below_cell hb2 (by omega)).trans ?_
            rw [rW1.out.cell (by omega), fillI, if_pos hqk, hvq]
          have hqN : (q : Int) < (vs.length : Int) := by omega
          have HQ : Hid ((List.range (c + 1)).map (fun j => VV (intAt (nodeAt vs k).kids j).toNat) = (List.range c).map (fun j => VV (intAt (nodeAt vs k).kids j).toNat) ++ [.iface tq xq]) := by
            rw [Hid, List.range_succ, List.map_append]
            simp [hq, hvq]
          have hb2s := hb2.size
          have HB2 := hideIt hb2
          have h80 : (nodeAt vs k).kids.length ≤ 80 := by have := hkn k hlt; omega
          clear hkc hkc1 hq hkr hvq
          go_wp2_with (at_builtin; refine wpList_append_own _ rfl _ _ 85 rfl W1.heap.size 73 i0 .nilIface 1 16 Try.underlying85 hi hz0 hz1 hz2 rfl (by decide) _ _ _ rfl (hown.alloc _) ⟨wr.heap.size, 0, none⟩ 1 1 [.iface tq xq] rfl rfl ?c1 ?c2 ?c3 ?c4 ?c5 ?_)
          case c1 =>
            intro j u hj
            match j, hj with
            | 0, hj => simp at hj; subst hj; simp [Addr.add]
          case c2 => intro u hu; simp at hu; subst hu; rfl
          case c3 => unfold maxLen; omega
          case c4 => omega
          case c5 => simp; omega
          intro v' w3 hown' hgrow _
          have hb3 : Below W1.heap.size W1 w3 := (HB2.out.alloc hb2s _).grown hgrow (by simp; omega) (fun r hr => by
            rcases hown.2 with ⟨rfl, _⟩ | ⟨g, cp, cu, rfl, hbg, _⟩
            · simp [Value.ownBlock] at hr
            · simp [Value.ownBlock] at hr; omega)
          rw [← HQ.out] at hown'
          clear hgrow hown
          go_wp2_with fail
          go_roundw
          case rel => exact ⟨c + 1, by omega, by go_num, hown', hb3⟩
          case measure => simp [intOf]; omega
        · obtain rfl : c = (nodeAt vs k).kids.length := by omega
          have hb2s := hb2.size
          have hIt := hideIt (items_of_own (lo := w.heap.size) (P := fun j u => ValIs w.heap.size wr.heap.size wr vs k (intAt (nodeAt vs k).kids j).toNat u) hown (by omega) (fun j hj => by
            have hkr := kidsIn_get (HOK.out k hlt).2 hj
            obtain ⟨t, x, e⟩ := (HA.out (intAt (nodeAt vs k).kids j).toNat (by omega)).iface
            refine ⟨t, x, e, ?_⟩
            rw [← e]
            exact ValIs.more (by omega) (ValIs.keep ((Keep.of_below (bW1)).trans (Keep.of_below (hb2.mono (by omega)))) (by omega) (by omega) (HA.out _ (by omega)))))
          have hitv := hIt.out
          obtain ⟨ait, cpt, rfl, _⟩ := hitv
          have y0 : wr.cell? ⟨W0.heap.size, 0, none⟩ = some (.int .i64 (nodeAt vs k).kind) := (below_cell hb2 (by omega)).trans HX.out.1
          have y1 : wr.cell? ⟨W0.heap.size, 1, none⟩ = some (.int .i64 (nodeAt vs k).n) := (below_cell hb2 (by omega)).trans HX.out.2.1
          have y2 : wr.cell? ⟨W0.heap.size, 2, none⟩ = some (.string (nodeAt vs k).s) := (below_cell hb2 (by omega)).trans HX.out.2.2.1
          have y3 : wr.cell? ⟨W0.heap.size, 3, none⟩ = some (.slice aK (nodeAt vs k).keys.length cK) := (below_cell hb2 (by omega)).trans HX.out.2.2.2
          have rwr := rowIs_below rW1.out hb2 (by omega)
          have z0 := rwr.cell hlt
          have z1 := rwr.frozen k
          have HRW := hideIt rwr
          have HKE : Hid (Keep w.heap.size W0.heap.size W0 wr) := (Keep.of_below (bW1)).trans (Keep.of_below (hb2.mono (by omega)))
          have HBE : Hid (Below w.heap.size w wr) := hsub.trans (hb2.mono (by omega))
          have hszz : W0.heap.size ≤ wr.heap.size := by omega
          have HKY : Hid (StrsAt w.heap.size wr (.slice aK (nodeAt vs k).keys.length cK) (nodeAt vs k).keys) := (HK.out.wide hB).below HBE.out
          have HNB := hideIt (HOK.out k hlt).1
          clear hown rwr
          by_cases g2 : (nodeAt vs k).kind = 2
          · have S := valStep (u := .iface 121 (.agg #[.int .i64 (nodeAt vs k).n])) HRW.out HA.out HKE.out hszz hlt0 HBE.out (Or.inr (Or.inl ⟨g2, rfl⟩))
            have HS := hideIt S
            clear S
            go_wp2_with fail
            go_roundw
            case rel => exact ⟨k + 1, _, by omega, by go_num, HS.out.1, HS.out.2.1, HS.out.2.2⟩
            case measure => simp [intOf]; omega
          by_cases g3 : (nodeAt vs k).kind = 3
          · have S := valStep (u := .iface 122 (.agg #[.int .i64 (nodeAt vs k).n])) HRW.out HA.out HKE.out hszz hlt0 HBE.out (Or.inr (Or.inr (Or.inl ⟨g3, rfl⟩)))
            have HS := hideIt S
            clear S g2
            go_wp2_with fail
            go_roundw
            case rel => exact ⟨k + 1, _, by omega, by go_num, HS.out.1, HS.out.2.1, HS.out.2.2⟩
            case measure => simp [intOf]; omega
          by_cases g4 : (nodeAt vs k).kind = 4
          · have S := valStep (u := .iface 124 (.agg #[.string (nodeAt vs k).s])) HRW.out HA.out HKE.out hszz hlt0 HBE.out (Or.inr (Or.inr (Or.inr (Or.inl ⟨g4, rfl⟩))))
            have HS := hideIt S
            clear S g2 g3
            go_wp2_with fail
            go_roundw
            case rel => exact ⟨k + 1, _, by omega, by go_num, HS.out.1, HS.out.2.1, HS.out.2.2⟩
            case measure => simp [intOf]; omega
          by_cases g5 : (nodeAt vs k).kind = 5
          · have S := valStep (u := .iface 93 (.agg #[.slice ait (nodeAt vs k).kids.length cpt])) HRW.out HA.out HKE.out hszz hlt0 HBE.out (Or.inr (Or.inr (Or.inr (Or.inr (Or.inl ⟨g5, _, rfl, hIt.out⟩)))))
            have HS := hideIt S
            clear S g2 g3 g4
            go_wp2_with fail
            go_roundw
            case rel => exact ⟨k + 1, _, by omega, by go_num, HS.out.1, HS.out.2.1, HS.out.2.2⟩
            case measure => simp [intOf]; omega
          by_cases g6 : (nodeAt vs k).kind = 6
          · have S := valStep (u := .iface 95 (.agg #[.slice aK (nodeAt vs k).keys.length cK, .slice ait (nodeAt vs k).kids.length cpt])) HRW.out HA.out HKE.out hszz hlt0 HBE.out (Or.inr (Or.inr (Or.inr (Or.inr (Or.inr ⟨g6, _, _, rfl, HKY.out, hIt.out⟩)))))
            have HS := hideIt S
            clear S g2 g3 g4 g5
            go_wp2_with fail
            go_roundw
            case rel => exact ⟨k + 1, _, by omega, by go_num, HS.out.1, HS.out.2.1, HS.out.2.2⟩
            case measure => simp [intOf]; omega
          · have g1 : (nodeAt vs k).kind = 1 := by
              have := HNB.out
              unfold nodeB namedB at this
              by_cases e1 : (nodeAt vs k).kind = 1
              · exact e1
              · simp [e1, g2, g3, g4, g5, g6] at this
            have S := valStep (u := .iface 135 (.agg #[])) HRW.out HA.out HKE.out hszz hlt0 HBE.out (Or.inl ⟨g1, rfl⟩)
            have HS := hideIt S
            clear S g2 g3 g4 g5 g6
            go_wp2_with fail
            go_roundw
            case rel => exact ⟨k + 1, _, by omega, by go_num, HS.out.1, HS.out.2.1, HS.out.2.2⟩
            case measure => simp [intOf]; omega
    · obtain rfl : k = vs.length := by omega
      go_wp2_with fail
      go_ret
      exact ⟨VV, rfl, hrow.congr fun i hi => by simp [fillI, hi], HA.out, hbel⟩
end Go.Proofs.Ytpfnkpkcjefelaa
