/-
  spec.l1Add: the nodes of a value behind those that lie there, their kids shifted.
-/
import Derived.Test.YtgmnihofkpjboaaGreatDoorWnM
import Derived.Test.YtgmnihofkpjboaaGreatDoorKi
namespace Go.Proofs.YtgmnihofkpjboaaGreatDoor
open Go.RowKit
set_option linter.unusedSimpArgs false
set_option linter.unusedVariables false

theorem take_node {vs : List VN} {k : Nat} (h : k < vs.length) : vs.take (k + 1) = vs.take k ++ [nodeAt vs k] := by
  rw [List.take_add_one, List.getElem?_eq_getElem h]
  simp [nodeAt, h]

/-- The first k kids, shifted. -/
def addKs (l : List Int) (d : Int) (k : Nat) : List Int := (l.take k).map (· + d)
theorem addKs_zero (l : List Int) (d : Int) : addKs l d 0 = [] := by simp [addKs]
theorem addKs_len {l : List Int} {d : Int} {k : Nat} (h : k ≤ l.length) : (addKs l d k).length = k := by unfold addKs; rw [List.length_map, List.length_take]; omega
theorem addKs_succ {l : List Int} {d : Int} {k : Nat} (h : k < l.length) : addKs l d (k + 1) = addKs l d k ++ [intAt l k + d] := by
  unfold addKs
  rw [List.take_add_one, List.getElem?_eq_getElem h, List.map_append, intAt_get h]
  simp
theorem addKs_all (l : List Int) (d : Int) : addKs l d l.length = l.map (· + d) := by simp [addKs]

/-- Kids and keys that are few, and near. -/
def Near (x : VN) : Prop := x.keys.length ≤ 100000 ∧ x.kids.length ≤ 100000 ∧ ∀ j, j < x.kids.length → -1000000 ≤ intAt x.kids j ∧ intAt x.kids j ≤ 1000000

theorem news5_of (w : World) (b : Nat) (c0 c1 c2 c3 c4 : Value) (hb : w.heap.size = b) : ∀ j u, [c0, c1, c2, c3, c4][j]? = some u → (w.alloc (.cells #[c0, c1, c2, c3, c4] 37)).cell? ((⟨b, 0, none⟩ : Addr).add j) = some u := by
  subst hb; exact World.news_of_block (cs := #[c0, c1, c2, c3, c4]) (heap_alloc_new w _)

set_option maxRecDepth 100000 in
set_option maxHeartbeats 6400000 in
theorem l1Add_any (B base : Nat) (v u : Value) (ns vs : List VN) (KV IV : Nat → Value) (w : World) (h : Nest base w v ns KV IV) (hu : NodesAt B w u vs) (hB : B ≤ base) (hb : base ≤ w.heap.size) (hn : ns.length + vs.length ≤ 100000) (hnear : ∀ i, i < vs.length → Near (nodeAt vs i)) :
    Calls Tryz.prog 45 #[v, u] w fun e w' => ∃ v' KV' IV', e = .returned v' ∧ Laid base w w' v v' ns (vs.map (shiftN (ns.length : Int))) KV IV KV' IV' := by
  have H := hideIt h
  have HU := hideIt hu
  have HNR := hideIt hnear
  have HV0 := hideIt (fun y hy => (h.row.lt y hy).1)
  obtain ⟨av, cv, rfl⟩ := own_slice h.row
  obtain ⟨hlen, au, cu, rfl, hcu⟩ := hu
  have HCU := hideIt hcu
  clear h hnear hcu
  obtain ⟨i0, hi0, hz0, hs0, hy0⟩ := info_parts infoNode
  obtain ⟨i1, hi1, hz1, hs1, hy1⟩ := info_parts infoStr
  obtain ⟨i2, hi2, hz2, hs2, hy2⟩ := info_parts infoInt
  obtain ⟨D, hD⟩ : ∃ D, ns.length = D := ⟨_, rfl⟩
  have HD := hideIt hD
  rw [hD] at hn ⊢
  clear hD
  go_enter Tryz.func45, Tryz.ntmps45
  go_wp2_with fail
  go_loopw [0, 6] (fun o i wr => ∃ (c : Nat) (KV' IV' : Nat → Value), c ≤ vs.length ∧ i = .int .i64 c ∧ Laid base w wr (.slice av D cv) o ns ((vs.take c).map (shiftN (D : Int))) KV IV KV' IV') (fun _ i _ => vs.length - (intOf i).toNat)
  case atStart => exact ⟨0, KV, IV, Nat.zero_le _, rfl, by have := Laid.refl H.out; rw [HD.out] at this; simpa using this⟩
  case round =>
    obtain ⟨c, KV', IV', hc, rfl, hlaid⟩ := hrel
    have HLD := hideIt hlaid
    have hbl : Below B w wr := hlaid.below (by have := HV0.out; rw [HD.out] at this; exact this) hB hb
    have zs := hbl.size
    obtain ⟨ao, co, eo⟩ := own_slice hlaid.1.row
    obtain ⟨M, hM⟩ : ∃ M, (ns ++ (vs.take c).map (shiftN (D : Int))).length = M := ⟨_, rfl⟩
    have HMM := hideIt hM
    have HM1 : Hid (M = D + c) := by rw [Hid]; rw [← hM, List.length_append, HD.out, List.length_map, List.length_take]; omega
    rw [hM] at eo
    subst eo
    clear hlaid hM
    by_cases hlt : c < vs.length
    · have hM2 : M + 1 ≤ 100000 := by have := HM1.out; omega
      obtain ⟨b0, o0, rfl, hb0, hcell⟩ := HCU.out (by omega)
      obtain ⟨ka, ki, hn1⟩ := hcell c hlt
      have hn2 := hn1.below hbl hb0
      have c0 := hn2.c0
      have c1 := hn2.c1
      have c2 := hn2.c2
      have c3 := hn2.c3
      have c4 := hn2.c4
      obtain ⟨_, _, aK, cK, eK, hkk⟩ := hn2.inn.keys
      obtain ⟨_, hkb, aI, cI, eI, hki⟩ := hn2.inn.kids
      subst eK eI
      have HKK := hideIt hkk
      have HKI := hideIt hki
      have near := HNR.out c hlt
      have HNE := hideIt near.2.2
      have hk1 := near.1
      have hk2 := near.2.1
      clear hn1 hn2 hkk hki hcell near
      obtain ⟨nK, hnK⟩ : ∃ nK, (nodeAt vs c).keys.length = nK := ⟨_, rfl⟩
      obtain ⟨nI, hnI⟩ : ∃ nI, (nodeAt vs c).kids.length = nI := ⟨_, rfl⟩
      have HNK := hideIt hnK
      have HNI := hideIt hnI
      rw [hnK] at c3 hk1
      rw [hnI] at c4 hk2
      clear hnK hnI
      obtain ⟨W1, hW1⟩ : ∃ W1, wr.alloc (.cells #[.int .i64 (nodeAt vs c).kind, .int .i64 (nodeAt vs c).n, .string (nodeAt vs c).s, .slice aK nK cK, .slice aI nI cI] 37) = W1 := ⟨_, rfl⟩
      have hm0 := Mid.start (c0 := .int .i64 (nodeAt vs c).kind) (c1 := .int .i64 (nodeAt vs c).n) (c2 := .string (nodeAt vs c).s) (c3 := .slice aK nK cK) (c4 := .slice aI nI cI) HLD.out.1 (by omega) (Below.refl _ wr) (Below.refl _ _)
      rw [hW1] at hm0
      have HM0 := hideIt hm0
      have z1 : W1.heap.size = wr.heap.size + 1 := by rw [← hW1]; simp
      have HBW : Hid (Below wr.heap.size wr W1) := by rw [Hid, ← hW1]; exact (Below.refl _ _).alloc (Nat.le_refl _) _
      have HSRC : Hid (0 < nK → ∃ ad, aK = some ad ∧ ∀ j u, ((nodeAt vs c).keys.map Value.string)[j]? = some u → (W1.alloc (.cells #[] 9)).cell? (ad.add j) = some u) := by
        intro hp
        obtain ⟨bk, ok, rfl, hbk, hck⟩ := HKK.out (by rw [HNK.out]; exact hp)
        refine ⟨_, rfl, fun j u hj => ?_⟩
        have hj' : j < (nodeAt vs c).keys.length := by have := (List.getElem?_eq_some_iff.1 hj).1; simpa using this
        rw [show (⟨bk, ok, none⟩ : Addr).add j = ⟨bk, ok + j, none⟩ by simp [Addr.add], below_cell ((Below.refl _ W1).alloc (Nat.le_refl _) _) (by omega), below_cell HBW.out (by omega), hck j hj']
        simp [hj', keyAt] at hj ⊢
        exact hj
      have HOWN : Hid ((W1.alloc (.cells #[] 9)).ownsRow wr.heap.size 9 1 (.slice (some ⟨wr.heap.size + 1, 0, none⟩) 0 0) 0 []) := by
        have := World.ownsRow_lit (base := wr.heap.size) (e := 9) (size := 1) W1 #[] 0 (by omega) (by simp [maxLen]) rfl
        rw [z1] at this
        exact this
      have y3 : W1.cell? ⟨wr.heap.size, 3, none⟩ = some (.slice aK nK cK) := HM0.out.node.cellAt 3 (by omega)
      go_wp2_with (at_builtin; refine wpList_append_src rfl _ _ 32 rfl wr.heap.size 9 i1 (.string ByteArray.empty) 1 16 Tryz.underlying32 hi1 hz1 hs1 hy1 rfl (by decide) _ 0 [] rfl HOWN.out aK nK cK ((nodeAt vs c).keys.map .string) rfl (by simp [HNK.out]) HSRC.out ?c2 ?c3 ?c4 ?c5 ?_)
      case c2 => intro u hu; first | rfl | (obtain ⟨q, _, rfl⟩ := List.mem_map.1 hu; rfl)
      case c3 => unfold maxLen; omega
      case c4 => omega
      case c5 => first | omega | (simp; omega)
      intro vk w5 hk2 hg2 hat2
      (try simp only [Nat.zero_add, List.nil_append] at hk2)
      have hgg : W1.grownBy w5 none := (World.grownBy_alloc W1 _ none).andThen hg2 (fun j hj => Or.inl (by simp [Value.ownBlock] at hj; omega))
      have hm5 := HM0.out.grow hgg
      have HFK : Hid (∀ j, j < (ns ++ (vs.take c).map (shiftN (D : Int))).length + ([] : List VN).length → ∀ y, vk.ownBlock = some y → (KV' j).ownBlock ≠ some y) := by
        intro j hj y hy e
        have h1 := ((HLD.out.1.rk j (by simpa using hj)).lt y e).2
        have h2 := (hk2.lt y hy).1
        omega
      have hkr := hk2.kept (hm5.node.stored 3 vk).2 (own_apart hk2 hm5.node (by decide))
      obtain ⟨ak, ck, hvk⟩ := own_slice hk2
      subst hvk
      have hm7 := (hm5.put 3 (.slice ak nK ck)).kid0
      have hkr7 := hkr.alloc (.cells #[] 2)
      have x3 : w5.cell? ⟨wr.heap.size, 3, none⟩ = some (.slice aK nK cK) := hm5.node.cellAt 3 (by omega)
      have f3 : w5.frozen? ⟨wr.heap.size, 3, none⟩ = false := hm5.node.frozenAt 3
      have e5 : (w5.setCell ⟨wr.heap.size, 3, none⟩ (.slice ak nK ck)).heap.size = w5.heap.size := by simp
      rw [e5] at hm7
      have HM7 := hideIt hm7
      have HKR7 := hideIt hkr7
      clear hm7 hkr7 hkr hm5 hgg hk2 hg2 hat2 y3 e5 c0 c1 c2 c3 c4
      go_wp2_with fail
      generalize ((w5.setCell ⟨wr.heap.size, 3, none⟩ (.slice ak nK ck)).alloc (.cells #[] 2)) = W7 at *
      clear x3 f3 HSRC HOWN HM0 HBW z1 hW1 hm0
      obtain ⟨W0, rfl⟩ : ∃ W0, W0 = wr := ⟨_, rfl⟩
      go_loopw [8, 9] (fun it i wr => ∃ k : Nat, k ≤ nI ∧ i = .int .i64 k ∧ Mid base W0 wr W0.heap.size (.slice ao M co) (.slice ao M co) it (ns ++ (vs.take c).map (shiftN (D : Int))) [] (addKs (nodeAt vs c).kids (D : Int) k) [.int .i64 (nodeAt vs c).kind, .int .i64 (nodeAt vs c).n, .string (nodeAt vs c).s, .slice ak nK ck, .slice aI nI cI] KV' IV' KV' IV' ∧ wr.ownsRow W0.heap.size 9 1 (.slice ak nK ck) nK ((nodeAt vs c).keys.map .string)) (fun _ i _ => nI - (intOf i).toNat)
      case atStart => exact ⟨0, Nat.zero_le _, rfl, by rw [addKs_zero]; exact HM7.out, HKR7.out⟩
      case round =>
        obtain ⟨k, hk, rfl, hm, hkr⟩ := hrel
        have HM := hideIt hm
        have HKR := hideIt hkr
        have hfs := hm.frame.size
        have hlen2 : (addKs (nodeAt vs c).kids (D : Int) k).length = k := addKs_len (by rw [HNI.out]; exact hk)
        obtain ⟨ai, ci, ei⟩ := own_slice hm.kids
        rw [hlen2] at ei
        subst ei
        have HLK := hideIt hlen2
        have y4 : wr.cell? ⟨W0.heap.size, 4, none⟩ = some (.slice aI nI cI) := HM.out.node.cellAt 4 (by omega)
        clear hm hkr hlen2
        by_cases hkk : k < nI
        · obtain ⟨bk, ok, rfl, hbk, hck⟩ := HKI.out (by rw [HNI.out]; omega)
          obtain ⟨Q, hQ⟩ : ∃ Q, intAt (nodeAt vs c).kids k = Q := ⟨_, rfl⟩
          have hcq : wr.cell? ⟨bk, ok + k, none⟩ = some (.int .i64 Q) := by rw [← hQ]; exact (below_cell (HM.out.keepL hB) hbk).trans (hck k (by rw [HNI.out]; exact hkk))
          have hQb := HNE.out k (by rw [HNI.out]; exact hkk)
          rw [hQ] at hQb
          obtain ⟨hQ1, hQ2⟩ := hQb
          have HTK : Hid (addKs (nodeAt vs c).kids (D : Int) (k + 1) = addKs (nodeAt vs c).kids (D : Int) k ++ [Q + (D : Int)]) := by rw [Hid, addKs_succ (by rw [HNI.out]; exact hkk), hQ]
          have HKD := hideIt HM.out.kids
          clear hQ hck
          go_wp2_with (at_builtin; refine wpList_append_own_at _ rfl _ _ 33 rfl W0.heap.size 2 i2 (.int .i64 0) 1 8 Tryz.underlying33 hi2 hz2 hs2 hy2 rfl (by decide) _ _ _ rfl (HKD.out.alloc _) ⟨wr.heap.size, 0, none⟩ 1 1 [.int .i64 (Q + (D : Int))] rfl rfl ?c1 ?c2 ?c3 ?c4 ?c5 ?_)
          case c1 => exact cell_one_new _ _ _
          case c2 => first | rfl | (intro u hu; simp at hu; subst hu; rfl)
          case c3 => first | omega | (rw [HLK.out]; unfold maxLen; omega)
          case c4 => first | omega | (rw [HLK.out]; omega)
          case c5 => first | omega | (simp; omega)
          intro kv' w9 hown hgrow _ hat
          have HM9 := hideIt (HM.out.kid1 hown hgrow (by simpa using hat))
          have HKR9 := hideIt (HKR.out.kept ((World.grownBy_alloc wr _ _).trans hgrow) (own_apart HKR.out HKD.out (by decide)))
          clear hown hgrow hat
          go_wp2_with fail
          go_roundw
          case rel => exact ⟨k + 1, by omega, by go_num, by rw [HTK.out]; exact HM9.out, HKR9.out⟩
          case measure => simp [intOf]; omega
        · obtain rfl : k = nI := by omega
          have HMP := hideIt (HM.out.put 4 (.slice ai k ci))
          have f4 : wr.frozen? ⟨W0.heap.size, 4, none⟩ = false := HM.out.node.frozenAt 4
          have HKRP := hideIt (HKR.out.kept (HM.out.node.stored 4 (.slice ai k ci)).2 (own_apart HKR.out HM.out.node (by decide)))
          have X0 : (wr.setCell ⟨W0.heap.size, 4, none⟩ (.slice ai k ci)).cell? ⟨W0.heap.size, 0, none⟩ = some (.int .i64 (nodeAt vs c).kind) := HMP.out.node.cellAt 0 (by omega)
          have X1 : (wr.setCell ⟨W0.heap.size, 4, none⟩ (.slice ai k ci)).cell? ⟨W0.heap.size, 1, none⟩ = some (.int .i64 (nodeAt vs c).n) := HMP.out.node.cellAt 1 (by omega)
          have X2 : (wr.setCell ⟨W0.heap.size, 4, none⟩ (.slice ai k ci)).cell? ⟨W0.heap.size, 2, none⟩ = some (.string (nodeAt vs c).s) := HMP.out.node.cellAt 2 (by omega)
          have X3 : (wr.setCell ⟨W0.heap.size, 4, none⟩ (.slice ai k ci)).cell? ⟨W0.heap.size, 3, none⟩ = some (.slice ak nK ck) := HMP.out.node.cellAt 3 (by omega)
          have X4 : (wr.setCell ⟨W0.heap.size, 4, none⟩ (.slice ai k ci)).cell? ⟨W0.heap.size, 4, none⟩ = some (.slice ai k ci) := HMP.out.node.cellAt 4 (by omega)
          have HN := hideIt (HMP.out.nest.row.alloc (.cells #[.int .i64 (nodeAt vs c).kind, .int .i64 (nodeAt vs c).n, .string (nodeAt vs c).s, .slice ak nK ck, .slice ai k ci] 37))
          rw [List.append_nil, HMM.out] at HN
          go_wp2_with (at_builtin; refine wpList_append_own_at _ rfl _ _ 24 rfl base 37 i0 zeroNode 5 80 Tryz.underlying24 hi0 hz0 hs0 hy0 rfl (by decide) _ _ _ rfl HN.out ⟨wr.heap.size, 0, none⟩ 1 1 [.int .i64 (nodeAt vs c).kind, .int .i64 (nodeAt vs c).n, .string (nodeAt vs c).s, .slice ak nK ck, .slice ai k ci] rfl rfl ?c1 ?c2 ?c3 ?c4 ?c5 ?_)
          case c1 => exact news5_of _ _ _ _ _ _ _ (by simp)
          case c2 => intro u hu; simp at hu; rcases hu with rfl | rfl | rfl | rfl | rfl <;> rfl
          case c3 => unfold maxLen; omega
          case c4 => omega
          case c5 => simp; omega
          intro v' w6 hown hgrow _ hat
          have hfin := Mid.fin (x := shiftN (D : Int) (nodeAt vs c)) HMP.out (by show (nodeAt vs c).kids.map (· + (D : Int)) = _; rw [← HNI.out, addKs_all]) (by show World.ownsRow _ _ _ _ _ (nodeAt vs c).keys.length _; rw [HNK.out]; exact HKRP.out) HFK.out (by rw [List.append_nil, HMM.out, List.map_take]; exact hown) hgrow (by simpa using hat)
          have HL := hideIt (HLD.out.trans hfin)
          have HTN : Hid ((vs.take (c + 1)).map (shiftN (D : Int)) = (vs.take c).map (shiftN (D : Int)) ++ [shiftN (D : Int) (nodeAt vs c)]) := by rw [Hid, take_node hlt, List.map_append]; rfl
          clear hown hgrow hat hfin
          go_wp2_with fail
          go_roundw
          case rel => exact ⟨c + 1, _, _, by omega, by go_num, by rw [HTN.out]; exact HL.out⟩
          case measure => simp [intOf]; omega
    · obtain rfl : c = vs.length := by omega
      go_wp2_with fail
      go_ret
      exact ⟨_, _, _, rfl, by have := HLD.out; rwa [List.take_length] at this⟩
end Go.Proofs.YtgmnihofkpjboaaGreatDoor
